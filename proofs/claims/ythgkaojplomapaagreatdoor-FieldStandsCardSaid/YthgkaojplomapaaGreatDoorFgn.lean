/-
  Proved: plain facts on the places of cards: their ranks as counts, by names, and behind another order of the
-/
import Derived.Test.YthgkaojplomapaaGreatDoorFgk
import Derived.Test.YthgkaojplomapaaGreatDoorFgl
import Derived.Test.YthgkaojplomapaaGreatDoorFva
set_option maxHeartbeats 32000000
set_option linter.unusedVariables false
set_option linter.unusedSimpArgs false
open Go Go.Proofs Go.RowKit
set_option maxRecDepth 100000
namespace Go.Mk
theorem leS_anti : ∀ {L M : List Int}, leS L M → leS M L → L = M
 | [], [], _, _ => rfl
 | [], _ :: _, _, h => h.elim
 | _ :: _, [], h, _ => h.elim
 | a :: l, b :: m, h, k => by
  rcases h with h | ⟨rfl, h⟩
  ·rcases k with k | ⟨rfl, _⟩
   ·omega
   ·omega
  ·rcases k with k | ⟨_, k⟩
   ·omega
   ·rw [leS_anti h k]
theorem cmpL_zero : ∀ (L M : List Int), cmpL L M = 0 ↔ L = M
 | [], [] => by simp [cmpL]
 | [], _ :: _ => by simp [cmpL]
 | _ :: _, [] => by simp [cmpL]
 | a :: l, b :: m => by
  have ih := cmpL_zero l m
  rw [cmpL]
  unfold cmpZ
  by_cases h1 : a < b
  ·simp [h1]; omega
  ·by_cases h2 : b < a
   ·simp [h1, h2]; omega
   ·have h3 : a = b := by omega
    subst h3
    simp [ih]
theorem maxT_max : ∀ (L : List Tal) (m : Tal), leS m.l (maxT m L).l ∧ (∀ x ∈ L, leS x.l (maxT m L).l) ∧ (maxT m L = m ∨ maxT m L ∈ L)
 | [], m => ⟨leS_refl _, (fun x h => by cases h), .inl rfl⟩
 | x :: L, m => by
  have e : maxT m (x :: L) = maxT (if 0 < cmpL x.l m.l then x else m) L := rfl
  rw [e]
  by_cases h : 0 < cmpL x.l m.l
  ·rw [if_pos h]
   obtain ⟨h1, h2, h3⟩ := maxT_max L x
   have hxm : leS m.l x.l := by
    rcases leS_total m.l x.l with q | q
    ·exact q
    ·exact absurd q ((cmpL_pos _ _).1 h)
   refine ⟨leS_trans hxm h1, fun y hy => ?_, ?_⟩
   ·rcases List.mem_cons.1 hy with rfl | hy
    ·exact h1
    ·exact h2 y hy
   ·rcases h3 with h3 | h3
    ·exact .inr (by rw [h3]; exact List.mem_cons_self)
    ·exact .inr (List.mem_cons_of_mem _ h3)
  ·rw [if_neg h]
   obtain ⟨h1, h2, h3⟩ := maxT_max L m
   have hxm : leS x.l m.l := Classical.byContradiction fun q => h ((cmpL_pos _ _).2 q)
   refine ⟨h1, fun y hy => ?_, ?_⟩
   ·rcases List.mem_cons.1 hy with rfl | hy
    ·exact leS_trans hxm h1
    ·exact h2 y hy
   ·rcases h3 with h3 | h3
    ·exact .inl h3
    ·exact .inr (List.mem_cons_of_mem _ h3)
theorem bestT_max {L : List CardR} (h0 : L ≠ []) : (∀ x ∈ L, leS (talR x).l (bestT L).l) ∧ ∃ x ∈ L, (talR x).l = (bestT L).l := by
 unfold bestT
 cases L with
 | nil => exact absurd rfl h0
 | cons a L =>
  rw [List.map_cons]
  obtain ⟨h1, h2, h3⟩ := maxT_max (L.map talR) (talR a)
  refine ⟨fun x hx => ?_, ?_⟩
  ·rcases List.mem_cons.1 hx with rfl | hx
   ·exact h1
   ·exact h2 _ (List.mem_map_of_mem hx)
  ·rcases h3 with h3 | h3
   ·exact ⟨a, List.mem_cons_self, by dsimp only; rw [h3]⟩
   ·obtain ⟨x, hx, e⟩ := List.mem_map.1 h3
    exact ⟨x, List.mem_cons_of_mem _ hx, by dsimp only; rw [e]⟩
end Go.Mk
