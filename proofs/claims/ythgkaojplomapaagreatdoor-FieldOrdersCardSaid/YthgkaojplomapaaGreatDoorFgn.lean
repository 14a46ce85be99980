/-
  Proved: plain facts on the places of cards: their ranks as counts, by names, and behind another order of the cards. No condition beside those named.
-/
import Derived.Test.YthgkaojplomapaaGreatDoorFgk
import Derived.Test.YthgkaojplomapaaGreatDoorFgl
import Derived.Test.YthgkaojplomapaaGreatDoorFva
set_option linter.unusedVariables false
set_option linter.unusedSimpArgs false
open Go Go.Proofs Go.RowKit
set_option maxRecDepth 100000
namespace Go.Mk
theorem leS_anti : ∀ {L M : List Int}, leS L M → leS M L → L = M
 | [], [], _, _ => rfl
 | [], _ :: _, _, h => h.elim
 | _ :: _, [], h, _ => h.elim
 | a :: l, b :: m, h, k => by
  rcases h with h | ⟨rfl, h⟩
  ·rcases k with k | ⟨rfl, _⟩
   ·omega
   ·omega
  ·rcases k with k | ⟨_, k⟩
   ·omega
   ·rw [leS_anti h k]
theorem cmpL_zero : ∀ (L M : List Int), cmpL L M = 0 ↔ L = M
 | [], [] => by simp [cmpL]
 | [], _ :: _ => by simp [cmpL]
 | _ :: _, [] => by simp [cmpL]
 | a :: l, b :: m => by
  have ih := cmpL_zero l m
  rw [cmpL]
  unfold cmpZ
  by_cases h1 : a < b
  ·simp [h1]; omega
  ·by_cases h2 : b < a
   ·simp [h1, h2]; omega
   ·have h3 : a = b := by omega
    subst h3
    simp [ih]
def betC (b : List Int) (x r : CardR) : Bool := decide (0 < cmpL (talR x).l (talR r).l) || (decide (cmpL (talR x).l (talR r).l = 0) && ((decide (0 < (talR x).a) && decide ((talR x).l = b)) && decide (0 < cmpOff (bls x.O) (bls r.O) x.rt r.rt)))
def rkC (L : List CardR) (r : CardR) : Nat := if 0 < (talR r).a then 1 + L.countP (fun x => betC (bestT L).l x r) else 0
theorem stB_bet {L : List CardR} {i j : Nat} {x r : CardR} (t : Tal) (hj : L[j]? = some x) (hi : L[i]? = some r) : stB L t j i = betC t.l x r := by
 unfold stB betC fstB
 rw [talA_at hj, talA_at hi, show offP L j i = cmpOff (bls x.O) (bls r.O) x.rt r.rt by unfold offP; rw [hj, hi]]
theorem cnt_bet {L : List CardR} {i : Nat} {r : CardR} (t : Tal) (hi : L[i]? = some r) : ∀ m, m ≤ L.length → cntB (stB L t) i m = (L.take m).countP fun x => betC t.l x r
 | 0, _ => rfl
 | m + 1, h => by
  have hm : L[m]? = some L[m] := List.getElem?_eq_getElem (by omega)
  rw [cntB, cnt_bet t hi m (by omega), List.take_add_one, hm, Option.toList_some, List.countP_append, List.countP_singleton, stB_bet t hm hi]
theorem rkC_eq {L : List CardR} {i : Nat} {r : CardR} (hi : L[i]? = some r) : rkB (stR L) (stB L (bestT L)) L.length i = rkC L r := by
 unfold rkB rkC stR
 rw [cnt_bet _ hi L.length (Nat.le_refl _), List.take_length, talA_at hi]
 by_cases h : 0 < (talR r).a
 ·simp [h]
 ·simp [h]
theorem maxT_max : ∀ (L : List Tal) (m : Tal), leS m.l (maxT m L).l ∧ (∀ x ∈ L, leS x.l (maxT m L).l) ∧ (maxT m L = m ∨ maxT m L ∈ L)
 | [], m => ⟨leS_refl _, (fun x h => by cases h), .inl rfl⟩
 | x :: L, m => by
  have e : maxT m (x :: L) = maxT (if 0 < cmpL x.l m.l then x else m) L := rfl
  rw [e]
  by_cases h : 0 < cmpL x.l m.l
  ·rw [if_pos h]
   obtain ⟨h1, h2, h3⟩ := maxT_max L x
   have hxm : leS m.l x.l := by
    rcases leS_total m.l x.l with q | q
    ·exact q
    ·exact absurd q ((cmpL_pos _ _).1 h)
   refine ⟨leS_trans hxm h1, fun y hy => ?_, ?_⟩
   ·rcases List.mem_cons.1 hy with rfl | hy
    ·exact h1
    ·exact h2 y hy
   ·rcases h3 with h3 | h3
    ·exact .inr (by rw [h3]; exact List.mem_cons_self)
    ·exact .inr (List.mem_cons_of_mem _ h3)
  ·rw [if_neg h]
   obtain ⟨h1, h2, h3⟩ := maxT_max L m
   have hxm : leS x.l m.l := Classical.byContradiction fun q => h ((cmpL_pos _ _).2 q)
   refine ⟨h1, fun y hy => ?_, ?_⟩
   ·rcases List.mem_cons.1 hy with rfl | hy
    ·exact leS_trans hxm h1
    ·exact h2 y hy
   ·rcases h3 with h3 | h3
    ·exact .inl h3
    ·exact .inr (List.mem_cons_of_mem _ h3)
theorem bestT_max {L : List CardR} (h0 : L ≠ []) : (∀ x ∈ L, leS (talR x).l (bestT L).l) ∧ ∃ x ∈ L, (talR x).l = (bestT L).l := by
 unfold bestT
 cases L with
 | nil => exact absurd rfl h0
 | cons a L =>
  rw [List.map_cons]
  obtain ⟨h1, h2, h3⟩ := maxT_max (L.map talR) (talR a)
  refine ⟨fun x hx => ?_, ?_⟩
  ·rcases List.mem_cons.1 hx with rfl | hx
   ·exact h1
   ·exact h2 _ (List.mem_map_of_mem hx)
  ·rcases h3 with h3 | h3
   ·exact ⟨a, List.mem_cons_self, by dsimp only; rw [h3]⟩
   ·obtain ⟨x, hx, e⟩ := List.mem_map.1 h3
    exact ⟨x, List.mem_cons_of_mem _ hx, by dsimp only; rw [e]⟩
theorem bestT_same {L M : List CardR} (h0 : L ≠ []) (hm : M ≠ []) (h1 : ∀ x ∈ L, ∃ y ∈ M, (talR x).l = (talR y).l) (h2 : ∀ y ∈ M, ∃ x ∈ L, (talR x).l = (talR y).l) : (bestT L).l = (bestT M).l := by
 obtain ⟨a1, x, hx, ex⟩ := bestT_max h0
 obtain ⟨b1, y, hy, ey⟩ := bestT_max hm
 apply leS_anti
 ·obtain ⟨z, hz, e⟩ := h1 x hx
  rw [← ex, e]; exact b1 z hz
 ·obtain ⟨z, hz, e⟩ := h2 y hy
  rw [← ey, ← e]; exact a1 z hz
theorem rkC_perm {L M : List CardR} (h : L.Perm M) (r : CardR) : rkC L r = rkC M r := by
 by_cases h0 : L = []
 ·subst h0
  rw [List.nil_perm.1 h]
 ·have hm : M ≠ [] := fun e => by subst e; exact h0 (List.perm_nil.1 h)
  unfold rkC
  rw [bestT_same h0 hm (fun x hx => ⟨x, h.mem_iff.1 hx, rfl⟩) (fun y hy => ⟨y, h.mem_iff.2 hy, rfl⟩), h.countP_eq]
theorem betC_self (b : List Int) (r : CardR) : betC b r r = false := by
 unfold betC
 rw [cmpL_self]
 simp [cmpOff, offC_self]
theorem bet_le {b : List Int} {x r : CardR} (h : betC b x r = true) : leS (talR r).l (talR x).l := by
 unfold betC at h
 rw [Bool.or_eq_true, Bool.and_eq_true] at h
 rcases h with h | ⟨h, _⟩
 ·have := (cmpL_pos _ _).1 (of_decide_eq_true h)
  rcases leS_total (talR r).l (talR x).l with q | q
  ·exact q
  ·exact absurd q this
 ·rw [(cmpL_zero _ _).1 (of_decide_eq_true h)]; exact leS_refl _
theorem bet_lt {b : List Int} {x r : CardR} (h : ¬ leS (talR x).l (talR r).l) : betC b x r = true := by
 unfold betC
 rw [decide_eq_true ((cmpL_pos _ _).2 h)]; rfl
theorem countP_lt' {α : Type} (p q : α → Bool) : ∀ {L : List α}, (∀ x ∈ L, p x = true → q x = true) → (∃ x ∈ L, q x = true ∧ p x = false) → L.countP p + 1 ≤ L.countP q
 | [], _, ⟨x, hx, _⟩ => by cases hx
 | y :: L, h, ⟨x, hx, hq, hp⟩ => by
  rw [List.countP_cons, List.countP_cons]
  rcases List.mem_cons.1 hx with rfl | hx
  ·have := countP_le' p q (L := L) (fun z hz => h z (List.mem_cons_of_mem _ hz))
   rw [hq, hp]
   simp
   omega
  ·have ih := countP_lt' p q (L := L) (fun z hz => h z (List.mem_cons_of_mem _ hz)) ⟨x, hx, hq, hp⟩
   have h1 := h y List.mem_cons_self
   cases hy : p y with
   | false => simp; omega
   | true => rw [h1 hy]; simp; omega
theorem rkC_lt {L : List CardR} {x y : CardR} (hx : x ∈ L) (hxa : 0 < (talR x).a) (hya : 0 < (talR y).a) (h : ¬ leS (talR x).l (talR y).l) : rkC L x < rkC L y := by
 unfold rkC
 rw [if_pos hxa, if_pos hya]
 have := countP_lt' (fun u => betC (bestT L).l u x) (fun u => betC (bestT L).l u y) (L := L) (fun u _ hu => by
  refine bet_lt fun q => h ?_
  exact leS_trans (bet_le hu) q) ⟨x, hx, bet_lt h, betC_self _ _⟩
 omega
def plainC (r : CardR) : CardR := { r with AO := none, no := 0, co := 0, O := [], rt := false }
theorem tal_plain (r : CardR) : talR (plainC r) = talR r := rfl
theorem bet_plain (b : List Int) (x r : CardR) : betC b (plainC x) (plainC r) = decide (0 < cmpL (talR x).l (talR r).l) := by
 unfold betC
 rw [tal_plain, tal_plain]
 show (decide (0 < cmpL (talR x).l (talR r).l) || (decide (cmpL (talR x).l (talR r).l = 0) && ((decide (0 < (talR x).a) && decide ((talR x).l = b)) && decide (0 < cmpOff (bls []) (bls []) false false)))) = _
 simp [cmpOff, bls, offC]
theorem rkC_plain {L : List CardR} {r : CardR} (hr : r ∈ L) (h : 1 < rkC (L.map plainC) (plainC r)) : rkC L r = rkC (L.map plainC) (plainC r) := by
 unfold rkC at h ⊢
 rw [tal_plain] at h ⊢
 by_cases ha : 0 < (talR r).a
 ·rw [if_pos ha] at h ⊢
  rw [if_pos ha]
  rw [List.countP_map] at h ⊢
  have e : (fun x => betC (bestT (L.map plainC)).l x (plainC r)) ∘ plainC = fun x => decide (0 < cmpL (talR x).l (talR r).l) := by
   funext x
   exact bet_plain _ x r
  rw [e] at h ⊢
  have hpos : 0 < L.countP fun x => decide (0 < cmpL (talR x).l (talR r).l) := by omega
  obtain ⟨z, hz, hzr⟩ := List.countP_pos_iff.1 hpos
  have hzr' := (cmpL_pos _ _).1 (of_decide_eq_true hzr)
  have hL : L ≠ [] := fun q => by subst q; cases hr
  have hmax := (bestT_max hL).1 z hz
  congr 1
  apply List.countP_congr
  intro x hx
  unfold betC
  by_cases h1 : 0 < cmpL (talR x).l (talR r).l
  ·simp [h1]
  ·by_cases h2 : cmpL (talR x).l (talR r).l = 0
   ·have h3 : ¬ (talR x).l = (bestT L).l := fun q => hzr' (by rw [← (cmpL_zero _ _).1 h2, q]; exact hmax)
    simp [h1, h2, h3]
   ·simp [h1, h2]
 ·rw [if_neg ha] at h; omega
theorem rkC_worse {L : List CardR} {k : Nat} {r r' : CardR} (hk : L[k]? = some r) (ha : 0 < (talR r).a) (ha' : 0 < (talR r').a) (h : ¬ leS (talR r).l (talR r').l) : rkC L r ≤ rkC (L.set k r') r' := by
 obtain ⟨hl, e⟩ := List.getElem?_eq_some_iff.1 hk
 have e1 : L = L.take k ++ r :: L.drop (k + 1) := by rw [← e, ← List.drop_eq_getElem_cons hl, List.take_append_drop]
 unfold rkC
 rw [if_pos ha, if_pos ha']
 generalize (bestT (L.set k r')).l = b'
 generalize (bestT L).l = b
 rw [List.set_eq_take_append_cons_drop, if_pos hl]
 have e2 := congrArg (List.countP fun x => betC b x r) e1
 rw [e2, List.countP_append, List.countP_append, List.countP_cons, List.countP_cons, betC_self, betC_self]
 have hi : ∀ u : CardR, betC b u r = true → betC b' u r' = true := fun u hu => bet_lt fun q => h (leS_trans (bet_le hu) q)
 have h1 := countP_le' (fun u => betC b u r) (fun u => betC b' u r') (L := L.take k) (fun u _ => hi u)
 have h2 := countP_le' (fun u => betC b u r) (fun u => betC b' u r') (L := L.drop (k + 1)) (fun u _ => hi u)
 simp only [Bool.false_eq_true, if_false]
 omega
theorem nmsE_iff : ∀ (P : List ByteArray) (L : List ByteArray), nmsE P L = 0 ↔ (∀ s ∈ L, nmE s = 0 ∧ s ∉ P) ∧ L.Nodup
 | P, [] => by simp [nmsE]
 | P, s :: L => by
  have ih := nmsE_iff (P ++ [s]) L
  have h0 : twE P s = 0 ↔ nmE s = 0 ∧ s ∉ P := by
   unfold twE
   by_cases h1 : nmE s = 0
   ·by_cases h2 : s ∈ P
    ·have hi : isIn P s = true := isIn_mem.2 h2
     simp [fstN, h1, h2, hi]
    ·have hi : isIn P s = false := by
      cases q : isIn P s with
      | false => rfl
      | true => exact absurd (isIn_mem.1 q) h2
     simp [fstN, h1, h2, hi]
   ·simp [fstN, h1]
  rw [nmsE]
  by_cases hq : twE P s = 0
  ·rw [if_pos hq, ih, List.nodup_cons]
   have h1 := h0.1 hq
   constructor
   ·rintro ⟨h2, h3⟩
    refine ⟨fun q hm => ?_, fun hm => (h2 s hm).2 (List.mem_append_right _ (List.mem_singleton.2 rfl)), h3⟩
    rcases List.mem_cons.1 hm with rfl | hm
    ·exact h1
    ·exact ⟨(h2 q hm).1, fun hp => (h2 q hm).2 (List.mem_append_left _ hp)⟩
   ·rintro ⟨h2, h3, h4⟩
    refine ⟨fun q hm => ⟨(h2 q (List.mem_cons_of_mem _ hm)).1, fun hp => ?_⟩, h4⟩
    rcases List.mem_append.1 hp with hp | hp
    ·exact (h2 q (List.mem_cons_of_mem _ hm)).2 hp
    ·exact h3 (by rw [← List.mem_singleton.1 hp]; exact hm)
  ·rw [if_neg hq]
   constructor
   ·intro h; exact absurd h hq
   ·rintro ⟨h2, _⟩
    exact absurd (h0.2 (h2 s List.mem_cons_self)) hq
theorem athE_iff (N : List ByteArray) : athE N = 0 ↔ 0 < N.length ∧ N.length ≤ 32 ∧ (∀ s ∈ N, nmE s = 0) ∧ N.Nodup := by
 unfold athE
 by_cases h0 : N.length = 0
 ·simp [fstN, h0]
 ·by_cases h1 : 32 < N.length
  ·simp [fstN, h0, h1]; omega
  ·have e : fstN [if N.length = 0 then (12 : Int) else 0, if 32 < N.length then 5 else nmsE [] N] = nmsE [] N := by
    rw [if_neg h0, if_neg h1]
    by_cases q : nmsE [] N = 0
    ·simp [fstN, q]
    ·simp [fstN, q]
   rw [e, nmsE_iff]
   constructor
   ·rintro ⟨a, b⟩
    exact ⟨by omega, by omega, fun s hs => (a s hs).1, b⟩
   ·rintro ⟨_, _, a, b⟩
    exact ⟨fun s hs => ⟨a s hs, by simp⟩, b⟩
end Go.Mk
