/-
  Proved: Ranking of package field: the first error of the rows, or their places in the order of their ranks,
  Proved: Results of package field: the first error of the rows, or the athletes and marks of their places in
  Proved: the reference's Series returns a row's marks that are not below 0, in descending order, in new
  Proved: the reference's greater and RowRanks: the ranks of rows, as rowRanks has
-/
import Derived.Test.YthgkaojplomapaaGreatDoorFra
set_option maxHeartbeats 32000000
set_option linter.unusedVariables false
set_option linter.unusedSimpArgs false
open Go Go.Proofs Go.RowKit
set_option maxRecDepth 100000
section
namespace Go.Mk
theorem rkB_le (R : Nat → Bool) (b : Nat → Nat → Bool) (n i : Nat) (hi : i < n) (hb : b i i = false) : rkB R b n i ≤ n := by
 unfold rkB
 split
 ·have : ∀ m, m ≤ n → (cntB b i m ≤ m ∧ (i < m → cntB b i m + 1 ≤ m)) := by
   intro m
   induction m with
   | zero => intro _; exact ⟨Nat.le_refl _, fun h => by omega⟩
   | succ m ih =>
    intro hm
    obtain ⟨h1, h2⟩ := ih (by omega)
    rw [cntB]
    by_cases e : m = i
    ·subst e
     rw [hb]
     simp
     omega
    ·refine ⟨by split <;> omega, fun h => ?_⟩
     have := h2 (by omega)
     split <;> omega
  have := (this n (Nat.le_refl _)).2 hi
  omega
 ·omega
theorem cmpL_self : ∀ l : List Int, cmpL l l = 0
 | [] => rfl
 | a :: l => by rw [cmpL, cmpL_self l]; simp [cmpZ]
theorem news5 (w : World) (p : Plc) (t : TypeId) (q : Nat) (hq : q = w.heap.size) : ∀ (j : Nat) (u : Value), p.cells[j]? = some u → (w.alloc (.cells #[.string p.nm, .int .i64 p.rk, .string p.kd, .int .i64 p.vl, .string p.rs] t)).cell? ((⟨q, 0, none⟩ : Addr).add j) = some u := by
 intro j u hj
 subst hq
 match j, hj with
 | 0, hj => simp [Plc.cells] at hj; subst hj; simp [Addr.add]
 | 1, hj => simp [Plc.cells] at hj; subst hj; simp [Addr.add]
 | 2, hj => simp [Plc.cells] at hj; subst hj; simp [Addr.add]
 | 3, hj => simp [Plc.cells] at hj; subst hj; simp [Addr.add]
 | 4, hj => simp [Plc.cells] at hj; subst hj; simp [Addr.add]
theorem one5 (p : Plc) : ∀ u ∈ p.cells, u.oneCell' = true := by
 intro u hu
 simp [Plc.cells] at hu
 rcases hu with rfl | rfl | rfl | rfl | rfl <;> rfl
theorem own_lowP {w : World} {B B' : Nat} {v : Value} {L : List Plc} (h : OwnPlcs w B v L) (hB : B' ≤ B) : OwnPlcs w B' v L := by
 refine ⟨h.1, ?_⟩
 rcases h.2 with q | ⟨g, cap, cur, a, b, c⟩
 ·exact .inl q
 ·exact .inr ⟨g, cap, cur, a, Nat.le_trans hB b, c⟩
end Go.Mk
end
section
namespace Go.Mk
theorem PlcsZ.at_ {w : World} {A : Option Addr} {n : Nat} {L : List Plc} (h : PlcsZ w A n L) {k : Nat} (hk : k < n) : ∃ b off p, A = some ⟨b, off, none⟩ ∧ b < w.heap.size ∧ L[k]? = some p ∧ Cel5 w b (off + k * 5) p := by
 obtain ⟨b, off, e, hlt, hc⟩ := h.2 (by omega)
 have hl : k < L.length := by rw [h.1]; exact hk
 exact ⟨b, off, L[k], e, hlt, List.getElem?_eq_getElem hl, hc k _ (List.getElem?_eq_getElem hl)⟩
theorem arrL_len {n : Nat} {L : List Plc} (hn : L.length = n) (hr : ∀ p ∈ L, 0 ≤ p.rk ∧ p.rk ≤ n) : (arrL n L).length = n := by
 rw [← byKey_arr L n hn, List.length_map, (byKey_perm (fun i => bhd n (plF L i)) n (n + 1) (fun x hx => by
  have h3 := toks_mem.1 hx
  have h4 : x.toNat < L.length := by omega
  have h5 : plF L x ∈ L := by unfold plF; rw [List.getD_eq_getElem?_getD, List.getElem?_eq_getElem h4]; exact List.getElem_mem h4
  have h6 := hr _ h5
  unfold bhd
  split <;> omega)).length_eq, toks_len]
end Go.Mk
end
section
open Go Go.Proofs Go.RowKit Go.Sort
namespace Go.Mk
end Go.Mk
end
section
namespace Go.Mk
end Go.Mk
end
