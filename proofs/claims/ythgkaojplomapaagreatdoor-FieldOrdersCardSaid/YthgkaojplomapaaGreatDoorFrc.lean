/-
  Proved: Ranking of package field: the first error of the rows, or their places in the order of their ranks, in new memory. Conditions: at most 1,000 rows, where the slices say, with names no longer than an int says, and at most 1,000 trials each.
  Proved: Results of package field: the first error of the rows, or the athletes and marks of their places in the order of their ranks, in new memory. Conditions: those of Ranking.
  Proved: the reference's Series returns a row's marks that are not below 0, in descending order, in new memory. Conditions: at most 12 trials, where the slice says.
  Proved: the reference's greater and RowRanks: the ranks of rows, as rowRanks has them. Conditions: at most 100 rows, each with at most 12 trials, where the slices say.
-/
import Derived.Test.YthgkaojplomapaaGreatDoorFra
set_option linter.unusedVariables false
set_option linter.unusedSimpArgs false
open Go Go.Proofs Go.RowKit
set_option maxRecDepth 100000
section
namespace Go.Mk
def mkOf (r : RowR) : ByteArray × Int × ByteArray := match serD r.T with
 | [] => (sNone, 0, if decide (0 < r.n) || !r.rt then sNM else sDNS)
 | h :: _ => (sLength, h, ⟨#[]⟩)
def plcOf (L : List RowR) (n i : Nat) (r : RowR) : Plc := ⟨r.s, (rkB (rkR (sersOf L)) (rkBt (sersOf L)) n i : Nat), (mkOf r).1, (mkOf r).2.1, (mkOf r).2.2⟩
def plcsOf (L : List RowR) : List Plc := L.mapIdx fun i r => plcOf L L.length i r
def rankL (L : List RowR) : List Plc := arrL L.length (plcsOf L)
theorem rkB_le (R : Nat → Bool) (b : Nat → Nat → Bool) (n i : Nat) (hi : i < n) (hb : b i i = false) : rkB R b n i ≤ n := by
 unfold rkB
 split
 ·have : ∀ m, m ≤ n → (cntB b i m ≤ m ∧ (i < m → cntB b i m + 1 ≤ m)) := by
   intro m
   induction m with
   | zero => intro _; exact ⟨Nat.le_refl _, fun h => by omega⟩
   | succ m ih =>
    intro hm
    obtain ⟨h1, h2⟩ := ih (by omega)
    rw [cntB]
    by_cases e : m = i
    ·subst e
     rw [hb]
     simp
     omega
    ·refine ⟨by split <;> omega, fun h => ?_⟩
     have := h2 (by omega)
     split <;> omega
  have := (this n (Nat.le_refl _)).2 hi
  omega
 ·omega
theorem cmpL_self : ∀ l : List Int, cmpL l l = 0
 | [] => rfl
 | a :: l => by rw [cmpL, cmpL_self l]; simp [cmpZ]
theorem news5 (w : World) (p : Plc) (t : TypeId) (q : Nat) (hq : q = w.heap.size) : ∀ (j : Nat) (u : Value), p.cells[j]? = some u → (w.alloc (.cells #[.string p.nm, .int .i64 p.rk, .string p.kd, .int .i64 p.vl, .string p.rs] t)).cell? ((⟨q, 0, none⟩ : Addr).add j) = some u := by
 intro j u hj
 subst hq
 match j, hj with
 | 0, hj => simp [Plc.cells] at hj; subst hj; simp [Addr.add]
 | 1, hj => simp [Plc.cells] at hj; subst hj; simp [Addr.add]
 | 2, hj => simp [Plc.cells] at hj; subst hj; simp [Addr.add]
 | 3, hj => simp [Plc.cells] at hj; subst hj; simp [Addr.add]
 | 4, hj => simp [Plc.cells] at hj; subst hj; simp [Addr.add]
theorem one5 (p : Plc) : ∀ u ∈ p.cells, u.oneCell' = true := by
 intro u hu
 simp [Plc.cells] at hu
 rcases hu with rfl | rfl | rfl | rfl | rfl <;> rfl
theorem own_lowP {w : World} {B B' : Nat} {v : Value} {L : List Plc} (h : OwnPlcs w B v L) (hB : B' ≤ B) : OwnPlcs w B' v L := by
 refine ⟨h.1, ?_⟩
 rcases h.2 with q | ⟨g, cap, cur, a, b, c⟩
 ·exact .inl q
 ·exact .inr ⟨g, cap, cur, a, Nat.le_trans hB b, c⟩
end Go.Mk
end
section
namespace Go.Mk
def resC (p : Plc) : List Value := [.string p.nm, .string p.kd, .int .i64 p.vl, .string p.rs]
theorem PlcsZ.at_ {w : World} {A : Option Addr} {n : Nat} {L : List Plc} (h : PlcsZ w A n L) {k : Nat} (hk : k < n) : ∃ b off p, A = some ⟨b, off, none⟩ ∧ b < w.heap.size ∧ L[k]? = some p ∧ Cel5 w b (off + k * 5) p := by
 obtain ⟨b, off, e, hlt, hc⟩ := h.2 (by omega)
 have hl : k < L.length := by rw [h.1]; exact hk
 exact ⟨b, off, L[k], e, hlt, List.getElem?_eq_getElem hl, hc k _ (List.getElem?_eq_getElem hl)⟩
theorem arrL_len {n : Nat} {L : List Plc} (hn : L.length = n) (hr : ∀ p ∈ L, 0 ≤ p.rk ∧ p.rk ≤ n) : (arrL n L).length = n := by
 rw [← byKey_arr L n hn, List.length_map, (byKey_perm (fun i => bhd n (plF L i)) n (n + 1) (fun x hx => by
  have h3 := toks_mem.1 hx
  have h4 : x.toNat < L.length := by omega
  have h5 : plF L x ∈ L := by unfold plF; rw [List.getD_eq_getElem?_getD, List.getElem?_eq_getElem h4]; exact List.getElem_mem h4
  have h6 := hr _ h5
  unfold bhd
  split <;> omega)).length_eq, toks_len]
end Go.Mk
end
section
open Go Go.Proofs Go.RowKit Go.Sort
namespace Go.Mk
theorem OwnZ.at_ {w : World} {B k c : Nat} {a : Option Addr} {Q : List Int} (h : OwnZ w B (.slice a k c) Q) (hl : Q.length = k) {j : Nat} (hj : j < k) : ∃ go, a = some ⟨go, 0, none⟩ ∧ B ≤ go ∧ go < w.heap.size ∧ k ≤ c ∧ (c : Int) ≤ 9223372036854775807 ∧ w.cell? ⟨go, j, none⟩ = some (.int .i64 (ga Q j)) := by
 unfold OwnZ at h
 rw [hl] at h
 obtain ⟨g, cap, hv, hb, hg⟩ := ownSome h (by omega)
 cases hv
 refine ⟨g, rfl, hb, hg, ?_⟩
 have hcap : k ≤ c ∧ (c : Int) ≤ 9223372036854775807 := by
  rcases h.2 with ⟨q, _⟩ | ⟨g', cap', cur, a, b, c1, d, e1, f, hx⟩
  ·simp at q
  ·obtain ⟨rfl, rfl⟩ : g = g' ∧ c = cap' := by simpa using a
   have : maxLen = 9223372036854775807 := rfl
   exact ⟨by omega, by omega⟩
 refine ⟨hcap.1, hcap.2, ?_⟩
 rw [World.ownsRow.cellAt h j (by omega), List.getElem?_map, ga_at (by omega)]; rfl
def atD (x : Int) (Q : List Int) : Nat → Nat
 | 0 => 0
 | j + 1 => if ga Q j < x then atD x Q j else j + 1
def insD (Q : List Int) (x : Int) : List Int := Q.take (atD x Q Q.length) ++ x :: Q.drop (atD x Q Q.length)
def serG : List Int → List Int → List Int
 | Q, [] => Q
 | Q, x :: l => if x < 0 then serG Q l else serG (insD Q x) l
end Go.Mk
end
section
namespace Go.Mk
def rksZ (L : List RowR) : List Int := (List.range L.length).map fun i => ((rkB (rkR (sersOf L)) (rkBt (sersOf L)) L.length i : Nat) : Int)
end Go.Mk
end
