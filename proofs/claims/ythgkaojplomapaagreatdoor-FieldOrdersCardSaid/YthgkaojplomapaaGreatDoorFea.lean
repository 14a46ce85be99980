/-
  Proved: rows of package field in memory; the errors of their trials (trialError, firstOf, listError), and the names of rows (each). Conditions: the rows and their trials lie where the slices say, at most 1,000 of both.
  Proved: slices.insertionSortCmpFunc of integers, by the closure of field.series, leaves them in descending order, in place. Conditions: the integers lie in a row of the caller's own; the comparison leaves what was there.
-/
import Derived.Test.YthgkaojplomapaaGreatDoorFa
import Derived.Test.YthgkaojplomapaaGreatDoorFcb
import Derived.BigRegion
import Derived.BigQuiet
set_option linter.unusedVariables false
set_option linter.unusedSimpArgs false
open Go Go.Proofs Go.RowKit
set_option maxRecDepth 100000
section
namespace Go.Mk
structure RowR where
 s : ByteArray
 A : Option Addr
 n : Nat
 c : Nat
 T : List Int
 rt : Bool
def Rows (w : World) (A : Option Addr) (n : Nat) (L : List RowR) : Prop :=
 L.length = n ∧ (0 < n → ∃ b off, A = some ⟨b, off, none⟩ ∧ b < w.heap.size ∧ ∀ (j : Nat) (r : RowR), L[j]? = some r →
  w.cell? ⟨b, off + j * 3, none⟩ = some (.string r.s) ∧ w.cell? ⟨b, off + j * 3 + 1, none⟩ = some (.slice r.A r.n r.c) ∧ w.cell? ⟨b, off + j * 3 + 2, none⟩ = some (.bool r.rt) ∧ IntsZ w r.A r.n r.T ∧ r.n ≤ r.c)
theorem Rows.below {w w' : World} {A : Option Addr} {n : Nat} {L : List RowR} (h : Rows w A n L) (hb : Below w.heap.size w w') : Rows w' A n L := by
 refine ⟨h.1, fun h0 => ?_⟩
 obtain ⟨b, off, e, hlt, hc⟩ := h.2 h0
 refine ⟨b, off, e, Nat.lt_of_lt_of_le hlt hb.size, fun j r hr => ?_⟩
 obtain ⟨h1, h2, h3, h4, h5⟩ := hc j r hr
 exact ⟨(hb.cell (p := ⟨b, _, none⟩) hlt).trans h1, (hb.cell (p := ⟨b, _, none⟩) hlt).trans h2, (hb.cell (p := ⟨b, _, none⟩) hlt).trans h3, h4.below hb, h5⟩
theorem Rows.at_ {w : World} {A : Option Addr} {n : Nat} {L : List RowR} (h : Rows w A n L) {k : Nat} (hk : k < n) : ∃ b off r, A = some ⟨b, off, none⟩ ∧ b < w.heap.size ∧ L[k]? = some r ∧
  (w.cell? ⟨b, off + k * 3, none⟩ = some (.string r.s) ∧ w.cell? ⟨b, off + k * 3 + 1, none⟩ = some (.slice r.A r.n r.c) ∧ w.cell? ⟨b, off + k * 3 + 2, none⟩ = some (.bool r.rt)) ∧ IntsZ w r.A r.n r.T ∧ r.n ≤ r.c := by
 obtain ⟨b, off, e, hlt, hc⟩ := h.2 (by omega)
 have hl : k < L.length := by rw [h.1]; exact hk
 obtain ⟨h1, h2, h3, h4, h5⟩ := hc k L[k] (List.getElem?_eq_getElem hl)
 exact ⟨b, off, L[k], e, hlt, List.getElem?_eq_getElem hl, ⟨h1, h2, h3⟩, h4, h5⟩
def trsE : List Int → Int
 | [] => 0
 | t :: l => if rngE t (-2) 999999 = 0 then trsE l else rngE t (-2) 999999
def trialsE (r : RowR) : Int := if 6 < r.n then 5 else trsE r.T
end Go.Mk
end
section
namespace Go.Mk
def ga (L : List Int) (i : Nat) : Int := L.getD i 0
theorem ga_set {L : List Int} {i : Nat} (x : Int) (h : i < L.length) (k : Nat) : ga (L.set i x) k = if k = i then x else ga L k := by
 unfold ga
 rw [List.getD_eq_getElem?_getD, List.getD_eq_getElem?_getD]
 by_cases e : k = i
 ·subst e; rw [if_pos rfl, List.getElem?_set_self h]; rfl
 ·rw [if_neg e, List.getElem?_set_ne (fun q => e q.symm)]
theorem ga_at {L : List Int} {i : Nat} (h : i < L.length) : L[i]? = some (ga L i) := by
 unfold ga
 rw [List.getD_eq_getElem?_getD, List.getElem?_eq_getElem h]; rfl
def swp (L : List Int) (i j : Nat) : List Int := (L.set i (ga L j)).set j (ga L i)
theorem swp_len (L : List Int) (i j : Nat) : (swp L i j).length = L.length := by unfold swp; rw [List.length_set, List.length_set]
theorem ga_swp {L : List Int} {i j : Nat} (hi : i < L.length) (hj : j < L.length) (k : Nat) : ga (swp L i j) k = if k = j then ga L i else if k = i then ga L j else ga L k := by
 unfold swp
 rw [ga_set _ (by rw [List.length_set]; exact hj), ga_set _ hi]
theorem cons_set_perm : ∀ (L : List Int) (j : Nat) (x y : Int), L[j]? = some y → (y :: L.set j x).Perm (x :: L)
 | [], j, x, y, h => by simp at h
 | z :: L, 0, x, y, h => by
  simp at h
  subst h
  exact List.Perm.swap x z L
 | z :: L, j + 1, x, y, h => by
  rw [zA3]
  exact ((List.Perm.swap z y _).trans (List.Perm.cons z (cons_set_perm L j x y (by simpa using h)))).trans (List.Perm.swap x z L)
theorem set_set_perm : ∀ (L : List Int) (i j : Nat) (x y : Int), i < j → L[i]? = some x → L[j]? = some y → ((L.set i y).set j x).Perm L
 | [], i, j, x, y, _, h, _ => by simp at h
 | z :: L, 0, j, x, y, hij, h1, h2 => by
  obtain ⟨j', rfl⟩ : ∃ j', j = j' + 1 := ⟨j - 1, by omega⟩
  simp at h1
  subst h1
  rw [zA2, zA3]
  exact cons_set_perm L j' z y (by simpa using h2)
 | z :: L, i + 1, j, x, y, hij, h1, h2 => by
  obtain ⟨j', rfl⟩ : ∃ j', j = j' + 1 := ⟨j - 1, by omega⟩
  rw [zA3, zA3]
  exact List.Perm.cons z (set_set_perm L i j' x y (by omega) (by simpa using h1) (by simpa using h2))
theorem swp_perm {L : List Int} {i j : Nat} (hij : i < j) (hj : j < L.length) : (swp L i j).Perm L :=
 set_set_perm L i j _ _ hij (ga_at (by omega)) (ga_at hj)
def RowZ (w : World) (B g n cap : Nat) (L : List Int) : Prop := L.length = n ∧ w.ownsRow B 3 1 (.slice (some ⟨g, 0, none⟩) n cap) n (L.map fun z => Value.int .i64 z)
theorem RowZ.cell {w : World} {B g n cap : Nat} {L : List Int} (h : RowZ w B g n cap L) {i : Nat} (hi : i < n) : w.cell? ⟨g, i, none⟩ = some (.int .i64 (ga L i)) := by
 rw [World.ownsRow.cellAt h.2 i (by omega), List.getElem?_map, ga_at (by rw [h.1]; exact hi)]; rfl
theorem RowZ.froz {w : World} {B g n cap : Nat} {L : List Int} (h : RowZ w B g n cap L) (i : Nat) : w.frozen? ⟨g, i, none⟩ = false := World.ownsRow.frozenAt h.2 i
theorem RowZ.below {w w' : World} {B g n cap : Nat} {L : List Int} (h : RowZ w B g n cap L) (hb : Below w.heap.size w w') : RowZ w' B g n cap L := ⟨h.1, ownN h.2 hb⟩
theorem RowZ.set {w : World} {B g n cap : Nat} {L : List Int} (h : RowZ w B g n cap L) (i : Nat) (x : Int) : RowZ (w.setCell ⟨g, i, none⟩ (.int .i64 x)) B g n cap (L.set i x) := by
 refine ⟨by rw [List.length_set]; exact h.1, ?_⟩
 have := (World.ownsRow.stored h.2 i (.int .i64 x)).1
 rw [List.map_set]
 exact this
theorem RowZ.lt {w : World} {B g n cap : Nat} {L : List Int} (h : RowZ w B g n cap L) : B ≤ g ∧ g < w.heap.size := World.ownsRow.lt h.2 g rfl
theorem wrapQ (x : Int) (h : -1000 ≤ x ∧ x ≤ 1000000) : IntKind.i64.wrap x = x := by
 simp [IntKind.wrap, IntKind.bits, IntKind.signed]
 omega
theorem grown_below {a c : World} (h : Below a.heap.size a c) (B : Option Nat) : a.grownBy c B := ⟨h.os, h.tape, h.output, h.size, fun i hi _ => h.block i hi⟩
theorem grown_set (w : World) (g j : Nat) (u : Value) : w.grownBy (w.setCell ⟨g, j, none⟩ u) (some g) :=
 ⟨rfl, rfl, rfl, by simp, fun k _ hk => heap_setCell_other w ⟨g, j, none⟩ k u (fun e => hk (by simp [e]))⟩
theorem gb_below {w a b : World} {g : Nat} (h : w.grownBy a (some g)) (hb : Below a.heap.size a b) : w.grownBy b (some g) := h.trans (grown_below hb _)
def SrtD (M : List Int) (a k : Nat) : Prop := ∀ p q, a ≤ p → p < q → q < k → ga M q ≤ ga M p
def InsD (a k j : Nat) (M : List Int) : Prop := (∀ p q, a ≤ p → p < q → q ≤ k → p ≠ j → q ≠ j → ga M q ≤ ga M p) ∧ ∀ q, j < q → q ≤ k → ga M q ≤ ga M j
theorem InsD.start {a k : Nat} {M : List Int} (h : SrtD M a k) : InsD a k k M := ⟨fun p q h1 h2 h3 h4 h5 => h p q h1 h2 (by omega), fun q h1 h2 => by omega⟩
theorem InsD.step {a k j : Nat} {M : List Int} (h : InsD a k j M) (haj : a < j) (hjk : j ≤ k) (hk : k < M.length) (hl : ga M (j - 1) < ga M j) : InsD a k (j - 1) (swp M (j - 1) j) := by
 have e := ga_swp (L := M) (i := j - 1) (j := j) (by omega) (by omega)
 refine ⟨fun p q h1 h2 h3 h4 h5 => ?_, fun q h1 h2 => ?_⟩
 ·rw [e, e, if_neg h4, if_neg h5]
  by_cases hp : p = j
  ·rw [if_pos hp, if_neg (by omega)]
   exact h.1 (j - 1) q (by omega) (by omega) h3 (by omega) (by omega)
  ·rw [if_neg hp]
   by_cases hq : q = j
   ·rw [if_pos hq]
    exact h.1 p (j - 1) h1 (by omega) (by omega) hp (by omega)
   ·rw [if_neg hq]
    exact h.1 p q h1 h2 h3 hp hq
 ·rw [e, e, if_neg (by omega : j - 1 ≠ j), if_pos rfl, if_neg (by omega : q ≠ j - 1)]
  by_cases hq : q = j
  ·rw [if_pos hq]; omega
  ·rw [if_neg hq]; exact h.2 q (by omega) h2
theorem InsD.done {a k j : Nat} {M : List Int} (h : InsD a k j M) (haj : a ≤ j) (hjk : j ≤ k) (ht : a < j → ga M j ≤ ga M (j - 1)) : SrtD M a (k + 1) := by
 intro p q h1 h2 h3
 by_cases hp : p = j
 ·rw [hp] at h2 ⊢; exact h.2 q h2 (by omega)
 ·by_cases hq : q = j
  ·rw [hq] at h2 ⊢
   have h4 := ht (by omega)
   by_cases hpj : p = j - 1
   ·rw [hpj]; exact h4
   ·have := h.1 p (j - 1) h1 (by omega) (by omega) hp (by omega)
    omega
  ·exact h.1 p q h1 h2 (by omega) hp hq
def DescV : Value := .func (.func 182) #[] #[]
def CmpD (w : World) (g : Nat) (L : List Int) : Prop :=
 ∀ w' : World, w.grownBy w' (some g) → ∀ x y : Int, x ∈ L → y ∈ L → Calls Tryz.prog 182 #[.int .i64 x, .int .i64 y] w' (RetPost (.int .i64 (y - x)) w')
def SortD (w : World) (B g n cap : Nat) (L : List Int) (a b : Nat) (e : Ending) (w' : World) : Prop :=
 ∃ M, e = .returned (.tuple #[]) ∧ M.Perm L ∧ SrtD M a b ∧ RowZ w' B g n cap M ∧ w.grownBy w' (some g)
end Go.Mk
end
