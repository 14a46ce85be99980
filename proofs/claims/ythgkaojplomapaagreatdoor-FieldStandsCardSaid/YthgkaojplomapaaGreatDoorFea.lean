/-
  Proved: rows of package field in memory; the errors of their trials (trialError, firstOf, listError), and the
  Proved: slices.insertionSortCmpFunc of integers, by the closure of field.series, leaves them in descending
-/
import Derived.Test.YthgkaojplomapaaGreatDoorFa
import Derived.Test.YthgkaojplomapaaGreatDoorFcb
import Derived.BigRegion
import Derived.BigQuiet
set_option maxHeartbeats 32000000
set_option linter.unusedVariables false
set_option linter.unusedSimpArgs false
open Go Go.Proofs Go.RowKit
set_option maxRecDepth 100000
section
namespace Go.Mk
structure RowR where
 s : ByteArray
 A : Option Addr
 n : Nat
 c : Nat
 T : List Int
 rt : Bool
def Rows (w : World) (A : Option Addr) (n : Nat) (L : List RowR) : Prop :=
 L.length = n ∧ (0 < n → ∃ b off, A = some ⟨b, off, none⟩ ∧ b < w.heap.size ∧ ∀ (j : Nat) (r : RowR), L[j]? = some r →
  w.cell? ⟨b, off + j * 3, none⟩ = some (.string r.s) ∧ w.cell? ⟨b, off + j * 3 + 1, none⟩ = some (.slice r.A r.n r.c) ∧ w.cell? ⟨b, off + j * 3 + 2, none⟩ = some (.bool r.rt) ∧ IntsZ w r.A r.n r.T ∧ r.n ≤ r.c)
end Go.Mk
end
section
namespace Go.Mk
def ga (L : List Int) (i : Nat) : Int := L.getD i 0
theorem ga_set {L : List Int} {i : Nat} (x : Int) (h : i < L.length) (k : Nat) : ga (L.set i x) k = if k = i then x else ga L k := by
 unfold ga
 rw [List.getD_eq_getElem?_getD, List.getD_eq_getElem?_getD]
 by_cases e : k = i
 ·subst e; rw [if_pos rfl, List.getElem?_set_self h]; rfl
 ·rw [if_neg e, List.getElem?_set_ne (fun q => e q.symm)]
theorem ga_at {L : List Int} {i : Nat} (h : i < L.length) : L[i]? = some (ga L i) := by
 unfold ga
 rw [List.getD_eq_getElem?_getD, List.getElem?_eq_getElem h]; rfl
def swp (L : List Int) (i j : Nat) : List Int := (L.set i (ga L j)).set j (ga L i)
theorem swp_len (L : List Int) (i j : Nat) : (swp L i j).length = L.length := by unfold swp; rw [List.length_set, List.length_set]
theorem ga_swp {L : List Int} {i j : Nat} (hi : i < L.length) (hj : j < L.length) (k : Nat) : ga (swp L i j) k = if k = j then ga L i else if k = i then ga L j else ga L k := by
 unfold swp
 rw [ga_set _ (by rw [List.length_set]; exact hj), ga_set _ hi]
theorem cons_set_perm : ∀ (L : List Int) (j : Nat) (x y : Int), L[j]? = some y → (y :: L.set j x).Perm (x :: L)
 | [], j, x, y, h => by simp at h
 | z :: L, 0, x, y, h => by
  simp at h
  subst h
  exact List.Perm.swap x z L
 | z :: L, j + 1, x, y, h => by
  rw [List.set_cons_succ]
  exact ((List.Perm.swap z y _).trans (List.Perm.cons z (cons_set_perm L j x y (by simpa using h)))).trans (List.Perm.swap x z L)
theorem set_set_perm : ∀ (L : List Int) (i j : Nat) (x y : Int), i < j → L[i]? = some x → L[j]? = some y → ((L.set i y).set j x).Perm L
 | [], i, j, x, y, _, h, _ => by simp at h
 | z :: L, 0, j, x, y, hij, h1, h2 => by
  obtain ⟨j', rfl⟩ : ∃ j', j = j' + 1 := ⟨j - 1, by omega⟩
  simp at h1
  subst h1
  rw [List.set_cons_zero, List.set_cons_succ]
  exact cons_set_perm L j' z y (by simpa using h2)
 | z :: L, i + 1, j, x, y, hij, h1, h2 => by
  obtain ⟨j', rfl⟩ : ∃ j', j = j' + 1 := ⟨j - 1, by omega⟩
  rw [List.set_cons_succ, List.set_cons_succ]
  exact List.Perm.cons z (set_set_perm L i j' x y (by omega) (by simpa using h1) (by simpa using h2))
theorem swp_perm {L : List Int} {i j : Nat} (hij : i < j) (hj : j < L.length) : (swp L i j).Perm L :=
 set_set_perm L i j _ _ hij (ga_at (by omega)) (ga_at hj)
theorem wrapQ (x : Int) (h : -1000 ≤ x ∧ x ≤ 1000000) : IntKind.i64.wrap x = x := by
 simp [IntKind.wrap, IntKind.bits, IntKind.signed]
 omega
theorem grown_below {a c : World} (h : Below a.heap.size a c) (B : Option Nat) : a.grownBy c B := ⟨h.os, h.tape, h.output, h.size, fun i hi _ => h.block i hi⟩
theorem grown_set (w : World) (g j : Nat) (u : Value) : w.grownBy (w.setCell ⟨g, j, none⟩ u) (some g) :=
 ⟨rfl, rfl, rfl, by simp, fun k _ hk => heap_setCell_other w ⟨g, j, none⟩ k u (fun e => hk (by simp [e]))⟩
theorem gb_below {w a b : World} {g : Nat} (h : w.grownBy a (some g)) (hb : Below a.heap.size a b) : w.grownBy b (some g) := h.trans (grown_below hb _)
end Go.Mk
end
