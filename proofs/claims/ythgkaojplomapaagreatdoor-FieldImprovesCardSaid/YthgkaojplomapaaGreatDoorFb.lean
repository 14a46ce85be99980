/-
  Proved: CheckContest and CheckVertical of package field return plain functions of the names and numbers. Conditions: the texts and the integers lie where the slices say; there are at most 1,000 of both, each text no longer than an int says.
-/
import Derived.Test.YthgkaojplomapaaGreatDoorFa
set_option linter.unusedVariables false
set_option linter.unusedSimpArgs false
open Go Go.Proofs Go.RowKit
set_option maxRecDepth 100000
namespace Go.Mk
theorem IntsZ.cellAt {w : World} {A : Option Addr} {n : Nat} {L : List Int} (h : IntsZ w A n L) {k : Nat} (hk : k < n) : ∃ b off x, A = some ⟨b, off, none⟩ ∧ b < w.heap.size ∧ L[k]? = some x ∧ w.cell? ⟨b, off + k, none⟩ = some (.int .i64 x) := by
  obtain ⟨b, off, e, hlt, hc⟩ := h.2 (by omega)
  have hl : k < L.length := by rw [h.1]; exact hk
  exact ⟨b, off, L[k], e, hlt, List.getElem?_eq_getElem hl, hc k L[k] (List.getElem?_eq_getElem hl)⟩
def tenE (n hi : Int) : Int := fstN [rngE n 10 hi, if n % 10 = 0 then 0 else 3]
def hgtE (p : Option Int) (h : Int) : Int := fstN [tenE h 999999, match p with | some q => if h ≤ q then 11 else 0 | none => 0]
def hgtsE : Option Int → List Int → Int
  | _, [] => 0
  | p, h :: l => if hgtE p h = 0 then hgtsE (some h) l else hgtE p h
def prevI (L : List Int) : Nat → Option Int
  | 0 => none
  | k + 1 => L[k]?
def conE (L : List ByteArray) (t f m : Int) : Int := fstN [athE L, rngE t 1 6, rngE m 0 (IntKind.i64.wrap (6 - t)), if m = 0 then (if f = 0 then 0 else 3) else rngE f 1 32]
def verE (L : List ByteArray) (G : List Int) (s : Int) : Int := fstN [athE L, if G.length = 0 then 12 else 0, if 24 < G.length then 5 else hgtsE none G, tenE s 1000]
def VerF (g : Nat) : Value := .func (.func 116) #[] #[.pointer (some ⟨g, 0, none⟩)]
end Go.Mk
