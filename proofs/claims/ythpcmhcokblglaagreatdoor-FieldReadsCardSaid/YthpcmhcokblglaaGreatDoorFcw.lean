/-
  Proved: an argument stadionref06.Card opened to its texts in their cells, and shut again in any later world that has kept the cells below; what the library's functions on texts want of a world. Nothing is assumed beyond that the argument reads and that the listed variables read as the program lays them.
-/
import Derived.Test.YthpcmhcokblglaaGreatDoorFs
import Derived.Test.YthpcmhcokblglaaGreatDoorFt
import Derived.Test.YthpcmhcokblglaaGreatDoorFcv
set_option linter.unusedVariables false
set_option linter.unusedSimpArgs false
open Go Go.Proofs Go.RowKit
set_option maxRecDepth 100000
namespace Go.Mk
open Go.ChangeShapes Go.WideShapes Go.Deep Go.Joins
theorem strs_none {H : Type} {enc : TypeId × Value → H} {W : World} {n cap : Nat} {x : DataW H × List MemPlace} {fuel : Nat}
    (hf : DataW.trod enc Tryz.prog W 0 (fun _ => true) true fuel 22 [.slice none n cap] = some x) : cap = 0 := by
  rcases open_strs Tryz.underlying22 Tryz.underlying9 cStrX hf with ⟨e, ex⟩ | ⟨a, len0, cap0, m, Sx, e, _⟩
  · have : Value.slice none n cap = .slice none 0 0 := by simpa using e
    cases this; rfl
  · simp at e
theorem open_card {H : Type} {enc : TypeId × Value → H} {W : World} {v : Value} {d : DataW H} {p : List MemPlace} {b0 : Nat}
    (hv : Value.okWide Tryz.prog W .any b0 54 v) (h : DataW.Trod enc Tryz.prog W 0 (fun _ => true) true 54 v d p) :
    ∃ (s : ByteArray) (A : Option Addr) (n cap : Nat) (L : List ByteArray) (B : Option Addr) (m cH : Nat) (G : List ByteArray) (rt : Bool), v = .agg #[.string s, .slice A n cap, .slice B m cH, .bool rt] ∧ s.size ≤ maxLen ∧ (n ≤ cap ∧ (cap : Int) ≤ 9223372036854775807 ∧ TextsZ W A n L ∧ (A = none → cap = 0)) ∧ (m ≤ cH ∧ (cH : Int) ≤ 9223372036854775807 ∧ TextsZ W B m G ∧ (B = none → cH = 0)) ∧
      ∀ (spare : Nat → Bool) (W' : World), (∀ q, q < W.heap.size → spare q = true) → Below W.heap.size W W' → DataW.Trod enc Tryz.prog W' 0 spare true 54 v d p := by
  obtain ⟨v0, v1, v2, v3, y0, y1, y2, y3, n0, rfl, rfl, rfl, t0, t1, t2, t3⟩ := open_agg4 Tryz.underlying54 (by kernel_rfl) (by kernel_rfl) hv h
  obtain ⟨s, e0, rfl, w0⟩ := DataW.trod_string Tryz.underlying9 t0
  obtain rfl : v0 = .string s := by simpa using e0
  obtain ⟨A, n, cap, L, rfl, h1, h2, h3, h4⟩ := strs_cells t1
  obtain ⟨B, m, cH, G, rfl, g1, g2, g3, g4⟩ := strs_cells t2
  obtain ⟨rt, rfl, rfl⟩ : ∃ b, v3 = .bool b ∧ y3 = (.lit (.bool b), []) := by
    have t3' : DataW.trod enc Tryz.prog W 0 (fun _ => true) true n0 4 [v3] = some y3 := t3
    cases n0 with
    | zero => simp [DataW.trod] at t3'
    | succ k =>
      cases v3 <;> simp [DataW.trod, Tryz.underlying4] at t3'
      exact ⟨_, rfl, t3'.symm⟩
  refine ⟨s, A, n, cap, L, B, m, cH, G, rt, rfl, w0, ⟨h1, h2, h3, fun e => by subst e; exact strs_none t1⟩, ⟨g1, g2, g3, fun e => by subst e; exact strs_none t2⟩, fun spare W' hsp hb => ?_⟩
  exact shut_agg4 Tryz.underlying54 (by kernel_rfl) (by kernel_rfl) (shut_string_cell Tryz.underlying9 w0) (h4 spare W' hsp hb) (g4 spare W' hsp hb) ⟨1, by simp [DataW.trod, Tryz.underlying4]⟩
end Go.Mk
namespace Go.Proofs.YthpcmhcokblglaaGreatDoor
open Go.ChangeShapes Go.WideShapes Go.ChangeAt Go.RowKit
theorem gl_of {W : World} (hL : laidMetH Tryz.prog laidL W) (hs : W.ShapedOpen Tryz.prog) : Mk.GL W := ⟨(tabs_of hL hs).1, Tryz.cut.s1_3 W hs⟩
end Go.Proofs.YthpcmhcokblglaaGreatDoor
