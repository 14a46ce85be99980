/-
  Proved: an argument of the type of a relay opened to its legs in their cells, and shut again in any later world that has kept the cells below. Nothing is assumed beyond that the argument reads.
-/
import Derived.Test.YtickjnahdeikfaaGreatDoorYa
import Derived.Deep.Slices
import Derived.Deep.Strs
import Derived.DataShut
import Derived.ChangeSlices
import Derived.Lib.SmallJoins
set_option linter.unusedVariables false
set_option linter.unusedSimpArgs false
open Go Go.Proofs Go.RowKit
set_option maxRecDepth 100000
namespace Go.Mk
open Go.ChangeShapes Go.WideShapes Go.Deep Go.Joins
theorem cIntX : Tryz.prog.cellsOf 3 = 1 := by kernel_rfl
theorem cell_someX {w : World} {a : Addr} {v : Value} (h : w.cell? a = some v) : a.spot = none ∧ a.block < w.heap.size := by
  unfold World.cell? at h
  split at h
  case h_1 c x y e =>
    split at h
    · cases h
    · rename_i hs
      exact ⟨by simpa using hs, (Array.getElem?_eq_some_iff.1 e).1⟩
  case h_2 => cases h
/-- A slice of integers in one cell. -/
theorem ints_cells {H : Type} {enc : TypeId × Value → H} {W : World} {V : Value} {x : DataW H × List MemPlace} {fuel : Nat}
    (hf : DataW.trod enc Tryz.prog W 0 (fun _ => true) true fuel 22 [V] = some x) :
    ∃ (A : Option Addr) (n cap : Nat) (L : List Int), V = .slice A n cap ∧ n ≤ cap ∧ (cap : Int) ≤ 9223372036854775807 ∧ IntsZ W A n L ∧
      ∀ (spare : Nat → Bool) (W' : World), (∀ q, q < W.heap.size → spare q = true) → Below W.heap.size W W' → ∃ n', DataW.trod enc Tryz.prog W' 0 spare true n' 22 [V] = some x := by
  have hmx : maxLen = 9223372036854775807 := rfl
  rcases open_ints Tryz.underlying22 Tryz.underlying3 cIntX hf with ⟨e, ex⟩ | ⟨a, len0, cap0, zs, e, _, hl, hm, hz, ex, hc, hw⟩
  · obtain rfl : V = .slice none 0 0 := by simpa using e
    subst ex
    refine ⟨none, 0, 0, [], rfl, Nat.le_refl _, by decide, ⟨rfl, fun h => absurd h (by decide)⟩, fun spare W' _ _ => ⟨1, ?_⟩⟩
    simp [DataW.trod, Tryz.underlying22]
  · obtain rfl : V = .slice (some a) len0 cap0 := by simpa using e
    subst ex
    replace hz : zs.length = cap0 := by simpa using hz
    have hblk : 0 < cap0 → a.spot = none ∧ a.block < W.heap.size := fun h0 => by
      have := hc 0 (by omega)
      exact cell_someX (a := a) this
    refine ⟨some a, len0, cap0, zs.take len0, rfl, hl, by omega, ⟨by simp; omega, fun h0 => ?_⟩, fun spare W' hsp hb => ?_⟩
    · obtain ⟨hs, hlt⟩ := hblk (by omega)
      obtain ⟨b, off, sp⟩ := a
      obtain rfl : sp = none := hs
      refine ⟨b, off, rfl, hlt, fun i z hq => ?_⟩
      have hi : i < len0 := by
        have := (List.getElem?_eq_some_iff.1 hq).1
        simp at this
        omega
      have := hc i (by omega)
      rw [add_plain] at this
      rw [this]
      rw [List.getElem?_take_of_lt hi] at hq
      simp [List.getD, hq]
    · have hcc : ∀ i, i < zs.length → W'.cell? (a.add i) = some (.int .i64 (zs.getD i 0)) := fun i hi => by
        rw [← hc i hi]
        exact hb.cell (by rw [block_add]; exact (hblk (by omega)).2)
      refine ⟨0 + 2, ?_⟩
      refine shut_ints 0 Tryz.underlying22 Tryz.underlying3 cIntX (Nat.zero_le _) hl hm ?_ hcc hw
      cases hs : spare a.block with
      | true => simpa using hz
      | false =>
        have h0 : cap0 = 0 := by
          refine Classical.byContradiction fun hne => ?_
          have := hsp a.block (hblk (by omega)).2
          rw [hs] at this
          cases this
        rw [hz]
        simp
        omega
theorem open_relay {H : Type} {enc : TypeId × Value → H} {W : World} {v : Value} {d : DataW H} {p : List MemPlace} {b0 : Nat}
    (hv : Value.okWide Tryz.prog W .any b0 24 v) (h : DataW.Trod enc Tryz.prog W 0 (fun _ => true) true 24 v d p) :
    ∃ (A : Option Addr) (n cap : Nat) (z b : Int) (L : List Int), v = .agg #[.slice A n cap, .int .i64 z, .int .i64 b] ∧ n ≤ cap ∧ (cap : Int) ≤ 9223372036854775807 ∧ IntsZ W A n L ∧
      ∀ (spare : Nat → Bool) (W' : World), (∀ q, q < W.heap.size → spare q = true) → Below W.heap.size W W' → DataW.Trod enc Tryz.prog W' 0 spare true 24 v d p := by
  obtain ⟨v0, v1, v2, y0, y1, y2, n0, rfl, rfl, rfl, t0, t1, t2⟩ := open_agg3 Tryz.underlying24 (by kernel_rfl) (by kernel_rfl) hv h
  obtain ⟨z, e1, rfl, w1⟩ := DataW.trod_int Tryz.underlying3 t1
  obtain ⟨b, e2, rfl, w2⟩ := DataW.trod_int Tryz.underlying3 t2
  obtain rfl : v1 = .int .i64 z := by simpa using e1
  obtain rfl : v2 = .int .i64 b := by simpa using e2
  obtain ⟨A, n, cap, L, rfl, h1, h2, h3, h4⟩ := ints_cells t0
  refine ⟨A, n, cap, z, b, L, rfl, h1, h2, h3, fun spare W' hsp hb => ?_⟩
  exact shut_agg3 Tryz.underlying24 (by kernel_rfl) (by kernel_rfl) (h4 spare W' hsp hb) (shut_int Tryz.underlying3 w1) (shut_int Tryz.underlying3 w2)
end Go.Mk
