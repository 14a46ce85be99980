/-
  Proved: an argument []int opened to the list of its numbers in their cells (nil: no numbers), and shut again in any later world that has kept the cells below. Nothing is assumed beyond that the argument reads.
-/
import Derived.Test.YtapglbjojpkblaaGreatDoorMu
import Derived.Test.YtapglbjojpkblaaGreatDoorTa
import Derived.ChangeSlices
import Derived.WideKeyPair
set_option linter.unusedVariables false
set_option linter.unusedSimpArgs false
open Go Go.Proofs Go.RowKit
set_option maxRecDepth 100000
namespace Go.Mk
open Go.ChangeShapes Go.WideShapes Go.Deep
theorem open_zs {H : Type} {enc : TypeId × Value → H} {W : World} {v : Value} {d : DataW H} {p : List MemPlace} {b : Nat}
    (hv : Value.okWide Tryz.prog W .any b 26 v) (h : DataW.Trod enc Tryz.prog W 0 (fun _ => true) true 26 v d p) :
    ∃ (A : Option Addr) (n cap : Nat) (L : List Int), v = .slice A n cap ∧ (n : Int) ≤ 9223372036854775807 ∧ Zs W W.heap.size A n L ∧
      ∀ (spare : Nat → Bool) (W' : World), (∀ q, q < W.heap.size → spare q = true) → Below W.heap.size W W' → DataW.Trod enc Tryz.prog W' 0 spare true 26 v d p := by
  obtain ⟨a0, len0, cap0, rfl⟩ := okWide_slice Tryz.underlying26 hv
  obtain ⟨fuel, hf⟩ := h
  replace hf : DataW.trod enc Tryz.prog W 0 (fun _ => true) true fuel 26 [.slice a0 len0 cap0] = some (d, p) := by simpa [Value.cells] using hf
  rcases open_ints Tryz.underlying26 Tryz.underlying3 cInt hf with ⟨e, ex⟩ | ⟨a, len, cap, zs, e, _, hl, hm, hz, ex, hc, hw⟩
  · obtain ⟨rfl, rfl, rfl⟩ : a0 = none ∧ len0 = 0 ∧ cap0 = 0 := by simpa using e
    obtain ⟨rfl, rfl⟩ := Prod.mk.inj ex
    refine ⟨none, 0, 0, [], rfl, by decide, ⟨rfl, Nat.le_refl _, fun h => absurd h (by decide)⟩, fun spare W' _ _ => ⟨1, ?_⟩⟩
    simp [DataW.trod, Value.cells, Tryz.underlying26]
  · obtain ⟨rfl, rfl, rfl⟩ : a0 = some a ∧ len0 = len ∧ cap0 = cap := by simpa using e
    obtain ⟨rfl, rfl⟩ := Prod.mk.inj ex
    replace hz : zs.length = cap0 := by simpa using hz
    have hblk : 0 < cap0 → a.spot = none ∧ a.block < W.heap.size := fun h0 => by
      have := hc 0 (by omega)
      exact cell_some (a := a) this
    have hcell : ∀ i, i < cap0 → (a.add i).block = a.block := fun i _ => block_add a i
    refine ⟨some a, len0, cap0, zs.take len0, rfl, by have : maxLen = 9223372036854775807 := rfl; omega, ⟨by simp; omega, Nat.le_refl _, fun h0 => ?_⟩, fun spare W' hsp hb => ?_⟩
    · obtain ⟨hs, hlt⟩ := hblk (by omega)
      obtain ⟨b, off, sp⟩ := a
      obtain rfl : sp = none := hs
      refine ⟨b, off, rfl, hlt, fun i z hq => ?_⟩
      have hi : i < len0 := by
        have := (List.getElem?_eq_some_iff.1 hq).1
        simp at this
        omega
      have := hc i (by omega)
      rw [add_plain] at this
      rw [this]
      rw [List.getElem?_take_of_lt hi] at hq
      simp [List.getD, hq]
    · have hcc : ∀ i, i < zs.length → W'.cell? (a.add i) = some (.int .i64 (zs.getD i 0)) := fun i hi => by
        rw [← hc i hi]
        exact hb.cell (by rw [block_add]; exact (hblk (by omega)).2)
      refine ⟨0 + 2, ?_⟩
      show DataW.trod enc Tryz.prog W' 0 spare true (0 + 2) 26 [.slice (some a) len0 cap0] = _
      refine shut_ints 0 Tryz.underlying26 Tryz.underlying3 cInt (Nat.zero_le _) hl hm ?_ hcc hw
      cases hs : spare a.block with
      | true => simpa using hz
      | false =>
        have h0 : cap0 = 0 := by
          refine Classical.byContradiction fun hne => ?_
          have := hsp a.block (hblk (by omega)).2
          rw [hs] at this
          cases this
        rw [hz]
        simp
        omega
theorem arrP : Go.WideMaps.ArrKey Tryz.prog 36 3 2 := ⟨Tryz.underlying36, by kernel_rfl, cInt, by kernel_rfl⟩
end Go.Mk
