/-
  Proved: an argument [][]int opened to the lists of its numbers in their cells (nil: no lists), and shut again in any later world that has kept the cells below. Nothing is assumed beyond that the argument reads.
-/
import Derived.Test.YtebehbojbdcclaaGreatDoorZc
import Derived.Deep.Slices
import Derived.Deep.Strs
import Derived.DataShut
import Derived.ChangeSlices
import Derived.WideKeyPair
set_option linter.unusedVariables false
set_option linter.unusedSimpArgs false
open Go Go.Proofs Go.RowKit
set_option maxRecDepth 100000
namespace Go.Mk
open Go.ChangeShapes Go.WideShapes Go.Deep
theorem cIntZ : Tryz.prog.cellsOf 3 = 1 := by kernel_rfl
theorem cIntsZ : Tryz.prog.cellsOf 28 = 1 := by kernel_rfl
theorem cell_someZ {w : World} {a : Addr} {v : Value} (h : w.cell? a = some v) : a.spot = none ∧ a.block < w.heap.size := by
  unfold World.cell? at h
  split at h
  case h_1 c x y e =>
    split at h
    · cases h
    · rename_i hs
      exact ⟨by simpa using hs, (Array.getElem?_eq_some_iff.1 e).1⟩
  case h_2 => cases h
/-- A slice of integers in one cell. -/
theorem zi_cells {H : Type} {enc : TypeId × Value → H} {W : World} {V : Value} {d : DataW H} {p : List MemPlace} {fuel : Nat}
    (hf : DataW.trod enc Tryz.prog W 0 (fun _ => true) true fuel 28 [V] = some (d, p)) :
    ∃ (A : Option Addr) (n cap : Nat) (L : List Int), V = .slice A n cap ∧ (n : Int) ≤ 9223372036854775807 ∧ Zi W W.heap.size A n L ∧
      ∀ (spare : Nat → Bool) (W' : World), (∀ q, q < W.heap.size → spare q = true) → Below W.heap.size W W' → ∃ n', DataW.trod enc Tryz.prog W' 0 spare true n' 28 [V] = some (d, p) := by
  rcases open_ints Tryz.underlying28 Tryz.underlying3 cIntZ hf with ⟨e, ex⟩ | ⟨a, len0, cap0, zs, e, _, hl, hm, hz, ex, hc, hw⟩
  · obtain rfl : V = .slice none 0 0 := by simpa using e
    obtain ⟨rfl, rfl⟩ := Prod.mk.inj ex
    refine ⟨none, 0, 0, [], rfl, by decide, ⟨rfl, Nat.le_refl _, fun h => absurd h (by decide)⟩, fun spare W' _ _ => ⟨1, ?_⟩⟩
    simp [DataW.trod, Tryz.underlying28]
  · obtain rfl : V = .slice (some a) len0 cap0 := by simpa using e
    obtain ⟨rfl, rfl⟩ := Prod.mk.inj ex
    replace hz : zs.length = cap0 := by simpa using hz
    have hblk : 0 < cap0 → a.spot = none ∧ a.block < W.heap.size := fun h0 => by
      have := hc 0 (by omega)
      exact cell_someZ (a := a) this
    refine ⟨some a, len0, cap0, zs.take len0, rfl, by have : maxLen = 9223372036854775807 := rfl; omega, ⟨by simp; omega, Nat.le_refl _, fun h0 => ?_⟩, fun spare W' hsp hb => ?_⟩
    · obtain ⟨hs, hlt⟩ := hblk (by omega)
      obtain ⟨b, off, sp⟩ := a
      obtain rfl : sp = none := hs
      refine ⟨b, off, rfl, hlt, fun i z hq => ?_⟩
      have hi : i < len0 := by
        have := (List.getElem?_eq_some_iff.1 hq).1
        simp at this
        omega
      have := hc i (by omega)
      rw [add_plain] at this
      rw [this]
      rw [List.getElem?_take_of_lt hi] at hq
      simp [List.getD, hq]
    · have hcc : ∀ i, i < zs.length → W'.cell? (a.add i) = some (.int .i64 (zs.getD i 0)) := fun i hi => by
        rw [← hc i hi]
        exact hb.cell (by rw [block_add]; exact (hblk (by omega)).2)
      refine ⟨0 + 2, ?_⟩
      refine shut_ints 0 Tryz.underlying28 Tryz.underlying3 cIntZ (Nat.zero_le _) hl hm ?_ hcc hw
      cases hs : spare a.block with
      | true => simpa using hz
      | false =>
        have h0 : cap0 = 0 := by
          refine Classical.byContradiction fun hne => ?_
          have := hsp a.block (hblk (by omega)).2
          rw [hs] at this
          cases this
        rw [hz]
        simp
        omega
theorem open_zss {H : Type} {enc : TypeId × Value → H} {W : World} {v : Value} {d : DataW H} {p : List MemPlace} {b : Nat}
    (hv : Value.okWide Tryz.prog W .any b 22 v) (h : DataW.Trod enc Tryz.prog W 0 (fun _ => true) true 22 v d p) :
    ∃ (A : Option Addr) (n cap : Nat) (LL : List (List Int)), v = .slice A n cap ∧ (n : Int) ≤ 9223372036854775807 ∧ Zss W W.heap.size A n LL ∧
      ∀ (spare : Nat → Bool) (W' : World), (∀ q, q < W.heap.size → spare q = true) → Below W.heap.size W W' → DataW.Trod enc Tryz.prog W' 0 spare true 22 v d p := by
  obtain ⟨a0, len0, cap0, rfl⟩ := okWide_slice Tryz.underlying22 hv
  obtain ⟨fuel, hf⟩ := h
  replace hf : DataW.trod enc Tryz.prog W 0 (fun _ => true) true fuel 22 [.slice a0 len0 cap0] = some (d, p) := by simpa [Value.cells] using hf
  rcases open_slice1 Tryz.underlying22 cIntsZ hf with ⟨e, ex⟩ | ⟨a, len, cap, m, n, V, D, Pl, e, _, hl, hm, hmm, ex, hx⟩
  · obtain ⟨rfl, rfl, rfl⟩ : a0 = none ∧ len0 = 0 ∧ cap0 = 0 := by simpa using e
    obtain ⟨rfl, rfl⟩ := Prod.mk.inj ex
    refine ⟨none, 0, 0, [], rfl, by decide, ⟨rfl, Nat.le_refl _, fun h => absurd h (by decide)⟩, fun spare W' _ _ => ⟨1, ?_⟩⟩
    simp [DataW.trod, Value.cells, Tryz.underlying22]
  · obtain ⟨rfl, rfl, rfl⟩ : a0 = some a ∧ len0 = len ∧ cap0 = cap := by simpa using e
    obtain ⟨rfl, rfl⟩ := Prod.mk.inj ex
    replace hmm : m = cap0 := by simpa using hmm
    subst hmm
    obtain ⟨f, hF⟩ := choose_lt (α := Option Addr × Nat × List Int) (p := fun i q => V i = .slice q.1 q.2.2.length q.2.1 ∧ Zi W W.heap.size q.1 q.2.2.length q.2.2 ∧
        ∀ (spare : Nat → Bool) (W' : World), (∀ q, q < W.heap.size → spare q = true) → Below W.heap.size W W' → ∃ n', DataW.trod enc Tryz.prog W' 0 spare true n' 28 [V i] = some (D i, Pl i)) (fun i hi => by
      obtain ⟨_, h2⟩ := hx i hi
      obtain ⟨A, n', c', L, e1, _, hZ, hh⟩ := zi_cells h2
      have hn := hZ.1
      subst hn
      exact ⟨(A, c', L), e1, hZ, hh⟩)
    have hblk : 0 < m → a.spot = none ∧ a.block < W.heap.size := fun h0 => by
      have := (hx 0 h0).1
      exact cell_someZ (a := a) this
    refine ⟨some a, len0, m, (List.range len0).map fun i => (f i).2.2, rfl, by have : maxLen = 9223372036854775807 := rfl; omega, ⟨by simp, Nat.le_refl _, fun h0 => ?_⟩, fun spare W' hsp hb => ?_⟩
    · obtain ⟨hs, hlt⟩ := hblk (by omega)
      obtain ⟨b, off, sp⟩ := a
      obtain rfl : sp = none := hs
      refine ⟨b, off, rfl, hlt, fun i l hq => ?_⟩
      have hi : i < len0 := by
        have := (List.getElem?_eq_some_iff.1 hq).1
        simpa using this
      obtain rfl : (f i).2.2 = l := by simpa [hi] using hq
      obtain ⟨e1, hZ, _⟩ := hF i (by omega)
      have h0 := (hx i (by omega)).1
      rw [add_plain, e1] at h0
      exact ⟨(f i).1, (f i).2.1, h0, hZ⟩
    · have hcell : ∀ i, i < m → W'.cell? (a.add i) = some (V i) := fun i hi => by
        rw [← (hx i hi).1]
        exact hb.cell (by rw [block_add]; exact (hblk (by omega)).2)
      have hel : ∀ i, i < m → ∃ n', DataW.trod enc Tryz.prog W' 0 spare true n' 28 [V i] = some (D i, Pl i) := fun i hi => (hF i hi).2.2 spare W' hsp hb
      have hel2 : ∀ i, i < m → ∃ cs n, W'.cells? 0 (a.add (i * Tryz.prog.cellsOf 28)) (Tryz.prog.cellsOf 28) = some cs ∧ DataW.trod enc Tryz.prog W' 0 spare true n 28 cs = some (D i, Pl i) := fun i hi => by
        obtain ⟨n', hn'⟩ := hel i hi
        refine ⟨[V i], n', ?_, hn'⟩
        rw [cIntsZ, Nat.mul_one]
        refine World.cells?_of_each (Nat.zero_le _) rfl fun j hj => ?_
        have : j = 0 := by omega
        subst this
        have := hcell i hi
        simpa [Addr.add] using this
      cases hs : spare a.block with
      | true =>
        have := shut_slice_whole (enc := enc) (w := W') (base := 0) (spare := spare) (held := true) Tryz.underlying22 (Nat.zero_le a.block) hl hm hs D Pl hel2
        simpa [cIntsZ] using this
      | false =>
        have h0 : m = 0 := by
          refine Classical.byContradiction fun hne => ?_
          have := hsp a.block (hblk (by omega)).2
          rw [hs] at this
          cases this
        subst h0
        obtain rfl : len0 = 0 := by omega
        have := shut_slice (enc := enc) (w := W') (base := 0) (spare := spare) (held := true) Tryz.underlying22 (Nat.zero_le a.block) hl hm hs D Pl (fun i hi => absurd hi (by omega))
        simpa using this
end Go.Mk
