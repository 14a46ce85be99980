/-
  Proved: an argument []seed.Round opened to the list of its rounds in their cells (nil: no rounds), and shut again in any later world that has kept the cells below. Nothing is assumed beyond that the argument reads.
-/
import Derived.Test.YtebehbojbdcclaaGreatDoorBi
import Derived.Deep.Slices
import Derived.Deep.Strs
import Derived.DataShut
set_option linter.unusedVariables false
set_option linter.unusedSimpArgs false
open Go Go.Proofs Go.RowKit
set_option maxRecDepth 100000
namespace Go.Mk
open Go.ChangeShapes Go.WideShapes Go.Deep
theorem list3 {α : Type} {l : List α} (h : l.length = 3) : ∃ a b c, l = [a, b, c] := by
  match l, h with
  | [a, b, c], _ => exact ⟨a, b, c, rfl⟩
theorem cRound : Tryz.prog.cellsOf 44 = 3 := by kernel_rfl
theorem cInt : Tryz.prog.cellsOf 3 = 1 := by kernel_rfl
theorem round_flat {H : Type} {enc : TypeId × Value → H} {w : World} {base : Nat} {spare : Nat → Bool} {held : Bool} {n : Nat} {cs : List Value} {x : DataW H × List MemPlace}
    (h : DataW.trod enc Tryz.prog w base spare held n 44 cs = some x) :
    ∃ s v r : Int, cs = [.int .i64 s, .int .i64 v, .int .i64 r] ∧ ∀ (w' : World) (sp : Nat → Bool), ∃ n', DataW.trod enc Tryz.prog w' base sp held n' 44 cs = some x := by
  obtain ⟨y0, y1, y2, m, rfl, hl, h0, h1, h2⟩ := trod_struct3 Tryz.underlying44 h
  obtain ⟨c0, c1, c2, rfl⟩ := list3 (hl.trans cRound)
  replace h0 : DataW.trod enc Tryz.prog w base spare held m 3 [c0] = some y0 := by
    have := h0
    simp only [cInt] at this
    exact this
  replace h1 : DataW.trod enc Tryz.prog w base spare held m 3 [c1] = some y1 := by
    have := h1
    simp only [cInt] at this
    exact this
  replace h2 : DataW.trod enc Tryz.prog w base spare held m 3 [c2] = some y2 := by
    have := h2
    simp only [cInt] at this
    exact this
  obtain ⟨s, e0, rfl, z0⟩ := DataW.trod_int Tryz.underlying3 h0
  obtain ⟨v, e1, rfl, z1⟩ := DataW.trod_int Tryz.underlying3 h1
  obtain ⟨r, e2, rfl, z2⟩ := DataW.trod_int Tryz.underlying3 h2
  obtain rfl : c0 = .int .i64 s := by simpa using e0
  obtain rfl : c1 = .int .i64 v := by simpa using e1
  obtain rfl : c2 = .int .i64 r := by simpa using e2
  refine ⟨s, v, r, rfl, fun w' sp => ?_⟩
  refine ⟨1 + 1, trod_struct3_mk Tryz.underlying44 hl ?_ ?_ ?_⟩
  · simp only [cInt]
    exact trod_int_mk 0 Tryz.underlying3 z0
  · simp only [cInt]
    exact trod_int_mk 0 Tryz.underlying3 z1
  · simp only [cInt]
    exact trod_int_mk 0 Tryz.underlying3 z2

theorem cell_some {w : World} {a : Addr} {v : Value} (h : w.cell? a = some v) : a.spot = none ∧ a.block < w.heap.size := by
  unfold World.cell? at h
  split at h
  case h_1 c x y e =>
    split at h
    · cases h
    · rename_i hs
      exact ⟨by simpa using hs, (Array.getElem?_eq_some_iff.1 e).1⟩
  case h_2 => cases h

/-- The argument's cells, as a list of rounds; and the argument reads the same later. -/
theorem open_rounds {H : Type} {enc : TypeId × Value → H} {W : World} {v : Value} {d : DataW H} {p : List MemPlace} {b : Nat}
    (hv : Value.okWide Tryz.prog W .any b 36 v) (h : DataW.Trod enc Tryz.prog W 0 (fun _ => true) true 36 v d p) :
    ∃ (A : Option Addr) (n cap : Nat) (L : List (Int × Int × Int)), v = .slice A n cap ∧ (n : Int) ≤ 9223372036854775807 ∧ Rnds W W.heap.size A n L ∧
      ∀ (spare : Nat → Bool) (W' : World), (∀ q, q < W.heap.size → spare q = true) → Below W.heap.size W W' → DataW.Trod enc Tryz.prog W' 0 spare true 36 v d p := by
  obtain ⟨a0, len0, cap0, rfl⟩ := okWide_slice Tryz.underlying36 hv
  obtain ⟨fuel, hf⟩ := h
  replace hf : DataW.trod enc Tryz.prog W 0 (fun _ => true) true fuel 36 [.slice a0 len0 cap0] = some (d, p) := by simpa [Value.cells] using hf
  rcases open_slice Tryz.underlying36 hf with ⟨e, ex⟩ | ⟨a, len, cap, m, n, D, Pl, e, _, hl, hm, hmm, ex, hx⟩
  · obtain ⟨rfl, rfl, rfl⟩ : a0 = none ∧ len0 = 0 ∧ cap0 = 0 := by simpa using e
    obtain ⟨rfl, rfl⟩ := Prod.mk.inj ex
    refine ⟨none, 0, 0, [], rfl, by decide, ⟨rfl, Nat.le_refl _, fun h => absurd h (by decide)⟩, fun spare W' _ _ => ⟨1, ?_⟩⟩
    simp [DataW.trod, Value.cells, Tryz.underlying36]
  · obtain ⟨rfl, rfl, rfl⟩ : a0 = some a ∧ len0 = len ∧ cap0 = cap := by simpa using e
    obtain ⟨rfl, rfl⟩ := Prod.mk.inj ex
    replace hmm : m = cap0 := by simpa using hmm
    subst hmm
    obtain ⟨f, hF⟩ := choose_lt (α := Int × Int × Int) (p := fun i q => W.cells? 0 (a.add (i * Tryz.prog.cellsOf 44)) (Tryz.prog.cellsOf 44) = some [.int .i64 q.1, .int .i64 q.2.1, .int .i64 q.2.2] ∧
        ∀ (w' : World) (sp : Nat → Bool), ∃ n', DataW.trod enc Tryz.prog w' 0 sp true n' 44 [.int .i64 q.1, .int .i64 q.2.1, .int .i64 q.2.2] = some (D i, Pl i)) (fun i hi => by
      obtain ⟨cs', h1, h2⟩ := hx i hi
      obtain ⟨s, v, r, rfl, hh⟩ := round_flat h2
      exact ⟨(s, v, r), h1, hh⟩)
    have hcell : ∀ i, i < m → ∀ j, j < 3 → W.cell? (a.add (i * 3 + j)) = ([.int .i64 (f i).1, .int .i64 (f i).2.1, .int .i64 (f i).2.2] : List Value)[j]? := fun i hi j hj => by
      obtain ⟨hh, _⟩ := hF i hi
      rw [cRound] at hh
      obtain ⟨_, _, hat⟩ := World.cells?_some hh
      rw [← add_add]
      exact hat j hj
    have hblk : 0 < m → a.spot = none ∧ a.block < W.heap.size := fun h0 => by
      have := hcell 0 h0 0 (by decide)
      exact cell_some (a := a) this
    refine ⟨some a, len0, m, (List.range len0).map f, rfl, by have : maxLen = 9223372036854775807 := rfl; omega, ⟨by simp, Nat.le_refl _, fun h0 => ?_⟩, fun spare W' hsp hb => ?_⟩
    · obtain ⟨hs, hlt⟩ := hblk (by omega)
      obtain ⟨b, off, sp⟩ := a
      obtain rfl : sp = none := hs
      refine ⟨b, off, rfl, hlt, fun i q hq => ?_⟩
      have hi : i < len0 := by
        have := (List.getElem?_eq_some_iff.1 hq).1
        simpa using this
      obtain rfl : f i = q := by simpa [hi] using hq
      have h0 := hcell i (by omega) 0 (by decide)
      have h1 := hcell i (by omega) 1 (by decide)
      have h2 := hcell i (by omega) 2 (by decide)
      rw [add_plain] at h0 h1 h2
      exact ⟨h0, h1, h2⟩
    · have hel : ∀ i, i < m → ∃ cs n, W'.cells? 0 (a.add (i * Tryz.prog.cellsOf 44)) (Tryz.prog.cellsOf 44) = some cs ∧ DataW.trod enc Tryz.prog W' 0 spare true n 44 cs = some (D i, Pl i) := fun i hi => by
        obtain ⟨hh, ht⟩ := hF i hi
        obtain ⟨n', hn'⟩ := ht W' spare
        refine ⟨_, n', ?_, hn'⟩
        obtain ⟨hs, hlt⟩ := hblk (by omega)
        obtain ⟨_, hlen, hat⟩ := World.cells?_some hh
        refine World.cells?_of_each (Nat.zero_le _) hlen fun j hj => ?_
        rw [← hat j hj]
        refine hb.cell ?_
        rw [add_add]
        unfold Addr.add
        split
        · exact hlt
        · exact hlt
      cases hs : spare a.block with
      | true => exact shut_slice_whole Tryz.underlying36 (Nat.zero_le _) hl hm hs D Pl hel
      | false =>
        have h0 : m = 0 := by
          refine Classical.byContradiction fun hne => ?_
          have := hsp a.block (hblk (by omega)).2
          rw [hs] at this
          cases this
        subst h0
        obtain rfl : len0 = 0 := by omega
        have := shut_slice (enc := enc) (w := W') (base := 0) (spare := spare) (held := true) Tryz.underlying36 (Nat.zero_le a.block) hl hm hs D Pl (fun i hi => absurd hi (by omega))
        simpa using this
end Go.Mk
