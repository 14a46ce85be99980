/-
  Proved: arguments []stadionref06.Act and stadionref06.Act opened to their acts, and shut again in any later world that has kept the cells below. Nothing is assumed beyond that the argument reads.
-/
import Derived.Test.YthpcmhcokblglaaGreatDoorFp
import Derived.Deep.Slices
import Derived.Deep.Strs
import Derived.DataShut
import Derived.ChangeSlices
import Derived.Lib.SmallJoins
import Derived.ChangeMaps5
set_option linter.unusedVariables false
set_option linter.unusedSimpArgs false
open Go Go.Proofs Go.RowKit
set_option maxRecDepth 100000
namespace Go.Mk
open Go.ChangeShapes Go.WideShapes Go.Deep Go.Joins
instance : Inhabited ActR := ⟨⟨⟨#[]⟩, ⟨#[]⟩, 0⟩⟩
theorem list3Y {α : Type} {l : List α} (h : l.length = 3) : ∃ a b c, l = [a, b, c] := by
  match l, h with
  | [a, b, c], _ => exact ⟨a, b, c, rfl⟩
theorem cActY : Tryz.prog.cellsOf 40 = 3 := by kernel_rfl
theorem cStrY : Tryz.prog.cellsOf 9 = 1 := by kernel_rfl
theorem cIntY : Tryz.prog.cellsOf 3 = 1 := by kernel_rfl
theorem act_flat {H : Type} {enc : TypeId × Value → H} {w : World} {base : Nat} {spare : Nat → Bool} {held : Bool} {n : Nat} {cs : List Value} {x : DataW H × List MemPlace}
    (h : DataW.trod enc Tryz.prog w base spare held n 40 cs = some x) :
    ∃ a : ActR, cs = [.string a.s, .string a.k, .int .i64 a.v] ∧ a.s.size ≤ maxLen ∧ ∀ (w' : World) (sp : Nat → Bool), ∃ n', DataW.trod enc Tryz.prog w' base sp held n' 40 cs = some x := by
  obtain ⟨y0, y1, y2, m, rfl, hl, h0, h1, h2⟩ := trod_struct3 Tryz.underlying40 h
  obtain ⟨c0, c1, c2, rfl⟩ := list3Y (hl.trans cActY)
  replace h0 : DataW.trod enc Tryz.prog w base spare held m 9 [c0] = some y0 := by
    have := h0
    simp only [cStrY] at this
    exact this
  replace h1 : DataW.trod enc Tryz.prog w base spare held m 9 [c1] = some y1 := by
    have := h1
    simp only [cStrY] at this
    exact this
  replace h2 : DataW.trod enc Tryz.prog w base spare held m 3 [c2] = some y2 := by
    have := h2
    simp only [cIntY, cStrY] at this
    exact this
  obtain ⟨s, e0, rfl, z0⟩ := DataW.trod_string Tryz.underlying9 h0
  obtain ⟨r, e1, rfl, z1⟩ := DataW.trod_string Tryz.underlying9 h1
  obtain ⟨v, e2, rfl, z2⟩ := DataW.trod_int Tryz.underlying3 h2
  obtain rfl : c0 = .string s := by simpa using e0
  obtain rfl : c1 = .string r := by simpa using e1
  obtain rfl : c2 = .int .i64 v := by simpa using e2
  refine ⟨⟨s, r, v⟩, rfl, z0, fun w' sp => ?_⟩
  have st : ∀ {t : ByteArray}, t.size ≤ maxLen → DataW.trod enc Tryz.prog w' base sp held 1 9 [.string t] = some (.lit (.string t.data.toList), []) := fun hz => by
    simp [DataW.trod, Tryz.underlying9, hz]
  refine ⟨1 + 1, trod_struct3_mk Tryz.underlying40 hl ?_ ?_ ?_⟩
  · simp only [cStrY]
    exact st z0
  · simp only [cStrY]
    exact st z1
  · simp only [cStrY, cIntY]
    exact trod_int_mk 0 Tryz.underlying3 z2

theorem cell_someY {w : World} {a : Addr} {v : Value} (h : w.cell? a = some v) : a.spot = none ∧ a.block < w.heap.size := by
  unfold World.cell? at h
  split at h
  case h_1 c x y e =>
    split at h
    · cases h
    · rename_i hs
      exact ⟨by simpa using hs, (Array.getElem?_eq_some_iff.1 e).1⟩
  case h_2 => cases h

/-- The argument's cells, as a list of marks; and the argument reads the same later. -/
theorem open_acts {H : Type} {enc : TypeId × Value → H} {W : World} {v : Value} {d : DataW H} {p : List MemPlace} {b : Nat}
    (hv : Value.okWide Tryz.prog W .any b 38 v) (h : DataW.Trod enc Tryz.prog W 0 (fun _ => true) true 38 v d p) :
    ∃ (A : Option Addr) (n cap : Nat) (L : List ActR), v = .slice A n cap ∧ (n : Int) ≤ 9223372036854775807 ∧ Acts W A n L ∧ (∀ m ∈ L, m.s.size ≤ maxLen) ∧
      ∀ (spare : Nat → Bool) (W' : World), (∀ q, q < W.heap.size → spare q = true) → Below W.heap.size W W' → DataW.Trod enc Tryz.prog W' 0 spare true 38 v d p := by
  obtain ⟨a0, len0, cap0, rfl⟩ := okWide_slice Tryz.underlying38 hv
  obtain ⟨fuel, hf⟩ := h
  replace hf : DataW.trod enc Tryz.prog W 0 (fun _ => true) true fuel 38 [.slice a0 len0 cap0] = some (d, p) := by simpa [Value.cells] using hf
  rcases open_slice Tryz.underlying38 hf with ⟨e, ex⟩ | ⟨a, len, cap, m, n, D, Pl, e, _, hl, hm, hmm, ex, hx⟩
  · obtain ⟨rfl, rfl, rfl⟩ : a0 = none ∧ len0 = 0 ∧ cap0 = 0 := by simpa using e
    obtain ⟨rfl, rfl⟩ := Prod.mk.inj ex
    refine ⟨none, 0, 0, [], rfl, by decide, ⟨rfl, fun h => absurd h (by decide)⟩, by simp, fun spare W' _ _ => ⟨1, ?_⟩⟩
    simp [DataW.trod, Value.cells, Tryz.underlying38]
  · obtain ⟨rfl, rfl, rfl⟩ : a0 = some a ∧ len0 = len ∧ cap0 = cap := by simpa using e
    obtain ⟨rfl, rfl⟩ := Prod.mk.inj ex
    replace hmm : m = cap0 := by simpa using hmm
    subst hmm
    obtain ⟨f, hF⟩ := choose_lt (α := ActR) (p := fun i q => q.s.size ≤ maxLen ∧ W.cells? 0 (a.add (i * Tryz.prog.cellsOf 40)) (Tryz.prog.cellsOf 40) = some [.string q.s, .string q.k, .int .i64 q.v] ∧
        ∀ (w' : World) (sp : Nat → Bool), ∃ n', DataW.trod enc Tryz.prog w' 0 sp true n' 40 [.string q.s, .string q.k, .int .i64 q.v] = some (D i, Pl i)) (fun i hi => by
      obtain ⟨cs', h1, h2⟩ := hx i hi
      obtain ⟨a, rfl, z0, hh⟩ := act_flat h2
      exact ⟨a, z0, h1, hh⟩)
    have hcell : ∀ i, i < m → ∀ j, j < 3 → W.cell? (a.add (i * 3 + j)) = ([.string (f i).s, .string (f i).k, .int .i64 (f i).v] : List Value)[j]? := fun i hi j hj => by
      obtain ⟨_, hh, _⟩ := hF i hi
      rw [cActY] at hh
      obtain ⟨_, _, hat⟩ := World.cells?_some hh
      rw [← add_add]
      exact hat j hj
    have hblk : 0 < m → a.spot = none ∧ a.block < W.heap.size := fun h0 => by
      have := hcell 0 h0 0 (by decide)
      exact cell_someY (a := a) this
    refine ⟨some a, len0, m, (List.range len0).map f, rfl, by have : maxLen = 9223372036854775807 := rfl; omega, ⟨by simp, fun h0 => ?_⟩, ?_, fun spare W' hsp hb => ?_⟩
    · obtain ⟨hs, hlt⟩ := hblk (by omega)
      obtain ⟨b, off, sp⟩ := a
      obtain rfl : sp = none := hs
      refine ⟨b, off, rfl, hlt, fun i q hq => ?_⟩
      have hi : i < len0 := by
        have := (List.getElem?_eq_some_iff.1 hq).1
        simpa using this
      obtain rfl : f i = q := by simpa [hi] using hq
      have h0 := hcell i (by omega) 0 (by decide)
      have h1 := hcell i (by omega) 1 (by decide)
      have h2 := hcell i (by omega) 2 (by decide)
      rw [add_plain] at h0 h1 h2
      exact ⟨h0, h1, h2⟩
    · intro q hq
      obtain ⟨i, hi, rfl⟩ := List.mem_map.1 hq
      obtain ⟨z0, _⟩ := hF i (by have := List.mem_range.1 hi; omega)
      exact z0
    · have hel : ∀ i, i < m → ∃ cs n, W'.cells? 0 (a.add (i * Tryz.prog.cellsOf 40)) (Tryz.prog.cellsOf 40) = some cs ∧ DataW.trod enc Tryz.prog W' 0 spare true n 40 cs = some (D i, Pl i) := fun i hi => by
        obtain ⟨_, hh, ht⟩ := hF i hi
        obtain ⟨n', hn'⟩ := ht W' spare
        refine ⟨_, n', ?_, hn'⟩
        obtain ⟨hs, hlt⟩ := hblk (by omega)
        obtain ⟨_, hlen, hat⟩ := World.cells?_some hh
        refine World.cells?_of_each (Nat.zero_le _) hlen fun j hj => ?_
        rw [← hat j hj]
        refine hb.cell ?_
        rw [add_add]
        unfold Addr.add
        split
        · exact hlt
        · exact hlt
      cases hs : spare a.block with
      | true => exact shut_slice_whole Tryz.underlying38 (Nat.zero_le _) hl hm hs D Pl hel
      | false =>
        have h0 : m = 0 := by
          refine Classical.byContradiction fun hne => ?_
          have := hsp a.block (hblk (by omega)).2
          rw [hs] at this
          cases this
        subst h0
        obtain rfl : len0 = 0 := by omega
        have := shut_slice (enc := enc) (w := W') (base := 0) (spare := spare) (held := true) Tryz.underlying38 (Nat.zero_le a.block) hl hm hs D Pl (fun i hi => absurd hi (by omega))
        simpa using this

theorem open_act {H : Type} {enc : TypeId × Value → H} {W : World} {v : Value} {d : DataW H} {p : List MemPlace} {b0 : Nat}
    (hv : Value.okWide Tryz.prog W .any b0 40 v) (h : DataW.Trod enc Tryz.prog W 0 (fun _ => true) true 40 v d p) :
    ∃ a : ActR, v = .agg #[.string a.s, .string a.k, .int .i64 a.v] ∧ a.s.size ≤ maxLen ∧
      ∀ (spare : Nat → Bool) (W' : World), DataW.Trod enc Tryz.prog W' 0 spare true 40 v d p := by
  obtain ⟨v0, v1, v2, y0, y1, y2, n0, rfl, rfl, rfl, t0, t1, t2⟩ := open_agg3 Tryz.underlying40 (by kernel_rfl) (by kernel_rfl) hv h
  obtain ⟨s, e0, rfl, w0⟩ := DataW.trod_string Tryz.underlying9 t0
  obtain ⟨k, e1, rfl, w1⟩ := DataW.trod_string Tryz.underlying9 t1
  obtain ⟨z, e2, rfl, w2⟩ := DataW.trod_int Tryz.underlying3 t2
  obtain rfl : v0 = .string s := by simpa using e0
  obtain rfl : v1 = .string k := by simpa using e1
  obtain rfl : v2 = .int .i64 z := by simpa using e2
  refine ⟨⟨s, k, z⟩, rfl, w0, fun spare W' => ?_⟩
  exact shut_agg3 Tryz.underlying40 (by kernel_rfl) (by kernel_rfl) (Go.ChangeMaps.shut_string Tryz.underlying9 w0) (Go.ChangeMaps.shut_string Tryz.underlying9 w1) (shut_int Tryz.underlying3 w2)
end Go.Mk
