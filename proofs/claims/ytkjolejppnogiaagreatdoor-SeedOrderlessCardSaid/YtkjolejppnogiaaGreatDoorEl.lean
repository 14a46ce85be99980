/-
  Proved: an argument []seed.Entrant opened to the list of its entrants in their cells (nil: none), and shut again in any later world that has kept the cells below. Nothing is assumed beyond that the argument reads.
  Proved: an argument [][]seed.Runner opened to the lists of its runners in their cells (nil: no heats), and shut again in any later world that has kept the cells below. Nothing is assumed beyond that the argument reads.
-/
import Derived.Test.YtkjolejppnogiaaGreatDoorEe
import Derived.Deep.Slices
import Derived.Deep.Strs
import Derived.DataShut
import Derived.Test.YtkjolejppnogiaaGreatDoorEk
import Derived.ChangeSlices
import Derived.WideKeyPair
section
set_option linter.unusedVariables false
set_option linter.unusedSimpArgs false
open Go Go.Proofs Go.RowKit
set_option maxRecDepth 100000
namespace Go.Mk
open Go.ChangeShapes Go.WideShapes Go.Deep
theorem list3 {α : Type} {l : List α} (h : l.length = 3) : ∃ a b c, l = [a, b, c] := by
  match l, h with
  | [a, b, c], _ => exact ⟨a, b, c, rfl⟩
theorem cMark : Tryz.prog.cellsOf 77 = 3 := by kernel_rfl
theorem cString : Tryz.prog.cellsOf 9 = 1 := by kernel_rfl
theorem cInt : Tryz.prog.cellsOf 3 = 1 := by kernel_rfl
instance : Inhabited Ent := ⟨⟨⟨#[]⟩, ⟨#[]⟩, ⟨#[]⟩, 0, ⟨#[]⟩⟩⟩
theorem list5 {α : Type} {l : List α} (h : l.length = 5) : ∃ a b c d e, l = [a, b, c, d, e] := by
  match l, h with
  | [a, b, c, d, e], _ => exact ⟨a, b, c, d, e, rfl⟩
theorem cEntrant : Tryz.prog.cellsOf 95 = 5 := by kernel_rfl
theorem mark_flat {H : Type} {enc : TypeId × Value → H} {w : World} {base : Nat} {spare : Nat → Bool} {held : Bool} {n : Nat} {cs : List Value} {x : DataW H × List MemPlace}
    (h : DataW.trod enc Tryz.prog w base spare held n 77 cs = some x) :
    ∃ (s r : ByteArray) (v : Int), cs = [.string s, .int .i64 v, .string r] ∧ s.size ≤ maxLen ∧ r.size ≤ maxLen ∧ ∀ (w' : World) (sp : Nat → Bool), ∃ n', DataW.trod enc Tryz.prog w' base sp held n' 77 cs = some x := by
  obtain ⟨y0, y1, y2, m, rfl, hl, h0, h1, h2⟩ := trod_struct3 Tryz.underlying77 h
  obtain ⟨c0, c1, c2, rfl⟩ := list3 (hl.trans cMark)
  replace h0 : DataW.trod enc Tryz.prog w base spare held m 9 [c0] = some y0 := by
    have := h0
    simp only [cString] at this
    exact this
  replace h1 : DataW.trod enc Tryz.prog w base spare held m 3 [c1] = some y1 := by
    have := h1
    simp only [cInt] at this
    exact this
  replace h2 : DataW.trod enc Tryz.prog w base spare held m 9 [c2] = some y2 := by
    have := h2
    simp only [cString] at this
    exact this
  obtain ⟨s, e0, rfl, z0⟩ := DataW.trod_string Tryz.underlying9 h0
  obtain ⟨v, e1, rfl, z1⟩ := DataW.trod_int Tryz.underlying3 h1
  obtain ⟨r, e2, rfl, z2⟩ := DataW.trod_string Tryz.underlying9 h2
  obtain rfl : c0 = .string s := by simpa using e0
  obtain rfl : c1 = .int .i64 v := by simpa using e1
  obtain rfl : c2 = .string r := by simpa using e2
  refine ⟨s, r, v, rfl, z0, z2, fun w' sp => ?_⟩
  have st : ∀ {t : ByteArray}, t.size ≤ maxLen → DataW.trod enc Tryz.prog w' base sp held 1 9 [.string t] = some (.lit (.string t.data.toList), []) := fun hz => by
    simp [DataW.trod, Tryz.underlying9, hz]
  refine ⟨1 + 1, trod_struct3_mk Tryz.underlying77 hl ?_ ?_ ?_⟩
  · simp only [cString]
    exact st z0
  · simp only [cInt]
    exact trod_int_mk 0 Tryz.underlying3 z1
  · simp only [cString]
    exact st z2

theorem cell_some {w : World} {a : Addr} {v : Value} (h : w.cell? a = some v) : a.spot = none ∧ a.block < w.heap.size := by
  unfold World.cell? at h
  split at h
  case h_1 c x y e =>
    split at h
    · cases h
    · rename_i hs
      exact ⟨by simpa using hs, (Array.getElem?_eq_some_iff.1 e).1⟩
  case h_2 => cases h

theorem ent_flat {H : Type} {enc : TypeId × Value → H} {w : World} {base : Nat} {spare : Nat → Bool} {held : Bool} {n : Nat} {cs : List Value} {x : DataW H × List MemPlace}
    (h : DataW.trod enc Tryz.prog w base spare held n 95 cs = some x) :
    ∃ q : Ent, cs = [.string q.name, .string q.club, .string q.kind, .int .i64 q.value, .string q.reason] ∧ q.ok ∧ q.kind.size ≤ maxLen ∧ q.reason.size ≤ maxLen ∧ ∀ (w' : World) (sp : Nat → Bool), ∃ n', DataW.trod enc Tryz.prog w' base sp held n' 95 cs = some x := by
  obtain ⟨y0, y1, y2, m, rfl, hl, h0, h1, h2⟩ := trod_struct3 Tryz.underlying95 h
  obtain ⟨c0, c1, c2, c3, c4, rfl⟩ := list5 (hl.trans cEntrant)
  replace h0 : DataW.trod enc Tryz.prog w base spare held m 9 [c0] = some y0 := by
    have := h0
    simp only [cString] at this
    exact this
  replace h1 : DataW.trod enc Tryz.prog w base spare held m 9 [c1] = some y1 := by
    have := h1
    simp only [cString] at this
    exact this
  replace h2 : DataW.trod enc Tryz.prog w base spare held m 77 [c2, c3, c4] = some y2 := by
    have := h2
    simp only [cMark] at this
    exact this
  obtain ⟨s, e0, rfl, z0⟩ := DataW.trod_string Tryz.underlying9 h0
  obtain ⟨t, e1, rfl, z1⟩ := DataW.trod_string Tryz.underlying9 h1
  obtain ⟨k, r, v, e2, z2, z3, hm⟩ := mark_flat h2
  obtain rfl : c0 = .string s := by simpa using e0
  obtain rfl : c1 = .string t := by simpa using e1
  obtain ⟨rfl, rfl, rfl⟩ : c2 = .string k ∧ c3 = .int .i64 v ∧ c4 = .string r := by simpa using e2
  refine ⟨⟨s, t, k, v, r⟩, rfl, ⟨z0, z1⟩, z2, z3, fun w' sp => ?_⟩
  obtain ⟨n', hn'⟩ := hm w' sp
  have st : ∀ {t : ByteArray} (f : Nat), t.size ≤ maxLen → DataW.trod enc Tryz.prog w' base sp held (f + 1) 9 [.string t] = some (.lit (.string t.data.toList), []) := fun f hz => by
    simp [DataW.trod, Tryz.underlying9, hz]
  have hn2 := DataW.trod_le (Nat.le_succ n') hn'
  refine ⟨n' + 1 + 1, trod_struct3_mk Tryz.underlying95 hl ?_ ?_ ?_⟩
  · simp only [cString]
    exact st _ z0
  · simp only [cString]
    exact st _ z1
  · simp only [cMark]
    exact hn2

/-- The argument's cells, as a list of entrants; and the argument reads the same later. -/
theorem open_ents {H : Type} {enc : TypeId × Value → H} {W : World} {v : Value} {d : DataW H} {p : List MemPlace} {b : Nat}
    (hv : Value.okWide Tryz.prog W .any b 22 v) (h : DataW.Trod enc Tryz.prog W 0 (fun _ => true) true 22 v d p) :
    ∃ (A : Option Addr) (n cap : Nat) (L : List Ent), v = .slice A n cap ∧ (n : Int) ≤ 9223372036854775807 ∧ Ents W W.heap.size A n L ∧ (∀ x ∈ L, x.ok ∧ x.kind.size ≤ maxLen ∧ x.reason.size ≤ maxLen) ∧
      ∀ (spare : Nat → Bool) (W' : World), (∀ q, q < W.heap.size → spare q = true) → Below W.heap.size W W' → DataW.Trod enc Tryz.prog W' 0 spare true 22 v d p := by
  obtain ⟨a0, len0, cap0, rfl⟩ := okWide_slice Tryz.underlying22 hv
  obtain ⟨fuel, hf⟩ := h
  replace hf : DataW.trod enc Tryz.prog W 0 (fun _ => true) true fuel 22 [.slice a0 len0 cap0] = some (d, p) := by simpa [Value.cells] using hf
  rcases open_slice Tryz.underlying22 hf with ⟨e, ex⟩ | ⟨a, len, cap, m, n, D, Pl, e, _, hl, hm, hmm, ex, hx⟩
  · obtain ⟨rfl, rfl, rfl⟩ : a0 = none ∧ len0 = 0 ∧ cap0 = 0 := by simpa using e
    obtain ⟨rfl, rfl⟩ := Prod.mk.inj ex
    refine ⟨none, 0, 0, [], rfl, by decide, ⟨rfl, Nat.le_refl _, fun h => absurd h (by decide)⟩, by simp, fun spare W' _ _ => ⟨1, ?_⟩⟩
    simp [DataW.trod, Value.cells, Tryz.underlying22]
  · obtain ⟨rfl, rfl, rfl⟩ : a0 = some a ∧ len0 = len ∧ cap0 = cap := by simpa using e
    obtain ⟨rfl, rfl⟩ := Prod.mk.inj ex
    replace hmm : m = cap0 := by simpa using hmm
    subst hmm
    obtain ⟨f, hF⟩ := choose_lt (α := Ent) (p := fun i q => (q.ok ∧ q.kind.size ≤ maxLen ∧ q.reason.size ≤ maxLen) ∧ W.cells? 0 (a.add (i * Tryz.prog.cellsOf 95)) (Tryz.prog.cellsOf 95) = some [.string q.name, .string q.club, .string q.kind, .int .i64 q.value, .string q.reason] ∧
        ∀ (w' : World) (sp : Nat → Bool), ∃ n', DataW.trod enc Tryz.prog w' 0 sp true n' 95 [.string q.name, .string q.club, .string q.kind, .int .i64 q.value, .string q.reason] = some (D i, Pl i)) (fun i hi => by
      obtain ⟨cs', h1, h2⟩ := hx i hi
      obtain ⟨q, rfl, z0, z1, z2, hh⟩ := ent_flat h2
      exact ⟨q, ⟨z0, z1, z2⟩, h1, hh⟩)
    have hcell : ∀ i, i < m → ∀ j, j < 5 → W.cell? (a.add (i * 5 + j)) = ([.string (f i).name, .string (f i).club, .string (f i).kind, .int .i64 (f i).value, .string (f i).reason] : List Value)[j]? := fun i hi j hj => by
      obtain ⟨_, hh, _⟩ := hF i hi
      rw [cEntrant] at hh
      obtain ⟨_, _, hat⟩ := World.cells?_some hh
      rw [← add_add]
      exact hat j hj
    have hblk : 0 < m → a.spot = none ∧ a.block < W.heap.size := fun h0 => by
      have := hcell 0 h0 0 (by decide)
      exact cell_some (a := a) this
    refine ⟨some a, len0, m, (List.range len0).map f, rfl, by have : maxLen = 9223372036854775807 := rfl; omega, ⟨by simp, Nat.le_refl _, fun h0 => ?_⟩, ?_, fun spare W' hsp hb => ?_⟩
    · obtain ⟨hs, hlt⟩ := hblk (by omega)
      obtain ⟨b, off, sp⟩ := a
      obtain rfl : sp = none := hs
      refine ⟨b, off, rfl, hlt, fun i q hq => ?_⟩
      have hi : i < len0 := by
        have := (List.getElem?_eq_some_iff.1 hq).1
        simpa using this
      obtain rfl : f i = q := by simpa [hi] using hq
      have h0 := hcell i (by omega) 0 (by decide)
      have h1 := hcell i (by omega) 1 (by decide)
      have h2 := hcell i (by omega) 2 (by decide)
      have h3 := hcell i (by omega) 3 (by decide)
      have h4 := hcell i (by omega) 4 (by decide)
      rw [add_plain] at h0 h1 h2 h3 h4
      exact ⟨h0, h1, h2, h3, h4⟩
    · intro q hq
      obtain ⟨i, hi, rfl⟩ := List.mem_map.1 hq
      obtain ⟨z0, _⟩ := hF i (by have := List.mem_range.1 hi; omega)
      exact z0
    · have hel : ∀ i, i < m → ∃ cs n, W'.cells? 0 (a.add (i * Tryz.prog.cellsOf 95)) (Tryz.prog.cellsOf 95) = some cs ∧ DataW.trod enc Tryz.prog W' 0 spare true n 95 cs = some (D i, Pl i) := fun i hi => by
        obtain ⟨_, hh, ht⟩ := hF i hi
        obtain ⟨n', hn'⟩ := ht W' spare
        refine ⟨_, n', ?_, hn'⟩
        obtain ⟨hs, hlt⟩ := hblk (by omega)
        obtain ⟨_, hlen, hat⟩ := World.cells?_some hh
        refine World.cells?_of_each (Nat.zero_le _) hlen fun j hj => ?_
        rw [← hat j hj]
        refine hb.cell ?_
        rw [add_add]
        unfold Addr.add
        split
        · exact hlt
        · exact hlt
      cases hs : spare a.block with
      | true => exact shut_slice_whole Tryz.underlying22 (Nat.zero_le _) hl hm hs D Pl hel
      | false =>
        have h0 : m = 0 := by
          refine Classical.byContradiction fun hne => ?_
          have := hsp a.block (hblk (by omega)).2
          rw [hs] at this
          cases this
        subst h0
        obtain rfl : len0 = 0 := by omega
        have := shut_slice (enc := enc) (w := W') (base := 0) (spare := spare) (held := true) Tryz.underlying22 (Nat.zero_le a.block) hl hm hs D Pl (fun i hi => absurd hi (by omega))
        simpa using this

end Go.Mk
end
section
set_option linter.unusedVariables false
set_option linter.unusedSimpArgs false
open Go Go.Proofs Go.RowKit
set_option maxRecDepth 100000
namespace Go.Mk
open Go.ChangeShapes Go.WideShapes Go.Deep
instance : Inhabited Run := ⟨⟨⟨#[]⟩, ⟨#[]⟩, 0, ⟨#[]⟩⟩⟩
theorem list4 {α : Type} {l : List α} (h : l.length = 4) : ∃ a b c d, l = [a, b, c, d] := by
  match l, h with
  | [a, b, c, d], _ => exact ⟨a, b, c, d, rfl⟩
theorem cRunner : Tryz.prog.cellsOf 79 = 4 := by kernel_rfl
theorem cRunners : Tryz.prog.cellsOf 65 = 1 := by kernel_rfl
theorem run_flat {H : Type} {enc : TypeId × Value → H} {w : World} {base : Nat} {spare : Nat → Bool} {held : Bool} {n : Nat} {cs : List Value} {x : DataW H × List MemPlace}
    (h : DataW.trod enc Tryz.prog w base spare held n 79 cs = some x) :
    ∃ q : Run, cs = [.string q.name, .string q.kind, .int .i64 q.value, .string q.reason] ∧ q.ok ∧ q.kind.size ≤ maxLen ∧ q.reason.size ≤ maxLen ∧ ∀ (w' : World) (sp : Nat → Bool), ∃ n', DataW.trod enc Tryz.prog w' base sp held n' 79 cs = some x := by
  obtain ⟨y0, y2, m, rfl, hl, h0, h2⟩ := trod_struct2 Tryz.underlying79 h
  obtain ⟨c0, c2, c3, c4, rfl⟩ := list4 (hl.trans cRunner)
  replace h0 : DataW.trod enc Tryz.prog w base spare held m 9 [c0] = some y0 := by
    have := h0
    simp only [cString] at this
    exact this
  replace h2 : DataW.trod enc Tryz.prog w base spare held m 77 [c2, c3, c4] = some y2 := by
    have := h2
    simp only [cMark] at this
    exact this
  obtain ⟨s, e0, rfl, z0⟩ := DataW.trod_string Tryz.underlying9 h0
  obtain ⟨k, r, v, e2, z2, z3, hm⟩ := mark_flat h2
  obtain rfl : c0 = .string s := by simpa using e0
  obtain ⟨rfl, rfl, rfl⟩ : c2 = .string k ∧ c3 = .int .i64 v ∧ c4 = .string r := by simpa using e2
  refine ⟨⟨s, k, v, r⟩, rfl, z0, z2, z3, fun w' sp => ?_⟩
  obtain ⟨n', hn'⟩ := hm w' sp
  have st : ∀ {t : ByteArray} (f : Nat), t.size ≤ maxLen → DataW.trod enc Tryz.prog w' base sp held (f + 1) 9 [.string t] = some (.lit (.string t.data.toList), []) := fun f hz => by
    simp [DataW.trod, Tryz.underlying9, hz]
  have hn2 := DataW.trod_le (Nat.le_succ n') hn'
  refine ⟨n' + 1 + 1, trod_struct2_mk Tryz.underlying79 hl ?_ ?_⟩
  · simp only [cString]
    exact st _ z0
  · simp only [cMark]
    exact hn2
/-- A slice of runners in one cell. -/
theorem runs_cells {H : Type} {enc : TypeId × Value → H} {W : World} {V : Value} {d : DataW H} {p : List MemPlace} {fuel : Nat}
    (hf : DataW.trod enc Tryz.prog W 0 (fun _ => true) true fuel 65 [V] = some (d, p)) :
    ∃ (A : Option Addr) (n cap : Nat) (L : List Run), V = .slice A n cap ∧ (n : Int) ≤ 9223372036854775807 ∧ Runs W W.heap.size A n L ∧ (∀ x ∈ L, x.ok ∧ x.kind.size ≤ maxLen ∧ x.reason.size ≤ maxLen) ∧
      ∀ (spare : Nat → Bool) (W' : World), (∀ q, q < W.heap.size → spare q = true) → Below W.heap.size W W' → ∃ n', DataW.trod enc Tryz.prog W' 0 spare true n' 65 [V] = some (d, p) := by
  rcases open_slice Tryz.underlying65 hf with ⟨e, ex⟩ | ⟨a, len0, cap0, m, n, D, Pl, e, _, hl, hm, hmm, ex, hx⟩
  · obtain rfl : V = .slice none 0 0 := by simpa using e
    obtain ⟨rfl, rfl⟩ := Prod.mk.inj ex
    refine ⟨none, 0, 0, [], rfl, by decide, ⟨rfl, Nat.le_refl _, fun h => absurd h (by decide)⟩, by simp, fun spare W' _ _ => ⟨1, ?_⟩⟩
    simp [DataW.trod, Tryz.underlying65]
  · obtain rfl : V = .slice (some a) len0 cap0 := by simpa using e
    obtain ⟨rfl, rfl⟩ := Prod.mk.inj ex
    replace hmm : m = cap0 := by simpa using hmm
    subst hmm
    obtain ⟨f, hF⟩ := choose_lt (α := Run) (p := fun i q => (q.ok ∧ q.kind.size ≤ maxLen ∧ q.reason.size ≤ maxLen) ∧ W.cells? 0 (a.add (i * Tryz.prog.cellsOf 79)) (Tryz.prog.cellsOf 79) = some [.string q.name, .string q.kind, .int .i64 q.value, .string q.reason] ∧
        ∀ (w' : World) (sp : Nat → Bool), ∃ n', DataW.trod enc Tryz.prog w' 0 sp true n' 79 [.string q.name, .string q.kind, .int .i64 q.value, .string q.reason] = some (D i, Pl i)) (fun i hi => by
      obtain ⟨cs', h1, h2⟩ := hx i hi
      obtain ⟨q, rfl, z0, z1, z2, hh⟩ := run_flat h2
      exact ⟨q, ⟨z0, z1, z2⟩, h1, hh⟩)
    have hcell : ∀ i, i < m → ∀ j, j < 4 → W.cell? (a.add (i * 4 + j)) = ([.string (f i).name, .string (f i).kind, .int .i64 (f i).value, .string (f i).reason] : List Value)[j]? := fun i hi j hj => by
      obtain ⟨_, hh, _⟩ := hF i hi
      rw [cRunner] at hh
      obtain ⟨_, _, hat⟩ := World.cells?_some hh
      rw [← add_add]
      exact hat j hj
    have hblk : 0 < m → a.spot = none ∧ a.block < W.heap.size := fun h0 => by
      have := hcell 0 h0 0 (by decide)
      exact cell_some (a := a) this
    refine ⟨some a, len0, m, (List.range len0).map f, rfl, by have : maxLen = 9223372036854775807 := rfl; omega, ⟨by simp, Nat.le_refl _, fun h0 => ?_⟩, ?_, fun spare W' hsp hb => ?_⟩
    · obtain ⟨hs, hlt⟩ := hblk (by omega)
      obtain ⟨b, off, sp⟩ := a
      obtain rfl : sp = none := hs
      refine ⟨b, off, rfl, hlt, fun i q hq => ?_⟩
      have hi : i < len0 := by
        have := (List.getElem?_eq_some_iff.1 hq).1
        simpa using this
      obtain rfl : f i = q := by simpa [hi] using hq
      have h0 := hcell i (by omega) 0 (by decide)
      have h1 := hcell i (by omega) 1 (by decide)
      have h2 := hcell i (by omega) 2 (by decide)
      have h3 := hcell i (by omega) 3 (by decide)
      rw [add_plain] at h0 h1 h2 h3
      exact ⟨h0, h1, h2, h3⟩
    · intro q hq
      obtain ⟨i, hi, rfl⟩ := List.mem_map.1 hq
      obtain ⟨z0, _⟩ := hF i (by have := List.mem_range.1 hi; omega)
      exact z0
    · have hel : ∀ i, i < m → ∃ cs n, W'.cells? 0 (a.add (i * Tryz.prog.cellsOf 79)) (Tryz.prog.cellsOf 79) = some cs ∧ DataW.trod enc Tryz.prog W' 0 spare true n 79 cs = some (D i, Pl i) := fun i hi => by
        obtain ⟨_, hh, ht⟩ := hF i hi
        obtain ⟨n', hn'⟩ := ht W' spare
        refine ⟨_, n', ?_, hn'⟩
        obtain ⟨hs, hlt⟩ := hblk (by omega)
        obtain ⟨_, hlen, hat⟩ := World.cells?_some hh
        refine World.cells?_of_each (Nat.zero_le _) hlen fun j hj => ?_
        rw [← hat j hj]
        refine hb.cell ?_
        rw [add_add]
        unfold Addr.add
        split
        · exact hlt
        · exact hlt
      cases hs : spare a.block with
      | true => exact shut_slice_whole Tryz.underlying65 (Nat.zero_le _) hl hm hs D Pl hel
      | false =>
        have h0 : m = 0 := by
          refine Classical.byContradiction fun hne => ?_
          have := hsp a.block (hblk (by omega)).2
          rw [hs] at this
          cases this
        subst h0
        obtain rfl : len0 = 0 := by omega
        have := shut_slice (enc := enc) (w := W') (base := 0) (spare := spare) (held := true) Tryz.underlying65 (Nat.zero_le a.block) hl hm hs D Pl (fun i hi => absurd hi (by omega))
        obtain ⟨n', hn'⟩ := this
        exact ⟨n', by simpa [Value.cells] using hn'⟩

theorem open_heats {H : Type} {enc : TypeId × Value → H} {W : World} {v : Value} {d : DataW H} {p : List MemPlace} {b : Nat}
    (hv : Value.okWide Tryz.prog W .any b 58 v) (h : DataW.Trod enc Tryz.prog W 0 (fun _ => true) true 58 v d p) :
    ∃ (A : Option Addr) (n cap : Nat) (LL : List (List Run)), v = .slice A n cap ∧ (n : Int) ≤ 9223372036854775807 ∧ RHeats W W.heap.size A n LL ∧ (∀ l ∈ LL, ∀ x ∈ l, x.ok ∧ x.kind.size ≤ maxLen ∧ x.reason.size ≤ maxLen) ∧
      ∀ (spare : Nat → Bool) (W' : World), (∀ q, q < W.heap.size → spare q = true) → Below W.heap.size W W' → DataW.Trod enc Tryz.prog W' 0 spare true 58 v d p := by
  obtain ⟨a0, len0, cap0, rfl⟩ := okWide_slice Tryz.underlying58 hv
  obtain ⟨fuel, hf⟩ := h
  replace hf : DataW.trod enc Tryz.prog W 0 (fun _ => true) true fuel 58 [.slice a0 len0 cap0] = some (d, p) := by simpa [Value.cells] using hf
  rcases open_slice1 Tryz.underlying58 cRunners hf with ⟨e, ex⟩ | ⟨a, len, cap, m, n, V, D, Pl, e, _, hl, hm, hmm, ex, hx⟩
  · obtain ⟨rfl, rfl, rfl⟩ : a0 = none ∧ len0 = 0 ∧ cap0 = 0 := by simpa using e
    obtain ⟨rfl, rfl⟩ := Prod.mk.inj ex
    refine ⟨none, 0, 0, [], rfl, by decide, ⟨rfl, Nat.le_refl _, fun h => absurd h (by decide)⟩, by simp, fun spare W' _ _ => ⟨1, ?_⟩⟩
    simp [DataW.trod, Value.cells, Tryz.underlying58]
  · obtain ⟨rfl, rfl, rfl⟩ : a0 = some a ∧ len0 = len ∧ cap0 = cap := by simpa using e
    obtain ⟨rfl, rfl⟩ := Prod.mk.inj ex
    replace hmm : m = cap0 := by simpa using hmm
    subst hmm
    obtain ⟨f, hF⟩ := choose_lt (α := Option Addr × Nat × List Run) (p := fun i q => V i = .slice q.1 q.2.2.length q.2.1 ∧ Runs W W.heap.size q.1 q.2.2.length q.2.2 ∧ (∀ x ∈ q.2.2, x.ok ∧ x.kind.size ≤ maxLen ∧ x.reason.size ≤ maxLen) ∧
        ∀ (spare : Nat → Bool) (W' : World), (∀ q, q < W.heap.size → spare q = true) → Below W.heap.size W W' → ∃ n', DataW.trod enc Tryz.prog W' 0 spare true n' 65 [V i] = some (D i, Pl i)) (fun i hi => by
      obtain ⟨_, h2⟩ := hx i hi
      obtain ⟨A, n', c', L, e1, _, hZ, hs, hh⟩ := runs_cells h2
      have hn := hZ.1
      subst hn
      exact ⟨(A, c', L), e1, hZ, hs, hh⟩)
    have hblk : 0 < m → a.spot = none ∧ a.block < W.heap.size := fun h0 => by
      have := (hx 0 h0).1
      exact cell_some (a := a) this
    refine ⟨some a, len0, m, (List.range len0).map fun i => (f i).2.2, rfl, by have : maxLen = 9223372036854775807 := rfl; omega, ⟨by simp, Nat.le_refl _, fun h0 => ?_⟩, ?_, fun spare W' hsp hb => ?_⟩
    · obtain ⟨hs, hlt⟩ := hblk (by omega)
      obtain ⟨b, off, sp⟩ := a
      obtain rfl : sp = none := hs
      refine ⟨b, off, rfl, hlt, fun i l hq => ?_⟩
      have hi : i < len0 := by
        have := (List.getElem?_eq_some_iff.1 hq).1
        simpa using this
      obtain rfl : (f i).2.2 = l := by simpa [hi] using hq
      obtain ⟨e1, hZ, _⟩ := hF i (by omega)
      have h0 := (hx i (by omega)).1
      rw [add_plain, e1] at h0
      exact ⟨(f i).1, (f i).2.1, h0, hZ⟩
    · intro l hl
      obtain ⟨i, hi, rfl⟩ := List.mem_map.1 hl
      exact (hF i (by have := List.mem_range.1 hi; omega)).2.2.1
    · have hcell : ∀ i, i < m → W'.cell? (a.add i) = some (V i) := fun i hi => by
        rw [← (hx i hi).1]
        exact hb.cell (by rw [block_add]; exact (hblk (by omega)).2)
      have hel : ∀ i, i < m → ∃ n', DataW.trod enc Tryz.prog W' 0 spare true n' 65 [V i] = some (D i, Pl i) := fun i hi => (hF i hi).2.2.2 spare W' hsp hb
      have hel2 : ∀ i, i < m → ∃ cs n, W'.cells? 0 (a.add (i * Tryz.prog.cellsOf 65)) (Tryz.prog.cellsOf 65) = some cs ∧ DataW.trod enc Tryz.prog W' 0 spare true n 65 cs = some (D i, Pl i) := fun i hi => by
        obtain ⟨n', hn'⟩ := hel i hi
        refine ⟨[V i], n', ?_, hn'⟩
        rw [cRunners, Nat.mul_one]
        refine World.cells?_of_each (Nat.zero_le _) rfl fun j hj => ?_
        have : j = 0 := by omega
        subst this
        have := hcell i hi
        simpa [Addr.add] using this
      cases hs : spare a.block with
      | true =>
        have := shut_slice_whole (enc := enc) (w := W') (base := 0) (spare := spare) (held := true) Tryz.underlying58 (Nat.zero_le a.block) hl hm hs D Pl hel2
        simpa [cRunners] using this
      | false =>
        have h0 : m = 0 := by
          refine Classical.byContradiction fun hne => ?_
          have := hsp a.block (hblk (by omega)).2
          rw [hs] at this
          cases this
        subst h0
        obtain rfl : len0 = 0 := by omega
        have := shut_slice (enc := enc) (w := W') (base := 0) (spare := spare) (held := true) Tryz.underlying58 (Nat.zero_le a.block) hl hm hs D Pl (fun i hi => absurd hi (by omega))
        simpa using this
end Go.Mk
end
