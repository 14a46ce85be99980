/-
  Proved: an argument []stadionref06.Row opened to its rows, and shut again in any later world that has kept the cells below. Nothing is assumed beyond that the argument reads.
-/
import Derived.Test.YthgkaojplomapaaGreatDoorFrk
import Derived.Test.YthgkaojplomapaaGreatDoorFs
import Derived.ChangeMaps5
set_option linter.unusedVariables false
set_option linter.unusedSimpArgs false
open Go Go.Proofs Go.RowKit
set_option maxRecDepth 100000
namespace Go.Mk
open Go.ChangeShapes Go.WideShapes Go.Deep Go.Joins
instance : Inhabited RowR := ⟨⟨⟨#[]⟩, none, 0, 0, [], false⟩⟩
theorem list3N {α : Type} {l : List α} (h : l.length = 3) : ∃ a b c, l = [a, b, c] := by
  match l, h with
  | [a, b, c], _ => exact ⟨a, b, c, rfl⟩
theorem cRowN : Tryz.prog.cellsOf 57 = 3 := by kernel_rfl
theorem cIntsN : Tryz.prog.cellsOf 23 = 1 := by kernel_rfl
theorem cBoolN : Tryz.prog.cellsOf 4 = 1 := by kernel_rfl
theorem ints_cellsN {H : Type} {enc : TypeId × Value → H} {W : World} {V : Value} {x : DataW H × List MemPlace} {fuel : Nat}
    (hf : DataW.trod enc Tryz.prog W 0 (fun _ => true) true fuel 23 [V] = some x) :
    ∃ (A : Option Addr) (n cap : Nat) (L : List Int), V = .slice A n cap ∧ n ≤ cap ∧ (cap : Int) ≤ 9223372036854775807 ∧ IntsZ W A n L ∧ (A = none → cap = 0) ∧
      ∀ (spare : Nat → Bool) (W' : World), (∀ q, q < W.heap.size → spare q = true) → Below W.heap.size W W' → ∃ n', DataW.trod enc Tryz.prog W' 0 spare true n' 23 [V] = some x := by
  have hmx : maxLen = 9223372036854775807 := rfl
  rcases open_ints Tryz.underlying23 Tryz.underlying3 cIntX hf with ⟨e, ex⟩ | ⟨a, len0, cap0, zs, e, _, hl, hm, hz, ex, hc, hw⟩
  · obtain rfl : V = .slice none 0 0 := by simpa using e
    subst ex
    refine ⟨none, 0, 0, [], rfl, Nat.le_refl _, by decide, ⟨rfl, fun h => absurd h (by decide)⟩, fun _ => rfl, fun spare W' _ _ => ⟨1, ?_⟩⟩
    simp [DataW.trod, Tryz.underlying23]
  · obtain rfl : V = .slice (some a) len0 cap0 := by simpa using e
    subst ex
    replace hz : zs.length = cap0 := by simpa using hz
    have hblk : 0 < cap0 → a.spot = none ∧ a.block < W.heap.size := fun h0 => by
      have := hc 0 (by omega)
      exact cell_someX (a := a) this
    refine ⟨some a, len0, cap0, zs.take len0, rfl, hl, by omega, ⟨by simp; omega, fun h0 => ?_⟩, fun h => (by cases h), fun spare W' hsp hb => ?_⟩
    · obtain ⟨hs, hlt⟩ := hblk (by omega)
      obtain ⟨b, off, sp⟩ := a
      obtain rfl : sp = none := hs
      refine ⟨b, off, rfl, hlt, fun i z hq => ?_⟩
      have hi : i < len0 := by
        have := (List.getElem?_eq_some_iff.1 hq).1
        simp at this
        omega
      have := hc i (by omega)
      rw [add_plain] at this
      rw [this]
      rw [List.getElem?_take_of_lt hi] at hq
      simp [List.getD, hq]
    · have hcc : ∀ i, i < zs.length → W'.cell? (a.add i) = some (.int .i64 (zs.getD i 0)) := fun i hi => by
        rw [← hc i hi]
        exact hb.cell (by rw [block_add]; exact (hblk (by omega)).2)
      refine ⟨0 + 2, ?_⟩
      refine shut_ints 0 Tryz.underlying23 Tryz.underlying3 cIntX (Nat.zero_le _) hl hm ?_ hcc hw
      cases hs : spare a.block with
      | true => simpa using hz
      | false =>
        have h0 : cap0 = 0 := by
          refine Classical.byContradiction fun hne => ?_
          have := hsp a.block (hblk (by omega)).2
          rw [hs] at this
          cases this
        rw [hz]
        simp
        omega
theorem row_flat {H : Type} {enc : TypeId × Value → H} {w : World} {n : Nat} {cs : List Value} {x : DataW H × List MemPlace}
    (h : DataW.trod enc Tryz.prog w 0 (fun _ => true) true n 57 cs = some x) :
    ∃ r : RowR, cs = rowC r ∧ (r.s.size ≤ maxLen ∧ r.n ≤ r.c ∧ (r.c : Int) ≤ 9223372036854775807 ∧ IntsZ w r.A r.n r.T ∧ (r.A = none → r.c = 0)) ∧ ∀ (spare : Nat → Bool) (w' : World), (∀ q, q < w.heap.size → spare q = true) → Below w.heap.size w w' → ∃ n', DataW.trod enc Tryz.prog w' 0 spare true n' 57 cs = some x := by
  obtain ⟨y0, y1, y2, m, rfl, hl, h0, h1, h2⟩ := trod_struct3 Tryz.underlying57 h
  obtain ⟨c0, c1, c2, rfl⟩ := list3N (hl.trans cRowN)
  replace h0 : DataW.trod enc Tryz.prog w 0 (fun _ => true) true m 9 [c0] = some y0 := by
    have := h0
    simp only [cStrX] at this
    exact this
  replace h1 : DataW.trod enc Tryz.prog w 0 (fun _ => true) true m 23 [c1] = some y1 := by
    have := h1
    simp only [cIntsN, cStrX] at this
    exact this
  replace h2 : DataW.trod enc Tryz.prog w 0 (fun _ => true) true m 4 [c2] = some y2 := by
    have := h2
    simp only [cBoolN, cIntsN, cStrX] at this
    exact this
  obtain ⟨s, e0, rfl, z0⟩ := DataW.trod_string Tryz.underlying9 h0
  obtain ⟨A, k, cap, T, rfl, g1, g2, g3, g4, g5⟩ := ints_cellsN h1
  obtain ⟨b, e2, rfl⟩ := DataW.trod_bool Tryz.underlying4 h2
  obtain rfl : c0 = .string s := by simpa using e0
  obtain rfl : c2 = .bool b := by simpa using e2
  refine ⟨⟨s, A, k, cap, T, b⟩, rfl, ⟨z0, g1, g2, g3, g4⟩, fun spare w' hsp hb => ?_⟩
  obtain ⟨n', hn'⟩ := g5 spare w' hsp hb
  have hn2 := DataW.trod_le (Nat.le_succ n') hn'
  refine ⟨n' + 1 + 1, trod_struct3_mk Tryz.underlying57 hl ?_ ?_ ?_⟩
  · simp only [cStrX]
    simp [DataW.trod, Tryz.underlying9, z0]
  · simp only [cStrX, cIntsN]
    exact hn2
  · simp only [cStrX, cIntsN, cBoolN]
    simp [DataW.trod, Tryz.underlying4]
theorem open_rows {H : Type} {enc : TypeId × Value → H} {W : World} {v : Value} {d : DataW H} {p : List MemPlace} {b : Nat}
    (hv : Value.okWide Tryz.prog W .any b 49 v) (h : DataW.Trod enc Tryz.prog W 0 (fun _ => true) true 49 v d p) :
    ∃ (A : Option Addr) (n cap : Nat) (L : List RowR), v = .slice A n cap ∧ (n : Int) ≤ 9223372036854775807 ∧ Rows W A n L ∧ (∀ r ∈ L, r.s.size ≤ maxLen ∧ (r.n : Int) ≤ 9223372036854775807 ∧ (r.A = none → r.c = 0) ∧ r.T.length = r.n) ∧
      ∀ (spare : Nat → Bool) (W' : World), (∀ q, q < W.heap.size → spare q = true) → Below W.heap.size W W' → DataW.Trod enc Tryz.prog W' 0 spare true 49 v d p := by
  obtain ⟨a0, len0, cap0, rfl⟩ := okWide_slice Tryz.underlying49 hv
  obtain ⟨fuel, hf⟩ := h
  replace hf : DataW.trod enc Tryz.prog W 0 (fun _ => true) true fuel 49 [.slice a0 len0 cap0] = some (d, p) := by simpa [Value.cells] using hf
  rcases open_slice Tryz.underlying49 hf with ⟨e, ex⟩ | ⟨a, len, cap, m, n, D, Pl, e, _, hl, hm, hmm, ex, hx⟩
  · obtain ⟨rfl, rfl, rfl⟩ : a0 = none ∧ len0 = 0 ∧ cap0 = 0 := by simpa using e
    obtain ⟨rfl, rfl⟩ := Prod.mk.inj ex
    refine ⟨none, 0, 0, [], rfl, by decide, ⟨rfl, fun h => absurd h (by decide)⟩, by simp, fun spare W' _ _ => ⟨1, ?_⟩⟩
    simp [DataW.trod, Value.cells, Tryz.underlying49]
  · obtain ⟨rfl, rfl, rfl⟩ : a0 = some a ∧ len0 = len ∧ cap0 = cap := by simpa using e
    obtain ⟨rfl, rfl⟩ := Prod.mk.inj ex
    replace hmm : m = cap0 := by simpa using hmm
    subst hmm
    obtain ⟨f, hF⟩ := choose_lt (α := RowR) (p := fun i q => (q.s.size ≤ maxLen ∧ q.n ≤ q.c ∧ (q.c : Int) ≤ 9223372036854775807 ∧ IntsZ W q.A q.n q.T ∧ (q.A = none → q.c = 0)) ∧ W.cells? 0 (a.add (i * Tryz.prog.cellsOf 57)) (Tryz.prog.cellsOf 57) = some (rowC q) ∧
        ∀ (spare : Nat → Bool) (w' : World), (∀ q, q < W.heap.size → spare q = true) → Below W.heap.size W w' → ∃ n', DataW.trod enc Tryz.prog w' 0 spare true n' 57 (rowC q) = some (D i, Pl i)) (fun i hi => by
      obtain ⟨cs', h1, h2⟩ := hx i hi
      obtain ⟨a, rfl, z0, hh⟩ := row_flat h2
      exact ⟨a, z0, h1, hh⟩)
    have hcell : ∀ i, i < m → ∀ j, j < 3 → W.cell? (a.add (i * 3 + j)) = (rowC (f i))[j]? := fun i hi j hj => by
      obtain ⟨_, hh, _⟩ := hF i hi
      rw [cRowN] at hh
      obtain ⟨_, _, hat⟩ := World.cells?_some hh
      rw [← add_add]
      exact hat j hj
    have hblk : 0 < m → a.spot = none ∧ a.block < W.heap.size := fun h0 => by
      have := hcell 0 h0 0 (by decide)
      exact cell_someX (a := a) this
    refine ⟨some a, len0, m, (List.range len0).map f, rfl, by have : maxLen = 9223372036854775807 := rfl; omega, ⟨by simp, fun h0 => ?_⟩, ?_, fun spare W' hsp hb => ?_⟩
    · obtain ⟨hs, hlt⟩ := hblk (by omega)
      obtain ⟨b, off, sp⟩ := a
      obtain rfl : sp = none := hs
      refine ⟨b, off, rfl, hlt, fun i q hq => ?_⟩
      have hi : i < len0 := by
        have := (List.getElem?_eq_some_iff.1 hq).1
        simpa using this
      obtain rfl : f i = q := by simpa [hi] using hq
      have h0 := hcell i (by omega) 0 (by decide)
      have h1 := hcell i (by omega) 1 (by decide)
      have h2 := hcell i (by omega) 2 (by decide)
      rw [add_plain] at h0 h1 h2
      obtain ⟨⟨_, q1, _, q2, _⟩, _⟩ := hF i (by omega)
      exact ⟨h0, h1, h2, q2, q1⟩
    · intro q hq
      obtain ⟨i, hi, rfl⟩ := List.mem_map.1 hq
      obtain ⟨⟨z0, z1, z2, z3, z4⟩, _⟩ := hF i (by have := List.mem_range.1 hi; omega)
      exact ⟨z0, by omega, z4, z3.1⟩
    · have hel : ∀ i, i < m → ∃ cs n, W'.cells? 0 (a.add (i * Tryz.prog.cellsOf 57)) (Tryz.prog.cellsOf 57) = some cs ∧ DataW.trod enc Tryz.prog W' 0 spare true n 57 cs = some (D i, Pl i) := fun i hi => by
        obtain ⟨_, hh, ht⟩ := hF i hi
        obtain ⟨n', hn'⟩ := ht spare W' hsp hb
        refine ⟨_, n', ?_, hn'⟩
        obtain ⟨hs, hlt⟩ := hblk (by omega)
        obtain ⟨_, hlen, hat⟩ := World.cells?_some hh
        refine World.cells?_of_each (Nat.zero_le _) hlen fun j hj => ?_
        rw [← hat j hj]
        refine hb.cell ?_
        rw [add_add]
        unfold Addr.add
        split
        · exact hlt
        · exact hlt
      cases hs : spare a.block with
      | true => exact shut_slice_whole Tryz.underlying49 (Nat.zero_le _) hl hm hs D Pl hel
      | false =>
        have h0 : m = 0 := by
          refine Classical.byContradiction fun hne => ?_
          have := hsp a.block (hblk (by omega)).2
          rw [hs] at this
          cases this
        subst h0
        obtain rfl : len0 = 0 := by omega
        have := shut_slice (enc := enc) (w := W') (base := 0) (spare := spare) (held := true) Tryz.underlying49 (Nat.zero_le a.block) hl hm hs D Pl (fun i hi => absurd hi (by omega))
        simpa using this

end Go.Mk
