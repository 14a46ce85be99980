/-
  Proved: arguments of the types of the two competitions of chapter 6 opened to their texts and integers in
  Proved: an argument []stadionref06.Row opened to its rows, and shut again in any later world that has kept
  Proved: an argument []stadionref06.Card opened to its cards, and shut again in any later world that has kept
-/
import Derived.Test.YthgkaojplomapaaGreatDoorXa
import Derived.Deep.Slices
import Derived.Deep.Strs
import Derived.DataShut
import Derived.ChangeSlices
import Derived.Lib.SmallJoins
import Derived.Test.YthgkaojplomapaaGreatDoorFrk
import Derived.ChangeMaps5
import Derived.Test.YthgkaojplomapaaGreatDoorFga
import Derived.Test.YthgkaojplomapaaGreatDoorFgm
set_option maxHeartbeats 32000000
set_option linter.unusedVariables false
set_option linter.unusedSimpArgs false
open Go Go.Proofs Go.RowKit
set_option maxRecDepth 100000
section
namespace Go.Mk
open Go.ChangeShapes Go.WideShapes Go.Deep Go.Joins
theorem cIntX : Tryz.prog.cellsOf 3 = 1 := by kernel_rfl
theorem cStrX : Tryz.prog.cellsOf 9 = 1 := by kernel_rfl
theorem cell_someX {w : World} {a : Addr} {v : Value} (h : w.cell? a = some v) : a.spot = none ∧ a.block < w.heap.size := by
 unfold World.cell? at h
 split at h
 case h_1 c x y e =>
  split at h
  ·cases h
  ·rename_i hs
   exact ⟨by simpa using hs, (Array.getElem?_eq_some_iff.1 e).1⟩
 case h_2 => cases h
theorem ints_cells {H : Type} {enc : TypeId × Value → H} {W : World} {V : Value} {x : DataW H × List MemPlace} {fuel : Nat}
  (hf : DataW.trod enc Tryz.prog W 0 (fun _ => true) true fuel 23 [V] = some x) :
  ∃ (A : Option Addr) (n cap : Nat) (L : List Int), V = .slice A n cap ∧ n ≤ cap ∧ (cap : Int) ≤ 9223372036854775807 ∧ IntsZ W A n L ∧
   ∀ (spare : Nat → Bool) (W' : World), (∀ q, q < W.heap.size → spare q = true) → Below W.heap.size W W' → ∃ n', DataW.trod enc Tryz.prog W' 0 spare true n' 23 [V] = some x := by
 have hmx : maxLen = 9223372036854775807 := rfl
 rcases open_ints Tryz.underlying23 Tryz.underlying3 cIntX hf with ⟨e, ex⟩ | ⟨a, len0, cap0, zs, e, _, hl, hm, hz, ex, hc, hw⟩
 ·obtain rfl : V = .slice none 0 0 := by simpa using e
  subst ex
  refine ⟨none, 0, 0, [], rfl, Nat.le_refl _, by decide, ⟨rfl, fun h => absurd h (by decide)⟩, fun spare W' _ _ => ⟨1, ?_⟩⟩
  simp [DataW.trod, Tryz.underlying23]
 ·obtain rfl : V = .slice (some a) len0 cap0 := by simpa using e
  subst ex
  replace hz : zs.length = cap0 := by simpa using hz
  have hblk : 0 < cap0 → a.spot = none ∧ a.block < W.heap.size := fun h0 => by
   have := hc 0 (by omega)
   exact cell_someX (a := a) this
  refine ⟨some a, len0, cap0, zs.take len0, rfl, hl, by omega, ⟨by simp; omega, fun h0 => ?_⟩, fun spare W' hsp hb => ?_⟩
  ·obtain ⟨hs, hlt⟩ := hblk (by omega)
   obtain ⟨b, off, sp⟩ := a
   obtain rfl : sp = none := hs
   refine ⟨b, off, rfl, hlt, fun i z hq => ?_⟩
   have hi : i < len0 := by
    have := (List.getElem?_eq_some_iff.1 hq).1
    simp at this
    omega
   have := hc i (by omega)
   rw [add_plain] at this
   rw [this]
   rw [List.getElem?_take_of_lt hi] at hq
   simp [List.getD, hq]
  ·have hcc : ∀ i, i < zs.length → W'.cell? (a.add i) = some (.int .i64 (zs.getD i 0)) := fun i hi => by
    rw [← hc i hi]
    exact hb.cell (by rw [block_add]; exact (hblk (by omega)).2)
   refine ⟨0 + 2, ?_⟩
   refine shut_ints 0 Tryz.underlying23 Tryz.underlying3 cIntX (Nat.zero_le _) hl hm ?_ hcc hw
   cases hs : spare a.block with
   | true => simpa using hz
   | false =>
    have h0 : cap0 = 0 := by
     refine Classical.byContradiction fun hne => ?_
     have := hsp a.block (hblk (by omega)).2
     rw [hs] at this
     cases this
    rw [hz]
    simp
    omega
theorem strs_cells {H : Type} {enc : TypeId × Value → H} {W : World} {V : Value} {x : DataW H × List MemPlace} {fuel : Nat}
  (hf : DataW.trod enc Tryz.prog W 0 (fun _ => true) true fuel 22 [V] = some x) :
  ∃ (A : Option Addr) (n cap : Nat) (L : List ByteArray), V = .slice A n cap ∧ n ≤ cap ∧ (cap : Int) ≤ 9223372036854775807 ∧ TextsZ W A n L ∧
   ∀ (spare : Nat → Bool) (W' : World), (∀ q, q < W.heap.size → spare q = true) → Below W.heap.size W W' → ∃ n', DataW.trod enc Tryz.prog W' 0 spare true n' 22 [V] = some x := by
 have hmx : maxLen = 9223372036854775807 := rfl
 rcases open_strs Tryz.underlying22 Tryz.underlying9 cStrX hf with ⟨e, ex⟩ | ⟨a, len0, cap0, m, Sx, e, _, hl, hm, hmm, ex, hc⟩
 ·obtain rfl : V = .slice none 0 0 := by simpa using e
  subst ex
  refine ⟨none, 0, 0, [], rfl, Nat.le_refl _, by decide, ⟨rfl, fun h => absurd h (by decide)⟩, fun spare W' _ _ => ⟨1, ?_⟩⟩
  simp [DataW.trod, Tryz.underlying22]
 ·obtain rfl : V = .slice (some a) len0 cap0 := by simpa using e
  subst ex
  replace hmm : m = cap0 := by simpa using hmm
  subst hmm
  have hblk : 0 < m → a.spot = none ∧ a.block < W.heap.size := fun h0 => cell_someX (a := a) (hc 0 h0).1
  refine ⟨some a, len0, m, (List.range len0).map Sx, rfl, hl, by omega, ⟨by simp, fun h0 => ?_⟩, fun spare W' hsp hb => ?_⟩
  ·obtain ⟨hs, hlt⟩ := hblk (by omega)
   obtain ⟨b, off, sp⟩ := a
   obtain rfl : sp = none := hs
   refine ⟨b, off, rfl, hlt, fun i z hq => ?_⟩
   have hi : i < len0 := by
    have := (List.getElem?_eq_some_iff.1 hq).1
    simpa using this
   obtain rfl : Sx i = z := by simpa [hi] using hq
   have := (hc i (by omega)).1
   rw [add_plain] at this
   exact this
  ·by_cases h0 : 0 < m
   ·obtain ⟨hs, hlt⟩ := hblk h0
    obtain ⟨b, off, sp⟩ := a
    obtain rfl : sp = none := hs
    exact shut_strs_whole Tryz.underlying22 Tryz.underlying9 cStrX (Nat.zero_le _) hl hm (hsp b hlt) Sx (fun i hi => by
     have := (hc i hi).1
     rw [add_plain] at this
     exact (hb.cell (p := ⟨b, off + i, none⟩) hlt).trans this) (fun i hi => (hc i hi).2)
   ·have hm0 : m = 0 := by omega
    subst hm0
    obtain rfl : len0 = 0 := by omega
    have t2 : DataW.Trod enc Tryz.prog W' 0 spare true 22 (Value.slice (some a) 0 0) (DataW.slice [] []) (MemPlace.row a 0) := by
     cases hs : spare a.block with
     | true =>
      have := shut_slice_whole (enc := enc) (w := W') (base := 0) (spare := spare) (held := true) Tryz.underlying22 (Nat.zero_le a.block) hl hm hs (fun i => .lit (.string (Sx i).data.toList)) (fun _ => []) (fun i hi => absurd hi (by omega))
      simpa [cStrX] using this
     | false =>
      have := shut_slice (enc := enc) (w := W') (base := 0) (spare := spare) (held := true) Tryz.underlying22 (Nat.zero_le a.block) hl hm hs (fun i => .lit (.string (Sx i).data.toList)) (fun _ => []) (fun i hi => absurd hi (by omega))
      simpa using this
    obtain ⟨n', hn⟩ := t2
    exact ⟨n', by simpa [Value.cells] using hn⟩
theorem open_vertical {H : Type} {enc : TypeId × Value → H} {W : World} {v : Value} {d : DataW H} {p : List MemPlace} {b0 : Nat}
  (hv : Value.okWide Tryz.prog W .any b0 25 v) (h : DataW.Trod enc Tryz.prog W 0 (fun _ => true) true 25 v d p) :
  ∃ (A : Option Addr) (n cap : Nat) (L : List ByteArray) (B : Option Addr) (m cH : Nat) (G : List Int) (s : Int), v = .agg #[.slice A n cap, .slice B m cH, .int .i64 s] ∧ (n ≤ cap ∧ (cap : Int) ≤ 9223372036854775807 ∧ TextsZ W A n L) ∧ (m ≤ cH ∧ (cH : Int) ≤ 9223372036854775807 ∧ IntsZ W B m G) ∧
   ∀ (spare : Nat → Bool) (W' : World), (∀ q, q < W.heap.size → spare q = true) → Below W.heap.size W W' → DataW.Trod enc Tryz.prog W' 0 spare true 25 v d p := by
 obtain ⟨v0, v1, v2, y0, y1, y2, n0, rfl, rfl, rfl, t0, t1, t2⟩ := open_agg3 Tryz.underlying25 (by kernel_rfl) (by kernel_rfl) hv h
 obtain ⟨b, e2, rfl, w2⟩ := DataW.trod_int Tryz.underlying3 t2
 obtain rfl : v2 = .int .i64 b := by simpa using e2
 obtain ⟨A, n, cap, L, rfl, h1, h2, h3, h4⟩ := strs_cells t0
 obtain ⟨B, m, cH, G, rfl, g1, g2, g3, g4⟩ := ints_cells t1
 refine ⟨A, n, cap, L, B, m, cH, G, b, rfl, ⟨h1, h2, h3⟩, ⟨g1, g2, g3⟩, fun spare W' hsp hb => ?_⟩
 exact shut_agg3 Tryz.underlying25 (by kernel_rfl) (by kernel_rfl) (h4 spare W' hsp hb) (g4 spare W' hsp hb) (shut_int Tryz.underlying3 w2)
end Go.Mk
end
section
namespace Go.Mk
open Go.ChangeShapes Go.WideShapes Go.Deep Go.Joins
instance : Inhabited RowR := ⟨⟨⟨#[]⟩, none, 0, 0, [], false⟩⟩
theorem cBoolN : Tryz.prog.cellsOf 4 = 1 := by kernel_rfl
end Go.Mk
end
section
namespace Go.Mk
open Go.ChangeShapes Go.WideShapes Go.Deep Go.Joins
instance : Inhabited CardR := ⟨⟨⟨#[]⟩, none, 0, 0, [], none, 0, 0, [], false⟩⟩
theorem list4N {α : Type} {l : List α} (h : l.length = 4) : ∃ a b c d, l = [a, b, c, d] := by
 match l, h with
 | [a, b, c, d], _ => exact ⟨a, b, c, d, rfl⟩
theorem cCardN : Tryz.prog.cellsOf 66 = 4 := by kernel_rfl
theorem cStrsN : Tryz.prog.cellsOf 22 = 1 := by kernel_rfl
theorem strs_cellsN {H : Type} {enc : TypeId × Value → H} {W : World} {V : Value} {x : DataW H × List MemPlace} {fuel : Nat}
  (hf : DataW.trod enc Tryz.prog W 0 (fun _ => true) true fuel 22 [V] = some x) :
  ∃ (A : Option Addr) (n cap : Nat) (L : List ByteArray), V = .slice A n cap ∧ n ≤ cap ∧ (cap : Int) ≤ 9223372036854775807 ∧ TextsZ W A n L ∧ (A = none → cap = 0) ∧
   ∀ (spare : Nat → Bool) (W' : World), (∀ q, q < W.heap.size → spare q = true) → Below W.heap.size W W' → ∃ n', DataW.trod enc Tryz.prog W' 0 spare true n' 22 [V] = some x := by
 have hmx : maxLen = 9223372036854775807 := rfl
 rcases open_strs Tryz.underlying22 Tryz.underlying9 cStrX hf with ⟨e, ex⟩ | ⟨a, len0, cap0, m, Sx, e, _, hl, hm, hmm, ex, hc⟩
 ·obtain rfl : V = .slice none 0 0 := by simpa using e
  subst ex
  refine ⟨none, 0, 0, [], rfl, Nat.le_refl _, by decide, ⟨rfl, fun h => absurd h (by decide)⟩, fun _ => rfl, fun spare W' _ _ => ⟨1, ?_⟩⟩
  simp [DataW.trod, Tryz.underlying22]
 ·obtain rfl : V = .slice (some a) len0 cap0 := by simpa using e
  subst ex
  replace hmm : m = cap0 := by simpa using hmm
  subst hmm
  have hblk : 0 < m → a.spot = none ∧ a.block < W.heap.size := fun h0 => cell_someX (a := a) (hc 0 h0).1
  refine ⟨some a, len0, m, (List.range len0).map Sx, rfl, hl, by omega, ⟨by simp, fun h0 => ?_⟩, fun h => (by cases h), fun spare W' hsp hb => ?_⟩
  ·obtain ⟨hs, hlt⟩ := hblk (by omega)
   obtain ⟨b, off, sp⟩ := a
   obtain rfl : sp = none := hs
   refine ⟨b, off, rfl, hlt, fun i z hq => ?_⟩
   have hi : i < len0 := by
    have := (List.getElem?_eq_some_iff.1 hq).1
    simpa using this
   obtain rfl : Sx i = z := by simpa [hi] using hq
   have := (hc i (by omega)).1
   rw [add_plain] at this
   exact this
  ·by_cases h0 : 0 < m
   ·obtain ⟨hs, hlt⟩ := hblk h0
    obtain ⟨b, off, sp⟩ := a
    obtain rfl : sp = none := hs
    exact shut_strs_whole Tryz.underlying22 Tryz.underlying9 cStrX (Nat.zero_le _) hl hm (hsp b hlt) Sx (fun i hi => by
     have := (hc i hi).1
     rw [add_plain] at this
     exact (hb.cell (p := ⟨b, off + i, none⟩) hlt).trans this) (fun i hi => (hc i hi).2)
   ·have hm0 : m = 0 := by omega
    subst hm0
    obtain rfl : len0 = 0 := by omega
    have t2 : DataW.Trod enc Tryz.prog W' 0 spare true 22 (Value.slice (some a) 0 0) (DataW.slice [] []) (MemPlace.row a 0) := by
     cases hs : spare a.block with
     | true =>
      have := shut_slice_whole (enc := enc) (w := W') (base := 0) (spare := spare) (held := true) Tryz.underlying22 (Nat.zero_le a.block) hl hm hs (fun i => .lit (.string (Sx i).data.toList)) (fun _ => []) (fun i hi => absurd hi (by omega))
      simpa [cStrX] using this
     | false =>
      have := shut_slice (enc := enc) (w := W') (base := 0) (spare := spare) (held := true) Tryz.underlying22 (Nat.zero_le a.block) hl hm hs (fun i => .lit (.string (Sx i).data.toList)) (fun _ => []) (fun i hi => absurd hi (by omega))
      simpa using this
    obtain ⟨n', hn⟩ := t2
    exact ⟨n', by simpa [Value.cells] using hn⟩
theorem card_flat {H : Type} {enc : TypeId × Value → H} {w : World} {n : Nat} {cs : List Value} {x : DataW H × List MemPlace}
  (h : DataW.trod enc Tryz.prog w 0 (fun _ => true) true n 66 cs = some x) :
  ∃ r : CardR, cs = r.cells ∧ (r.s.size ≤ maxLen ∧ (r.nh ≤ r.ch ∧ (r.ch : Int) ≤ 9223372036854775807 ∧ TextsZ w r.AH r.nh r.H ∧ (r.AH = none → r.ch = 0)) ∧ (r.no ≤ r.co ∧ (r.co : Int) ≤ 9223372036854775807 ∧ TextsZ w r.AO r.no r.O ∧ (r.AO = none → r.co = 0))) ∧ ∀ (spare : Nat → Bool) (w' : World), (∀ q, q < w.heap.size → spare q = true) → Below w.heap.size w w' → ∃ n', DataW.trod enc Tryz.prog w' 0 spare true n' 66 cs = some x := by
 obtain ⟨y0, y1, y2, y3, m, rfl, hl, h0, h1, h2, h3⟩ := trod_struct4 Tryz.underlying66 h
 obtain ⟨c0, c1, c2, c3, rfl⟩ := list4N (hl.trans cCardN)
 replace h0 : DataW.trod enc Tryz.prog w 0 (fun _ => true) true m 9 [c0] = some y0 := by
  have := h0
  simp only [cStrX] at this
  exact this
 replace h1 : DataW.trod enc Tryz.prog w 0 (fun _ => true) true m 22 [c1] = some y1 := by
  have := h1
  simp only [cStrsN, cStrX] at this
  exact this
 replace h2 : DataW.trod enc Tryz.prog w 0 (fun _ => true) true m 22 [c2] = some y2 := by
  have := h2
  simp only [cStrsN, cStrX] at this
  exact this
 replace h3 : DataW.trod enc Tryz.prog w 0 (fun _ => true) true m 4 [c3] = some y3 := by
  have := h3
  simp only [cBoolN, cStrsN, cStrX] at this
  exact this
 obtain ⟨s, e0, rfl, z0⟩ := DataW.trod_string Tryz.underlying9 h0
 obtain ⟨A, k, cap, T, rfl, g1, g2, g3, g4, g5⟩ := strs_cellsN h1
 obtain ⟨B, k2, cap2, T2, rfl, f1, f2, f3, f4, f5⟩ := strs_cellsN h2
 obtain ⟨b, e2, rfl⟩ := DataW.trod_bool Tryz.underlying4 h3
 obtain rfl : c0 = .string s := by simpa using e0
 obtain rfl : c3 = .bool b := by simpa using e2
 refine ⟨⟨s, A, k, cap, T, B, k2, cap2, T2, b⟩, rfl, ⟨z0, ⟨g1, g2, g3, g4⟩, ⟨f1, f2, f3, f4⟩⟩, fun spare w' hsp hb => ?_⟩
 obtain ⟨n1, hn1⟩ := g5 spare w' hsp hb
 obtain ⟨n2, hn2⟩ := f5 spare w' hsp hb
 have hm1 := DataW.trod_le (show n1 ≤ n1 + n2 + 1 by omega) hn1
 have hm2 := DataW.trod_le (show n2 ≤ n1 + n2 + 1 by omega) hn2
 refine ⟨n1 + n2 + 1 + 1, trod_struct4_mk Tryz.underlying66 hl ?_ ?_ ?_ ?_⟩
 ·simp only [cStrX]
  simp [DataW.trod, Tryz.underlying9, z0]
 ·simp only [cStrX, cStrsN]
  exact hm1
 ·simp only [cStrX, cStrsN]
  exact hm2
 ·simp only [cStrX, cStrsN, cBoolN]
  simp [DataW.trod, Tryz.underlying4]
theorem open_cards {H : Type} {enc : TypeId × Value → H} {W : World} {v : Value} {d : DataW H} {p : List MemPlace} {b : Nat}
  (hv : Value.okWide Tryz.prog W .any b 26 v) (h : DataW.Trod enc Tryz.prog W 0 (fun _ => true) true 26 v d p) :
  ∃ (A : Option Addr) (n cap : Nat) (L : List CardR), v = .slice A n cap ∧ (n : Int) ≤ 9223372036854775807 ∧ Cards W A n L ∧ (∀ r ∈ L, CardI r) ∧
   ∀ (spare : Nat → Bool) (W' : World), (∀ q, q < W.heap.size → spare q = true) → Below W.heap.size W W' → DataW.Trod enc Tryz.prog W' 0 spare true 26 v d p := by
 obtain ⟨a0, len0, cap0, rfl⟩ := okWide_slice Tryz.underlying26 hv
 obtain ⟨fuel, hf⟩ := h
 replace hf : DataW.trod enc Tryz.prog W 0 (fun _ => true) true fuel 26 [.slice a0 len0 cap0] = some (d, p) := by simpa [Value.cells] using hf
 rcases open_slice Tryz.underlying26 hf with ⟨e, ex⟩ | ⟨a, len, cap, m, n, D, Pl, e, _, hl, hm, hmm, ex, hx⟩
 ·obtain ⟨rfl, rfl, rfl⟩ : a0 = none ∧ len0 = 0 ∧ cap0 = 0 := by simpa using e
  obtain ⟨rfl, rfl⟩ := Prod.mk.inj ex
  refine ⟨none, 0, 0, [], rfl, by decide, ⟨rfl, fun h => absurd h (by decide)⟩, by simp, fun spare W' _ _ => ⟨1, ?_⟩⟩
  simp [DataW.trod, Value.cells, Tryz.underlying26]
 ·obtain ⟨rfl, rfl, rfl⟩ : a0 = some a ∧ len0 = len ∧ cap0 = cap := by simpa using e
  obtain ⟨rfl, rfl⟩ := Prod.mk.inj ex
  replace hmm : m = cap0 := by simpa using hmm
  subst hmm
  obtain ⟨f, hF⟩ := choose_lt (α := CardR) (p := fun i q => (q.s.size ≤ maxLen ∧ (q.nh ≤ q.ch ∧ (q.ch : Int) ≤ 9223372036854775807 ∧ TextsZ W q.AH q.nh q.H ∧ (q.AH = none → q.ch = 0)) ∧ (q.no ≤ q.co ∧ (q.co : Int) ≤ 9223372036854775807 ∧ TextsZ W q.AO q.no q.O ∧ (q.AO = none → q.co = 0))) ∧ W.cells? 0 (a.add (i * Tryz.prog.cellsOf 66)) (Tryz.prog.cellsOf 66) = some (q.cells) ∧
    ∀ (spare : Nat → Bool) (w' : World), (∀ q, q < W.heap.size → spare q = true) → Below W.heap.size W w' → ∃ n', DataW.trod enc Tryz.prog w' 0 spare true n' 66 (q.cells) = some (D i, Pl i)) (fun i hi => by
   obtain ⟨cs', h1, h2⟩ := hx i hi
   obtain ⟨a, rfl, z0, hh⟩ := card_flat h2
   exact ⟨a, z0, h1, hh⟩)
  have hcell : ∀ i, i < m → ∀ j, j < 4 → W.cell? (a.add (i * 4 + j)) = ((f i).cells)[j]? := fun i hi j hj => by
   obtain ⟨_, hh, _⟩ := hF i hi
   rw [cCardN] at hh
   obtain ⟨_, _, hat⟩ := World.cells?_some hh
   rw [← add_add]
   exact hat j hj
  have hblk : 0 < m → a.spot = none ∧ a.block < W.heap.size := fun h0 => by
   have := hcell 0 h0 0 (by decide)
   exact cell_someX (a := a) this
  refine ⟨some a, len0, m, (List.range len0).map f, rfl, by have : maxLen = 9223372036854775807 := rfl; omega, ⟨by simp, fun h0 => ?_⟩, ?_, fun spare W' hsp hb => ?_⟩
  ·obtain ⟨hs, hlt⟩ := hblk (by omega)
   obtain ⟨b, off, sp⟩ := a
   obtain rfl : sp = none := hs
   refine ⟨b, off, rfl, hlt, fun i q hq => ?_⟩
   have hi : i < len0 := by
    have := (List.getElem?_eq_some_iff.1 hq).1
    simpa using this
   obtain rfl : f i = q := by simpa [hi] using hq
   have h0 := hcell i (by omega) 0 (by decide)
   have h1 := hcell i (by omega) 1 (by decide)
   have h2 := hcell i (by omega) 2 (by decide)
   have h3 := hcell i (by omega) 3 (by decide)
   rw [add_plain] at h0 h1 h2 h3
   obtain ⟨⟨_, ⟨q1, _, q2, _⟩, ⟨q3, _, q4, _⟩⟩, _⟩ := hF i (by omega)
   exact ⟨⟨h0, h1, h2, h3⟩, q2, q1, q4, q3⟩
  ·intro q hq
   obtain ⟨i, hi, rfl⟩ := List.mem_map.1 hq
   obtain ⟨⟨z0, ⟨z1, z2, _, z4⟩, ⟨y1, y2, _, y4⟩⟩, _⟩ := hF i (by have := List.mem_range.1 hi; omega)
   exact ⟨z0, by omega, by omega, z4, y4⟩
  ·have hel : ∀ i, i < m → ∃ cs n, W'.cells? 0 (a.add (i * Tryz.prog.cellsOf 66)) (Tryz.prog.cellsOf 66) = some cs ∧ DataW.trod enc Tryz.prog W' 0 spare true n 66 cs = some (D i, Pl i) := fun i hi => by
    obtain ⟨_, hh, ht⟩ := hF i hi
    obtain ⟨n', hn'⟩ := ht spare W' hsp hb
    refine ⟨_, n', ?_, hn'⟩
    obtain ⟨hs, hlt⟩ := hblk (by omega)
    obtain ⟨_, hlen, hat⟩ := World.cells?_some hh
    refine World.cells?_of_each (Nat.zero_le _) hlen fun j hj => ?_
    rw [← hat j hj]
    refine hb.cell ?_
    rw [add_add]
    unfold Addr.add
    split
    ·exact hlt
    ·exact hlt
   cases hs : spare a.block with
   | true => exact shut_slice_whole Tryz.underlying26 (Nat.zero_le _) hl hm hs D Pl hel
   | false =>
    have h0 : m = 0 := by
     refine Classical.byContradiction fun hne => ?_
     have := hsp a.block (hblk (by omega)).2
     rw [hs] at this
     cases this
    subst h0
    obtain rfl : len0 = 0 := by omega
    have := shut_slice (enc := enc) (w := W') (base := 0) (spare := spare) (held := true) Tryz.underlying26 (Nat.zero_le a.block) hl hm hs D Pl (fun i hi => absurd hi (by omega))
    simpa using this

end Go.Mk
end
