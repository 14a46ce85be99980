/-
  Proved: arguments of the types of the two competitions of chapter 6 opened to their texts and integers in their cells, and shut again in any later world that has kept the cells below. Nothing is assumed beyond that the argument reads.
-/
import Derived.Test.YtclapdfkgafenaaGreatDoorXa
import Derived.Deep.Slices
import Derived.Deep.Strs
import Derived.DataShut
import Derived.ChangeSlices
import Derived.Lib.SmallJoins
set_option linter.unusedVariables false
set_option linter.unusedSimpArgs false
open Go Go.Proofs Go.RowKit
set_option maxRecDepth 100000
namespace Go.Mk
open Go.ChangeShapes Go.WideShapes Go.Deep Go.Joins
theorem cIntX : Tryz.prog.cellsOf 3 = 1 := by kernel_rfl
theorem cStrX : Tryz.prog.cellsOf 9 = 1 := by kernel_rfl
theorem cell_someX {w : World} {a : Addr} {v : Value} (h : w.cell? a = some v) : a.spot = none ∧ a.block < w.heap.size := by
  unfold World.cell? at h
  split at h
  case h_1 c x y e =>
    split at h
    · cases h
    · rename_i hs
      exact ⟨by simpa using hs, (Array.getElem?_eq_some_iff.1 e).1⟩
  case h_2 => cases h
theorem strs_cells {H : Type} {enc : TypeId × Value → H} {W : World} {V : Value} {x : DataW H × List MemPlace} {fuel : Nat}
    (hf : DataW.trod enc Tryz.prog W 0 (fun _ => true) true fuel 46 [V] = some x) :
    ∃ (A : Option Addr) (n cap : Nat) (L : List ByteArray), V = .slice A n cap ∧ n ≤ cap ∧ (cap : Int) ≤ 9223372036854775807 ∧ TextsZ W A n L ∧
      ∀ (spare : Nat → Bool) (W' : World), (∀ q, q < W.heap.size → spare q = true) → Below W.heap.size W W' → ∃ n', DataW.trod enc Tryz.prog W' 0 spare true n' 46 [V] = some x := by
  have hmx : maxLen = 9223372036854775807 := rfl
  rcases open_strs Tryz.underlying46 Tryz.underlying9 cStrX hf with ⟨e, ex⟩ | ⟨a, len0, cap0, m, Sx, e, _, hl, hm, hmm, ex, hc⟩
  · obtain rfl : V = .slice none 0 0 := by simpa using e
    subst ex
    refine ⟨none, 0, 0, [], rfl, Nat.le_refl _, by decide, ⟨rfl, fun h => absurd h (by decide)⟩, fun spare W' _ _ => ⟨1, ?_⟩⟩
    simp [DataW.trod, Tryz.underlying46]
  · obtain rfl : V = .slice (some a) len0 cap0 := by simpa using e
    subst ex
    replace hmm : m = cap0 := by simpa using hmm
    subst hmm
    have hblk : 0 < m → a.spot = none ∧ a.block < W.heap.size := fun h0 => cell_someX (a := a) (hc 0 h0).1
    refine ⟨some a, len0, m, (List.range len0).map Sx, rfl, hl, by omega, ⟨by simp, fun h0 => ?_⟩, fun spare W' hsp hb => ?_⟩
    · obtain ⟨hs, hlt⟩ := hblk (by omega)
      obtain ⟨b, off, sp⟩ := a
      obtain rfl : sp = none := hs
      refine ⟨b, off, rfl, hlt, fun i z hq => ?_⟩
      have hi : i < len0 := by
        have := (List.getElem?_eq_some_iff.1 hq).1
        simpa using this
      obtain rfl : Sx i = z := by simpa [hi] using hq
      have := (hc i (by omega)).1
      rw [add_plain] at this
      exact this
    · by_cases h0 : 0 < m
      · obtain ⟨hs, hlt⟩ := hblk h0
        obtain ⟨b, off, sp⟩ := a
        obtain rfl : sp = none := hs
        exact shut_strs_whole Tryz.underlying46 Tryz.underlying9 cStrX (Nat.zero_le _) hl hm (hsp b hlt) Sx (fun i hi => by
          have := (hc i hi).1
          rw [add_plain] at this
          exact (hb.cell (p := ⟨b, off + i, none⟩) hlt).trans this) (fun i hi => (hc i hi).2)
      · have hm0 : m = 0 := by omega
        subst hm0
        obtain rfl : len0 = 0 := by omega
        have t2 : DataW.Trod enc Tryz.prog W' 0 spare true 46 (Value.slice (some a) 0 0) (DataW.slice [] []) (MemPlace.row a 0) := by
          cases hs : spare a.block with
          | true =>
            have := shut_slice_whole (enc := enc) (w := W') (base := 0) (spare := spare) (held := true) Tryz.underlying46 (Nat.zero_le a.block) hl hm hs (fun i => .lit (.string (Sx i).data.toList)) (fun _ => []) (fun i hi => absurd hi (by omega))
            simpa [cStrX] using this
          | false =>
            have := shut_slice (enc := enc) (w := W') (base := 0) (spare := spare) (held := true) Tryz.underlying46 (Nat.zero_le a.block) hl hm hs (fun i => .lit (.string (Sx i).data.toList)) (fun _ => []) (fun i hi => absurd hi (by omega))
            simpa using this
        obtain ⟨n', hn⟩ := t2
        exact ⟨n', by simpa [Value.cells] using hn⟩
theorem open_contest {H : Type} {enc : TypeId × Value → H} {W : World} {v : Value} {d : DataW H} {p : List MemPlace} {b0 : Nat}
    (hv : Value.okWide Tryz.prog W .any b0 48 v) (h : DataW.Trod enc Tryz.prog W 0 (fun _ => true) true 48 v d p) :
    ∃ (A : Option Addr) (n cap : Nat) (t f m : Int) (L : List ByteArray), v = .agg #[.slice A n cap, .int .i64 t, .int .i64 f, .int .i64 m] ∧ n ≤ cap ∧ (cap : Int) ≤ 9223372036854775807 ∧ TextsZ W A n L ∧
      ∀ (spare : Nat → Bool) (W' : World), (∀ q, q < W.heap.size → spare q = true) → Below W.heap.size W W' → DataW.Trod enc Tryz.prog W' 0 spare true 48 v d p := by
  obtain ⟨v0, v1, v2, v3, y0, y1, y2, y3, n0, rfl, rfl, rfl, t0, t1, t2, t3⟩ := open_agg4 Tryz.underlying48 (by kernel_rfl) (by kernel_rfl) hv h
  obtain ⟨a, e1, rfl, w1⟩ := DataW.trod_int Tryz.underlying3 t1
  obtain ⟨b, e2, rfl, w2⟩ := DataW.trod_int Tryz.underlying3 t2
  obtain ⟨c, e3, rfl, w3⟩ := DataW.trod_int Tryz.underlying3 t3
  obtain rfl : v1 = .int .i64 a := by simpa using e1
  obtain rfl : v2 = .int .i64 b := by simpa using e2
  obtain rfl : v3 = .int .i64 c := by simpa using e3
  obtain ⟨A, n, cap, L, rfl, h1, h2, h3, h4⟩ := strs_cells t0
  refine ⟨A, n, cap, a, b, c, L, rfl, h1, h2, h3, fun spare W' hsp hb => ?_⟩
  exact shut_agg4 Tryz.underlying48 (by kernel_rfl) (by kernel_rfl) (h4 spare W' hsp hb) (shut_int Tryz.underlying3 w1) (shut_int Tryz.underlying3 w2) (shut_int Tryz.underlying3 w3)
end Go.Mk
