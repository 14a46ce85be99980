/-
  Proved: package track's zones of a relay with its error, its fraction of two integers, its error of a time. Conditions: the legs lie where the slice says; the integers of the fraction are not negative, the second one not 0; the heap holds the library's table.
  Proved: the times and the speeds of the legs of a run by package track (Legs, Splits). Conditions: legs and exchanges lie where the slices say; at most a hundred legs; for Splits the heap holds the library's table, and what lies between two moments is not negative, and a time is above 0.
-/
import Derived.Test.YtickjnahdeikfaaGreatDoorNl
import Derived.Test.YtickjnahdeikfaaGreatDoorYh
import Derived.Test.YtickjnahdeikfaaGreatDoorNw
section
set_option linter.unusedVariables false
set_option linter.unusedSimpArgs false
open Go Go.Proofs Go.RowKit
set_option maxRecDepth 100000
namespace Go.Mk
theorem trTimeE_any (n : Int) (w : World) : Calls Tryz.prog 52 #[.int .i64 n] w (RetSame (.int .i64 (rngE n 1 863999999)) w) := by
  have h := trRange_any n 1 863999999 w
  go_enter Tryz.func52, Tryz.ntmps52
  go_wp2_with fail
  refine h.mono ?_
  rintro e w' ⟨rfl, rfl⟩
  go_wp2
  go_ret
  exact ⟨rfl, rfl⟩
set_option maxHeartbeats 1000000 in
theorem trFraction_any (N D : Nat) (w : World) (hN : N < 9223372036854775808) (hD0 : 0 < D) (hD : D < 9223372036854775808) (hG : Gt w) :
    Calls Tryz.prog 59 #[.int .i64 (N : Int), .int .i64 (D : Int)] w (RetPost (.string (ratT (N / Nat.gcd D N) (D / Nat.gcd D N))) w) := by
  have h := naOf_any N D w hN hD0 hD hG
  generalize ratT (N / Nat.gcd D N) (D / Nat.gcd D N) = X at *
  clear hN hD0 hD hG
  go_enter Tryz.func59, Tryz.ntmps59
  go_wp2_with fail
  refine h.mono ?_
  rintro e w' ⟨rfl, hb⟩
  go_wp2
  go_ret
  exact ⟨rfl, hb⟩
/-- Whole relays have so many legs. -/
theorem relW_len {L : List Int} {z b : Int} (h : relW L z b = 0) : ∃ m, L.length = m + 1 ∧ 1 ≤ m ∧ m ≤ 7 := by
  unfold relW at h
  split at h
  · cases h
  · exact ⟨L.length - 1, by omega, by omega, by omega⟩
set_option maxHeartbeats 2000000 in
theorem trZones_bad (L : List Int) (n cap : Nat) (A : Option Addr) (z b : Int) (w : World) (hZ : IntsZ w A n L) (hn : (n : Int) ≤ 9223372036854775807) (hc : n ≤ cap) (hy : relW L z b ≠ 0) :
    Calls Tryz.prog 11 #[.agg #[.slice A n cap, .int .i64 z, .int .i64 b]] w (RetPost (.tuple #[.slice none 0 0, .int .i64 (relW L z b)]) w) := by
  have hb0 : Below w.heap.size w (w.alloc (.cells #[.slice A n cap, .int .i64 z, .int .i64 b] 24)) := balloc _ (Below.refl _ _)
  have hC := trCheckRelay_any L n cap A z b _ (hZ.below hb0) hn hc
  have hne : (relW L z b != 0) = true := by rw [bne_iff_ne]; exact hy
  generalize relW L z b = y at *
  have HB0 := Lib.hid hb0
  clear hZ hn hc hy hb0
  go_enter Tryz.func11, Tryz.ntmps11
  go_wp2_with fail
  refine hC.mono ?_
  rintro e w' ⟨rfl, hb⟩
  go_wp2
  go_ret2
  exact ⟨rfl, bstep HB0.out hb⟩
set_option maxHeartbeats 2000000 in
theorem trZones_ok (L : List Int) (m cap : Nat) (A : Option Addr) (z b : Int) (w : World) (hZ : IntsZ w A (m + 1) L) (hn : m ≤ 100) (hc : m + 1 ≤ cap) (hy : relW L z b = 0) :
    Calls Tryz.prog 11 #[.agg #[.slice A (m + 1) cap, .int .i64 z, .int .i64 b]] w (fun e w' => ∃ v B, e = .returned (.tuple #[v, .int .i64 0]) ∧ w.heap.size ≤ B ∧ OwnPairs w' B v (zonesW z b (L.take m) 0) ∧ Below w.heap.size w w') := by
  have hb0 : Below w.heap.size w (w.alloc (.cells #[.slice A (m + 1) cap, .int .i64 z, .int .i64 b] 24)) := balloc _ (Below.refl _ _)
  have hC := trCheckRelay_any L (m + 1) cap A z b _ (hZ.below hb0) (by omega) hc
  rw [hy] at hC
  have HS := Lib.hid (RelB.new (n := m + 1) (cap := cap) (z := z) (b := b) hZ 24)
  have hZo := fun w1 (h1 : IntsZ w1 A (m + 1) L) => trZonesOf_any L m cap A z b w1 h1 hn hc
  generalize zonesW z b (L.take m) 0 = F at *
  have HB0 := Lib.hid hb0
  clear hZ hn hc hy hb0
  go_enter Tryz.func11, Tryz.ntmps11
  go_wp2_with fail
  refine hC.mono ?_
  rintro e w1 ⟨rfl, hb⟩
  obtain ⟨k0, k1, k2, k3, k4, k5⟩ := HS.out.next hb
  go_wp2_with fail
  refine (hZo _ k5).mono ?_
  rintro e w2 ⟨v, rfl, ho, b2⟩
  have HO := Lib.hid ho
  have bw := bstep k4 b2
  have hge : w.heap.size ≤ w1.heap.size + 1 := by have := k4.size; omega
  clear ho k0 k1 k2 k5 hb
  go_wp2
  go_ret2
  exact ⟨_, _, rfl, hge, HO.out, bw⟩
end Go.Mk
end
section
set_option linter.unusedVariables false
set_option linter.unusedSimpArgs false
open Go Go.Proofs Go.RowKit
set_option maxRecDepth 100000
namespace Go.Mk
theorem trLegsC_any (a b : Int) (w : World) : Calls Tryz.prog 57 #[.int .i64 a, .int .i64 b] w (RetSame (.int .i64 b) w) := by
  go_enter Tryz.func57, Tryz.ntmps57
  go_wp2
  go_ret
  exact ⟨rfl, rfl⟩
/-- The time of a leg. -/
def legV (g : Int × Int) : Value := .int .i64 g.2
/-- The speed of a leg. -/
def ratG (g : Int × Int) : ByteArray := ratT (g.1.toNat / Nat.gcd g.2.toNat g.1.toNat) (g.2.toNat / Nat.gcd g.2.toNat g.1.toNat)
def spdV (g : Int × Int) : Value := .string (ratG g)
def okG (g : Int × Int) : Prop := 0 ≤ g.1 ∧ g.1 ≤ 999999999 ∧ 0 < g.2 ∧ g.2 ≤ 999999999
theorem fracG (g : Int × Int) (w : World) (h : okG g) (hG : Gt w) : Calls Tryz.prog 59 #[.int .i64 g.1, .int .i64 g.2] w (RetPost (spdV g) w) := by
  obtain ⟨a, b⟩ := g
  obtain ⟨h1, h2, h3, h4⟩ := h
  have h1 : 0 ≤ a := h1
  have h2 : a ≤ 999999999 := h2
  have h3 : 0 < b := h3
  have h4 : b ≤ 999999999 := h4
  obtain ⟨N, rfl⟩ := Int.eq_ofNat_of_zero_le h1
  obtain ⟨D, rfl⟩ := Int.eq_ofNat_of_zero_le (Int.le_of_lt h3)
  exact trFraction_any N D w (by omega) (by omega) (by omega) hG
set_option maxHeartbeats 2000000 in
theorem trLegs_ok (G : List Int) (n cap : Nat) (A : Option Addr) (z b : Int) (L : List (Int × Int)) (m cE : Nat) (E : Option Addr) (f : Int) (w : World)
    (hG : IntsZ w A n G) (hn : n ≤ 100) (hc : n ≤ cap) (hE : Pairs w E m L) (hm : m + 1 = n) (h0 : crW G z b L f = (0, 0)) :
    Calls Tryz.prog 13 #[.agg #[.slice A n cap, .int .i64 z, .int .i64 b], .slice E m cE, .int .i64 f] w
      (fun e w' => ∃ v B, e = .returned (.tuple #[v, .int .i64 0]) ∧ w.heap.size ≤ B ∧ OwnV w' B 3 v ((gapF (0, 0) (L ++ [(sumW G 0, f)])).map legV) ∧ Below w.heap.size w w') := by
  have hb0 : Below w.heap.size w (w.alloc (.cells #[.slice A n cap, .int .i64 z, .int .i64 b] 24)) := balloc _ (Below.refl _ _)
  have hC := trOfLegsI_ok legV (fun _ => True) (fun g => ⟨_, rfl⟩) G n cap A z b L m cE E f _ (hG.below hb0) hn hc (hE.below hb0) hm h0 (fun _ _ => trivial)
    (fun g w' _ _ => (trLegsC_any g.1 g.2 w').mono (by rintro e w'' ⟨rfl, rfl⟩; exact ⟨rfl, Below.refl _ _⟩))
  have HB0 := Lib.hid hb0
  generalize (gapF (0, 0) (L ++ [(sumW G 0, f)])).map legV = F at *
  clear hG hE h0 hb0
  go_enter Tryz.func13, Tryz.ntmps13
  go_wp2_with fail
  refine hC.mono ?_
  rintro e w2 ⟨v, B, rfl, hB, ho, hb⟩
  have hBw : w.heap.size ≤ B := by have := HB0.out.size; omega
  have hbw := bstep HB0.out hb
  have HO := Lib.hid ho
  clear ho hb hB
  go_wp2
  go_ret2
  exact ⟨_, _, rfl, hBw, HO.out, hbw⟩
set_option maxHeartbeats 2000000 in
theorem trLegs_bad (G : List Int) (n cap : Nat) (A : Option Addr) (z b : Int) (L : List (Int × Int)) (m cE : Nat) (E : Option Addr) (f : Int) (w : World)
    (hG : IntsZ w A n G) (hn : n ≤ 100) (hc : n ≤ cap) (hE : Pairs w E m L) (hm : m ≤ 100) (h0 : (crW G z b L f).2 ≠ 0) :
    Calls Tryz.prog 13 #[.agg #[.slice A n cap, .int .i64 z, .int .i64 b], .slice E m cE, .int .i64 f] w (RetPost (.tuple #[.slice none 0 0, .int .i64 (crW G z b L f).2]) w) := by
  have hb0 : Below w.heap.size w (w.alloc (.cells #[.slice A n cap, .int .i64 z, .int .i64 b] 24)) := balloc _ (Below.refl _ _)
  have hC := trOfLegsI_bad G n cap A z b L m cE E f _ (hG.below hb0) hn hc (hE.below hb0) hm h0
  have HB0 := Lib.hid hb0
  generalize (crW G z b L f).2 = y at *
  clear hG hE h0 hb0
  go_enter Tryz.func13, Tryz.ntmps13
  go_wp2_with fail
  refine hC.mono ?_
  rintro e w2 ⟨rfl, hb⟩
  have hbw := bstep HB0.out hb
  go_wp2
  go_ret2
  exact ⟨rfl, hbw⟩
set_option maxHeartbeats 2000000 in
theorem trSplits_ok (G : List Int) (n cap : Nat) (A : Option Addr) (z b : Int) (L : List (Int × Int)) (m cE : Nat) (E : Option Addr) (f : Int) (w : World)
    (hG : IntsZ w A n G) (hn : n ≤ 100) (hc : n ≤ cap) (hE : Pairs w E m L) (hm : m + 1 = n) (h0 : crW G z b L f = (0, 0)) (hok : ∀ g ∈ gapF (0, 0) (L ++ [(sumW G 0, f)]), okG g) (hT : Gt w) :
    Calls Tryz.prog 14 #[.agg #[.slice A n cap, .int .i64 z, .int .i64 b], .slice E m cE, .int .i64 f] w
      (fun e w' => ∃ v B, e = .returned (.tuple #[v, .int .i64 0]) ∧ w.heap.size ≤ B ∧ OwnV w' B 70 v ((gapF (0, 0) (L ++ [(sumW G 0, f)])).map spdV) ∧ Below w.heap.size w w') := by
  have hb0 : Below w.heap.size w (w.alloc (.cells #[.slice A n cap, .int .i64 z, .int .i64 b] 24)) := balloc _ (Below.refl _ _)
  have hT0 := hT.below hb0 (Nat.le_refl _)
  have hC := trOfLegsR_ok spdV okG (fun g => ⟨_, rfl⟩) G n cap A z b L m cE E f _ (hG.below hb0) hn hc (hE.below hb0) hm h0 hok
    (fun g w' h hb => fracG g w' h (hT0.below hb (Nat.le_refl _)))
  have HB0 := Lib.hid hb0
  generalize (gapF (0, 0) (L ++ [(sumW G 0, f)])).map spdV = F at *
  clear hG hE h0 hb0 hT hT0 hok
  go_enter Tryz.func14, Tryz.ntmps14
  go_wp2_with fail
  refine hC.mono ?_
  rintro e w2 ⟨v, B, rfl, hB, ho, hb⟩
  have hBw : w.heap.size ≤ B := by have := HB0.out.size; omega
  have hbw := bstep HB0.out hb
  have HO := Lib.hid ho
  clear ho hb hB
  go_wp2
  go_ret2
  exact ⟨_, _, rfl, hBw, HO.out, hbw⟩
set_option maxHeartbeats 2000000 in
theorem trSplits_bad (G : List Int) (n cap : Nat) (A : Option Addr) (z b : Int) (L : List (Int × Int)) (m cE : Nat) (E : Option Addr) (f : Int) (w : World)
    (hG : IntsZ w A n G) (hn : n ≤ 100) (hc : n ≤ cap) (hE : Pairs w E m L) (hm : m ≤ 100) (h0 : (crW G z b L f).2 ≠ 0) :
    Calls Tryz.prog 14 #[.agg #[.slice A n cap, .int .i64 z, .int .i64 b], .slice E m cE, .int .i64 f] w (RetPost (.tuple #[.slice none 0 0, .int .i64 (crW G z b L f).2]) w) := by
  have hb0 : Below w.heap.size w (w.alloc (.cells #[.slice A n cap, .int .i64 z, .int .i64 b] 24)) := balloc _ (Below.refl _ _)
  have hC := trOfLegsR_bad G n cap A z b L m cE E f _ (hG.below hb0) hn hc (hE.below hb0) hm h0
  have HB0 := Lib.hid hb0
  generalize (crW G z b L f).2 = y at *
  clear hG hE h0 hb0
  go_enter Tryz.func14, Tryz.ntmps14
  go_wp2_with fail
  refine hC.mono ?_
  rintro e w2 ⟨rfl, hb⟩
  have hbw := bstep HB0.out hb
  go_wp2
  go_ret2
  exact ⟨rfl, hbw⟩
end Go.Mk
end
