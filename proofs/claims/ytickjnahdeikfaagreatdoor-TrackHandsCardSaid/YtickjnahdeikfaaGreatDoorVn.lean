/-
  Proved: the law TrackHands returns true and leaves all that was there. Conditions: the tables that awake and the rational numbers read lie where the program lays them; the legs lie where the slice says; the numbers are below 256.
-/
import Derived.Test.YtickjnahdeikfaaGreatDoorXaw
import Derived.Test.YtickjnahdeikfaaGreatDoorVl
set_option linter.unusedVariables false
set_option linter.unusedSimpArgs false
open Go Go.Proofs Go.RowKit
set_option maxRecDepth 100000
namespace Go.Mk
set_option maxHeartbeats 1000000 in
theorem r7ShortH_any (A : Option Addr) (n cap : Nat) (z b : Int) (w : World) :
    Calls Tryz.prog 8 #[.agg #[.slice A n cap, .int .i64 z, .int .i64 b]] w (RetPost (.bool (decide ((n : Int) ≤ 11))) w) := by
  have hb0 : Below w.heap.size w (w.alloc (.cells #[.slice A n cap, .int .i64 z, .int .i64 b] 26)) := balloc _ (Below.refl _ _)
  go_enter Tryz.func8, Tryz.ntmps8
  go_wp2
  go_ret
  exact ⟨rfl, hb0⟩
/-- Eight small numbers in the cells of a block. -/
def C8 (g : Nat) (P : Nat → Nat) (w : World) : Prop := ∀ j, j < 8 → w.cell? ⟨g, j, none⟩ = some (.int .u8 (P j : Int))
/-- The four boxes that the law makes. -/
def Box4 (W : World) (g : Nat) (A : Option Addr) (n cap : Nat) (z b : Int) (P T : Nat → Nat) (w' : World) : Prop :=
  (w'.cell? ⟨g, 0, none⟩ = some (.slice A n cap) ∧ w'.cell? ⟨g, 1, none⟩ = some (.int .i64 z) ∧ w'.cell? ⟨g, 2, none⟩ = some (.int .i64 b)) ∧ C8 (g + 1) P w' ∧ C8 (g + 2) T w' ∧
  (w'.cell? ⟨g + 3, 0, none⟩ = some (.slice A n cap) ∧ w'.cell? ⟨g + 3, 1, none⟩ = some (.int .i64 z) ∧ w'.cell? ⟨g + 3, 2, none⟩ = some (.int .i64 b)) ∧ g + 3 < w'.heap.size ∧ Below W.heap.size W w'
theorem Box4.next {W w w' : World} {g : Nat} {A : Option Addr} {n cap : Nat} {z b : Int} {P T : Nat → Nat} (x : Box4 W g A n cap z b P T w) (hb : Below w.heap.size w w') : Box4 W g A n cap z b P T w' := by
  obtain ⟨⟨a0, a1, a2⟩, hP, hT, ⟨b0, b1, b2⟩, hl, hW⟩ := x
  exact ⟨⟨(hb.cell (p := ⟨g, _, none⟩) (by show g < _; omega)).trans a0, (hb.cell (p := ⟨g, _, none⟩) (by show g < _; omega)).trans a1, (hb.cell (p := ⟨g, _, none⟩) (by show g < _; omega)).trans a2⟩, fun j hj => (hb.cell (p := ⟨g + 1, _, none⟩) (by show g + 1 < _; omega)).trans (hP j hj), fun j hj => (hb.cell (p := ⟨g + 2, _, none⟩) (by show g + 2 < _; omega)).trans (hT j hj),
    ⟨(hb.cell (p := ⟨g + 3, _, none⟩) hl).trans b0, (hb.cell (p := ⟨g + 3, _, none⟩) hl).trans b1, (hb.cell (p := ⟨g + 3, _, none⟩) hl).trans b2⟩, Nat.lt_of_lt_of_le hl hb.size, bstep hW hb⟩
theorem new8 (w : World) (P : Nat → Nat) (t : TypeId) : C8 w.heap.size P (w.alloc (.cells #[.int .u8 (P 0 : Int), .int .u8 (P 1 : Int), .int .u8 (P 2 : Int), .int .u8 (P 3 : Int), .int .u8 (P 4 : Int), .int .u8 (P 5 : Int), .int .u8 (P 6 : Int), .int .u8 (P 7 : Int)] t)) := by
  intro j hj
  match j, hj with
  | 0, _ => simp
  | 1, _ => simp
  | 2, _ => simp
  | 3, _ => simp
  | 4, _ => simp
  | 5, _ => simp
  | 6, _ => simp
  | 7, _ => simp
theorem Box4.new (w : World) (A : Option Addr) (n cap : Nat) (z b : Int) (P T : Nat → Nat) (t u v x : TypeId) : Box4 w w.heap.size A n cap z b P T ((((w.alloc (.cells #[.slice A n cap, .int .i64 z, .int .i64 b] t)).alloc (.cells #[.int .u8 (P 0 : Int), .int .u8 (P 1 : Int), .int .u8 (P 2 : Int), .int .u8 (P 3 : Int), .int .u8 (P 4 : Int), .int .u8 (P 5 : Int), .int .u8 (P 6 : Int), .int .u8 (P 7 : Int)] u)).alloc (.cells #[.int .u8 (T 0 : Int), .int .u8 (T 1 : Int), .int .u8 (T 2 : Int), .int .u8 (T 3 : Int), .int .u8 (T 4 : Int), .int .u8 (T 5 : Int), .int .u8 (T 6 : Int), .int .u8 (T 7 : Int)] v)).alloc (.cells #[.slice A n cap, .int .i64 z, .int .i64 b] x)) := by
  obtain ⟨wa, hwa⟩ : ∃ wa, w.alloc (.cells #[.slice A n cap, .int .i64 z, .int .i64 b] t) = wa := ⟨_, rfl⟩
  have sa : wa.heap.size = w.heap.size + 1 := by rw [← hwa]; simp
  have a0 : wa.cell? ⟨w.heap.size, 0, none⟩ = some (.slice A n cap) := by rw [← hwa]; simp
  have a1 : wa.cell? ⟨w.heap.size, 1, none⟩ = some (.int .i64 z) := by rw [← hwa]; simp
  have a2 : wa.cell? ⟨w.heap.size, 2, none⟩ = some (.int .i64 b) := by rw [← hwa]; simp
  have ba : Below w.heap.size w wa := by rw [← hwa]; exact balloc _ (Below.refl _ _)
  rw [hwa]
  have q2 := new8 wa P u
  obtain ⟨wb, hwb⟩ : ∃ wb, wa.alloc (.cells #[.int .u8 (P 0 : Int), .int .u8 (P 1 : Int), .int .u8 (P 2 : Int), .int .u8 (P 3 : Int), .int .u8 (P 4 : Int), .int .u8 (P 5 : Int), .int .u8 (P 6 : Int), .int .u8 (P 7 : Int)] u) = wb := ⟨_, rfl⟩
  have sb : wb.heap.size = w.heap.size + 2 := by rw [← hwb, ← show wa.heap.size + 1 = w.heap.size + 2 by omega]; simp
  have bb : Below wa.heap.size wa wb := by rw [← hwb]; exact balloc _ (Below.refl _ _)
  rw [hwb] at q2 ⊢
  have q3 := new8 wb T v
  obtain ⟨wc, hwc⟩ : ∃ wc, wb.alloc (.cells #[.int .u8 (T 0 : Int), .int .u8 (T 1 : Int), .int .u8 (T 2 : Int), .int .u8 (T 3 : Int), .int .u8 (T 4 : Int), .int .u8 (T 5 : Int), .int .u8 (T 6 : Int), .int .u8 (T 7 : Int)] v) = wc := ⟨_, rfl⟩
  have sc : wc.heap.size = w.heap.size + 3 := by rw [← hwc, ← show wb.heap.size + 1 = w.heap.size + 3 by omega]; simp
  have bc : Below wb.heap.size wb wc := by rw [← hwc]; exact balloc _ (Below.refl _ _)
  rw [hwc] at q3 ⊢
  obtain ⟨wd, hwd⟩ : ∃ wd, wc.alloc (.cells #[.slice A n cap, .int .i64 z, .int .i64 b] x) = wd := ⟨_, rfl⟩
  have sd : wd.heap.size = w.heap.size + 4 := by rw [← hwd, ← show wc.heap.size + 1 = w.heap.size + 4 by omega]; simp
  have bd : Below wc.heap.size wc wd := by rw [← hwd]; exact balloc _ (Below.refl _ _)
  have d0 : wd.cell? ⟨w.heap.size + 3, 0, none⟩ = some (.slice A n cap) := by rw [← hwd, ← sc]; simp
  have d1 : wd.cell? ⟨w.heap.size + 3, 1, none⟩ = some (.int .i64 z) := by rw [← hwd, ← sc]; simp
  have d2 : wd.cell? ⟨w.heap.size + 3, 2, none⟩ = some (.int .i64 b) := by rw [← hwd, ← sc]; simp
  rw [hwd]
  have bac := bstep bb bc
  have bad := bstep bac bd
  have bbd := bstep bc bd
  rw [sa] at q2
  rw [sb] at q3
  exact ⟨⟨(bad.cell (p := ⟨w.heap.size, _, none⟩) (by show w.heap.size < _; omega)).trans a0, (bad.cell (p := ⟨w.heap.size, _, none⟩) (by show w.heap.size < _; omega)).trans a1, (bad.cell (p := ⟨w.heap.size, _, none⟩) (by show w.heap.size < _; omega)).trans a2⟩,
    fun j hj => (bbd.cell (p := ⟨w.heap.size + 1, _, none⟩) (by show w.heap.size + 1 < _; omega)).trans (q2 j hj), fun j hj => (bd.cell (p := ⟨w.heap.size + 2, _, none⟩) (by show w.heap.size + 2 < _; omega)).trans (q3 j hj), ⟨d0, d1, d2⟩, by omega, bstep ba bad⟩
set_option maxHeartbeats 8000000 in
theorem hands_ex1 (G : List Int) (n cap : Nat) (A : Option Addr) (z b : Int) (P T : Nat → Nat) (w : World)
    (hG : IntsZ w A n G) (hn : (n : Int) ≤ 9223372036854775807) (hc : n ≤ cap) (hP : ∀ j, P j < 256) (hT : ∀ j, T j < 256) (ht : Tabs w) (hGt : Gt w) (h1 : 11 < n) : Calls Tryz.prog 5 #[.agg #[.slice A n cap, .int .i64 z, .int .i64 b], .agg #[.int .u8 (P 0 : Int), .int .u8 (P 1 : Int), .int .u8 (P 2 : Int), .int .u8 (P 3 : Int), .int .u8 (P 4 : Int), .int .u8 (P 5 : Int), .int .u8 (P 6 : Int), .int .u8 (P 7 : Int)], .agg #[.int .u8 (T 0 : Int), .int .u8 (T 1 : Int), .int .u8 (T 2 : Int), .int .u8 (T 3 : Int), .int .u8 (T 4 : Int), .int .u8 (T 5 : Int), .int .u8 (T 6 : Int), .int .u8 (T 7 : Int)]] w (Yes w) := by
  have HB := Lib.hid (Box4.new w A n cap z b P T 24 66 66 26)
  have HAW : Hid (∀ w', Below w.heap.size w w' → Calls Tryz.prog 9 #[] w' (RetPost (.bool true) w')) := Lib.hid fun w' hb => aw w' (ht.grow hb)
  have HSR := Lib.hid fun w' => r7ShortH_any A n cap z b w'
  have h1i : ¬ (n : Int) ≤ 11 := by omega
  clear hG hn ht hGt hP hT
  go_enter Tryz.func5, Tryz.ntmps5
  go_wp2_with fail
  refine (HSR.out _).mono ?_
  rintro e1 w1 ⟨rfl, hb1⟩
  have HB1 := Lib.hid (HB.out.next hb1)
  clear hb1
  go_wp2_with fail
  refine (HAW.out _ HB1.out.2.2.2.2.2).mono ?_
  rintro e9 w9 ⟨rfl, hb9⟩
  have hfin := bstep HB1.out.2.2.2.2.2 hb9
  clear hb9
  go_wp2
  go_ret
  exact ⟨rfl, hfin⟩
set_option maxHeartbeats 8000000 in
theorem hands_ex2 (G : List Int) (n cap : Nat) (A : Option Addr) (z b : Int) (P T : Nat → Nat) (w : World)
    (hG : IntsZ w A n G) (hn : (n : Int) ≤ 9223372036854775807) (hc : n ≤ cap) (hP : ∀ j, P j < 256) (hT : ∀ j, T j < 256) (ht : Tabs w) (hGt : Gt w) (h1 : n ≤ 11) (h3 : relW G z b ≠ 0) : Calls Tryz.prog 5 #[.agg #[.slice A n cap, .int .i64 z, .int .i64 b], .agg #[.int .u8 (P 0 : Int), .int .u8 (P 1 : Int), .int .u8 (P 2 : Int), .int .u8 (P 3 : Int), .int .u8 (P 4 : Int), .int .u8 (P 5 : Int), .int .u8 (P 6 : Int), .int .u8 (P 7 : Int)], .agg #[.int .u8 (T 0 : Int), .int .u8 (T 1 : Int), .int .u8 (T 2 : Int), .int .u8 (T 3 : Int), .int .u8 (T 4 : Int), .int .u8 (T 5 : Int), .int .u8 (T 6 : Int), .int .u8 (T 7 : Int)]] w (Yes w) := by
  have HB := Lib.hid (Box4.new w A n cap z b P T 24 66 66 26)
  have HAW : Hid (∀ w', Below w.heap.size w w' → Calls Tryz.prog 9 #[] w' (RetPost (.bool true) w')) := Lib.hid fun w' hb => aw w' (ht.grow hb)
  have HSR := Lib.hid fun w' => r7ShortH_any A n cap z b w'
  have HCR : Hid (∀ w', Below w.heap.size w w' → Calls Tryz.prog 10 #[.agg #[.slice A n cap, .int .i64 z, .int .i64 b]] w' (RetPost (.int .i64 (relW G z b)) w')) := Lib.hid fun w' hb => r7CheckRelay_any G n cap A z b w' (hG.below hb) hn
  have hne : (relW G z b != 0) = true := by rw [bne_iff_ne]; exact h3
  have h1i : (n : Int) ≤ 11 := by omega
  generalize relW G z b = rel at *
  clear hG hn ht hGt hP hT
  go_enter Tryz.func5, Tryz.ntmps5
  go_wp2_with fail
  refine (HSR.out _).mono ?_
  rintro e1 w1 ⟨rfl, hb1⟩
  have HB1 := Lib.hid (HB.out.next hb1)
  obtain ⟨_, _, _, ⟨b0, b1, b2⟩, _, _⟩ := HB1.out
  clear hb1
  go_wp2_with fail
  refine (HCR.out _ HB1.out.2.2.2.2.2).mono ?_
  rintro e2 w2 ⟨rfl, hb2⟩
  have HB2 := Lib.hid (HB1.out.next hb2)
  clear hb2 b0 b1 b2
  go_wp2_with fail
  refine (HAW.out _ HB2.out.2.2.2.2.2).mono ?_
  rintro e9 w9 ⟨rfl, hb9⟩
  have hfin := bstep HB2.out.2.2.2.2.2 hb9
  clear hb9
  go_wp2
  go_ret
  exact ⟨rfl, hfin⟩
end Go.Mk
