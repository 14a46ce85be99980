/-
  Proved: the law TrackHurdles returns true and leaves all that was there. Condition: the tables that awake reads lie where the program lays them.
-/
import Derived.Test.YtkijfebfpodgfaaGreatDoorAw
import Derived.Test.YtkijfebfpodgfaaGreatDoorYc
set_option linter.unusedVariables false
set_option linter.unusedSimpArgs false
open Go Go.Proofs Go.RowKit
set_option maxRecDepth 100000
namespace Go.Mk
/-- The tables lie where they are laid. -/
def Tabs (w : World) : Prop := 14 ≤ w.heap.size ∧ ∀ y ∈ Snap.tabs, y.1 < 14 ∧ ∀ (i : Nat) (v : Value), y.2[i]? = some v → w.cell? ⟨y.1, i, none⟩ = some v ∧ Ev.plainN 0 v = true
theorem Tabs.below {w w' : World} {B : Nat} (h : Tabs w) (hb : Below B w w') (hB : 14 ≤ B) : Tabs w' :=
  ⟨by have := hb.size; have := h.1; omega, fun y hy => by
    obtain ⟨h1, h2⟩ := h.2 y hy
    refine ⟨h1, fun i v hv => ?_⟩
    obtain ⟨h3, h4⟩ := h2 i v hv
    exact ⟨(hb.cell (p := ⟨y.1, i, none⟩) (by show y.1 < B; omega)).trans h3, h4⟩⟩
theorem aw (w : World) (h : Tabs w) : Calls Tryz.prog 13 #[] w (RetPost (.bool true) w) := Snap.awake_any w h.1 h.2
def Yes (w : World) (e : Ending) (w' : World) : Prop := e = .returned (.bool true) ∧ Below w.heap.size w w'
/-- A world below which the law's own begins: what was there is there still. -/
theorem Tabs.grow {w w' : World} (h : Tabs w) (hb : Below w.heap.size w w') : Tabs w' := h.below hb h.1
theorem ints_nil (w : World) : IntsZ w none 0 [] := ⟨rfl, fun h => absurd h (by decide)⟩
theorem own_ints {w : World} {B n c : Nat} {a : Option Addr} {L : List Int} (h : OwnZ w B (.slice a n c) L) (hl : L.length = n) : IntsZ w a n L := by
  obtain ⟨A, c', e, hI⟩ := IntsZ.of_own h
  cases e
  rw [hl] at hI
  exact hI
set_option maxHeartbeats 4000000 in
theorem hurdles_bad (a g l c d : Int) (w : World) (ht : Tabs w) (h0 : hurE a g l c d ≠ 0) :
    Calls Tryz.prog 3 #[.agg #[.int .i64 a, .int .i64 g, .int .i64 l, .int .i64 c], .int .i64 d] w (Yes w) := by
  have hne : (hurE a g l c d != 0) = true := by rw [bne_iff_ne]; exact h0
  have hez : (hurE a g l c d == 0) = false := by rw [beq_eq_false_iff_ne]; exact h0
  have hee : (hurE a g l c d == hurE a g l c d) = true := by simp
  have HR := Lib.hid (r7CheckHurdles_any a g l c d)
  have HP := Lib.hid fun w' => trPlaces_bad a g l c d w' hne
  have HC := Lib.hid (trCheckHurdles_any a g l c d)
  have HN := Lib.hid (HurB.new w a g l c 23)
  have HT := Lib.hid ht
  generalize hurE a g l c d = E at *
  clear h0 ht
  go_enter Tryz.func3, Tryz.ntmps3
  go_wp2_with fail
  refine (HR.out _).mono ?_
  rintro x w1 ⟨rfl, hb1⟩
  have hN1 := HN.out.next hb1
  obtain ⟨s0, s1, s2, s3, s4, s5⟩ := hN1
  have HN1 := Lib.hid (show HurB w w.heap.size a g l c w1 from ⟨s0, s1, s2, s3, s4, s5⟩)
  clear hb1
  go_wp2_with fail
  refine (HP.out _).mono ?_
  rintro x w2 ⟨rfl, hb2⟩
  have HN2 := Lib.hid (HN1.out.next hb2)
  clear s0 s1 s2 s3 s4 s5 hb2 HN1
  obtain ⟨s0, s1, s2, s3, s4, s5⟩ := HN2.out
  go_wp2_with fail
  refine (HC.out _).mono ?_
  rintro x w3 ⟨rfl, hb3⟩
  have HN3 := Lib.hid (HN2.out.next hb3)
  clear s0 s1 s2 s3 s4 s5 hb3 HN2
  have hS := sameZ_any [] none none 0 0 0 w3 (by decide) (ints_nil _) (ints_nil _)
  go_wp2_with fail
  refine hS.mono ?_
  rintro x w4 ⟨rfl, hb4⟩
  have HN4 := Lib.hid (HN3.out.next hb4)
  clear hb4 HN3 hS
  go_wp2_with fail
  refine (aw _ (HT.out.grow HN4.out.2.2.2.2.2)).mono ?_
  rintro x w5 ⟨rfl, hb5⟩
  have hfin := bstep HN4.out.2.2.2.2.2 hb5
  clear hb5 HN4
  go_wp2
  go_ret
  exact ⟨rfl, hfin⟩
set_option maxHeartbeats 4000000 in
theorem hurdles_ok (a g l c d : Int) (w : World) (ht : Tabs w) (h0 : hurE a g l c d = 0) :
    Calls Tryz.prog 3 #[.agg #[.int .i64 a, .int .i64 g, .int .i64 l, .int .i64 c], .int .i64 d] w (Yes w) := by
  have hz : rngE a 1 999999 = 0 ∧ rngE g 1 999999 = 0 ∧ rngE c 1 64 = 0 := by
    have := h0
    unfold hurE at this
    simp only [fstN] at this
    by_cases h1 : rngE a 1 999999 = 0
    · by_cases h2 : rngE g 1 999999 = 0
      · by_cases h3 : rngE l 1 999999 = 0
        · by_cases h4 : rngE c 1 64 = 0
          · exact ⟨h1, h2, h4⟩
          · simp [h1, h2, h3, h4] at this
        · simp [h1, h2, h3] at this
      · simp [h1, h2] at this
    · simp [h1] at this
  have ha := rng_zero hz.1
  have hg := rng_zero hz.2.1
  have hc := rng_zero hz.2.2
  obtain ⟨n, rfl⟩ : ∃ n : Nat, c = n := ⟨c.toNat, by omega⟩
  have hn : n ≤ 64 := by omega
  have HR : Hid (∀ w', Calls Tryz.prog 8 #[.agg #[.int .i64 a, .int .i64 g, .int .i64 l, .int .i64 (n : Int)], .int .i64 d] w' (RetPost (.int .i64 0) w')) := Lib.hid fun w' => by
    have := r7CheckHurdles_any a g l n d w'
    rwa [h0] at this
  have HC : Hid (∀ w', Calls Tryz.prog 11 #[.agg #[.int .i64 a, .int .i64 g, .int .i64 l, .int .i64 (n : Int)], .int .i64 d] w' (RetPost (.int .i64 0) w')) := Lib.hid fun w' => by
    have := trCheckHurdles_any a g l n d w'
    rwa [h0] at this
  have HP := Lib.hid fun w' => trPlaces_ok a g l d n w' h0 ha hg hn
  have HQ := Lib.hid fun w' => r7Places_ok a g l n w' ha hg hn
  have HL := Lib.hid (hurL_len a g n)
  have HN := Lib.hid (HurB.new w a g l n 23)
  have HT := Lib.hid ht
  unfold HurPost2 at HP
  unfold HurPost at HQ
  generalize hurL a g n = R at *
  clear h0 ht hz ha hg hc
  go_enter Tryz.func3, Tryz.ntmps3
  go_wp2_with fail
  refine (HR.out _).mono ?_
  rintro x w1 ⟨rfl, hb1⟩
  have HN1 := Lib.hid (HN.out.next hb1)
  obtain ⟨s0, s1, s2, s3, s4, s5⟩ := HN1.out
  clear hb1
  go_wp2_with fail
  refine (HP.out _).mono ?_
  rintro x w2 ⟨v2, rfl, hv2, hb2⟩
  have HN2 := Lib.hid (HN1.out.next hb2)
  clear s0 s1 s2 s3 s4 s5 hb2 HN1
  obtain ⟨s0, s1, s2, s3, s4, s5⟩ := HN2.out
  obtain ⟨a2, c2, rfl⟩ := hv2.shapeY
  rw [HL.out] at hv2 ⊢
  have HI2 := Lib.hid (own_ints hv2 HL.out)
  clear hv2
  go_wp2_with fail
  refine (HQ.out _).mono ?_
  rintro x w3 ⟨v3, rfl, hv3, hb3⟩
  have HN3 := Lib.hid (HN2.out.next hb3)
  have HI2b := Lib.hid (HI2.out.below hb3)
  clear s0 s1 s2 s3 s4 s5 hb3 HN2 HI2
  obtain ⟨s0, s1, s2, s3, s4, s5⟩ := HN3.out
  obtain ⟨a3, c3, rfl⟩ := hv3.shapeY
  rw [HL.out] at hv3 ⊢
  have HI3 := Lib.hid (own_ints hv3 HL.out)
  clear hv3
  go_wp2_with fail
  refine (HC.out _).mono ?_
  rintro x w4 ⟨rfl, hb4⟩
  have HN4 := Lib.hid (HN3.out.next hb4)
  have hS := sameZ_any R a2 a3 n c2 c3 w4 (by omega) (HI2b.out.below hb4) (HI3.out.below hb4)
  clear s0 s1 s2 s3 s4 s5 hb4 HN3 HI2b HI3
  go_wp2_with fail
  refine hS.mono ?_
  rintro x w5 ⟨rfl, hb5⟩
  have HN5 := Lib.hid (HN4.out.next hb5)
  clear hb5 HN4 hS
  go_wp2_with fail
  refine (aw _ (HT.out.grow HN5.out.2.2.2.2.2)).mono ?_
  rintro x w6 ⟨rfl, hb6⟩
  have hfin := bstep HN5.out.2.2.2.2.2 hb6
  clear hb6 HN5
  go_wp2
  go_ret
  exact ⟨rfl, hfin⟩
theorem hurdles_any (a g l c d : Int) (w : World) (ht : Tabs w) :
    Calls Tryz.prog 3 #[.agg #[.int .i64 a, .int .i64 g, .int .i64 l, .int .i64 c], .int .i64 d] w (Yes w) := by
  by_cases h : hurE a g l c d = 0
  · exact hurdles_ok a g l c d w ht h
  · exact hurdles_bad a g l c d w ht h
end Go.Mk
