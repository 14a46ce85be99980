/-
  Proved: the reference's greater and RowRanks: the ranks of rows, as rowRanks has them. Conditions: at most 100 rows, each with at most 12 trials, where the slices say.
-/
import Derived.Test.YtclapdfkgafenaaGreatDoorFrf
set_option linter.unusedVariables false
set_option linter.unusedSimpArgs false
open Go Go.Proofs Go.RowKit
set_option maxRecDepth 100000
namespace Go.Mk
theorem cmpL_nil (M : List Int) : ¬ 0 < cmpL [] M := by
 cases M with
 | nil => simp [cmpL]
 | cons b m => simp [cmpL]
set_option maxHeartbeats 4000000 in
theorem r6greater_any (L M : List Int) (n c m d : Nat) (A B : Option Addr) (w : World) (hL : IntsZ w A n L) (hM : IntsZ w B m M) (hn : n ≤ 1000) (hm : m ≤ 1000) :
  Calls Tryz.prog 109 #[.slice A n c, .slice B m d] w (RetPost (.bool (decide (0 < cmpL L M))) w) := by
 have hni : (n : Int) ≤ 1000 := by omega
 have hmi : (m : Int) ≤ 1000 := by omega
 have H := Lib.hid hL
 have H2 := Lib.hid hM
 have Hn := Lib.hid hL.1
 have Hm := Lib.hid hM.1
 obtain ⟨y, hy⟩ : ∃ y, decide (0 < cmpL L M) = y := ⟨_, rfl⟩
 rw [hy]
 have HY : Hid (decide (0 < cmpL (L.drop 0) (M.drop 0)) = y) := Lib.hid (by rw [← hy]; rfl)
 clear hL hM hy
 go_enter Tryz.func109, Tryz.ntmps109
 go_wp2
 go_loopw [5] (fun i wr => ∃ k : Nat, k ≤ n ∧ k ≤ m ∧ i = .int .i64 k ∧ Hid (decide (0 < cmpL (L.drop k) (M.drop k)) = y) ∧ Below w.heap.size w wr) (fun i _ => n - (RowKit.intOf i).toNat)
 case atStart => exact ⟨0, by omega, by omega, rfl, HY, Below.refl _ _⟩
 case round =>
  obtain ⟨k, hk, hk2, rfl, HK, hb⟩ := hrel
  have hk0 : (0 : Int) ≤ (k : Int) := by omega
  have hkt : ((k : Int)).toNat = k := by omega
  by_cases hlt : k < n
  ·obtain ⟨b1, o1, x, rfl, hb1, hx, hcx⟩ := (H.out.below hb).cellAt hlt
   have hki : (k : Int) < (n : Int) := by omega
   have hst := HK.out
   by_cases hlm : k < m
   ·obtain ⟨b2, o2, z, rfl, hb2, hz, hcz⟩ := (H2.out.below hb).cellAt hlm
    have hkm : ¬ (m : Int) ≤ (k : Int) := by omega
    have hkm2 : (k : Int) < (m : Int) := by omega
    have hd : decide (m ≤ k) = false := decide_eq_false (by omega)
    rw [cmpL_drop hx hz] at hst
    have HB := Lib.hid hb
    have HS : Hid (∀ w', Below wr.heap.size wr w' → w'.cell? ⟨b1, o1 + k, none⟩ = some (.int .i64 x) ∧ w'.cell? ⟨b2, o2 + k, none⟩ = some (.int .i64 z) ∧ Below wr.heap.size wr w') := Lib.hid fun w' hq =>
     ⟨(hq.cell (p := ⟨b1, _, none⟩) hb1).trans hcx, (hq.cell (p := ⟨b2, _, none⟩) hb2).trans hcz, hq⟩
    clear hx hz hb HK hb1 hb2
    rcases Int.lt_trichotomy z x with h1 | h1 | h1
    ·have e : y = true := by
      have hz1 : cmpZ x z = 1 := by unfold cmpZ; rw [if_neg (by omega), if_pos h1]
      rw [← hst, hz1]
      simp
     have hdd : decide (z < x) = true := decide_eq_true h1
     subst e
     clear hst
     go_wp2_with fail
     refine wp_region_held_drew (S := fun w' => w'.cell? ⟨b1, o1 + k, none⟩ = some (.int .i64 x) ∧ w'.cell? ⟨b2, o2 + k, none⟩ = some (.int .i64 z) ∧ Below wr.heap.size wr w') (by kernel_rfl) ?_ (fun hHeld => ?_)
     ·exact HS.out _ (by first | exact Below.drew (Below.refl _ _) | exact Below.drew hyy.2.2 | exact Below.drew hyy.2.2)
     refine zT (i := 0) (v := ?_) rfl (Or.inl ⟨by kernel_rfl, ?_⟩) ?_
     rotate_left
     ·rintro w ⟨s0, s1, s2⟩
      go_simp
      try simp only [hd, hdd]
      try with_reducible rfl
     try simp only [Act.put, zA1, zA2, zA3, zA4, zA5, zA6]
     refine zT (i := 1) (v := ?_) rfl (Or.inl ⟨by kernel_rfl, ?_⟩) ?_
     rotate_left
     ·rintro w ⟨s0, s1, s2⟩
      go_simp
      try simp only [hd, hdd]
      try with_reducible rfl
     try simp only [Act.put, zA1, zA2, zA3, zA4, zA5, zA6]
     refine zT (i := 2) (v := ?_) rfl (Or.inl ⟨by kernel_rfl, ?_⟩) ?_
     rotate_left
     ·rintro w ⟨s0, s1, s2⟩
      go_simp
      try simp only [hd, hdd]
      try with_reducible rfl
     try simp only [Act.put, zA1, zA2, zA3, zA4, zA5, zA6]
     refine zT (i := 3) (v := ?_) rfl (Or.inl ⟨by kernel_rfl, ?_⟩) ?_
     rotate_left
     ·rintro w ⟨s0, s1, s2⟩
      go_simp
      try simp only [hd, hdd]
      try with_reducible rfl
     try simp only [Act.put, zA1, zA2, zA3, zA4, zA5, zA6]
     refine zT (i := 4) (v := ?_) rfl (Or.inl ⟨by kernel_rfl, ?_⟩) ?_
     rotate_left
     ·rintro w ⟨s0, s1, s2⟩
      go_simp
      try simp only [hd, hdd]
      try with_reducible rfl
     try simp only [Act.put, zA1, zA2, zA3, zA4, zA5, zA6]
     refine zT (i := 5) (v := ?_) rfl (Or.inl ⟨by kernel_rfl, ?_⟩) ?_
     rotate_left
     ·rintro w ⟨s0, s1, s2⟩
      go_simp
      try simp only [hd, hdd]
      try with_reducible rfl
     try simp only [Act.put, zA1, zA2, zA3, zA4, zA5, zA6]
     refine zT (i := 6) (v := ?_) rfl (Or.inl ⟨by kernel_rfl, ?_⟩) ?_
     rotate_left
     ·rintro w ⟨s0, s1, s2⟩
      go_simp
      try simp only [hd, hdd]
      try with_reducible rfl
     try simp only [Act.put, zA1, zA2, zA3, zA4, zA5, zA6]
     refine zT (i := 7) (v := ?_) rfl (Or.inl ⟨by kernel_rfl, ?_⟩) ?_
     rotate_left
     ·rintro w ⟨s0, s1, s2⟩
      go_simp
      try simp only [hd, hdd]
      try with_reducible rfl
     try simp only [Act.put, zA1, zA2, zA3, zA4, zA5, zA6]
     refine zT (i := 8) (v := ?_) rfl (Or.inl ⟨by kernel_rfl, ?_⟩) ?_
     rotate_left
     ·rintro w ⟨s0, s1, s2⟩
      go_simp
      try simp only [hd, hdd]
      try with_reducible rfl
     try simp only [Act.put, zA1, zA2, zA3, zA4, zA5, zA6]
     refine zT (i := 9) (v := ?_) rfl (Or.inl ⟨by kernel_rfl, ?_⟩) ?_
     rotate_left
     ·rintro w ⟨s0, s1, s2⟩
      go_simp
      try simp only [hd, hdd]
      try with_reducible rfl
     try simp only [Act.put, zA1, zA2, zA3, zA4, zA5, zA6]
     refine zT (i := 10) (v := ?_) rfl (Or.inl ⟨by kernel_rfl, ?_⟩) ?_
     rotate_left
     ·rintro w ⟨s0, s1, s2⟩
      go_simp
      try simp only [hd, hdd]
      try with_reducible rfl
     try simp only [Act.put, zA1, zA2, zA3, zA4, zA5, zA6]
     refine zT (i := 11) (v := ?_) rfl (Or.inl ⟨by kernel_rfl, ?_⟩) ?_
     rotate_left
     ·rintro w ⟨s0, s1, s2⟩
      go_simp
      try simp only [hd, hdd]
      try with_reducible rfl
     try simp only [Act.put, zA1, zA2, zA3, zA4, zA5, zA6]
     refine zT (i := 12) (v := ?_) rfl (Or.inl ⟨by kernel_rfl, ?_⟩) ?_
     rotate_left
     ·rintro w ⟨s0, s1, s2⟩
      go_simp
      try simp only [hd, hdd]
      try with_reducible rfl
     try simp only [Act.put, zA1, zA2, zA3, zA4, zA5, zA6]
     refine zT (i := 13) (v := ?_) rfl (Or.inl ⟨by kernel_rfl, ?_⟩) ?_
     rotate_left
     ·rintro w ⟨s0, s1, s2⟩
      go_simp
      try simp only [hd, hdd]
      try with_reducible rfl
     try simp only [Act.put, zA1, zA2, zA3, zA4, zA5, zA6]
     refine zT (i := 14) (v := ?_) rfl (Or.inl ⟨by kernel_rfl, ?_⟩) ?_
     rotate_left
     ·rintro w ⟨s0, s1, s2⟩
      go_simp
      try simp only [hd, hdd]
      try with_reducible rfl
     try simp only [Act.put, zA1, zA2, zA3, zA4, zA5, zA6]
     refine wpAnyH_done (by kernel_rfl) ?_ _
     have hX := hHeld.2.2
     clear hHeld
     have HXX := Lib.hid (bstep HB.out hX)
     clear hX
     go_wp2
     go_ret
     exact ⟨rfl, HXX.out⟩
    ·subst h1
     have Hst : Hid (decide (0 < cmpL (L.drop (k + 1)) (M.drop (k + 1))) = y) := Lib.hid (by
      have hz1 : cmpZ z z = 0 := by unfold cmpZ; rw [if_neg (by omega), if_neg (by omega)]
      rw [← hst, hz1, if_pos rfl])
     have hdd : decide (z < z) = false := by simp
     clear hst
     go_wp2_with fail
     refine wp_region_held_drew (S := fun w' => w'.cell? ⟨b1, o1 + k, none⟩ = some (.int .i64 z) ∧ w'.cell? ⟨b2, o2 + k, none⟩ = some (.int .i64 z) ∧ Below wr.heap.size wr w') (by kernel_rfl) ?_ (fun hHeld => ?_)
     ·exact HS.out _ (by first | exact Below.drew (Below.refl _ _) | exact Below.drew hyy.2.2 | exact Below.drew hyy.2.2)
     refine zT (i := 0) (v := ?_) rfl (Or.inl ⟨by kernel_rfl, ?_⟩) ?_
     rotate_left
     ·rintro w ⟨s0, s1, s2⟩
      go_simp
      try simp only [hd, hdd]
      try with_reducible rfl
     try simp only [Act.put, zA1, zA2, zA3, zA4, zA5, zA6]
     refine zT (i := 1) (v := ?_) rfl (Or.inl ⟨by kernel_rfl, ?_⟩) ?_
     rotate_left
     ·rintro w ⟨s0, s1, s2⟩
      go_simp
      try simp only [hd, hdd]
      try with_reducible rfl
     try simp only [Act.put, zA1, zA2, zA3, zA4, zA5, zA6]
     refine zT (i := 2) (v := ?_) rfl (Or.inl ⟨by kernel_rfl, ?_⟩) ?_
     rotate_left
     ·rintro w ⟨s0, s1, s2⟩
      go_simp
      try simp only [hd, hdd]
      try with_reducible rfl
     try simp only [Act.put, zA1, zA2, zA3, zA4, zA5, zA6]
     refine zT (i := 3) (v := ?_) rfl (Or.inl ⟨by kernel_rfl, ?_⟩) ?_
     rotate_left
     ·rintro w ⟨s0, s1, s2⟩
      go_simp
      try simp only [hd, hdd]
      try with_reducible rfl
     try simp only [Act.put, zA1, zA2, zA3, zA4, zA5, zA6]
     refine zT (i := 4) (v := ?_) rfl (Or.inl ⟨by kernel_rfl, ?_⟩) ?_
     rotate_left
     ·rintro w ⟨s0, s1, s2⟩
      go_simp
      try simp only [hd, hdd]
      try with_reducible rfl
     try simp only [Act.put, zA1, zA2, zA3, zA4, zA5, zA6]
     refine zT (i := 5) (v := ?_) rfl (Or.inl ⟨by kernel_rfl, ?_⟩) ?_
     rotate_left
     ·rintro w ⟨s0, s1, s2⟩
      go_simp
      try simp only [hd, hdd]
      try with_reducible rfl
     try simp only [Act.put, zA1, zA2, zA3, zA4, zA5, zA6]
     refine zT (i := 6) (v := ?_) rfl (Or.inl ⟨by kernel_rfl, ?_⟩) ?_
     rotate_left
     ·rintro w ⟨s0, s1, s2⟩
      go_simp
      try simp only [hd, hdd]
      try with_reducible rfl
     try simp only [Act.put, zA1, zA2, zA3, zA4, zA5, zA6]
     refine zT (i := 7) (v := ?_) rfl (Or.inl ⟨by kernel_rfl, ?_⟩) ?_
     rotate_left
     ·rintro w ⟨s0, s1, s2⟩
      go_simp
      try simp only [hd, hdd]
      try with_reducible rfl
     try simp only [Act.put, zA1, zA2, zA3, zA4, zA5, zA6]
     refine zT (i := 8) (v := ?_) rfl (Or.inl ⟨by kernel_rfl, ?_⟩) ?_
     rotate_left
     ·rintro w ⟨s0, s1, s2⟩
      go_simp
      try simp only [hd, hdd]
      try with_reducible rfl
     try simp only [Act.put, zA1, zA2, zA3, zA4, zA5, zA6]
     refine zT (i := 9) (v := ?_) rfl (Or.inl ⟨by kernel_rfl, ?_⟩) ?_
     rotate_left
     ·rintro w ⟨s0, s1, s2⟩
      go_simp
      try simp only [hd, hdd]
      try with_reducible rfl
     try simp only [Act.put, zA1, zA2, zA3, zA4, zA5, zA6]
     refine zT (i := 10) (v := ?_) rfl (Or.inl ⟨by kernel_rfl, ?_⟩) ?_
     rotate_left
     ·rintro w ⟨s0, s1, s2⟩
      go_simp
      try simp only [hd, hdd]
      try with_reducible rfl
     try simp only [Act.put, zA1, zA2, zA3, zA4, zA5, zA6]
     refine zT (i := 11) (v := ?_) rfl (Or.inl ⟨by kernel_rfl, ?_⟩) ?_
     rotate_left
     ·rintro w ⟨s0, s1, s2⟩
      go_simp
      try simp only [hd, hdd]
      try with_reducible rfl
     try simp only [Act.put, zA1, zA2, zA3, zA4, zA5, zA6]
     refine zT (i := 12) (v := ?_) rfl (Or.inl ⟨by kernel_rfl, ?_⟩) ?_
     rotate_left
     ·rintro w ⟨s0, s1, s2⟩
      go_simp
      try simp only [hd, hdd]
      try with_reducible rfl
     try simp only [Act.put, zA1, zA2, zA3, zA4, zA5, zA6]
     refine zT (i := 13) (v := ?_) rfl (Or.inl ⟨by kernel_rfl, ?_⟩) ?_
     rotate_left
     ·rintro w ⟨s0, s1, s2⟩
      go_simp
      try simp only [hd, hdd]
      try with_reducible rfl
     try simp only [Act.put, zA1, zA2, zA3, zA4, zA5, zA6]
     refine zT (i := 14) (v := ?_) rfl (Or.inl ⟨by kernel_rfl, ?_⟩) ?_
     rotate_left
     ·rintro w ⟨s0, s1, s2⟩
      go_simp
      try simp only [hd, hdd]
      try with_reducible rfl
     try simp only [Act.put, zA1, zA2, zA3, zA4, zA5, zA6]
     refine wpAnyH_done (by kernel_rfl) ?_ _
     have hX := hHeld.2.2
     clear hHeld
     have HXX := Lib.hid (bstep HB.out hX)
     have hyy := HS.out _ hX
     clear hX
     go_wp2_with fail
     refine wp_region_held_drew (S := fun w' => w'.cell? ⟨b1, o1 + k, none⟩ = some (.int .i64 z) ∧ w'.cell? ⟨b2, o2 + k, none⟩ = some (.int .i64 z) ∧ Below wr.heap.size wr w') (by kernel_rfl) ?_ (fun hHeld => ?_)
     ·exact HS.out _ (by first | exact Below.drew (Below.refl _ _) | exact Below.drew hyy.2.2 | exact Below.drew hyy.2.2)
     refine zT (i := 0) (v := ?_) rfl (Or.inl ⟨by kernel_rfl, ?_⟩) ?_
     rotate_left
     ·rintro w ⟨s0, s1, s2⟩
      go_simp
      try simp only [hd, hdd]
      try with_reducible rfl
     try simp only [Act.put, zA1, zA2, zA3, zA4, zA5, zA6]
     refine zT (i := 1) (v := ?_) rfl (Or.inl ⟨by kernel_rfl, ?_⟩) ?_
     rotate_left
     ·rintro w ⟨s0, s1, s2⟩
      go_simp
      try simp only [hd, hdd]
      try with_reducible rfl
     try simp only [Act.put, zA1, zA2, zA3, zA4, zA5, zA6]
     refine zT (i := 2) (v := ?_) rfl (Or.inl ⟨by kernel_rfl, ?_⟩) ?_
     rotate_left
     ·rintro w ⟨s0, s1, s2⟩
      go_simp
      try simp only [hd, hdd]
      try with_reducible rfl
     try simp only [Act.put, zA1, zA2, zA3, zA4, zA5, zA6]
     refine zT (i := 3) (v := ?_) rfl (Or.inl ⟨by kernel_rfl, ?_⟩) ?_
     rotate_left
     ·rintro w ⟨s0, s1, s2⟩
      go_simp
      try simp only [hd, hdd]
      try with_reducible rfl
     try simp only [Act.put, zA1, zA2, zA3, zA4, zA5, zA6]
     refine zT (i := 4) (v := ?_) rfl (Or.inl ⟨by kernel_rfl, ?_⟩) ?_
     rotate_left
     ·rintro w ⟨s0, s1, s2⟩
      go_simp
      try simp only [hd, hdd]
      try with_reducible rfl
     try simp only [Act.put, zA1, zA2, zA3, zA4, zA5, zA6]
     refine zT (i := 5) (v := ?_) rfl (Or.inl ⟨by kernel_rfl, ?_⟩) ?_
     rotate_left
     ·rintro w ⟨s0, s1, s2⟩
      go_simp
      try simp only [hd, hdd]
      try with_reducible rfl
     try simp only [Act.put, zA1, zA2, zA3, zA4, zA5, zA6]
     refine zT (i := 6) (v := ?_) rfl (Or.inl ⟨by kernel_rfl, ?_⟩) ?_
     rotate_left
     ·rintro w ⟨s0, s1, s2⟩
      go_simp
      try simp only [hd, hdd]
      try with_reducible rfl
     try simp only [Act.put, zA1, zA2, zA3, zA4, zA5, zA6]
     refine zT (i := 7) (v := ?_) rfl (Or.inl ⟨by kernel_rfl, ?_⟩) ?_
     rotate_left
     ·rintro w ⟨s0, s1, s2⟩
      go_simp
      try simp only [hd, hdd]
      try with_reducible rfl
     try simp only [Act.put, zA1, zA2, zA3, zA4, zA5, zA6]
     refine zT (i := 8) (v := ?_) rfl (Or.inl ⟨by kernel_rfl, ?_⟩) ?_
     rotate_left
     ·rintro w ⟨s0, s1, s2⟩
      go_simp
      try simp only [hd, hdd]
      try with_reducible rfl
     try simp only [Act.put, zA1, zA2, zA3, zA4, zA5, zA6]
     refine wpAnyH_done (by kernel_rfl) ?_ _
     have hX := hHeld.2.2
     clear hHeld
     have HXX := Lib.hid (bstep HB.out hX)
     clear hX hyy
     go_wp2
     go_roundw
     case rel => exact ⟨k + 1, by omega, by omega, by go_num, Hst, HXX.out⟩
     case measure => simp [RowKit.intOf]; omega
    ·have e : y = false := by
      have hz1 : cmpZ x z = -1 := by unfold cmpZ; rw [if_pos h1]
      rw [← hst, hz1]
      simp
     have hdd : decide (z < x) = false := decide_eq_false (by omega)
     subst e
     clear hst
     go_wp2_with fail
     refine wp_region_held_drew (S := fun w' => w'.cell? ⟨b1, o1 + k, none⟩ = some (.int .i64 x) ∧ w'.cell? ⟨b2, o2 + k, none⟩ = some (.int .i64 z) ∧ Below wr.heap.size wr w') (by kernel_rfl) ?_ (fun hHeld => ?_)
     ·exact HS.out _ (by first | exact Below.drew (Below.refl _ _) | exact Below.drew hyy.2.2 | exact Below.drew hyy.2.2)
     refine zT (i := 0) (v := ?_) rfl (Or.inl ⟨by kernel_rfl, ?_⟩) ?_
     rotate_left
     ·rintro w ⟨s0, s1, s2⟩
      go_simp
      try simp only [hd, hdd]
      try with_reducible rfl
     try simp only [Act.put, zA1, zA2, zA3, zA4, zA5, zA6]
     refine zT (i := 1) (v := ?_) rfl (Or.inl ⟨by kernel_rfl, ?_⟩) ?_
     rotate_left
     ·rintro w ⟨s0, s1, s2⟩
      go_simp
      try simp only [hd, hdd]
      try with_reducible rfl
     try simp only [Act.put, zA1, zA2, zA3, zA4, zA5, zA6]
     refine zT (i := 2) (v := ?_) rfl (Or.inl ⟨by kernel_rfl, ?_⟩) ?_
     rotate_left
     ·rintro w ⟨s0, s1, s2⟩
      go_simp
      try simp only [hd, hdd]
      try with_reducible rfl
     try simp only [Act.put, zA1, zA2, zA3, zA4, zA5, zA6]
     refine zT (i := 3) (v := ?_) rfl (Or.inl ⟨by kernel_rfl, ?_⟩) ?_
     rotate_left
     ·rintro w ⟨s0, s1, s2⟩
      go_simp
      try simp only [hd, hdd]
      try with_reducible rfl
     try simp only [Act.put, zA1, zA2, zA3, zA4, zA5, zA6]
     refine zT (i := 4) (v := ?_) rfl (Or.inl ⟨by kernel_rfl, ?_⟩) ?_
     rotate_left
     ·rintro w ⟨s0, s1, s2⟩
      go_simp
      try simp only [hd, hdd]
      try with_reducible rfl
     try simp only [Act.put, zA1, zA2, zA3, zA4, zA5, zA6]
     refine zT (i := 5) (v := ?_) rfl (Or.inl ⟨by kernel_rfl, ?_⟩) ?_
     rotate_left
     ·rintro w ⟨s0, s1, s2⟩
      go_simp
      try simp only [hd, hdd]
      try with_reducible rfl
     try simp only [Act.put, zA1, zA2, zA3, zA4, zA5, zA6]
     refine zT (i := 6) (v := ?_) rfl (Or.inl ⟨by kernel_rfl, ?_⟩) ?_
     rotate_left
     ·rintro w ⟨s0, s1, s2⟩
      go_simp
      try simp only [hd, hdd]
      try with_reducible rfl
     try simp only [Act.put, zA1, zA2, zA3, zA4, zA5, zA6]
     refine zT (i := 7) (v := ?_) rfl (Or.inl ⟨by kernel_rfl, ?_⟩) ?_
     rotate_left
     ·rintro w ⟨s0, s1, s2⟩
      go_simp
      try simp only [hd, hdd]
      try with_reducible rfl
     try simp only [Act.put, zA1, zA2, zA3, zA4, zA5, zA6]
     refine zT (i := 8) (v := ?_) rfl (Or.inl ⟨by kernel_rfl, ?_⟩) ?_
     rotate_left
     ·rintro w ⟨s0, s1, s2⟩
      go_simp
      try simp only [hd, hdd]
      try with_reducible rfl
     try simp only [Act.put, zA1, zA2, zA3, zA4, zA5, zA6]
     refine zT (i := 9) (v := ?_) rfl (Or.inl ⟨by kernel_rfl, ?_⟩) ?_
     rotate_left
     ·rintro w ⟨s0, s1, s2⟩
      go_simp
      try simp only [hd, hdd]
      try with_reducible rfl
     try simp only [Act.put, zA1, zA2, zA3, zA4, zA5, zA6]
     refine zT (i := 10) (v := ?_) rfl (Or.inl ⟨by kernel_rfl, ?_⟩) ?_
     rotate_left
     ·rintro w ⟨s0, s1, s2⟩
      go_simp
      try simp only [hd, hdd]
      try with_reducible rfl
     try simp only [Act.put, zA1, zA2, zA3, zA4, zA5, zA6]
     refine zT (i := 11) (v := ?_) rfl (Or.inl ⟨by kernel_rfl, ?_⟩) ?_
     rotate_left
     ·rintro w ⟨s0, s1, s2⟩
      go_simp
      try simp only [hd, hdd]
      try with_reducible rfl
     try simp only [Act.put, zA1, zA2, zA3, zA4, zA5, zA6]
     refine zT (i := 12) (v := ?_) rfl (Or.inl ⟨by kernel_rfl, ?_⟩) ?_
     rotate_left
     ·rintro w ⟨s0, s1, s2⟩
      go_simp
      try simp only [hd, hdd]
      try with_reducible rfl
     try simp only [Act.put, zA1, zA2, zA3, zA4, zA5, zA6]
     refine zT (i := 13) (v := ?_) rfl (Or.inl ⟨by kernel_rfl, ?_⟩) ?_
     rotate_left
     ·rintro w ⟨s0, s1, s2⟩
      go_simp
      try simp only [hd, hdd]
      try with_reducible rfl
     try simp only [Act.put, zA1, zA2, zA3, zA4, zA5, zA6]
     refine zT (i := 14) (v := ?_) rfl (Or.inl ⟨by kernel_rfl, ?_⟩) ?_
     rotate_left
     ·rintro w ⟨s0, s1, s2⟩
      go_simp
      try simp only [hd, hdd]
      try with_reducible rfl
     try simp only [Act.put, zA1, zA2, zA3, zA4, zA5, zA6]
     refine wpAnyH_done (by kernel_rfl) ?_ _
     have hX := hHeld.2.2
     clear hHeld
     have HXX := Lib.hid (bstep HB.out hX)
     have hyy := HS.out _ hX
     clear hX
     go_wp2_with fail
     refine wp_region_held_drew (S := fun w' => w'.cell? ⟨b1, o1 + k, none⟩ = some (.int .i64 x) ∧ w'.cell? ⟨b2, o2 + k, none⟩ = some (.int .i64 z) ∧ Below wr.heap.size wr w') (by kernel_rfl) ?_ (fun hHeld => ?_)
     ·exact HS.out _ (by first | exact Below.drew (Below.refl _ _) | exact Below.drew hyy.2.2 | exact Below.drew hyy.2.2)
     refine zT (i := 0) (v := ?_) rfl (Or.inl ⟨by kernel_rfl, ?_⟩) ?_
     rotate_left
     ·rintro w ⟨s0, s1, s2⟩
      go_simp
      try simp only [hd, hdd]
      try with_reducible rfl
     try simp only [Act.put, zA1, zA2, zA3, zA4, zA5, zA6]
     refine zT (i := 1) (v := ?_) rfl (Or.inl ⟨by kernel_rfl, ?_⟩) ?_
     rotate_left
     ·rintro w ⟨s0, s1, s2⟩
      go_simp
      try simp only [hd, hdd]
      try with_reducible rfl
     try simp only [Act.put, zA1, zA2, zA3, zA4, zA5, zA6]
     refine zT (i := 2) (v := ?_) rfl (Or.inl ⟨by kernel_rfl, ?_⟩) ?_
     rotate_left
     ·rintro w ⟨s0, s1, s2⟩
      go_simp
      try simp only [hd, hdd]
      try with_reducible rfl
     try simp only [Act.put, zA1, zA2, zA3, zA4, zA5, zA6]
     refine zT (i := 3) (v := ?_) rfl (Or.inl ⟨by kernel_rfl, ?_⟩) ?_
     rotate_left
     ·rintro w ⟨s0, s1, s2⟩
      go_simp
      try simp only [hd, hdd]
      try with_reducible rfl
     try simp only [Act.put, zA1, zA2, zA3, zA4, zA5, zA6]
     refine zT (i := 4) (v := ?_) rfl (Or.inl ⟨by kernel_rfl, ?_⟩) ?_
     rotate_left
     ·rintro w ⟨s0, s1, s2⟩
      go_simp
      try simp only [hd, hdd]
      try with_reducible rfl
     try simp only [Act.put, zA1, zA2, zA3, zA4, zA5, zA6]
     refine zT (i := 5) (v := ?_) rfl (Or.inl ⟨by kernel_rfl, ?_⟩) ?_
     rotate_left
     ·rintro w ⟨s0, s1, s2⟩
      go_simp
      try simp only [hd, hdd]
      try with_reducible rfl
     try simp only [Act.put, zA1, zA2, zA3, zA4, zA5, zA6]
     refine zT (i := 6) (v := ?_) rfl (Or.inl ⟨by kernel_rfl, ?_⟩) ?_
     rotate_left
     ·rintro w ⟨s0, s1, s2⟩
      go_simp
      try simp only [hd, hdd]
      try with_reducible rfl
     try simp only [Act.put, zA1, zA2, zA3, zA4, zA5, zA6]
     refine zT (i := 7) (v := ?_) rfl (Or.inl ⟨by kernel_rfl, ?_⟩) ?_
     rotate_left
     ·rintro w ⟨s0, s1, s2⟩
      go_simp
      try simp only [hd, hdd]
      try with_reducible rfl
     try simp only [Act.put, zA1, zA2, zA3, zA4, zA5, zA6]
     refine zT (i := 8) (v := ?_) rfl (Or.inl ⟨by kernel_rfl, ?_⟩) ?_
     rotate_left
     ·rintro w ⟨s0, s1, s2⟩
      go_simp
      try simp only [hd, hdd]
      try with_reducible rfl
     try simp only [Act.put, zA1, zA2, zA3, zA4, zA5, zA6]
     refine wpAnyH_done (by kernel_rfl) ?_ _
     have hX := hHeld.2.2
     clear hHeld
     have HXX := Lib.hid (bstep HB.out hX)
     clear hX hyy
     go_wp2
     go_ret
     exact ⟨rfl, HXX.out⟩
   ·have hkm : (m : Int) ≤ (k : Int) := by omega
    have hd : decide (m ≤ k) = true := decide_eq_true (by omega)
    obtain ⟨hkl, _⟩ := List.getElem?_eq_some_iff.1 hx
    rw [List.drop_eq_getElem_cons hkl, (show M.drop k = [] from List.drop_eq_nil_of_le (by rw [Hm.out]; omega)), cmpL] at hst
    have e : y = true := by rw [← hst]; rfl
    subst e
    have HB := Lib.hid hb
    clear hx HK hb hst
    go_wp2_with fail
    refine wp_region_held_drew (S := fun w' => Below wr.heap.size wr w') (by kernel_rfl) ?_ (fun hHeld => ?_)
    ·exact Below.drew (Below.refl _ _)
    refine zT (i := 0) (v := ?_) rfl (Or.inl ⟨by kernel_rfl, ?_⟩) ?_
    rotate_left
    ·rintro w s0
     go_simp
     try simp only [hd]
     try with_reducible rfl
    try simp only [Act.put, zA1, zA2, zA3, zA4, zA5, zA6]
    refine zT (i := 1) (v := ?_) rfl (Or.inl ⟨by kernel_rfl, ?_⟩) ?_
    rotate_left
    ·rintro w s0
     go_simp
     try simp only [hd]
     try with_reducible rfl
    try simp only [Act.put, zA1, zA2, zA3, zA4, zA5, zA6]
    refine zT (i := 2) (v := ?_) rfl (Or.inl ⟨by kernel_rfl, ?_⟩) ?_
    rotate_left
    ·rintro w s0
     go_simp
     try simp only [hd]
     try with_reducible rfl
    try simp only [Act.put, zA1, zA2, zA3, zA4, zA5, zA6]
    refine zT (i := 3) (v := ?_) rfl (Or.inl ⟨by kernel_rfl, ?_⟩) ?_
    rotate_left
    ·rintro w s0
     go_simp
     try simp only [hd]
     try with_reducible rfl
    try simp only [Act.put, zA1, zA2, zA3, zA4, zA5, zA6]
    refine zT (i := 4) (v := ?_) rfl (Or.inl ⟨by kernel_rfl, ?_⟩) ?_
    rotate_left
    ·rintro w s0
     go_simp
     try simp only [hd]
     try with_reducible rfl
    try simp only [Act.put, zA1, zA2, zA3, zA4, zA5, zA6]
    refine wpAnyH_take (i := 5) (oi := _) (v := undef) rfl (by kernel_rfl) (by kernel_rfl) (by kernel_rfl) (fun _ _ _ h => h) (Or.inr ⟨by kernel_rfl, rfl⟩) (by assumption) ?_
    try simp only [Act.put, zA1, zA2, zA3, zA4, zA5, zA6]
    refine wpAnyH_take (i := 6) (oi := _) (v := undef) rfl (by kernel_rfl) (by kernel_rfl) (by kernel_rfl) (fun _ _ _ h => h) (Or.inr ⟨by kernel_rfl, rfl⟩) (by assumption) ?_
    try simp only [Act.put, zA1, zA2, zA3, zA4, zA5, zA6]
    refine wpAnyH_take (i := 7) (oi := _) (v := undef) rfl (by kernel_rfl) (by kernel_rfl) (by kernel_rfl) (fun _ _ _ h => h) (Or.inr ⟨by kernel_rfl, rfl⟩) (by assumption) ?_
    try simp only [Act.put, zA1, zA2, zA3, zA4, zA5, zA6]
    refine wpAnyH_take (i := 8) (oi := _) (v := undef) rfl (by kernel_rfl) (by kernel_rfl) (by kernel_rfl) (fun _ _ _ h => h) (Or.inr ⟨by kernel_rfl, rfl⟩) (by assumption) ?_
    try simp only [Act.put, zA1, zA2, zA3, zA4, zA5, zA6]
    refine wpAnyH_take (i := 9) (oi := _) (v := undef) rfl (by kernel_rfl) (by kernel_rfl) (by kernel_rfl) (fun _ _ _ h => h) (Or.inr ⟨by kernel_rfl, rfl⟩) (by assumption) ?_
    try simp only [Act.put, zA1, zA2, zA3, zA4, zA5, zA6]
    refine wpAnyH_take (i := 10) (oi := _) (v := undef) rfl (by kernel_rfl) (by kernel_rfl) (by kernel_rfl) (fun _ _ _ h => h) (Or.inr ⟨by kernel_rfl, rfl⟩) (by assumption) ?_
    try simp only [Act.put, zA1, zA2, zA3, zA4, zA5, zA6]
    refine wpAnyH_take (i := 11) (oi := _) (v := undef) rfl (by kernel_rfl) (by kernel_rfl) (by kernel_rfl) (fun _ _ _ h => h) (Or.inr ⟨by kernel_rfl, rfl⟩) (by assumption) ?_
    try simp only [Act.put, zA1, zA2, zA3, zA4, zA5, zA6]
    refine wpAnyH_take (i := 12) (oi := _) (v := undef) rfl (by kernel_rfl) (by kernel_rfl) (by kernel_rfl) (fun _ _ _ h => h) (Or.inr ⟨by kernel_rfl, rfl⟩) (by assumption) ?_
    try simp only [Act.put, zA1, zA2, zA3, zA4, zA5, zA6]
    refine wpAnyH_take (i := 13) (oi := _) (v := undef) rfl (by kernel_rfl) (by kernel_rfl) (by kernel_rfl) (fun _ _ _ h => h) (Or.inr ⟨by kernel_rfl, rfl⟩) (by assumption) ?_
    try simp only [Act.put, zA1, zA2, zA3, zA4, zA5, zA6]
    refine zT (i := 14) (v := ?_) rfl (Or.inl ⟨by kernel_rfl, ?_⟩) ?_
    rotate_left
    ·rintro w s0
     go_simp
     try simp only [hd]
     try with_reducible rfl
    try simp only [Act.put, zA1, zA2, zA3, zA4, zA5, zA6]
    refine wpAnyH_done (by kernel_rfl) ?_ _
    have hX := hHeld
    clear hHeld
    have HXX := Lib.hid (bstep HB.out hX)
    clear hX
    go_wp2
    go_ret
    exact ⟨rfl, HXX.out⟩
  ·have hst := HK.out
   rw [(show L.drop k = [] from List.drop_eq_nil_of_le (by rw [Hn.out]; omega)), decide_eq_false (cmpL_nil _)] at hst
   subst hst
   have HB := Lib.hid hb
   clear HK hb
   go_wp2
   go_ret
   exact ⟨rfl, HB.out⟩
theorem sers_getD {L : List RowR} {k : Nat} {r : RowR} (h : L[k]? = some r) : (sersOf L).getD k [] = serD r.T := by
 unfold sersOf
 rw [List.getD_eq_getElem?_getD, List.getElem?_map, h]; rfl
def rksZ (L : List RowR) : List Int := (List.range L.length).map fun i => ((rkB (rkR (sersOf L)) (rkBt (sersOf L)) L.length i : Nat) : Int)
theorem serD_len (r : RowR) (h : r.T.length = r.n) : (serD r.T).length ≤ r.n := by
 have h2 := (List.mergeSort_perm (r.T.filter fun t => decide (0 ≤ t)) (fun a b => decide (b ≤ a))).length_eq
 have h3 := List.length_filter_le (fun t => decide (0 ≤ t)) r.T
 unfold serD
 omega
set_option maxHeartbeats 8000000 in
theorem r6RowRanks_any (L : List RowR) (n cap : Nat) (A : Option Addr) (w : World) (hZ : Rows w A n L) (hn : n ≤ 100) (hs : ∀ r ∈ L, r.n ≤ 12) :
  Calls Tryz.prog 51 #[.slice A n cap] w (fun e w' => ∃ v, e = .returned v ∧ OwnZ w' w.heap.size v (rksZ L) ∧ Below w.heap.size w w') := by
 obtain ⟨i0, hi, hz0, hz1, hz2⟩ := info_parts infoInt
 have hni : (n : Int) ≤ 100 := by omega
 have H := Lib.hid hZ
 have HL := Lib.hid hZ.1
 have HSr : Hid (∀ (k : Nat) (r : RowR) (w' : World), L[k]? = some r → IntsZ w' r.A r.n r.T → Calls Tryz.prog 52 #[.agg #[.string r.s, .slice r.A r.n r.c, .bool r.rt]] w' (fun e w'' => ∃ v, e = .returned v ∧ OwnZ w'' w'.heap.size v (serD r.T) ∧ Below w'.heap.size w' w'')) := Lib.hid fun k r w' hk hT =>
  r6Series_any r w' hT (hs r (List.mem_of_getElem? hk))
 have HLe : Hid (∀ (k : Nat) (r : RowR), L[k]? = some r → r.T.length = r.n → (serD r.T).length ≤ 1000) := Lib.hid fun k r hk hT => by
  have := serD_len r hT
  have := hs r (List.mem_of_getElem? hk)
  omega
 have HGt : Hid (∀ (k : Nat) (r : RowR), L[k]? = some r → (sersOf L).getD k [] = serD r.T) := Lib.hid fun k r h => sers_getD h
 unfold rksZ
 rw [hZ.1]
 obtain ⟨R, hR⟩ : ∃ R, rkR (sersOf L) = R := ⟨_, rfl⟩
 obtain ⟨bt, hbt⟩ : ∃ bt, rkBt (sersOf L) = bt := ⟨_, rfl⟩
 have HR : Hid (∀ (i : Nat) (r : RowR), L[i]? = some r → R i = decide (0 < (serD r.T).length)) := Lib.hid fun i r h => by rw [← hR]; unfold rkR; rw [sers_getD h]
 have HBT : Hid (∀ (j i : Nat) (q r : RowR), L[j]? = some q → L[i]? = some r → bt j i = decide (0 < cmpL (serD q.T) (serD r.T))) := Lib.hid fun j i q r h h' => by rw [← hbt]; unfold rkBt; rw [sers_getD h, sers_getD h']
 rw [hR, hbt]
 clear hZ hs hR hbt
 go_enter Tryz.func51, Tryz.ntmps51
 go_wp2
 go_loopw [3, 4] (fun v i wr => ∃ k : Nat, k ≤ n ∧ i = .int .i64 k ∧ OwnZ wr w.heap.size v ((List.range k).map fun i => ((rkB R bt n i : Nat) : Int)) ∧ Below w.heap.size w wr) (fun _ i _ => n - (RowKit.intOf i).toNat)
 case atStart => exact ⟨0, by omega, rfl, World.ownsRow_nil _ _ _ _, Below.refl _ _⟩
 case round =>
  obtain ⟨k, hk, rfl, hown, hb⟩ := hrel
  by_cases hlt : k < n
  ·obtain ⟨b', off, r, rfl, hbl, hx, ⟨hc0, hc1, hc2⟩, hT, hcap⟩ := H.out.at_ hlt
   have hki : (k : Int) < (n : Int) := by omega
   have hk0 : (0 : Int) ≤ (k : Int) := by omega
   have hkt : ((k : Int)).toNat = k := by omega
   have hlen : ((List.range k).map fun i => ((rkB R bt n i : Nat) : Int)).length = k := by simp
   have hst : ((List.range (k + 1)).map fun i => ((rkB R bt n i : Nat) : Int)) = ((List.range k).map fun i => ((rkB R bt n i : Nat) : Int)) ++ [((rkB R bt n k : Nat) : Int)] := by rw [List.range_succ, List.map_append]; rfl
   have Hst := Lib.hid hst
   have Hlen := Lib.hid hlen
   have hrk : rkB R bt n k = if 0 < (serD r.T).length then 1 + cntB bt k n else 0 := by
    unfold rkB
    rw [HR.out k r hx]
    by_cases q : 0 < (serD r.T).length <;> simp [q]
   have HRK := Lib.hid hrk
   have HBK : Hid (∀ (j : Nat) (q : RowR), L[j]? = some q → bt j k = decide (0 < cmpL (serD q.T) (serD r.T))) := Lib.hid fun j q h => HBT.out j k q r h hx
   have d0 := (hb.cell (p := ⟨b', _, none⟩) hbl).trans hc0
   have d1 := (hb.cell (p := ⟨b', _, none⟩) hbl).trans hc1
   have d2 := (hb.cell (p := ⟨b', _, none⟩) hbl).trans hc2
   have hS := HSr.out k r wr hx (hT.below hb)
   have hle := HLe.out k r hx hT.1
   have HOX := Lib.hid hown
   have HB := Lib.hid hb
   generalize ((List.range k).map fun i => ((rkB R bt n i : Nat) : Int)) = P at *
   generalize serD r.T = S at *
   clear hst hlen hx hown hb hT hcap hrk hc0 hc1 hc2 hbl
   go_wp2_with fail
   refine hS.mono ?_
   rintro e w2 ⟨v2, rfl, ho2, hb2⟩
   obtain ⟨A2, c2, rfl, hI2⟩ := IntsZ.of_own ho2
   obtain ⟨m2, hm2⟩ : ∃ m2, S.length = m2 := ⟨_, rfl⟩
   rw [hm2] at hI2 hle HRK ⊢
   have HI2 := Lib.hid hI2
   have HB2 := Lib.hid (bstep HB.out hb2)
   have HO2 := Lib.hid (ownN HOX.out hb2)
   have hm2i : (m2 : Int) ≤ 1000 := by omega
   clear ho2 hI2 hb2 hS hm2 d0 d1 d2
   by_cases hp : 0 < m2
   ·have hpi : (0 : Int) < (m2 : Int) := by omega
    have HRE : Hid (rkB R bt n k = 1 + cntB bt k n) := Lib.hid (by rw [HRK.out, if_pos hp])
    go_wp2
    go_loopw [6, 7] (fun ra i wx => ∃ j : Nat, j ≤ n ∧ i = .int .i64 j ∧ ra = .int .i64 ((1 + cntB bt k j : Nat) : Int) ∧ Below w2.heap.size w2 wx) (fun _ i _ => n - (RowKit.intOf i).toNat)
    case atStart => exact ⟨0, by omega, rfl, rfl, Below.refl _ _⟩
    case round =>
     obtain ⟨j, hj, rfl, rfl, hbx⟩ := hrel
     by_cases hjn : j < n
     ·obtain ⟨b3, off3, q, hA3, hbl3, hx3, ⟨hc0, hc1, hc2⟩, hT3, hcap3⟩ := H.out.at_ hjn
      cases hA3
      have hbw := bstep HB2.out hbx
      have hji : (j : Int) < (n : Int) := by omega
      have hj0 : (0 : Int) ≤ (j : Int) := by omega
      have hjt : ((j : Int)).toNat = j := by omega
      have d0 := (hbw.cell (p := ⟨b', _, none⟩) hbl3).trans hc0
      have d1 := (hbw.cell (p := ⟨b', _, none⟩) hbl3).trans hc1
      have d2 := (hbw.cell (p := ⟨b', _, none⟩) hbl3).trans hc2
      have hS := HSr.out j q wr hx3 (hT3.below hbw)
      have hle3 := HLe.out j q hx3 hT3.1
      have hbq := HBK.out j q hx3
      have hct : cntB bt k (j + 1) = cntB bt k j + if bt j k then 1 else 0 := rfl
      have hcl := cntB_le bt k j
      rw [hbq] at hct
      have HCT := Lib.hid hct
      have HBX := Lib.hid hbx
      generalize serD q.T = S3 at *
      generalize cntB bt k j = ct at *
      have hci : (ct : Int) ≤ 100 := by omega
      have hcast : ((1 + ct : Nat) : Int) = 1 + (ct : Int) := by omega
      rw [hcast]
      clear hc0 hc1 hc2 hT3 hcap3 hbl3 hbw hx3 hbq hct hbx hcast
      go_wp2_with fail
      refine hS.mono ?_
      rintro e w5 ⟨v5, rfl, ho5, hb5⟩
      obtain ⟨A5, c5, rfl, hI5⟩ := IntsZ.of_own ho5
      have hG := r6greater_any S3 S S3.length c5 m2 c2 A5 A2 w5 hI5 (HI2.out.below (bstep HBX.out hb5)) hle3 hle
      have HB5 := Lib.hid (bstep HBX.out hb5)
      generalize S3.length = m5 at *
      clear ho5 hI5 hb5 hS
      obtain ⟨g, hg⟩ : ∃ g, decide (0 < cmpL S3 S) = g := ⟨_, rfl⟩
      rw [hg] at hG
      have HG := Lib.hid hg
      clear hg
      go_wp2_with fail
      refine hG.mono ?_
      rintro e w6 ⟨rfl, hb6⟩
      have HB6 := Lib.hid (bstep HB5.out hb6)
      clear hb6 hG
      cases g with
      | true =>
       go_wp2
       go_roundw
       case rel => exact ⟨j + 1, by omega, by go_num, by rw [HCT.out, HG.out]; go_num, HB6.out⟩
       case measure => simp [RowKit.intOf]; omega
      | false =>
       go_wp2
       go_roundw
       case rel => exact ⟨j + 1, by omega, by go_num, by rw [HCT.out, HG.out]; go_num, HB6.out⟩
       case measure => simp [RowKit.intOf]; omega
     ·have hjn' : j = n := by omega
      subst hjn'
      rw [← HRE.out]
      generalize rkB R bt j k = rk at *
      have HO3 := Lib.hid (ownN HO2.out hbx)
      have HB3 := Lib.hid (bstep HB2.out hbx)
      have hown5 := HO3.out
      unfold OwnZ at hown5
      rw [Hlen.out] at hown5
      clear hbx
      go_wp2_with (at_builtin; refine wpList_append_own _ rfl _ _ 59 rfl w.heap.size 3 i0 (.int .i64 0) 1 8 Tryz.underlying59 hi hz0 hz1 hz2 rfl (by decide) _ _ _ rfl (World.ownsRow.alloc hown5 _) ⟨wr.heap.size, 0, none⟩ 1 1 [.int .i64 (rk : Int)] rfl rfl ?c1 ?c2 ?c3 ?c4 ?c5 ?_)
      case c1 =>
       intro j u hj
       match j, hj with
       | 0, hj => simp at hj; subst hj; simp [Addr.add]
      case c2 => intro u hu; simp at hu; subst hu; rfl
      case c3 => unfold maxLen; omega
      case c4 => omega
      case c5 => have := HB3.out.size; simp; omega
      intro v' w9 hown' hgrow _
      have hb9 : Below w.heap.size w w9 := (HB3.out.alloc HB3.out.size _).grown hgrow (by have := HB3.out.size; simp; omega) (fun r hr => (World.ownsRow.lt hown5 r hr).1)
      have ho9 : OwnZ w9 w.heap.size v' ((List.range (k + 1)).map fun i => ((rkB R bt j i : Nat) : Int)) := by
       rw [Hst.out]
       exact OwnZ.next (by rw [Hlen.out]; exact hown')
      clear hown' hgrow hown5
      go_wp2
      go_roundw
      case rel => exact ⟨k + 1, by omega, by go_num, ho9, hb9⟩
      case measure => simp [RowKit.intOf]; omega
   ·have hpi : ¬ (0 : Int) < (m2 : Int) := by omega
    have HRE : Hid (rkB R bt n k = 0) := Lib.hid (by rw [HRK.out, if_neg hp])
    obtain ⟨rk, hrk⟩ : ∃ rk, rkB R bt n k = rk := ⟨_, rfl⟩
    rw [hrk] at Hst HRE
    have hrk0 : rk = 0 := HRE.out
    have HO3 := HO2
    have HB3 := HB2
    have hown5 := HO3.out
    unfold OwnZ at hown5
    rw [Hlen.out] at hown5
    clear hrk
    subst hrk0
    go_wp2_with (at_builtin; refine wpList_append_own _ rfl _ _ 59 rfl w.heap.size 3 i0 (.int .i64 0) 1 8 Tryz.underlying59 hi hz0 hz1 hz2 rfl (by decide) _ _ _ rfl (World.ownsRow.alloc hown5 _) ⟨w2.heap.size, 0, none⟩ 1 1 [.int .i64 0] rfl rfl ?c1 ?c2 ?c3 ?c4 ?c5 ?_)
    case c1 =>
     intro j u hj
     match j, hj with
     | 0, hj => simp at hj; subst hj; simp [Addr.add]
    case c2 => intro u hu; simp at hu; subst hu; rfl
    case c3 => unfold maxLen; omega
    case c4 => omega
    case c5 => have := HB3.out.size; simp; omega
    intro v' w9 hown' hgrow _
    have hb9 : Below w.heap.size w w9 := (HB3.out.alloc HB3.out.size _).grown hgrow (by have := HB3.out.size; simp; omega) (fun r hr => (World.ownsRow.lt hown5 r hr).1)
    have ho9 : OwnZ w9 w.heap.size v' ((List.range (k + 1)).map fun i => ((rkB R bt n i : Nat) : Int)) := by
     rw [Hst.out]
     exact OwnZ.next (by rw [Hlen.out]; exact hown')
    clear hown' hgrow hown5
    go_wp2
    go_roundw
    case rel => exact ⟨k + 1, by omega, by go_num, ho9, hb9⟩
    case measure => simp [RowKit.intOf]; omega
  ·have hkn : k = n := by omega
   rw [hkn] at hown
   have HO := Lib.hid hown
   clear hown
   go_wp2
   go_ret
   exact ⟨_, rfl, HO.out, hb⟩
end Go.Mk
