/-
  Proved: formError of package field returns a plain function of a card (its name, the texts of its heights and of its jump-off). Conditions: the texts lie where the slices say; there are at most 5,000 of at most 5,000 bytes; the name is no longer than an int says.
-/
import Derived.Test.YthpcmhcokblglaaGreatDoorFcc
set_option linter.unusedVariables false
set_option linter.unusedSimpArgs false
open Go Go.Proofs Go.RowKit
set_option maxRecDepth 100000
namespace Go.Mk
theorem es3F (w : World) (a b c : Int) (t : TypeId) : Es (w.alloc (.cells #[.int .i64 a, .int .i64 b, .int .i64 c] t)) w.heap.size [a, b, c] := by
  intro i v hv
  match i, hv with
  | 0, hv => simp at hv; subst hv; simp
  | 1, hv => simp at hv; subst hv; simp
  | 2, hv => simp at hv; subst hv; simp
/-- The error of the form of a card. -/
def frmE (s : ByteArray) (H O : List (List UInt8)) : Int :=
  if fstN [nmE s, if 24 < H.length ∨ 24 < O.length then 5 else 0] ≠ 0 then fstN [nmE s, if 24 < H.length ∨ 24 < O.length then 5 else 0] else fstN [fstT htE H, fstT ofE O, fstP H 0 H]
set_option maxHeartbeats 8000000 in
theorem fdFormError_any (s : ByteArray) (H O : List ByteArray) (nh ch no co : Nat) (AH AO : Option Addr) (rt : Bool) (w : World) (hz : s.size ≤ maxLen) (hZ : TextsZ w AH nh H) (hn : nh ≤ 5000) (hcap : nh ≤ ch) (hs : ∀ x ∈ H, x.size ≤ 5000) (hZ2 : TextsZ w AO no O) (hn2 : no ≤ 5000) (hs2 : ∀ x ∈ O, x.size ≤ 5000) :
    Calls Tryz.prog 56 #[.agg #[.string s, .slice AH nh ch, .slice AO no co, .bool rt]] w (RetPost (.int .i64 (frmE s (bls H) (bls O))) w) := by
  obtain ⟨g, hg⟩ : ∃ g, w.heap.size = g := ⟨_, rfl⟩
  obtain ⟨w1, hw1⟩ : ∃ w1, w.alloc (.cells #[.string s, .slice AH nh ch, .slice AO no co, .bool rt] 61) = w1 := ⟨_, rfl⟩
  have hb1 : Below w.heap.size w w1 := by rw [← hw1]; exact balloc _ (Below.refl _ _)
  have hs1 : w1.heap.size = w.heap.size + 1 := by rw [← hw1]; simp
  have c0 : w1.cell? ⟨g, 0, none⟩ = some (.string s) := by rw [← hw1, ← hg]; simp
  have c1 : w1.cell? ⟨g, 1, none⟩ = some (.slice AH nh ch) := by rw [← hw1, ← hg]; simp
  have c2 : w1.cell? ⟨g, 2, none⟩ = some (.slice AO no co) := by rw [← hw1, ← hg]; simp
  have HX : Hid (∀ w', Below w1.heap.size w1 w' → w'.cell? ⟨g, 1, none⟩ = some (.slice AH nh ch) ∧ w'.cell? ⟨g, 2, none⟩ = some (.slice AO no co) ∧ Below w1.heap.size w1 w') := Lib.hid fun w' hb => ⟨(hb.cell (p := ⟨g, 1, none⟩) (by show g < _; omega)).trans c1, (hb.cell (p := ⟨g, 2, none⟩) (by show g < _; omega)).trans c2, hb⟩
  have HA : Hid (∀ w', Below w1.heap.size w1 w' → Calls Tryz.prog 111 #[.slice AH nh ch, .func (.func 112) #[] #[]] w' (RetPost (.int .i64 (fstT htE (bls H))) w')) := Lib.hid fun w' hb => fdFirstH_any H nh ch AH w' ((hZ.below hb1).below hb) hn hs
  have HB : Hid (∀ w', Below w1.heap.size w1 w' → Calls Tryz.prog 111 #[.slice AO no co, .func (.func 113) #[] #[]] w' (RetPost (.int .i64 (fstT ofE (bls O))) w')) := Lib.hid fun w' hb => fdFirstO_any O no co AO w' ((hZ2.below hb1).below hb) hn2 hs2
  have HC : Hid (∀ w', Below w1.heap.size w1 w' → Calls Tryz.prog 111 #[.slice AH nh ch, .func (.func 114) #[] #[.pointer (some ⟨g, 0, none⟩)]] w' (RetPost (.int .i64 (fstP (bls H) 0 (bls H))) w')) := Lib.hid fun w' hb => fdFirstP_any H nh ch ch g AH w' (HX.out _ hb).1 (by have := hb.size; omega) hcap ((hZ.below hb1).below hb) hn hs
  have hNm := fdName_any s w1 hz
  have hW := fun b w => trWhen_any b 5 w
  have hF20 := fun x y g w => trFirst_any [x, y] 2 rfl (by decide) g w
  have hF0 := fun x y z g w => trFirst_any [x, y, z] 3 rfl (by decide) g w
  obtain ⟨y, hy⟩ : ∃ y, frmE s (bls H) (bls O) = y := ⟨_, rfl⟩
  rw [hy]
  unfold frmE at hy
  have l1 : (bls H).length = nh := by unfold bls; rw [List.length_map]; exact hZ.1
  have l2 : (bls O).length = no := by unfold bls; rw [List.length_map]; exact hZ2.1
  rw [l1, l2] at hy
  have hni : (nh : Int) ≤ 5000 := by omega
  have hno : (no : Int) ≤ 5000 := by omega
  generalize nmE s = e1 at *
  generalize fstT htE (bls H) = a1 at *
  generalize fstT ofE (bls O) = a2 at *
  generalize fstP (bls H) 0 (bls H) = a3 at *
  have hcs : ∃ tb : Bool, (if 24 < nh ∨ 24 < no then (5 : Int) else 0) = (if tb = true then 5 else 0) ∧ ((tb = true ∧ (24 : Int) < nh) ∨ (tb = true ∧ ¬ (24 : Int) < nh ∧ (24 : Int) < no) ∨ (tb = false ∧ ¬ (24 : Int) < nh ∧ ¬ (24 : Int) < no)) := by
    by_cases q1 : 24 < nh
    · exact ⟨true, by simp [q1], .inl ⟨rfl, by omega⟩⟩
    · by_cases q2 : 24 < no
      · exact ⟨true, by simp [q2], .inr (.inl ⟨rfl, by omega, by omega⟩)⟩
      · exact ⟨false, by simp [q1, q2], .inr (.inr ⟨rfl, by omega, by omega⟩)⟩
  obtain ⟨tb, e2, hcs⟩ := hcs
  rw [e2] at hy
  clear e2 l1 l2 hZ hZ2 hs hs2 hz
  have hW2 := fun w => hW tb w
  obtain ⟨e2, he2⟩ : ∃ e2 : Int, (if tb = true then (5 : Int) else 0) = e2 := ⟨_, rfl⟩
  rw [he2] at hy hW2
  have hF2 := hF20 e1 e2
  obtain ⟨ee, hee⟩ : ∃ ee, fstN [e1, e2] = ee := ⟨_, rfl⟩
  rw [hee] at hy hF2
  have HB1 := Lib.hid hb1
  have hF := hF0 a1 a2 a3
  clear hF0 hF20 hW he2 hee hb1 hs1
  by_cases h0 : ee = 0
  · subst h0
    rw [if_neg (by simp)] at hy
    rw [hy] at hF
    clear hy
    rcases hcs with ⟨rfl, q1⟩ | ⟨rfl, q1, q2⟩ | ⟨rfl, q1, q2⟩
    all_goals
      go_enter Tryz.func56, Tryz.ntmps56
      go_wp2_with fail
      refine hNm.mono ?_
      rintro e w2 ⟨rfl, hb2⟩
      have HB2 := Lib.hid hb2
      go_wp2_with fail
      refine (hW2 _).mono ?_
      rintro e w3 ⟨rfl, rfl⟩
      have hb4 := balloc (.cells #[.int .i64 e1, .int .i64 e2] 30) HB2.out
      have hes := es2 w2 e1 e2 30
      go_wp2_with fail
      refine (hF2 _ _ hes).mono ?_
      rintro e w5 ⟨rfl, rfl⟩
      have hbz := hb4
      clear hb4 hb2 hes
      go_wp2_with fail
      clear hw1 c0 c1 c2
      refine wp_region_held_drew (S := (fun w' => w'.cell? ⟨g, 1, none⟩ = some (.slice AH nh ch) ∧ w'.cell? ⟨g, 2, none⟩ = some (.slice AO no co) ∧ Below w1.heap.size w1 w')) (by kernel_rfl) ?_ (fun hHeld => ?_)
      · exact HX.out _ (hbz.drew)
      clear hbz
      refine wpAnyH_take (i := 0) (oi := _) (v := ?_) rfl (by kernel_rfl) (by kernel_rfl) (by kernel_rfl) (fun _ _ _ h => h) (Or.inl ⟨by kernel_rfl, ?_⟩) (by assumption) ?_
      rotate_left
      · rintro w ⟨s1, s2, s3⟩
        go_simp
        try with_reducible rfl
      try simp only [Act.put, List.setIfInBounds_toArray, List.set_cons_zero, List.set_cons_succ, List.getElem_toArray, List.getElem_cons_zero, List.getElem_cons_succ]
      refine wpAnyH_take (i := 1) (oi := _) (v := ?_) rfl (by kernel_rfl) (by kernel_rfl) (by kernel_rfl) (fun _ _ _ h => h) (Or.inl ⟨by kernel_rfl, ?_⟩) (by assumption) ?_
      rotate_left
      · rintro w ⟨s1, s2, s3⟩
        go_simp
        try with_reducible rfl
      try simp only [Act.put, List.setIfInBounds_toArray, List.set_cons_zero, List.set_cons_succ, List.getElem_toArray, List.getElem_cons_zero, List.getElem_cons_succ]
      refine wpAnyH_take (i := 3) (oi := _) (v := ?_) rfl (by kernel_rfl) (by kernel_rfl) (by kernel_rfl) (fun _ _ _ h => h) (Or.inl ⟨by kernel_rfl, ?_⟩) (by assumption) ?_
      rotate_left
      · rintro w ⟨s1, s2, s3⟩
        go_simp
        try with_reducible rfl
      try simp only [Act.put, List.setIfInBounds_toArray, List.set_cons_zero, List.set_cons_succ, List.getElem_toArray, List.getElem_cons_zero, List.getElem_cons_succ]
      refine wpAnyH_take (i := 4) (oi := _) (v := ?_) rfl (by kernel_rfl) (by kernel_rfl) (by kernel_rfl) (fun _ _ _ h => h) (Or.inl ⟨by kernel_rfl, ?_⟩) (by assumption) ?_
      rotate_left
      · rintro w ⟨s1, s2, s3⟩
        go_simp
        try with_reducible rfl
      try simp only [Act.put, List.setIfInBounds_toArray, List.set_cons_zero, List.set_cons_succ, List.getElem_toArray, List.getElem_cons_zero, List.getElem_cons_succ]
      refine wpAnyH_take (i := 6) (oi := _) (v := ?_) rfl (by kernel_rfl) (by kernel_rfl) (by kernel_rfl) (fun _ _ _ h => h) (Or.inl ⟨by kernel_rfl, ?_⟩) (by assumption) ?_
      rotate_left
      · rintro w ⟨s1, s2, s3⟩
        go_simp
        try with_reducible rfl
      try simp only [Act.put, List.setIfInBounds_toArray, List.set_cons_zero, List.set_cons_succ, List.getElem_toArray, List.getElem_cons_zero, List.getElem_cons_succ]
      refine wpAnyH_take (i := 7) (oi := _) (v := ?_) rfl (by kernel_rfl) (by kernel_rfl) (by kernel_rfl) (fun _ _ _ h => h) (Or.inl ⟨by kernel_rfl, ?_⟩) (by assumption) ?_
      rotate_left
      · rintro w ⟨s1, s2, s3⟩
        go_simp
        try with_reducible rfl
      try simp only [Act.put, List.setIfInBounds_toArray, List.set_cons_zero, List.set_cons_succ, List.getElem_toArray, List.getElem_cons_zero, List.getElem_cons_succ]
      refine wpAnyH_take (i := 8) (oi := _) (v := ?_) rfl (by kernel_rfl) (by kernel_rfl) (by kernel_rfl) (fun _ _ _ h => h) (Or.inl ⟨by kernel_rfl, ?_⟩) (by assumption) ?_
      rotate_left
      · rintro w ⟨s1, s2, s3⟩
        go_simp
        try with_reducible rfl
      try simp only [Act.put, List.setIfInBounds_toArray, List.set_cons_zero, List.set_cons_succ, List.getElem_toArray, List.getElem_cons_zero, List.getElem_cons_succ]
      refine wpAnyH_ready (rs := [2]) (by kernel_rfl) (by simp) ?_
      refine AllReadyH.cons (o := _) rfl (fun K hKK => ?_) AllReadyH.nil
      go_simp
      go_at_call 111
      with_reducible refine (HA.out _ hHeld.2.2).mono ?_
      rintro e' w' ⟨rfl, hbz⟩
      go_wp2_with fail
      refine hKK.out _ _ ?_ (fun hHeld => ?_)
      · exact HX.out _ (bstep hHeld.2.2 hbz)
      clear hKK K
      try simp only [Act.put, List.setIfInBounds_toArray, List.set_cons_zero, List.set_cons_succ, List.getElem_toArray, List.getElem_cons_zero, List.getElem_cons_succ]
      clear hbz
      refine wpAnyH_ready (rs := [5]) (by kernel_rfl) (by simp) ?_
      refine AllReadyH.cons (o := _) rfl (fun K hKK => ?_) AllReadyH.nil
      go_simp
      go_at_call 111
      with_reducible refine (HB.out _ hHeld.2.2).mono ?_
      rintro e' w' ⟨rfl, hbz⟩
      go_wp2_with fail
      refine hKK.out _ _ ?_ (fun hHeld => ?_)
      · exact HX.out _ (bstep hHeld.2.2 hbz)
      clear hKK K
      try simp only [Act.put, List.setIfInBounds_toArray, List.set_cons_zero, List.set_cons_succ, List.getElem_toArray, List.getElem_cons_zero, List.getElem_cons_succ]
      clear hbz
      refine wpAnyH_ready (rs := [9]) (by kernel_rfl) (by simp) ?_
      refine AllReadyH.cons (o := _) rfl (fun K hKK => ?_) AllReadyH.nil
      go_simp
      go_at_call 111
      with_reducible refine (HC.out _ hHeld.2.2).mono ?_
      rintro e' w' ⟨rfl, hbz⟩
      go_wp2_with fail
      refine hKK.out _ _ ?_ (fun hHeld => ?_)
      · exact HX.out _ (bstep hHeld.2.2 hbz)
      clear hKK K
      try simp only [Act.put, List.setIfInBounds_toArray, List.set_cons_zero, List.set_cons_succ, List.getElem_toArray, List.getElem_cons_zero, List.getElem_cons_succ]
      clear hbz
      refine wpAnyH_ready (rs := [10]) (by kernel_rfl) (by simp) ?_
      refine AllReadyH.cons (o := _) rfl (fun K hKK => ?_) AllReadyH.nil
      go_simp
      refine hKK.out _ _ ?_ (fun hHeld => ?_)
      · exact HX.out _ (balloc _ hHeld.2.2)
      clear hKK K
      try simp only [Act.put, List.setIfInBounds_toArray, List.set_cons_zero, List.set_cons_succ, List.getElem_toArray, List.getElem_cons_zero, List.getElem_cons_succ]
      refine wpAnyH_ready (rs := [11]) (by kernel_rfl) (by simp) ?_
      refine AllReadyH.cons (o := _) rfl (fun K hKK => ?_) AllReadyH.nil
      go_simp
      go_at_call 42
      refine (hF _ _ ?_).mono ?_
      · exact es3F _ _ _ _ _
      rintro e' w' ⟨rfl, rfl⟩
      go_wp2_with fail
      refine hKK.out _ _ ?_ (fun hHeld => ?_)
      · exact hHeld
      clear hKK K
      try simp only [Act.put, List.setIfInBounds_toArray, List.set_cons_zero, List.set_cons_succ, List.getElem_toArray, List.getElem_cons_zero, List.getElem_cons_succ]
      refine wpAnyH_take (i := 12) (oi := _) (v := ?_) rfl (by kernel_rfl) (by kernel_rfl) (by kernel_rfl) (fun _ _ _ h => h) (Or.inl ⟨by kernel_rfl, ?_⟩) (by assumption) ?_
      rotate_left
      · rintro w ⟨s1, s2, s3⟩
        go_simp
        try with_reducible rfl
      try simp only [Act.put, List.setIfInBounds_toArray, List.set_cons_zero, List.set_cons_succ, List.getElem_toArray, List.getElem_cons_zero, List.getElem_cons_succ]
      refine wpAnyH_done (by kernel_rfl) ?_ _
      have hb3 := bstep HB1.out hHeld.2.2
      clear hHeld
      go_wp2
      go_ret
      exact ⟨rfl, hb3⟩
  · rw [if_pos h0] at hy
    subst hy
    have hbn : (ee != 0) = true := by rw [bne_iff_ne]; exact h0
    clear hF HA HB HC HX
    rcases hcs with ⟨rfl, q1⟩ | ⟨rfl, q1, q2⟩ | ⟨rfl, q1, q2⟩
    all_goals
      go_enter Tryz.func56, Tryz.ntmps56
      go_wp2_with fail
      refine hNm.mono ?_
      rintro e w2 ⟨rfl, hb2⟩
      have HB2 := Lib.hid hb2
      go_wp2_with fail
      refine (hW2 _).mono ?_
      rintro e w3 ⟨rfl, rfl⟩
      have hb4 := balloc (.cells #[.int .i64 e1, .int .i64 e2] 30) HB2.out
      have hes := es2 w2 e1 e2 30
      go_wp2_with fail
      refine (hF2 _ _ hes).mono ?_
      rintro e w5 ⟨rfl, rfl⟩
      have hb5 := bstep HB1.out hb4
      clear hb4 hb2 hes
      go_wp2
      go_ret
      exact ⟨rfl, hb5⟩
end Go.Mk
