/-
  Proved: CheckAct of package field returns a plain function of the act. Conditions: the heap holds the program's variables; the name is no longer than an int says.
-/
import Derived.Test.YthpcmhcokblglaaGreatDoorFl
set_option linter.unusedVariables false
set_option linter.unusedSimpArgs false
open Go Go.Proofs Go.RowKit
set_option maxRecDepth 100000
namespace Go.Mk
theorem es3F (w : World) (a b c : Int) (t : TypeId) : Es (w.alloc (.cells #[.int .i64 a, .int .i64 b, .int .i64 c] t)) w.heap.size [a, b, c] := by
  intro i v hv
  match i, hv with
  | 0, hv => simp at hv; subst hv; simp
  | 1, hv => simp at hv; subst hv; simp
  | 2, hv => simp at hv; subst hv; simp
theorem set2F {w : World} {g : Nat} {x y x' y' : Value} (h0 : w.cell? ⟨g, 0, none⟩ = some x') (h1 : w.cell? ⟨g, 1, none⟩ = some y') :
    ((w.setCell ⟨g, 0, none⟩ x).setCell ⟨g, 1, none⟩ y).cell? ⟨g, 0, none⟩ = some x :=
  (World.cell?_setCell_other _ _ _ _ (by simp)).trans (World.cell?_setCell_same _ _ _ h0)
set_option maxHeartbeats 16000000 in
theorem fdCheckAct_any (h : Bool) (s k : ByteArray) (v : Int) (w : World) (hz : s.size ≤ maxLen) (hg : 15 ≤ w.heap.size) :
    Calls Tryz.prog 14 #[.agg #[.string s, .string k, .int .i64 v], .bool h] w (RetPost (.int .i64 (actE h s k v)) w) := by
  obtain ⟨w1, hw1⟩ : ∃ w1, w.alloc (.cells #[.string s, .string k, .int .i64 v] 44) = w1 := ⟨_, rfl⟩
  have hb1 : Below w.heap.size w w1 := by rw [← hw1]; exact balloc _ (Below.refl _ _)
  have hs1 : w1.heap.size = w.heap.size + 1 := by rw [← hw1]; simp
  have c0 : w1.cell? ⟨w.heap.size, 0, none⟩ = some (.string s) := by rw [← hw1]; simp
  have c1 : w1.cell? ⟨w.heap.size, 1, none⟩ = some (.string k) := by rw [← hw1]; simp
  have c2 : w1.cell? ⟨w.heap.size, 2, none⟩ = some (.int .i64 v) := by rw [← hw1]; simp
  have HX : Hid (∀ w', Below w1.heap.size w1 w' → w'.cell? ⟨w.heap.size, 0, none⟩ = some (.string s) ∧ w'.cell? ⟨w.heap.size, 1, none⟩ = some (.string k) ∧ w'.cell? ⟨w.heap.size, 2, none⟩ = some (.int .i64 v) ∧ Below w1.heap.size w1 w') := Lib.hid fun w' hb => ⟨(hb.cell (p := ⟨w.heap.size, 0, none⟩) (by show w.heap.size < _; omega)).trans c0, (hb.cell (p := ⟨w.heap.size, 1, none⟩) (by show w.heap.size < _; omega)).trans c1, (hb.cell (p := ⟨w.heap.size, 2, none⟩) (by show w.heap.size < _; omega)).trans c2, hb⟩
  have HK : Hid (∀ w', Below w1.heap.size w1 w' → Calls Tryz.prog 51 #[.bool h] w' fun e w'' => ∃ B, e = .returned (.map (some B)) ∧ B < w''.heap.size ∧ KMap h w'' B ∧ Below w'.heap.size w' w'') := Lib.hid fun w' hb => fdKindsOf_any h w' (by have := hb.size; omega)
  have HN := Lib.hid fun w' => fdName_any s w' hz
  have HW := Lib.hid fun w' => trWhen_any (!(kFound h k)) 13 w'
  have HR := Lib.hid fun w' => trRange_any v 0 (kMost h k) w'
  have HLo : Hid (∀ (w' : World) (B : Nat), KMap h w' B → ∃ (O : Obj) (x : Value), w'.heap[B]? = some O ∧ (x.oneCell' = true ∧ ∃ es n, O = .map es n) ∧ ∀ w', w'.heap[B]? = some O → (Instr.lookup 118 (.map (some B)) (.string k) true).run Tryz.prog w' = .ok (.tuple #[.agg #[.int .i64 (kMost h k), x], .bool (kFound h k)]) w') := Lib.hid fun w' B hK => hK.look k
  have hF0 := fun x y z g w => trFirst_any [x, y, z] 3 rfl (by decide) g w
  have HY : Hid (fstN [nmE s, if (!(kFound h k)) = true then 13 else 0, rngE v 0 (kMost h k)] = actE h s k v) := Lib.hid (by unfold actE; cases kFound h k <;> rfl)
  generalize actE h s k v = y at *
  generalize nmE s = e1 at *
  generalize kFound h k = fb at *
  generalize kMost h k = mo at *
  obtain ⟨e2, he2⟩ : ∃ e2 : Int, (if (!fb) = true then 13 else 0) = e2 := ⟨_, rfl⟩
  obtain ⟨e3, he3⟩ : ∃ e3 : Int, rngE v 0 mo = e3 := ⟨_, rfl⟩
  rw [he2] at HY HW
  rw [he3] at HY HR
  have hF := hF0 e1 e2 e3
  rw [HY.out] at hF
  have HB1 := Lib.hid hb1
  have HFi := Lib.hid hF
  clear hF0 he2 he3 HY c0 c1 c2 hb1 hz hg hF
  go_enter Tryz.func14, Tryz.ntmps14
  go_wp2_with fail
  clear hw1
  refine wp_region_held_drew (S := (fun w' => w'.cell? ⟨w.heap.size, 0, none⟩ = some (.string s) ∧ w'.cell? ⟨w.heap.size, 1, none⟩ = some (.string k) ∧ w'.cell? ⟨w.heap.size, 2, none⟩ = some (.int .i64 v) ∧ Below w1.heap.size w1 w')) (by kernel_rfl) ?_ (fun hHeld => ?_)
  · exact HX.out _ (Below.drew (Below.refl _ _))
  obtain ⟨wd, hwd⟩ : ∃ wd, World.drew w1 = wd := ⟨_, rfl⟩
  rw [hwd] at hHeld ⊢
  clear hwd
  refine wpAnyH_take (i := 0) (oi := _) (v := ?_) rfl (by kernel_rfl) (by kernel_rfl) (by kernel_rfl) (fun _ _ _ h => h) (Or.inl ⟨by kernel_rfl, ?_⟩) (by assumption) ?_
  rotate_left
  · rintro w ⟨s1, s2, s3, s4⟩
    go_simp
    try with_reducible rfl
  try simp only [Act.put, List.setIfInBounds_toArray, List.set_cons_zero, List.set_cons_succ, List.getElem_toArray, List.getElem_cons_zero, List.getElem_cons_succ]
  refine wpAnyH_take (i := 2) (oi := _) (v := ?_) rfl (by kernel_rfl) (by kernel_rfl) (by kernel_rfl) (fun _ _ _ h => h) (Or.inl ⟨by kernel_rfl, ?_⟩) (by assumption) ?_
  rotate_left
  · rintro w ⟨s1, s2, s3, s4⟩
    go_simp
    try with_reducible rfl
  try simp only [Act.put, List.setIfInBounds_toArray, List.set_cons_zero, List.set_cons_succ, List.getElem_toArray, List.getElem_cons_zero, List.getElem_cons_succ]
  refine wpAnyH_take (i := 3) (oi := _) (v := ?_) rfl (by kernel_rfl) (by kernel_rfl) (by kernel_rfl) (fun _ _ _ h => h) (Or.inl ⟨by kernel_rfl, ?_⟩) (by assumption) ?_
  rotate_left
  · rintro w ⟨s1, s2, s3, s4⟩
    go_simp
    try with_reducible rfl
  try simp only [Act.put, List.setIfInBounds_toArray, List.set_cons_zero, List.set_cons_succ, List.getElem_toArray, List.getElem_cons_zero, List.getElem_cons_succ]
  refine wpAnyH_ready (rs := [1, 8]) (by kernel_rfl) (by simp) ?_
  refine AllReadyH.cons (o := _) rfl (fun K hKK => ?_) (AllReadyH.cons (o := _) rfl (fun K hKK => ?_) AllReadyH.nil)
  · skip
    go_simp
    go_at_call 51
    refine (HK.out _ hHeld.2.2.2).mono ?_
    rintro e w2 ⟨B, rfl, hB2, hK2, hb2⟩
    obtain ⟨O, x, hO, ⟨hx1, hMap⟩, hrun⟩ := HLo.out w2 B hK2
    have HRUN := Lib.hid hrun
    clear hK2 hrun
    have hstx : ∀ (a : Addr) (m : Mode) (w : World), (store a x m).run Tryz.prog w = stored Tryz.prog w a x m := fun a m w => run_store Tryz.prog w a x m hx1
    have hNb := hHeld.2.2.2.trans (hb2.mono hHeld.2.2.2.size)
    clear hHeld hb2
    go_wp2_with fail
    refine hKK.out _ _ ?_ (fun hHeld => ?_)
    · exact HX.out _ hNb
    clear hKK K
    try simp only [Act.put, List.setIfInBounds_toArray, List.set_cons_zero, List.set_cons_succ, List.getElem_toArray, List.getElem_cons_zero, List.getElem_cons_succ]
    clear hNb
    refine wpAnyH_more (S' := (fun w' => w'.cell? ⟨w.heap.size, 0, none⟩ = some (.string s) ∧ w'.cell? ⟨w.heap.size, 1, none⟩ = some (.string k) ∧ w'.cell? ⟨w.heap.size, 2, none⟩ = some (.int .i64 v) ∧ Below w1.heap.size w1 w' ∧ w'.heap[B]? = some O)) (fun w' h => ⟨h.1, h.2.1, h.2.2.1, h.2.2.2.1⟩) _ _ _ _ ?_
    have hHeld : w2.cell? ⟨w.heap.size, 0, none⟩ = some (.string s) ∧ w2.cell? ⟨w.heap.size, 1, none⟩ = some (.string k) ∧ w2.cell? ⟨w.heap.size, 2, none⟩ = some (.int .i64 v) ∧ Below w1.heap.size w1 w2 ∧ w2.heap[B]? = some O := ⟨hHeld.1, hHeld.2.1, hHeld.2.2.1, hHeld.2.2.2, hO⟩
    refine wpAnyH_take (i := 4) (oi := _) (v := .tuple #[.agg #[.int .i64 mo, x], .bool fb]) rfl (by kernel_rfl) (by kernel_rfl) (by kernel_rfl) (fun _ _ _ h => h) (Or.inl ⟨by kernel_rfl, ?_⟩) (by assumption) ?_
    · rintro w' ⟨s1, s2, s3, s4, s5⟩
      exact exec_look rfl rfl rfl (HRUN.out w' s5)
    try simp only [Act.put, List.setIfInBounds_toArray, List.set_cons_zero, List.set_cons_succ, List.getElem_toArray, List.getElem_cons_zero, List.getElem_cons_succ]
    refine wpAnyH_take (i := 5) (oi := _) (v := ?_) rfl (by kernel_rfl) (by kernel_rfl) (by kernel_rfl) (fun _ _ _ h => h) (Or.inl ⟨by kernel_rfl, ?_⟩) (by assumption) ?_
    rotate_left
    · rintro w ⟨s1, s2, s3, s4, s5⟩
      go_simp
      try with_reducible rfl
    try simp only [Act.put, List.setIfInBounds_toArray, List.set_cons_zero, List.set_cons_succ, List.getElem_toArray, List.getElem_cons_zero, List.getElem_cons_succ]
    refine wpAnyH_take (i := 6) (oi := _) (v := ?_) rfl (by kernel_rfl) (by kernel_rfl) (by kernel_rfl) (fun _ _ _ h => h) (Or.inl ⟨by kernel_rfl, ?_⟩) (by assumption) ?_
    rotate_left
    · rintro w ⟨s1, s2, s3, s4, s5⟩
      go_simp
      try with_reducible rfl
    try simp only [Act.put, List.setIfInBounds_toArray, List.set_cons_zero, List.set_cons_succ, List.getElem_toArray, List.getElem_cons_zero, List.getElem_cons_succ]
    refine wpAnyH_take (i := 7) (oi := _) (v := ?_) rfl (by kernel_rfl) (by kernel_rfl) (by kernel_rfl) (fun _ _ _ h => h) (Or.inl ⟨by kernel_rfl, ?_⟩) (by assumption) ?_
    rotate_left
    · rintro w ⟨s1, s2, s3, s4, s5⟩
      go_simp
      try with_reducible rfl
    try simp only [Act.put, List.setIfInBounds_toArray, List.set_cons_zero, List.set_cons_succ, List.getElem_toArray, List.getElem_cons_zero, List.getElem_cons_succ]
    refine wpAnyH_ready (rs := [8]) (by kernel_rfl) (by simp) ?_
    refine AllReadyH.cons (o := _) rfl (fun K hKK => ?_) AllReadyH.nil
    go_simp
    obtain ⟨g7, hg7⟩ : ∃ g7, w2.heap.size = g7 := ⟨_, rfl⟩
    obtain ⟨w3, hw3⟩ : ∃ w3, w2.alloc (.cells #[.int .i64 0, .nilFunc] 116) = w3 := ⟨_, rfl⟩
    have q0 : w3.cell? ⟨g7, 0, none⟩ = some (.int .i64 0) := by rw [← hw3, ← hg7]; simp
    have r0 : w3.frozen? ⟨g7, 0, none⟩ = false := by rw [← hw3, ← hg7]; simp
    have q1 : w3.cell? ⟨g7, 1, none⟩ = some (.nilFunc) := by rw [← hw3, ← hg7]; simp
    have r1 : w3.frozen? ⟨g7, 1, none⟩ = false := by rw [← hw3, ← hg7]; simp
    have hs3 : w3.heap.size = g7 + 1 := by rw [← hw3, ← hg7]; simp
    rw [hg7, hw3]
    have hg1 : w1.heap.size ≤ g7 := by rw [← hg7]; exact hHeld.2.2.2.1.size
    have hNb : Below w1.heap.size w1 w3 := by rw [← hw3]; exact hHeld.2.2.2.1.alloc (by omega) _
    have hO3 : w3.heap[B]? = some O := ((by rw [← hw3]; exact balloc _ (Below.refl _ _) : Below w2.heap.size w2 w3).block B hB2).trans hO
    have hBg : B ≠ g7 := by omega
    clear hHeld hw3
    refine hKK.out _ _ ?_ (fun hHeld => ?_)
    · (obtain ⟨a0, a1, a2, a3⟩ := HX.out _ hNb; exact ⟨a0, a1, a2, a3, hO3⟩)
    clear hKK K
    try simp only [Act.put, List.setIfInBounds_toArray, List.set_cons_zero, List.set_cons_succ, List.getElem_toArray, List.getElem_cons_zero, List.getElem_cons_succ]
    clear hNb
    have hOB : ((w3.setCell ⟨g7, 0, none⟩ (.int .i64 mo)).setCell ⟨g7, 1, none⟩ x).heap[B]? = some O := by rw [set_block hBg, set_block hBg]; exact hO3
    refine wpAnyH_ready (rs := [9]) (by kernel_rfl) (by simp) ?_
    refine AllReadyH.cons (o := _) rfl (fun K hKK => ?_) AllReadyH.nil
    go_simp
    obtain ⟨w9, hw9⟩ : ∃ w9, (w3.setCell ⟨g7, 0, none⟩ (.int .i64 mo)).setCell ⟨g7, 1, none⟩ x = w9 := ⟨_, rfl⟩
    rw [hw9]
    have hs9 : w9.heap.size = w3.heap.size := by rw [← hw9]; simp
    have t0 : w9.cell? ⟨g7, 0, none⟩ = some (.int .i64 mo) := by rw [← hw9]; exact set2F q0 q1
    have hNb : Below w1.heap.size w1 w9 := by rw [← hw9]; exact (hHeld.2.2.2.1.setCell (p := ⟨g7, 0, none⟩) hg1 _).setCell (p := ⟨g7, 1, none⟩) hg1 _
    have hg9 : g7 < w9.heap.size := by omega
    refine hKK.out _ _ (by obtain ⟨a0, a1, a2, a3⟩ := HX.out _ hNb; exact ⟨a0, a1, a2, a3, by rw [← hw9]; exact hOB⟩) (fun hHeld => ?_)
    clear hKK K
    try simp only [Act.put, List.setIfInBounds_toArray, List.set_cons_zero, List.set_cons_succ, List.getElem_toArray, List.getElem_cons_zero, List.getElem_cons_succ]
    clear hNb hw9 q0 q1 r0 r1 hOB
    refine wpAnyH_take (i := 10) (oi := _) (v := ?_) rfl (by kernel_rfl) (by kernel_rfl) (by kernel_rfl) (fun _ _ _ h => h) (Or.inl ⟨by kernel_rfl, ?_⟩) (by assumption) ?_
    rotate_left
    · rintro w ⟨s1, s2, s3, s4, s5⟩
      go_simp
      try with_reducible rfl
    try simp only [Act.put, List.setIfInBounds_toArray, List.set_cons_zero, List.set_cons_succ, List.getElem_toArray, List.getElem_cons_zero, List.getElem_cons_succ]
    refine wpAnyH_done (by kernel_rfl) ?_ _
    obtain ⟨d0, _, d2, d3, _⟩ := hHeld
    have hsz9 := d3.size
    have HB9 := Lib.hid (bstep HB1.out d3)
    have HX9 : Hid (∀ w', Below w9.heap.size w9 w' → w'.cell? ⟨w.heap.size, 0, none⟩ = some (.string s) ∧ w'.cell? ⟨w.heap.size, 2, none⟩ = some (.int .i64 v) ∧ w'.cell? ⟨g7, 0, none⟩ = some (.int .i64 mo) ∧ Below w9.heap.size w9 w') := Lib.hid fun w' hb => ⟨(hb.cell (p := ⟨w.heap.size, 0, none⟩) (by show w.heap.size < _; omega)).trans d0, (hb.cell (p := ⟨w.heap.size, 2, none⟩) (by show w.heap.size < _; omega)).trans d2, (hb.cell (p := ⟨g7, 0, none⟩) hg9).trans t0, hb⟩
    clear d0 d2 d3 t0 hs9 hs3
    go_wp2_with fail
    refine wp_region_held_drew (S := (fun w' => w'.cell? ⟨w.heap.size, 0, none⟩ = some (.string s) ∧ w'.cell? ⟨w.heap.size, 2, none⟩ = some (.int .i64 v) ∧ w'.cell? ⟨g7, 0, none⟩ = some (.int .i64 mo) ∧ Below w9.heap.size w9 w')) (by kernel_rfl) ?_ (fun hHeld => ?_)
    · exact HX9.out _ (Below.drew (Below.refl _ _))
    refine wpAnyH_take (i := 0) (oi := _) (v := ?_) rfl (by kernel_rfl) (by kernel_rfl) (by kernel_rfl) (fun _ _ _ h => h) (Or.inl ⟨by kernel_rfl, ?_⟩) (by assumption) ?_
    rotate_left
    · rintro w ⟨s1, s2, s3, s4⟩
      go_simp
      try with_reducible rfl
    try simp only [Act.put, List.setIfInBounds_toArray, List.set_cons_zero, List.set_cons_succ, List.getElem_toArray, List.getElem_cons_zero, List.getElem_cons_succ]
    refine wpAnyH_take (i := 1) (oi := _) (v := ?_) rfl (by kernel_rfl) (by kernel_rfl) (by kernel_rfl) (fun _ _ _ h => h) (Or.inl ⟨by kernel_rfl, ?_⟩) (by assumption) ?_
    rotate_left
    · rintro w ⟨s1, s2, s3, s4⟩
      go_simp
      try with_reducible rfl
    try simp only [Act.put, List.setIfInBounds_toArray, List.set_cons_zero, List.set_cons_succ, List.getElem_toArray, List.getElem_cons_zero, List.getElem_cons_succ]
    refine wpAnyH_take (i := 3) (oi := _) (v := ?_) rfl (by kernel_rfl) (by kernel_rfl) (by kernel_rfl) (fun _ _ _ h => h) (Or.inl ⟨by kernel_rfl, ?_⟩) (by assumption) ?_
    rotate_left
    · rintro w ⟨s1, s2, s3, s4⟩
      go_simp
      try with_reducible rfl
    try simp only [Act.put, List.setIfInBounds_toArray, List.set_cons_zero, List.set_cons_succ, List.getElem_toArray, List.getElem_cons_zero, List.getElem_cons_succ]
    refine wpAnyH_take (i := 4) (oi := _) (v := ?_) rfl (by kernel_rfl) (by kernel_rfl) (by kernel_rfl) (fun _ _ _ h => h) (Or.inl ⟨by kernel_rfl, ?_⟩) (by assumption) ?_
    rotate_left
    · rintro w ⟨s1, s2, s3, s4⟩
      go_simp
      try with_reducible rfl
    try simp only [Act.put, List.setIfInBounds_toArray, List.set_cons_zero, List.set_cons_succ, List.getElem_toArray, List.getElem_cons_zero, List.getElem_cons_succ]
    refine wpAnyH_take (i := 6) (oi := _) (v := ?_) rfl (by kernel_rfl) (by kernel_rfl) (by kernel_rfl) (fun _ _ _ h => h) (Or.inl ⟨by kernel_rfl, ?_⟩) (by assumption) ?_
    rotate_left
    · rintro w ⟨s1, s2, s3, s4⟩
      go_simp
      try with_reducible rfl
    try simp only [Act.put, List.setIfInBounds_toArray, List.set_cons_zero, List.set_cons_succ, List.getElem_toArray, List.getElem_cons_zero, List.getElem_cons_succ]
    refine wpAnyH_take (i := 7) (oi := _) (v := ?_) rfl (by kernel_rfl) (by kernel_rfl) (by kernel_rfl) (fun _ _ _ h => h) (Or.inl ⟨by kernel_rfl, ?_⟩) (by assumption) ?_
    rotate_left
    · rintro w ⟨s1, s2, s3, s4⟩
      go_simp
      try with_reducible rfl
    try simp only [Act.put, List.setIfInBounds_toArray, List.set_cons_zero, List.set_cons_succ, List.getElem_toArray, List.getElem_cons_zero, List.getElem_cons_succ]
    refine wpAnyH_take (i := 8) (oi := _) (v := ?_) rfl (by kernel_rfl) (by kernel_rfl) (by kernel_rfl) (fun _ _ _ h => h) (Or.inl ⟨by kernel_rfl, ?_⟩) (by assumption) ?_
    rotate_left
    · rintro w ⟨s1, s2, s3, s4⟩
      go_simp
      try with_reducible rfl
    try simp only [Act.put, List.setIfInBounds_toArray, List.set_cons_zero, List.set_cons_succ, List.getElem_toArray, List.getElem_cons_zero, List.getElem_cons_succ]
    refine wpAnyH_take (i := 9) (oi := _) (v := ?_) rfl (by kernel_rfl) (by kernel_rfl) (by kernel_rfl) (fun _ _ _ h => h) (Or.inl ⟨by kernel_rfl, ?_⟩) (by assumption) ?_
    rotate_left
    · rintro w ⟨s1, s2, s3, s4⟩
      go_simp
      try with_reducible rfl
    try simp only [Act.put, List.setIfInBounds_toArray, List.set_cons_zero, List.set_cons_succ, List.getElem_toArray, List.getElem_cons_zero, List.getElem_cons_succ]
    refine wpAnyH_ready (rs := [2]) (by kernel_rfl) (by simp) ?_
    refine AllReadyH.cons (o := _) rfl (fun K hKK => ?_) AllReadyH.nil
    go_simp
    go_at_call 52
    with_reducible refine (HN.out _).mono ?_
    rintro e' w' ⟨rfl, hbz⟩
    go_wp2_with fail
    refine hKK.out _ _ ?_ (fun hHeld => ?_)
    · exact HX9.out _ (bstep hHeld.2.2.2 hbz)
    clear hKK K
    try simp only [Act.put, List.setIfInBounds_toArray, List.set_cons_zero, List.set_cons_succ, List.getElem_toArray, List.getElem_cons_zero, List.getElem_cons_succ]
    clear hbz
    refine wpAnyH_ready (rs := [5]) (by kernel_rfl) (by simp) ?_
    refine AllReadyH.cons (o := _) rfl (fun K hKK => ?_) AllReadyH.nil
    go_simp
    go_at_call 47
    with_reducible refine (HW.out _).mono ?_
    rintro e' w' ⟨rfl, rfl⟩
    go_wp2_with fail
    refine hKK.out _ _ ?_ (fun hHeld => ?_)
    · exact hHeld
    clear hKK K
    try simp only [Act.put, List.setIfInBounds_toArray, List.set_cons_zero, List.set_cons_succ, List.getElem_toArray, List.getElem_cons_zero, List.getElem_cons_succ]
    refine wpAnyH_ready (rs := [10]) (by kernel_rfl) (by simp) ?_
    refine AllReadyH.cons (o := _) rfl (fun K hKK => ?_) AllReadyH.nil
    go_simp
    go_at_call 44
    with_reducible refine (HR.out _).mono ?_
    rintro e' w' ⟨rfl, rfl⟩
    go_wp2_with fail
    refine hKK.out _ _ ?_ (fun hHeld => ?_)
    · exact hHeld
    clear hKK K
    try simp only [Act.put, List.setIfInBounds_toArray, List.set_cons_zero, List.set_cons_succ, List.getElem_toArray, List.getElem_cons_zero, List.getElem_cons_succ]
    refine wpAnyH_ready (rs := [11]) (by kernel_rfl) (by simp) ?_
    refine AllReadyH.cons (o := _) rfl (fun K hKK => ?_) AllReadyH.nil
    go_simp
    refine hKK.out _ _ ?_ (fun hHeld => ?_)
    · exact HX9.out _ (balloc _ hHeld.2.2.2)
    clear hKK K
    try simp only [Act.put, List.setIfInBounds_toArray, List.set_cons_zero, List.set_cons_succ, List.getElem_toArray, List.getElem_cons_zero, List.getElem_cons_succ]
    refine wpAnyH_ready (rs := [12]) (by kernel_rfl) (by simp) ?_
    refine AllReadyH.cons (o := _) rfl (fun K hKK => ?_) AllReadyH.nil
    go_simp
    go_at_call 42
    refine (HFi.out _ _ ?_).mono ?_
    · exact es3F _ _ _ _ _
    rintro e' w' ⟨rfl, rfl⟩
    go_wp2_with fail
    refine hKK.out _ _ ?_ (fun hHeld => ?_)
    · exact hHeld
    clear hKK K
    try simp only [Act.put, List.setIfInBounds_toArray, List.set_cons_zero, List.set_cons_succ, List.getElem_toArray, List.getElem_cons_zero, List.getElem_cons_succ]
    refine wpAnyH_take (i := 13) (oi := _) (v := ?_) rfl (by kernel_rfl) (by kernel_rfl) (by kernel_rfl) (fun _ _ _ h => h) (Or.inl ⟨by kernel_rfl, ?_⟩) (by assumption) ?_
    rotate_left
    · rintro w ⟨s1, s2, s3, s4⟩
      go_simp
      try with_reducible rfl
    try simp only [Act.put, List.setIfInBounds_toArray, List.set_cons_zero, List.set_cons_succ, List.getElem_toArray, List.getElem_cons_zero, List.getElem_cons_succ]
    refine wpAnyH_done (by kernel_rfl) ?_ _
    have hb3 := bstep HB9.out hHeld.2.2.2
    clear hHeld
    go_wp2
    go_ret
    exact ⟨rfl, hb3⟩
  · skip
    go_simp
    obtain ⟨g7, hg7⟩ : ∃ g7, wd.heap.size = g7 := ⟨_, rfl⟩
    obtain ⟨w3, hw3⟩ : ∃ w3, wd.alloc (.cells #[.int .i64 0, .nilFunc] 116) = w3 := ⟨_, rfl⟩
    have q0 : w3.cell? ⟨g7, 0, none⟩ = some (.int .i64 0) := by rw [← hw3, ← hg7]; simp
    have r0 : w3.frozen? ⟨g7, 0, none⟩ = false := by rw [← hw3, ← hg7]; simp
    have q1 : w3.cell? ⟨g7, 1, none⟩ = some (.nilFunc) := by rw [← hw3, ← hg7]; simp
    have r1 : w3.frozen? ⟨g7, 1, none⟩ = false := by rw [← hw3, ← hg7]; simp
    have hs3 : w3.heap.size = g7 + 1 := by rw [← hw3, ← hg7]; simp
    rw [hg7, hw3]
    have hg1 : w1.heap.size ≤ g7 := by rw [← hg7]; exact hHeld.2.2.2.size
    have hNb : Below w1.heap.size w1 w3 := by rw [← hw3]; exact hHeld.2.2.2.alloc (by omega) _
    clear hHeld hw3
    refine hKK.out _ _ ?_ (fun hHeld => ?_)
    · exact HX.out _ hNb
    clear hKK K
    try simp only [Act.put, List.setIfInBounds_toArray, List.set_cons_zero, List.set_cons_succ, List.getElem_toArray, List.getElem_cons_zero, List.getElem_cons_succ]
    clear hNb
    refine wpAnyH_ready (rs := [1]) (by kernel_rfl) (by simp) ?_
    refine AllReadyH.cons (o := _) rfl (fun K hKK => ?_) AllReadyH.nil
    go_simp
    go_at_call 51
    refine (HK.out _ hHeld.2.2.2).mono ?_
    rintro e w2 ⟨B, rfl, hB2, hK2, hb2⟩
    obtain ⟨O, x, hO, ⟨hx1, hMap⟩, hrun⟩ := HLo.out w2 B hK2
    have HRUN := Lib.hid hrun
    clear hK2 hrun
    have hstx : ∀ (a : Addr) (m : Mode) (w : World), (store a x m).run Tryz.prog w = stored Tryz.prog w a x m := fun a m w => run_store Tryz.prog w a x m hx1
    replace q0 := (hb2.cell (p := ⟨g7, 0, none⟩) (by show g7 < _; omega)).trans q0
    replace r0 := (hb2.frozen (p := ⟨g7, 0, none⟩) (by show g7 < _; omega)).trans r0
    replace q1 := (hb2.cell (p := ⟨g7, 1, none⟩) (by show g7 < _; omega)).trans q1
    replace r1 := (hb2.frozen (p := ⟨g7, 1, none⟩) (by show g7 < _; omega)).trans r1
    have hs2 := hb2.size
    have hNb := hHeld.2.2.2.trans (hb2.mono hHeld.2.2.2.size)
    clear hHeld hb2
    go_wp2_with fail
    refine hKK.out _ _ ?_ (fun hHeld => ?_)
    · exact HX.out _ hNb
    clear hKK K
    try simp only [Act.put, List.setIfInBounds_toArray, List.set_cons_zero, List.set_cons_succ, List.getElem_toArray, List.getElem_cons_zero, List.getElem_cons_succ]
    clear hNb
    refine wpAnyH_more (S' := (fun w' => w'.cell? ⟨w.heap.size, 0, none⟩ = some (.string s) ∧ w'.cell? ⟨w.heap.size, 1, none⟩ = some (.string k) ∧ w'.cell? ⟨w.heap.size, 2, none⟩ = some (.int .i64 v) ∧ Below w1.heap.size w1 w' ∧ w'.heap[B]? = some O)) (fun w' h => ⟨h.1, h.2.1, h.2.2.1, h.2.2.2.1⟩) _ _ _ _ ?_
    have hHeld : w2.cell? ⟨w.heap.size, 0, none⟩ = some (.string s) ∧ w2.cell? ⟨w.heap.size, 1, none⟩ = some (.string k) ∧ w2.cell? ⟨w.heap.size, 2, none⟩ = some (.int .i64 v) ∧ Below w1.heap.size w1 w2 ∧ w2.heap[B]? = some O := ⟨hHeld.1, hHeld.2.1, hHeld.2.2.1, hHeld.2.2.2, hO⟩
    refine wpAnyH_take (i := 4) (oi := _) (v := .tuple #[.agg #[.int .i64 mo, x], .bool fb]) rfl (by kernel_rfl) (by kernel_rfl) (by kernel_rfl) (fun _ _ _ h => h) (Or.inl ⟨by kernel_rfl, ?_⟩) (by assumption) ?_
    · rintro w' ⟨s1, s2, s3, s4, s5⟩
      exact exec_look rfl rfl rfl (HRUN.out w' s5)
    try simp only [Act.put, List.setIfInBounds_toArray, List.set_cons_zero, List.set_cons_succ, List.getElem_toArray, List.getElem_cons_zero, List.getElem_cons_succ]
    refine wpAnyH_take (i := 5) (oi := _) (v := ?_) rfl (by kernel_rfl) (by kernel_rfl) (by kernel_rfl) (fun _ _ _ h => h) (Or.inl ⟨by kernel_rfl, ?_⟩) (by assumption) ?_
    rotate_left
    · rintro w ⟨s1, s2, s3, s4, s5⟩
      go_simp
      try with_reducible rfl
    try simp only [Act.put, List.setIfInBounds_toArray, List.set_cons_zero, List.set_cons_succ, List.getElem_toArray, List.getElem_cons_zero, List.getElem_cons_succ]
    refine wpAnyH_take (i := 6) (oi := _) (v := ?_) rfl (by kernel_rfl) (by kernel_rfl) (by kernel_rfl) (fun _ _ _ h => h) (Or.inl ⟨by kernel_rfl, ?_⟩) (by assumption) ?_
    rotate_left
    · rintro w ⟨s1, s2, s3, s4, s5⟩
      go_simp
      try with_reducible rfl
    try simp only [Act.put, List.setIfInBounds_toArray, List.set_cons_zero, List.set_cons_succ, List.getElem_toArray, List.getElem_cons_zero, List.getElem_cons_succ]
    refine wpAnyH_take (i := 7) (oi := _) (v := ?_) rfl (by kernel_rfl) (by kernel_rfl) (by kernel_rfl) (fun _ _ _ h => h) (Or.inl ⟨by kernel_rfl, ?_⟩) (by assumption) ?_
    rotate_left
    · rintro w ⟨s1, s2, s3, s4, s5⟩
      go_simp
      try with_reducible rfl
    try simp only [Act.put, List.setIfInBounds_toArray, List.set_cons_zero, List.set_cons_succ, List.getElem_toArray, List.getElem_cons_zero, List.getElem_cons_succ]
    have hBg : B ≠ g7 := by rintro rfl; exact not_cell hO hMap q0
    have hOB : ((w2.setCell ⟨g7, 0, none⟩ (.int .i64 mo)).setCell ⟨g7, 1, none⟩ x).heap[B]? = some O := by rw [set_block hBg, set_block hBg]; exact hO
    refine wpAnyH_ready (rs := [9]) (by kernel_rfl) (by simp) ?_
    refine AllReadyH.cons (o := _) rfl (fun K hKK => ?_) AllReadyH.nil
    go_simp
    obtain ⟨w9, hw9⟩ : ∃ w9, (w2.setCell ⟨g7, 0, none⟩ (.int .i64 mo)).setCell ⟨g7, 1, none⟩ x = w9 := ⟨_, rfl⟩
    rw [hw9]
    have hs9 : w9.heap.size = w2.heap.size := by rw [← hw9]; simp
    have t0 : w9.cell? ⟨g7, 0, none⟩ = some (.int .i64 mo) := by rw [← hw9]; exact set2F q0 q1
    have hNb : Below w1.heap.size w1 w9 := by rw [← hw9]; exact (hHeld.2.2.2.1.setCell (p := ⟨g7, 0, none⟩) hg1 _).setCell (p := ⟨g7, 1, none⟩) hg1 _
    have hg9 : g7 < w9.heap.size := by omega
    refine hKK.out _ _ (by obtain ⟨a0, a1, a2, a3⟩ := HX.out _ hNb; exact ⟨a0, a1, a2, a3, by rw [← hw9]; exact hOB⟩) (fun hHeld => ?_)
    clear hKK K
    try simp only [Act.put, List.setIfInBounds_toArray, List.set_cons_zero, List.set_cons_succ, List.getElem_toArray, List.getElem_cons_zero, List.getElem_cons_succ]
    clear hNb hw9 q0 q1 r0 r1 hOB
    refine wpAnyH_take (i := 10) (oi := _) (v := ?_) rfl (by kernel_rfl) (by kernel_rfl) (by kernel_rfl) (fun _ _ _ h => h) (Or.inl ⟨by kernel_rfl, ?_⟩) (by assumption) ?_
    rotate_left
    · rintro w ⟨s1, s2, s3, s4, s5⟩
      go_simp
      try with_reducible rfl
    try simp only [Act.put, List.setIfInBounds_toArray, List.set_cons_zero, List.set_cons_succ, List.getElem_toArray, List.getElem_cons_zero, List.getElem_cons_succ]
    refine wpAnyH_done (by kernel_rfl) ?_ _
    obtain ⟨d0, _, d2, d3, _⟩ := hHeld
    have hsz9 := d3.size
    have HB9 := Lib.hid (bstep HB1.out d3)
    have HX9 : Hid (∀ w', Below w9.heap.size w9 w' → w'.cell? ⟨w.heap.size, 0, none⟩ = some (.string s) ∧ w'.cell? ⟨w.heap.size, 2, none⟩ = some (.int .i64 v) ∧ w'.cell? ⟨g7, 0, none⟩ = some (.int .i64 mo) ∧ Below w9.heap.size w9 w') := Lib.hid fun w' hb => ⟨(hb.cell (p := ⟨w.heap.size, 0, none⟩) (by show w.heap.size < _; omega)).trans d0, (hb.cell (p := ⟨w.heap.size, 2, none⟩) (by show w.heap.size < _; omega)).trans d2, (hb.cell (p := ⟨g7, 0, none⟩) hg9).trans t0, hb⟩
    clear d0 d2 d3 t0 hs9 hs3
    go_wp2_with fail
    refine wp_region_held_drew (S := (fun w' => w'.cell? ⟨w.heap.size, 0, none⟩ = some (.string s) ∧ w'.cell? ⟨w.heap.size, 2, none⟩ = some (.int .i64 v) ∧ w'.cell? ⟨g7, 0, none⟩ = some (.int .i64 mo) ∧ Below w9.heap.size w9 w')) (by kernel_rfl) ?_ (fun hHeld => ?_)
    · exact HX9.out _ (Below.drew (Below.refl _ _))
    refine wpAnyH_take (i := 0) (oi := _) (v := ?_) rfl (by kernel_rfl) (by kernel_rfl) (by kernel_rfl) (fun _ _ _ h => h) (Or.inl ⟨by kernel_rfl, ?_⟩) (by assumption) ?_
    rotate_left
    · rintro w ⟨s1, s2, s3, s4⟩
      go_simp
      try with_reducible rfl
    try simp only [Act.put, List.setIfInBounds_toArray, List.set_cons_zero, List.set_cons_succ, List.getElem_toArray, List.getElem_cons_zero, List.getElem_cons_succ]
    refine wpAnyH_take (i := 1) (oi := _) (v := ?_) rfl (by kernel_rfl) (by kernel_rfl) (by kernel_rfl) (fun _ _ _ h => h) (Or.inl ⟨by kernel_rfl, ?_⟩) (by assumption) ?_
    rotate_left
    · rintro w ⟨s1, s2, s3, s4⟩
      go_simp
      try with_reducible rfl
    try simp only [Act.put, List.setIfInBounds_toArray, List.set_cons_zero, List.set_cons_succ, List.getElem_toArray, List.getElem_cons_zero, List.getElem_cons_succ]
    refine wpAnyH_take (i := 3) (oi := _) (v := ?_) rfl (by kernel_rfl) (by kernel_rfl) (by kernel_rfl) (fun _ _ _ h => h) (Or.inl ⟨by kernel_rfl, ?_⟩) (by assumption) ?_
    rotate_left
    · rintro w ⟨s1, s2, s3, s4⟩
      go_simp
      try with_reducible rfl
    try simp only [Act.put, List.setIfInBounds_toArray, List.set_cons_zero, List.set_cons_succ, List.getElem_toArray, List.getElem_cons_zero, List.getElem_cons_succ]
    refine wpAnyH_take (i := 4) (oi := _) (v := ?_) rfl (by kernel_rfl) (by kernel_rfl) (by kernel_rfl) (fun _ _ _ h => h) (Or.inl ⟨by kernel_rfl, ?_⟩) (by assumption) ?_
    rotate_left
    · rintro w ⟨s1, s2, s3, s4⟩
      go_simp
      try with_reducible rfl
    try simp only [Act.put, List.setIfInBounds_toArray, List.set_cons_zero, List.set_cons_succ, List.getElem_toArray, List.getElem_cons_zero, List.getElem_cons_succ]
    refine wpAnyH_take (i := 6) (oi := _) (v := ?_) rfl (by kernel_rfl) (by kernel_rfl) (by kernel_rfl) (fun _ _ _ h => h) (Or.inl ⟨by kernel_rfl, ?_⟩) (by assumption) ?_
    rotate_left
    · rintro w ⟨s1, s2, s3, s4⟩
      go_simp
      try with_reducible rfl
    try simp only [Act.put, List.setIfInBounds_toArray, List.set_cons_zero, List.set_cons_succ, List.getElem_toArray, List.getElem_cons_zero, List.getElem_cons_succ]
    refine wpAnyH_take (i := 7) (oi := _) (v := ?_) rfl (by kernel_rfl) (by kernel_rfl) (by kernel_rfl) (fun _ _ _ h => h) (Or.inl ⟨by kernel_rfl, ?_⟩) (by assumption) ?_
    rotate_left
    · rintro w ⟨s1, s2, s3, s4⟩
      go_simp
      try with_reducible rfl
    try simp only [Act.put, List.setIfInBounds_toArray, List.set_cons_zero, List.set_cons_succ, List.getElem_toArray, List.getElem_cons_zero, List.getElem_cons_succ]
    refine wpAnyH_take (i := 8) (oi := _) (v := ?_) rfl (by kernel_rfl) (by kernel_rfl) (by kernel_rfl) (fun _ _ _ h => h) (Or.inl ⟨by kernel_rfl, ?_⟩) (by assumption) ?_
    rotate_left
    · rintro w ⟨s1, s2, s3, s4⟩
      go_simp
      try with_reducible rfl
    try simp only [Act.put, List.setIfInBounds_toArray, List.set_cons_zero, List.set_cons_succ, List.getElem_toArray, List.getElem_cons_zero, List.getElem_cons_succ]
    refine wpAnyH_take (i := 9) (oi := _) (v := ?_) rfl (by kernel_rfl) (by kernel_rfl) (by kernel_rfl) (fun _ _ _ h => h) (Or.inl ⟨by kernel_rfl, ?_⟩) (by assumption) ?_
    rotate_left
    · rintro w ⟨s1, s2, s3, s4⟩
      go_simp
      try with_reducible rfl
    try simp only [Act.put, List.setIfInBounds_toArray, List.set_cons_zero, List.set_cons_succ, List.getElem_toArray, List.getElem_cons_zero, List.getElem_cons_succ]
    refine wpAnyH_ready (rs := [2]) (by kernel_rfl) (by simp) ?_
    refine AllReadyH.cons (o := _) rfl (fun K hKK => ?_) AllReadyH.nil
    go_simp
    go_at_call 52
    with_reducible refine (HN.out _).mono ?_
    rintro e' w' ⟨rfl, hbz⟩
    go_wp2_with fail
    refine hKK.out _ _ ?_ (fun hHeld => ?_)
    · exact HX9.out _ (bstep hHeld.2.2.2 hbz)
    clear hKK K
    try simp only [Act.put, List.setIfInBounds_toArray, List.set_cons_zero, List.set_cons_succ, List.getElem_toArray, List.getElem_cons_zero, List.getElem_cons_succ]
    clear hbz
    refine wpAnyH_ready (rs := [5]) (by kernel_rfl) (by simp) ?_
    refine AllReadyH.cons (o := _) rfl (fun K hKK => ?_) AllReadyH.nil
    go_simp
    go_at_call 47
    with_reducible refine (HW.out _).mono ?_
    rintro e' w' ⟨rfl, rfl⟩
    go_wp2_with fail
    refine hKK.out _ _ ?_ (fun hHeld => ?_)
    · exact hHeld
    clear hKK K
    try simp only [Act.put, List.setIfInBounds_toArray, List.set_cons_zero, List.set_cons_succ, List.getElem_toArray, List.getElem_cons_zero, List.getElem_cons_succ]
    refine wpAnyH_ready (rs := [10]) (by kernel_rfl) (by simp) ?_
    refine AllReadyH.cons (o := _) rfl (fun K hKK => ?_) AllReadyH.nil
    go_simp
    go_at_call 44
    with_reducible refine (HR.out _).mono ?_
    rintro e' w' ⟨rfl, rfl⟩
    go_wp2_with fail
    refine hKK.out _ _ ?_ (fun hHeld => ?_)
    · exact hHeld
    clear hKK K
    try simp only [Act.put, List.setIfInBounds_toArray, List.set_cons_zero, List.set_cons_succ, List.getElem_toArray, List.getElem_cons_zero, List.getElem_cons_succ]
    refine wpAnyH_ready (rs := [11]) (by kernel_rfl) (by simp) ?_
    refine AllReadyH.cons (o := _) rfl (fun K hKK => ?_) AllReadyH.nil
    go_simp
    refine hKK.out _ _ ?_ (fun hHeld => ?_)
    · exact HX9.out _ (balloc _ hHeld.2.2.2)
    clear hKK K
    try simp only [Act.put, List.setIfInBounds_toArray, List.set_cons_zero, List.set_cons_succ, List.getElem_toArray, List.getElem_cons_zero, List.getElem_cons_succ]
    refine wpAnyH_ready (rs := [12]) (by kernel_rfl) (by simp) ?_
    refine AllReadyH.cons (o := _) rfl (fun K hKK => ?_) AllReadyH.nil
    go_simp
    go_at_call 42
    refine (HFi.out _ _ ?_).mono ?_
    · exact es3F _ _ _ _ _
    rintro e' w' ⟨rfl, rfl⟩
    go_wp2_with fail
    refine hKK.out _ _ ?_ (fun hHeld => ?_)
    · exact hHeld
    clear hKK K
    try simp only [Act.put, List.setIfInBounds_toArray, List.set_cons_zero, List.set_cons_succ, List.getElem_toArray, List.getElem_cons_zero, List.getElem_cons_succ]
    refine wpAnyH_take (i := 13) (oi := _) (v := ?_) rfl (by kernel_rfl) (by kernel_rfl) (by kernel_rfl) (fun _ _ _ h => h) (Or.inl ⟨by kernel_rfl, ?_⟩) (by assumption) ?_
    rotate_left
    · rintro w ⟨s1, s2, s3, s4⟩
      go_simp
      try with_reducible rfl
    try simp only [Act.put, List.setIfInBounds_toArray, List.set_cons_zero, List.set_cons_succ, List.getElem_toArray, List.getElem_cons_zero, List.getElem_cons_succ]
    refine wpAnyH_done (by kernel_rfl) ?_ _
    have hb3 := bstep HB9.out hHeld.2.2.2
    clear hHeld
    go_wp2
    go_ret
    exact ⟨rfl, hb3⟩
end Go.Mk
