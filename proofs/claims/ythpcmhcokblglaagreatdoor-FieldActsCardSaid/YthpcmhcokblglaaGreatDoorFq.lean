/-
  Proved: Corrected of package field: the first error, or the acts with another one in the place of one. Conditions: the heap holds the program's variables; the acts lie where the slice says; there are at most 2,000 of them, each name no longer than an int says.
-/
import Derived.Test.YthpcmhcokblglaaGreatDoorFp
set_option linter.unusedVariables false
set_option linter.unusedSimpArgs false
open Go Go.Proofs Go.RowKit
set_option maxRecDepth 100000
namespace Go.Mk
theorem own_low {w : World} {base base' e size n : Nat} {v : Value} {xs : List Value} (h : w.ownsRow base e size v n xs) (hb : base' ≤ base) : w.ownsRow base' e size v n xs := by
  refine ⟨h.1, ?_⟩
  rcases h.2 with ⟨a, b⟩ | ⟨g, cap, cur, a, b, c, d⟩
  · exact .inl ⟨a, b⟩
  · exact .inr ⟨g, cap, cur, a, by omega, c, d⟩
set_option maxHeartbeats 8000000 in
theorem fdWith_any (L : List ActR) (n cap g off i : Nat) (b : ActR) (w : World) (hZ : Acts w (some ⟨g, off, none⟩) n L) (hi : i < n) (hn : n ≤ 2000) :
    Calls Tryz.prog 55 #[.slice (some ⟨g, off, none⟩) n cap, .int .i64 (i : Int), .agg #[.string b.s, .string b.k, .int .i64 b.v]] w (fun e w' => ∃ v, e = .returned v ∧ OwnActs w' 44 w.heap.size v (L.set i b) ∧ Below w.heap.size w w') := by
  obtain ⟨w1, hw1⟩ : ∃ w1, w.alloc (.cells #[.string b.s, .string b.k, .int .i64 b.v] 44) = w1 := ⟨_, rfl⟩
  have hb1 : Below w.heap.size w w1 := by rw [← hw1]; exact balloc _ (Below.refl _ _)
  have hs1 : w1.heap.size = w.heap.size + 1 := by rw [← hw1]; simp
  have c0 : w1.cell? ⟨w.heap.size, 0, none⟩ = some (.string b.s) := by rw [← hw1]; simp
  have c1 : w1.cell? ⟨w.heap.size, 1, none⟩ = some (.string b.k) := by rw [← hw1]; simp
  have c2 : w1.cell? ⟨w.heap.size, 2, none⟩ = some (.int .i64 b.v) := by rw [← hw1]; simp
  have hni : (n : Int) ≤ 2000 := by omega
  have HC := Lib.hid (slCloneA_any L n cap g off w1 (hZ.below hb1) (by omega) hn)
  have HL := Lib.hid hZ.1
  have hii : (i : Int) < (n : Int) := by omega
  have hi0 : (0 : Int) ≤ (i : Int) := by omega
  have hit : ((i : Int)).toNat = i := by omega
  have HB1 := Lib.hid hb1
  clear hZ hb1
  go_enter Tryz.func55, Tryz.ntmps55
  go_wp2_with fail
  refine HC.out.mono ?_
  rintro e w2 ⟨v2, rfl, ho, hb2⟩
  unfold OwnActs at ho
  rw [HL.out] at ho
  obtain ⟨gv, cv, rfl, hgv, hgv2⟩ := ownSome ho (by omega)
  have hlen : (L.flatMap actC).length = n * 3 := by rw [acts_len, HL.out]
  obtain ⟨a, ha⟩ : ∃ a, L[i]? = some a := ⟨L[i]'(by rw [HL.out]; exact hi), List.getElem?_eq_getElem _⟩
  have y0 : w2.cell? ⟨gv, i * 3, none⟩ = some (.string a.s) := (World.ownsRow.cellAt ho (i * 3) (by omega)).trans ((actC_at L i a 0 ha (by decide)).trans rfl)
  have y1 : w2.cell? ⟨gv, i * 3 + 1, none⟩ = some (.string a.k) := (World.ownsRow.cellAt ho (i * 3 + 1) (by omega)).trans ((actC_at L i a 1 ha (by decide)).trans rfl)
  have y2 : w2.cell? ⟨gv, i * 3 + 2, none⟩ = some (.int .i64 a.v) := (World.ownsRow.cellAt ho (i * 3 + 2) (by omega)).trans ((actC_at L i a 2 ha (by decide)).trans rfl)
  have f0 := World.ownsRow.frozenAt ho (i * 3)
  have f1 := World.ownsRow.frozenAt ho (i * 3 + 1)
  have f2 := World.ownsRow.frozenAt ho (i * 3 + 2)
  obtain ⟨o1, g1⟩ := World.ownsRow.stored ho (i * 3) (.string b.s)
  obtain ⟨o2, g2⟩ := World.ownsRow.stored o1 (i * 3 + 1) (.string b.k)
  obtain ⟨o3, g3⟩ := World.ownsRow.stored o2 (i * 3 + 2) (.int .i64 b.v)
  rw [acts_set L i a b ha] at o3
  obtain ⟨w3, hw3⟩ : ∃ w3, ((w2.setCell ⟨gv, i * 3, none⟩ (.string b.s)).setCell ⟨gv, i * 3 + 1, none⟩ (.string b.k)).setCell ⟨gv, i * 3 + 2, none⟩ (.int .i64 b.v) = w3 := ⟨_, rfl⟩
  have hbx : Below w.heap.size w w2 := bstep HB1.out hb2
  have hb3 : Below w.heap.size w w3 := by
    rw [← hw3]
    have l0 : w.heap.size ≤ gv := by omega
    exact ((hbx.setCell (p := ⟨gv, i * 3, none⟩) l0 _).setCell (p := ⟨gv, i * 3 + 1, none⟩) l0 _).setCell (p := ⟨gv, i * 3 + 2, none⟩) l0 _
  have hro : OwnActs w3 44 w.heap.size (.slice (some ⟨gv, 0, none⟩) n cv) (L.set i b) := by
    unfold OwnActs
    rw [List.length_set, HL.out, ← hw3]
    exact own_low o3 (by omega)
  have d0 := (hb2.cell (p := ⟨w.heap.size, 0, none⟩) (by show w.heap.size < _; omega)).trans c0
  have d1 := (hb2.cell (p := ⟨w.heap.size, 1, none⟩) (by show w.heap.size < _; omega)).trans c1
  have d2 := (hb2.cell (p := ⟨w.heap.size, 2, none⟩) (by show w.heap.size < _; omega)).trans c2
  have e1 : ¬ i * 3 = i * 3 + 1 := by omega
  have e2 : ¬ i * 3 = i * 3 + 2 := by omega
  clear ho o1 o2 o3 g1 g2 g3 ha hlen c0 c1 c2 hw1 hb2 hbx
  go_wp2
  go_ret
  exact ⟨_, rfl, hro, hb3⟩
/-- The error of a correction. -/
def corE (h : Bool) (L : List ActR) (num : Int) (a : ActR) : Int := fstN [actsE h L, actE h a.s a.k a.v, if num < 1 ∨ (L.length : Int) < num then 10 else 0]
set_option maxHeartbeats 8000000 in
theorem fdCorrected_low (h : Bool) (L : List ActR) (n cap : Nat) (A : Option Addr) (num : Int) (a : ActR) (w : World) (hG : 15 ≤ w.heap.size) (hZ : Acts w A n L) (hn : n ≤ 2000) (hs : ∀ a ∈ L, a.s.size ≤ maxLen) (hz : a.s.size ≤ maxLen) (hl : num < 1) :
    Calls Tryz.prog 16 #[.slice A n cap, .int .i64 num, .agg #[.string a.s, .string a.k, .int .i64 a.v], .bool h] w (RetPost (.tuple #[.slice none 0 0, .int .i64 (corE h L num a)]) w) := by
  obtain ⟨w1, hw1⟩ : ∃ w1, w.alloc (.cells #[.string a.s, .string a.k, .int .i64 a.v] 44) = w1 := ⟨_, rfl⟩
  have hb1 : Below w.heap.size w w1 := by rw [← hw1]; exact balloc _ (Below.refl _ _)
  have hs1 : w1.heap.size = w.heap.size + 1 := by rw [← hw1]; simp
  have c0 : w1.cell? ⟨w.heap.size, 0, none⟩ = some (.string a.s) := by rw [← hw1]; simp
  have c1 : w1.cell? ⟨w.heap.size, 1, none⟩ = some (.string a.k) := by rw [← hw1]; simp
  have c2 : w1.cell? ⟨w.heap.size, 2, none⟩ = some (.int .i64 a.v) := by rw [← hw1]; simp
  have HX : Hid (∀ w', Below w1.heap.size w1 w' → w'.cell? ⟨w.heap.size, 0, none⟩ = some (.string a.s) ∧ w'.cell? ⟨w.heap.size, 1, none⟩ = some (.string a.k) ∧ w'.cell? ⟨w.heap.size, 2, none⟩ = some (.int .i64 a.v) ∧ Below w1.heap.size w1 w') := Lib.hid fun w' hb => ⟨(hb.cell (p := ⟨w.heap.size, 0, none⟩) (by show w.heap.size < _; omega)).trans c0, (hb.cell (p := ⟨w.heap.size, 1, none⟩) (by show w.heap.size < _; omega)).trans c1, (hb.cell (p := ⟨w.heap.size, 2, none⟩) (by show w.heap.size < _; omega)).trans c2, hb⟩
  have HA : Hid (∀ w', Below w1.heap.size w1 w' → Calls Tryz.prog 54 #[.slice A n cap, .bool h] w' (RetPost (.int .i64 (actsE h L)) w')) := Lib.hid fun w' hb => fdActs_any h L n cap A w' (by have := hb.size; omega) ((hZ.below hb1).below hb) hn hs
  have HC : Hid (∀ w', Below w1.heap.size w1 w' → Calls Tryz.prog 14 #[.agg #[.string a.s, .string a.k, .int .i64 a.v], .bool h] w' (RetPost (.int .i64 (actE h a.s a.k a.v)) w')) := Lib.hid fun w' hb => fdCheckAct_any h a.s a.k a.v w' hz (by have := hb.size; omega)
  have HZw : Hid (∀ w', Below w.heap.size w w' → Acts w' A n L) := Lib.hid fun w' hb => hZ.below hb
  have hF0 := fun x y z g w => trFirst_any [x, y, z] 3 rfl (by decide) g w
  have hni : (n : Int) ≤ 2000 := by omega
  have HLn := Lib.hid hZ.1
  have HB1 := Lib.hid hb1
  have hd : decide (num < 1) = true := decide_eq_true hl
  have HW := Lib.hid fun w' => trWhen_any true 10 w'
  have HY : Hid (fstN [actsE h L, actE h a.s a.k a.v, 10] = corE h L num a) := Lib.hid (by unfold corE; rw [if_pos (.inl hl)])
  have HNE : Hid ((corE h L num a != 0) = true) := Lib.hid (by rw [bne_iff_ne]; unfold corE; rw [if_pos (.inl hl)]; simp only [fstN]; split <;> (try split) <;> simp_all)
  generalize corE h L num a = y at *
  generalize actsE h L = e1 at *
  generalize actE h a.s a.k a.v = e2 at *
  have hF := hF0 e1 e2 10
  rw [HY.out] at hF
  have HFi := Lib.hid hF
  clear hF0 hF hZ hs hz HY c0 c1 c2 hb1
  go_enter Tryz.func16, Tryz.ntmps16
  go_wp2_with fail
  clear hw1
  refine wp_region_held_drew (S := (fun w' => w'.cell? ⟨w.heap.size, 0, none⟩ = some (.string a.s) ∧ w'.cell? ⟨w.heap.size, 1, none⟩ = some (.string a.k) ∧ w'.cell? ⟨w.heap.size, 2, none⟩ = some (.int .i64 a.v) ∧ Below w1.heap.size w1 w')) (by kernel_rfl) ?_ (fun hHeld => ?_)
  · exact HX.out _ (Below.drew (Below.refl _ _))
  refine wpAnyH_take (i := 0) (oi := _) (v := ?_) rfl (by kernel_rfl) (by kernel_rfl) (by kernel_rfl) (fun _ _ _ h => h) (Or.inl ⟨by kernel_rfl, ?_⟩) (by assumption) ?_
  rotate_left
  · rintro w ⟨s1, s2, s3, s4⟩
    go_simp
    try with_reducible rfl
  try simp only [Act.put, List.setIfInBounds_toArray, List.set_cons_zero, List.set_cons_succ, List.getElem_toArray, List.getElem_cons_zero, List.getElem_cons_succ]
  refine wpAnyH_take (i := 1) (oi := _) (v := ?_) rfl (by kernel_rfl) (by kernel_rfl) (by kernel_rfl) (fun _ _ _ h => h) (Or.inl ⟨by kernel_rfl, ?_⟩) (by assumption) ?_
  rotate_left
  · rintro w ⟨s1, s2, s3, s4⟩
    go_simp
    try with_reducible rfl
  try simp only [Act.put, List.setIfInBounds_toArray, List.set_cons_zero, List.set_cons_succ, List.getElem_toArray, List.getElem_cons_zero, List.getElem_cons_succ]
  refine wpAnyH_take (i := 3) (oi := _) (v := ?_) rfl (by kernel_rfl) (by kernel_rfl) (by kernel_rfl) (fun _ _ _ h => h) (Or.inl ⟨by kernel_rfl, ?_⟩) (by assumption) ?_
  rotate_left
  · rintro w ⟨s1, s2, s3, s4⟩
    go_simp
    try with_reducible rfl
  try simp only [Act.put, List.setIfInBounds_toArray, List.set_cons_zero, List.set_cons_succ, List.getElem_toArray, List.getElem_cons_zero, List.getElem_cons_succ]
  refine wpAnyH_take (i := 4) (oi := _) (v := ?_) rfl (by kernel_rfl) (by kernel_rfl) (by kernel_rfl) (fun _ _ _ h => h) (Or.inl ⟨by kernel_rfl, ?_⟩) (by assumption) ?_
  rotate_left
  · rintro w ⟨s1, s2, s3, s4⟩
    go_simp
    try with_reducible rfl
  try simp only [Act.put, List.setIfInBounds_toArray, List.set_cons_zero, List.set_cons_succ, List.getElem_toArray, List.getElem_cons_zero, List.getElem_cons_succ]
  refine wpAnyH_take (i := 6) (oi := _) (v := ?_) rfl (by kernel_rfl) (by kernel_rfl) (by kernel_rfl) (fun _ _ _ h => h) (Or.inl ⟨by kernel_rfl, ?_⟩) (by assumption) ?_
  rotate_left
  · rintro w ⟨s1, s2, s3, s4⟩
    go_simp
    try with_reducible rfl
  try simp only [Act.put, List.setIfInBounds_toArray, List.set_cons_zero, List.set_cons_succ, List.getElem_toArray, List.getElem_cons_zero, List.getElem_cons_succ]
  refine wpAnyH_take (i := 7) (oi := _) (v := ?_) rfl (by kernel_rfl) (by kernel_rfl) (by kernel_rfl) (fun _ _ _ h => h) (Or.inl ⟨by kernel_rfl, ?_⟩) (by assumption) ?_
  rotate_left
  · rintro w ⟨s1, s2, s3, s4⟩
    go_simp
    try simp only [hd]
    try with_reducible rfl
  try simp only [Act.put, List.setIfInBounds_toArray, List.set_cons_zero, List.set_cons_succ, List.getElem_toArray, List.getElem_cons_zero, List.getElem_cons_succ]
  refine wpAnyH_ready (rs := [2]) (by kernel_rfl) (by simp) ?_
  refine AllReadyH.cons (o := _) rfl (fun K hKK => ?_) AllReadyH.nil
  go_simp
  go_at_call 54
  with_reducible refine (HA.out _ hHeld.2.2.2).mono ?_
  rintro e' w' ⟨rfl, hbz⟩
  go_wp2_with fail
  refine hKK.out _ _ ?_ (fun hHeld => ?_)
  · exact HX.out _ (bstep hHeld.2.2.2 hbz)
  clear hKK K
  try simp only [Act.put, List.setIfInBounds_toArray, List.set_cons_zero, List.set_cons_succ, List.getElem_toArray, List.getElem_cons_zero, List.getElem_cons_succ]
  clear hbz
  refine wpAnyH_ready (rs := [5]) (by kernel_rfl) (by simp) ?_
  refine AllReadyH.cons (o := _) rfl (fun K hKK => ?_) AllReadyH.nil
  go_simp
  go_at_call 14
  with_reducible refine (HC.out _ hHeld.2.2.2).mono ?_
  rintro e' w' ⟨rfl, hbz⟩
  go_wp2_with fail
  refine hKK.out _ _ ?_ (fun hHeld => ?_)
  · exact HX.out _ (bstep hHeld.2.2.2 hbz)
  clear hKK K
  try simp only [Act.put, List.setIfInBounds_toArray, List.set_cons_zero, List.set_cons_succ, List.getElem_toArray, List.getElem_cons_zero, List.getElem_cons_succ]
  clear hbz
  refine wpAnyH_take (i := 8) (oi := _) (v := ?_) rfl (by kernel_rfl) (by kernel_rfl) (by kernel_rfl) (fun _ _ _ h => h) (Or.inl ⟨by kernel_rfl, ?_⟩) (by assumption) ?_
  rotate_left
  · rintro w ⟨s1, s2, s3, s4⟩
    go_simp
    try with_reducible rfl
  try simp only [Act.put, List.setIfInBounds_toArray, List.set_cons_zero, List.set_cons_succ, List.getElem_toArray, List.getElem_cons_zero, List.getElem_cons_succ]
  refine wpAnyH_take (i := 9) (oi := _) (v := undef) rfl (by kernel_rfl) (by kernel_rfl) (by kernel_rfl) (fun _ _ _ h => h) (Or.inr ⟨by kernel_rfl, rfl⟩) (by assumption) ?_
  try simp only [Act.put, List.setIfInBounds_toArray, List.set_cons_zero, List.set_cons_succ, List.getElem_toArray, List.getElem_cons_zero, List.getElem_cons_succ]
  refine wpAnyH_take (i := 10) (oi := _) (v := undef) rfl (by kernel_rfl) (by kernel_rfl) (by kernel_rfl) (fun _ _ _ h => h) (Or.inr ⟨by kernel_rfl, rfl⟩) (by assumption) ?_
  try simp only [Act.put, List.setIfInBounds_toArray, List.set_cons_zero, List.set_cons_succ, List.getElem_toArray, List.getElem_cons_zero, List.getElem_cons_succ]
  refine wpAnyH_take (i := 11) (oi := _) (v := undef) rfl (by kernel_rfl) (by kernel_rfl) (by kernel_rfl) (fun _ _ _ h => h) (Or.inr ⟨by kernel_rfl, rfl⟩) (by assumption) ?_
  try simp only [Act.put, List.setIfInBounds_toArray, List.set_cons_zero, List.set_cons_succ, List.getElem_toArray, List.getElem_cons_zero, List.getElem_cons_succ]
  refine wpAnyH_take (i := 12) (oi := _) (v := undef) rfl (by kernel_rfl) (by kernel_rfl) (by kernel_rfl) (fun _ _ _ h => h) (Or.inr ⟨by kernel_rfl, rfl⟩) (by assumption) ?_
  try simp only [Act.put, List.setIfInBounds_toArray, List.set_cons_zero, List.set_cons_succ, List.getElem_toArray, List.getElem_cons_zero, List.getElem_cons_succ]
  refine wpAnyH_take (i := 13) (oi := _) (v := ?_) rfl (by kernel_rfl) (by kernel_rfl) (by kernel_rfl) (fun _ _ _ h => h) (Or.inl ⟨by kernel_rfl, ?_⟩) (by assumption) ?_
  rotate_left
  · rintro w ⟨s1, s2, s3, s4⟩
    go_simp
    try with_reducible rfl
  try simp only [Act.put, List.setIfInBounds_toArray, List.set_cons_zero, List.set_cons_succ, List.getElem_toArray, List.getElem_cons_zero, List.getElem_cons_succ]
  refine wpAnyH_ready (rs := [14]) (by kernel_rfl) (by simp) ?_
  refine AllReadyH.cons (o := _) rfl (fun K hKK => ?_) AllReadyH.nil
  go_simp
  go_at_call 47
  with_reducible refine (HW.out _).mono ?_
  rintro e' w' ⟨rfl, rfl⟩
  go_wp2_with fail
  refine hKK.out _ _ ?_ (fun hHeld => ?_)
  · exact hHeld
  clear hKK K
  try simp only [Act.put, List.setIfInBounds_toArray, List.set_cons_zero, List.set_cons_succ, List.getElem_toArray, List.getElem_cons_zero, List.getElem_cons_succ]
  refine wpAnyH_ready (rs := [15]) (by kernel_rfl) (by simp) ?_
  refine AllReadyH.cons (o := _) rfl (fun K hKK => ?_) AllReadyH.nil
  go_simp
  refine hKK.out _ _ ?_ (fun hHeld => ?_)
  · exact HX.out _ (balloc _ hHeld.2.2.2)
  clear hKK K
  try simp only [Act.put, List.setIfInBounds_toArray, List.set_cons_zero, List.set_cons_succ, List.getElem_toArray, List.getElem_cons_zero, List.getElem_cons_succ]
  refine wpAnyH_ready (rs := [16]) (by kernel_rfl) (by simp) ?_
  refine AllReadyH.cons (o := _) rfl (fun K hKK => ?_) AllReadyH.nil
  go_simp
  go_at_call 42
  refine (HFi.out _ _ ?_).mono ?_
  · exact es3F _ _ _ _ _
  rintro e' w' ⟨rfl, rfl⟩
  go_wp2_with fail
  refine hKK.out _ _ ?_ (fun hHeld => ?_)
  · exact hHeld
  clear hKK K
  try simp only [Act.put, List.setIfInBounds_toArray, List.set_cons_zero, List.set_cons_succ, List.getElem_toArray, List.getElem_cons_zero, List.getElem_cons_succ]
  refine wpAnyH_take (i := 17) (oi := _) (v := ?_) rfl (by kernel_rfl) (by kernel_rfl) (by kernel_rfl) (fun _ _ _ h => h) (Or.inl ⟨by kernel_rfl, ?_⟩) (by assumption) ?_
  rotate_left
  · rintro w ⟨s1, s2, s3, s4⟩
    go_simp
    try with_reducible rfl
  try simp only [Act.put, List.setIfInBounds_toArray, List.set_cons_zero, List.set_cons_succ, List.getElem_toArray, List.getElem_cons_zero, List.getElem_cons_succ]
  refine wpAnyH_done (by kernel_rfl) ?_ _
  have hne := HNE.out
  have hb3 := bstep HB1.out hHeld.2.2.2
  clear hHeld
  go_wp2
  go_ret2
  exact ⟨rfl, hb3⟩
set_option maxHeartbeats 8000000 in
theorem fdCorrected_err (h : Bool) (L : List ActR) (n cap : Nat) (A : Option Addr) (num : Int) (a : ActR) (w : World) (hG : 15 ≤ w.heap.size) (hZ : Acts w A n L) (hn : n ≤ 2000) (hs : ∀ a ∈ L, a.s.size ≤ maxLen) (hz : a.s.size ≤ maxLen) (hl : ¬ num < 1) (he : corE h L num a ≠ 0) :
    Calls Tryz.prog 16 #[.slice A n cap, .int .i64 num, .agg #[.string a.s, .string a.k, .int .i64 a.v], .bool h] w (RetPost (.tuple #[.slice none 0 0, .int .i64 (corE h L num a)]) w) := by
  obtain ⟨w1, hw1⟩ : ∃ w1, w.alloc (.cells #[.string a.s, .string a.k, .int .i64 a.v] 44) = w1 := ⟨_, rfl⟩
  have hb1 : Below w.heap.size w w1 := by rw [← hw1]; exact balloc _ (Below.refl _ _)
  have hs1 : w1.heap.size = w.heap.size + 1 := by rw [← hw1]; simp
  have c0 : w1.cell? ⟨w.heap.size, 0, none⟩ = some (.string a.s) := by rw [← hw1]; simp
  have c1 : w1.cell? ⟨w.heap.size, 1, none⟩ = some (.string a.k) := by rw [← hw1]; simp
  have c2 : w1.cell? ⟨w.heap.size, 2, none⟩ = some (.int .i64 a.v) := by rw [← hw1]; simp
  have HX : Hid (∀ w', Below w1.heap.size w1 w' → w'.cell? ⟨w.heap.size, 0, none⟩ = some (.string a.s) ∧ w'.cell? ⟨w.heap.size, 1, none⟩ = some (.string a.k) ∧ w'.cell? ⟨w.heap.size, 2, none⟩ = some (.int .i64 a.v) ∧ Below w1.heap.size w1 w') := Lib.hid fun w' hb => ⟨(hb.cell (p := ⟨w.heap.size, 0, none⟩) (by show w.heap.size < _; omega)).trans c0, (hb.cell (p := ⟨w.heap.size, 1, none⟩) (by show w.heap.size < _; omega)).trans c1, (hb.cell (p := ⟨w.heap.size, 2, none⟩) (by show w.heap.size < _; omega)).trans c2, hb⟩
  have HA : Hid (∀ w', Below w1.heap.size w1 w' → Calls Tryz.prog 54 #[.slice A n cap, .bool h] w' (RetPost (.int .i64 (actsE h L)) w')) := Lib.hid fun w' hb => fdActs_any h L n cap A w' (by have := hb.size; omega) ((hZ.below hb1).below hb) hn hs
  have HC : Hid (∀ w', Below w1.heap.size w1 w' → Calls Tryz.prog 14 #[.agg #[.string a.s, .string a.k, .int .i64 a.v], .bool h] w' (RetPost (.int .i64 (actE h a.s a.k a.v)) w')) := Lib.hid fun w' hb => fdCheckAct_any h a.s a.k a.v w' hz (by have := hb.size; omega)
  have HZw : Hid (∀ w', Below w.heap.size w w' → Acts w' A n L) := Lib.hid fun w' hb => hZ.below hb
  have hF0 := fun x y z g w => trFirst_any [x, y, z] 3 rfl (by decide) g w
  have hni : (n : Int) ≤ 2000 := by omega
  have HLn := Lib.hid hZ.1
  have HB1 := Lib.hid hb1
  have hd : decide (num < 1) = false := decide_eq_false hl
  have HW := Lib.hid fun w' => trWhen_any (decide ((n : Int) < num)) 10 w'
  have HY : Hid (fstN [actsE h L, actE h a.s a.k a.v, if decide ((n : Int) < num) = true then 10 else 0] = corE h L num a) := Lib.hid (by unfold corE; rw [HLn.out]; simp [hl])
  have HNE : Hid ((corE h L num a != 0) = true) := Lib.hid (by rw [bne_iff_ne]; exact he)
  generalize corE h L num a = y at *
  generalize actsE h L = e1 at *
  generalize actE h a.s a.k a.v = e2 at *
  obtain ⟨e3, he3⟩ : ∃ e3 : Int, (if decide ((n : Int) < num) = true then 10 else 0) = e3 := ⟨_, rfl⟩
  rw [he3] at HY HW
  have hF := hF0 e1 e2 e3
  rw [HY.out] at hF
  have HFi := Lib.hid hF
  clear hF0 hF hZ hs hz HY c0 c1 c2 hb1 he3 he
  go_enter Tryz.func16, Tryz.ntmps16
  go_wp2_with fail
  clear hw1
  refine wp_region_held_drew (S := (fun w' => w'.cell? ⟨w.heap.size, 0, none⟩ = some (.string a.s) ∧ w'.cell? ⟨w.heap.size, 1, none⟩ = some (.string a.k) ∧ w'.cell? ⟨w.heap.size, 2, none⟩ = some (.int .i64 a.v) ∧ Below w1.heap.size w1 w')) (by kernel_rfl) ?_ (fun hHeld => ?_)
  · exact HX.out _ (Below.drew (Below.refl _ _))
  refine wpAnyH_take (i := 0) (oi := _) (v := ?_) rfl (by kernel_rfl) (by kernel_rfl) (by kernel_rfl) (fun _ _ _ h => h) (Or.inl ⟨by kernel_rfl, ?_⟩) (by assumption) ?_
  rotate_left
  · rintro w ⟨s1, s2, s3, s4⟩
    go_simp
    try with_reducible rfl
  try simp only [Act.put, List.setIfInBounds_toArray, List.set_cons_zero, List.set_cons_succ, List.getElem_toArray, List.getElem_cons_zero, List.getElem_cons_succ]
  refine wpAnyH_take (i := 1) (oi := _) (v := ?_) rfl (by kernel_rfl) (by kernel_rfl) (by kernel_rfl) (fun _ _ _ h => h) (Or.inl ⟨by kernel_rfl, ?_⟩) (by assumption) ?_
  rotate_left
  · rintro w ⟨s1, s2, s3, s4⟩
    go_simp
    try with_reducible rfl
  try simp only [Act.put, List.setIfInBounds_toArray, List.set_cons_zero, List.set_cons_succ, List.getElem_toArray, List.getElem_cons_zero, List.getElem_cons_succ]
  refine wpAnyH_take (i := 3) (oi := _) (v := ?_) rfl (by kernel_rfl) (by kernel_rfl) (by kernel_rfl) (fun _ _ _ h => h) (Or.inl ⟨by kernel_rfl, ?_⟩) (by assumption) ?_
  rotate_left
  · rintro w ⟨s1, s2, s3, s4⟩
    go_simp
    try with_reducible rfl
  try simp only [Act.put, List.setIfInBounds_toArray, List.set_cons_zero, List.set_cons_succ, List.getElem_toArray, List.getElem_cons_zero, List.getElem_cons_succ]
  refine wpAnyH_take (i := 4) (oi := _) (v := ?_) rfl (by kernel_rfl) (by kernel_rfl) (by kernel_rfl) (fun _ _ _ h => h) (Or.inl ⟨by kernel_rfl, ?_⟩) (by assumption) ?_
  rotate_left
  · rintro w ⟨s1, s2, s3, s4⟩
    go_simp
    try with_reducible rfl
  try simp only [Act.put, List.setIfInBounds_toArray, List.set_cons_zero, List.set_cons_succ, List.getElem_toArray, List.getElem_cons_zero, List.getElem_cons_succ]
  refine wpAnyH_take (i := 6) (oi := _) (v := ?_) rfl (by kernel_rfl) (by kernel_rfl) (by kernel_rfl) (fun _ _ _ h => h) (Or.inl ⟨by kernel_rfl, ?_⟩) (by assumption) ?_
  rotate_left
  · rintro w ⟨s1, s2, s3, s4⟩
    go_simp
    try with_reducible rfl
  try simp only [Act.put, List.setIfInBounds_toArray, List.set_cons_zero, List.set_cons_succ, List.getElem_toArray, List.getElem_cons_zero, List.getElem_cons_succ]
  refine wpAnyH_take (i := 7) (oi := _) (v := ?_) rfl (by kernel_rfl) (by kernel_rfl) (by kernel_rfl) (fun _ _ _ h => h) (Or.inl ⟨by kernel_rfl, ?_⟩) (by assumption) ?_
  rotate_left
  · rintro w ⟨s1, s2, s3, s4⟩
    go_simp
    try simp only [hd]
    try with_reducible rfl
  try simp only [Act.put, List.setIfInBounds_toArray, List.set_cons_zero, List.set_cons_succ, List.getElem_toArray, List.getElem_cons_zero, List.getElem_cons_succ]
  refine wpAnyH_ready (rs := [2]) (by kernel_rfl) (by simp) ?_
  refine AllReadyH.cons (o := _) rfl (fun K hKK => ?_) AllReadyH.nil
  go_simp
  go_at_call 54
  with_reducible refine (HA.out _ hHeld.2.2.2).mono ?_
  rintro e' w' ⟨rfl, hbz⟩
  go_wp2_with fail
  refine hKK.out _ _ ?_ (fun hHeld => ?_)
  · exact HX.out _ (bstep hHeld.2.2.2 hbz)
  clear hKK K
  try simp only [Act.put, List.setIfInBounds_toArray, List.set_cons_zero, List.set_cons_succ, List.getElem_toArray, List.getElem_cons_zero, List.getElem_cons_succ]
  clear hbz
  refine wpAnyH_ready (rs := [5]) (by kernel_rfl) (by simp) ?_
  refine AllReadyH.cons (o := _) rfl (fun K hKK => ?_) AllReadyH.nil
  go_simp
  go_at_call 14
  with_reducible refine (HC.out _ hHeld.2.2.2).mono ?_
  rintro e' w' ⟨rfl, hbz⟩
  go_wp2_with fail
  refine hKK.out _ _ ?_ (fun hHeld => ?_)
  · exact HX.out _ (bstep hHeld.2.2.2 hbz)
  clear hKK K
  try simp only [Act.put, List.setIfInBounds_toArray, List.set_cons_zero, List.set_cons_succ, List.getElem_toArray, List.getElem_cons_zero, List.getElem_cons_succ]
  clear hbz
  refine wpAnyH_take (i := 8) (oi := _) (v := ?_) rfl (by kernel_rfl) (by kernel_rfl) (by kernel_rfl) (fun _ _ _ h => h) (Or.inl ⟨by kernel_rfl, ?_⟩) (by assumption) ?_
  rotate_left
  · rintro w ⟨s1, s2, s3, s4⟩
    go_simp
    try with_reducible rfl
  try simp only [Act.put, List.setIfInBounds_toArray, List.set_cons_zero, List.set_cons_succ, List.getElem_toArray, List.getElem_cons_zero, List.getElem_cons_succ]
  refine wpAnyH_take (i := 9) (oi := _) (v := ?_) rfl (by kernel_rfl) (by kernel_rfl) (by kernel_rfl) (fun _ _ _ h => h) (Or.inl ⟨by kernel_rfl, ?_⟩) (by assumption) ?_
  rotate_left
  · rintro w ⟨s1, s2, s3, s4⟩
    go_simp
    try with_reducible rfl
  try simp only [Act.put, List.setIfInBounds_toArray, List.set_cons_zero, List.set_cons_succ, List.getElem_toArray, List.getElem_cons_zero, List.getElem_cons_succ]
  refine wpAnyH_take (i := 10) (oi := _) (v := ?_) rfl (by kernel_rfl) (by kernel_rfl) (by kernel_rfl) (fun _ _ _ h => h) (Or.inl ⟨by kernel_rfl, ?_⟩) (by assumption) ?_
  rotate_left
  · rintro w ⟨s1, s2, s3, s4⟩
    go_simp
    try with_reducible rfl
  try simp only [Act.put, List.setIfInBounds_toArray, List.set_cons_zero, List.set_cons_succ, List.getElem_toArray, List.getElem_cons_zero, List.getElem_cons_succ]
  refine wpAnyH_take (i := 11) (oi := _) (v := ?_) rfl (by kernel_rfl) (by kernel_rfl) (by kernel_rfl) (fun _ _ _ h => h) (Or.inl ⟨by kernel_rfl, ?_⟩) (by assumption) ?_
  rotate_left
  · rintro w ⟨s1, s2, s3, s4⟩
    go_simp
    try with_reducible rfl
  try simp only [Act.put, List.setIfInBounds_toArray, List.set_cons_zero, List.set_cons_succ, List.getElem_toArray, List.getElem_cons_zero, List.getElem_cons_succ]
  refine wpAnyH_take (i := 12) (oi := _) (v := ?_) rfl (by kernel_rfl) (by kernel_rfl) (by kernel_rfl) (fun _ _ _ h => h) (Or.inl ⟨by kernel_rfl, ?_⟩) (by assumption) ?_
  rotate_left
  · rintro w ⟨s1, s2, s3, s4⟩
    go_simp
    try with_reducible rfl
  try simp only [Act.put, List.setIfInBounds_toArray, List.set_cons_zero, List.set_cons_succ, List.getElem_toArray, List.getElem_cons_zero, List.getElem_cons_succ]
  refine wpAnyH_take (i := 13) (oi := _) (v := ?_) rfl (by kernel_rfl) (by kernel_rfl) (by kernel_rfl) (fun _ _ _ h => h) (Or.inl ⟨by kernel_rfl, ?_⟩) (by assumption) ?_
  rotate_left
  · rintro w ⟨s1, s2, s3, s4⟩
    go_simp
    try with_reducible rfl
  try simp only [Act.put, List.setIfInBounds_toArray, List.set_cons_zero, List.set_cons_succ, List.getElem_toArray, List.getElem_cons_zero, List.getElem_cons_succ]
  refine wpAnyH_ready (rs := [14]) (by kernel_rfl) (by simp) ?_
  refine AllReadyH.cons (o := _) rfl (fun K hKK => ?_) AllReadyH.nil
  go_simp
  go_at_call 47
  with_reducible refine (HW.out _).mono ?_
  rintro e' w' ⟨rfl, rfl⟩
  go_wp2_with fail
  refine hKK.out _ _ ?_ (fun hHeld => ?_)
  · exact hHeld
  clear hKK K
  try simp only [Act.put, List.setIfInBounds_toArray, List.set_cons_zero, List.set_cons_succ, List.getElem_toArray, List.getElem_cons_zero, List.getElem_cons_succ]
  refine wpAnyH_ready (rs := [15]) (by kernel_rfl) (by simp) ?_
  refine AllReadyH.cons (o := _) rfl (fun K hKK => ?_) AllReadyH.nil
  go_simp
  refine hKK.out _ _ ?_ (fun hHeld => ?_)
  · exact HX.out _ (balloc _ hHeld.2.2.2)
  clear hKK K
  try simp only [Act.put, List.setIfInBounds_toArray, List.set_cons_zero, List.set_cons_succ, List.getElem_toArray, List.getElem_cons_zero, List.getElem_cons_succ]
  refine wpAnyH_ready (rs := [16]) (by kernel_rfl) (by simp) ?_
  refine AllReadyH.cons (o := _) rfl (fun K hKK => ?_) AllReadyH.nil
  go_simp
  go_at_call 42
  refine (HFi.out _ _ ?_).mono ?_
  · exact es3F _ _ _ _ _
  rintro e' w' ⟨rfl, rfl⟩
  go_wp2_with fail
  refine hKK.out _ _ ?_ (fun hHeld => ?_)
  · exact hHeld
  clear hKK K
  try simp only [Act.put, List.setIfInBounds_toArray, List.set_cons_zero, List.set_cons_succ, List.getElem_toArray, List.getElem_cons_zero, List.getElem_cons_succ]
  refine wpAnyH_take (i := 17) (oi := _) (v := ?_) rfl (by kernel_rfl) (by kernel_rfl) (by kernel_rfl) (fun _ _ _ h => h) (Or.inl ⟨by kernel_rfl, ?_⟩) (by assumption) ?_
  rotate_left
  · rintro w ⟨s1, s2, s3, s4⟩
    go_simp
    try with_reducible rfl
  try simp only [Act.put, List.setIfInBounds_toArray, List.set_cons_zero, List.set_cons_succ, List.getElem_toArray, List.getElem_cons_zero, List.getElem_cons_succ]
  refine wpAnyH_done (by kernel_rfl) ?_ _
  have hne := HNE.out
  have hb3 := bstep HB1.out hHeld.2.2.2
  clear hHeld
  go_wp2
  go_ret2
  exact ⟨rfl, hb3⟩
set_option maxHeartbeats 8000000 in
theorem fdCorrected_ok (h : Bool) (L : List ActR) (n cap : Nat) (A : Option Addr) (num : Int) (a : ActR) (w : World) (hG : 15 ≤ w.heap.size) (hZ : Acts w A n L) (hn : n ≤ 2000) (hs : ∀ a ∈ L, a.s.size ≤ maxLen) (hz : a.s.size ≤ maxLen) (i : Nat) (hi : num = (i : Int) + 1) (hin : i < n) (he : corE h L num a = 0) :
    Calls Tryz.prog 16 #[.slice A n cap, .int .i64 num, .agg #[.string a.s, .string a.k, .int .i64 a.v], .bool h] w (fun e w' => ∃ v, e = .returned (.tuple #[v, .int .i64 0]) ∧ OwnActs w' 44 w.heap.size v (L.set i a) ∧ Below w.heap.size w w') := by
  have hl : ¬ num < 1 := by omega
  obtain ⟨w1, hw1⟩ : ∃ w1, w.alloc (.cells #[.string a.s, .string a.k, .int .i64 a.v] 44) = w1 := ⟨_, rfl⟩
  have hb1 : Below w.heap.size w w1 := by rw [← hw1]; exact balloc _ (Below.refl _ _)
  have hs1 : w1.heap.size = w.heap.size + 1 := by rw [← hw1]; simp
  have c0 : w1.cell? ⟨w.heap.size, 0, none⟩ = some (.string a.s) := by rw [← hw1]; simp
  have c1 : w1.cell? ⟨w.heap.size, 1, none⟩ = some (.string a.k) := by rw [← hw1]; simp
  have c2 : w1.cell? ⟨w.heap.size, 2, none⟩ = some (.int .i64 a.v) := by rw [← hw1]; simp
  have HX : Hid (∀ w', Below w1.heap.size w1 w' → w'.cell? ⟨w.heap.size, 0, none⟩ = some (.string a.s) ∧ w'.cell? ⟨w.heap.size, 1, none⟩ = some (.string a.k) ∧ w'.cell? ⟨w.heap.size, 2, none⟩ = some (.int .i64 a.v) ∧ Below w1.heap.size w1 w') := Lib.hid fun w' hb => ⟨(hb.cell (p := ⟨w.heap.size, 0, none⟩) (by show w.heap.size < _; omega)).trans c0, (hb.cell (p := ⟨w.heap.size, 1, none⟩) (by show w.heap.size < _; omega)).trans c1, (hb.cell (p := ⟨w.heap.size, 2, none⟩) (by show w.heap.size < _; omega)).trans c2, hb⟩
  have HA : Hid (∀ w', Below w1.heap.size w1 w' → Calls Tryz.prog 54 #[.slice A n cap, .bool h] w' (RetPost (.int .i64 (actsE h L)) w')) := Lib.hid fun w' hb => fdActs_any h L n cap A w' (by have := hb.size; omega) ((hZ.below hb1).below hb) hn hs
  have HC : Hid (∀ w', Below w1.heap.size w1 w' → Calls Tryz.prog 14 #[.agg #[.string a.s, .string a.k, .int .i64 a.v], .bool h] w' (RetPost (.int .i64 (actE h a.s a.k a.v)) w')) := Lib.hid fun w' hb => fdCheckAct_any h a.s a.k a.v w' hz (by have := hb.size; omega)
  have HZw : Hid (∀ w', Below w.heap.size w w' → Acts w' A n L) := Lib.hid fun w' hb => hZ.below hb
  have hF0 := fun x y z g w => trFirst_any [x, y, z] 3 rfl (by decide) g w
  have hni : (n : Int) ≤ 2000 := by omega
  have HLn := Lib.hid hZ.1
  have HB1 := Lib.hid hb1
  obtain ⟨g, off, _, rfl, _, _, _, _, _⟩ := hZ.at_ hin
  have hd : decide (num < 1) = false := decide_eq_false hl
  have HW := Lib.hid fun w' => trWhen_any (decide ((n : Int) < num)) 10 w'
  have HY : Hid (fstN [actsE h L, actE h a.s a.k a.v, if decide ((n : Int) < num) = true then 10 else 0] = 0) := Lib.hid (by have h0 := he; unfold corE at h0; rw [HLn.out] at h0; simpa [hl] using h0)
  generalize actsE h L = e1 at *
  generalize actE h a.s a.k a.v = e2 at *
  obtain ⟨e3, he3⟩ : ∃ e3 : Int, (if decide ((n : Int) < num) = true then 10 else 0) = e3 := ⟨_, rfl⟩
  rw [he3] at HY HW
  have hF := hF0 e1 e2 e3
  rw [HY.out] at hF
  have HFi := Lib.hid hF
  have hnum : num - 1 = (i : Int) := by omega
  have hiw : IntKind.i64.wrap (i : Int) = (i : Int) := IntWalk.i64_in _ (by omega)
  clear hF0 hF hZ hs hz HY c0 c1 c2 hb1 he3 he hi
  go_enter Tryz.func16, Tryz.ntmps16
  go_wp2_with fail
  clear hw1
  refine wp_region_held_drew (S := (fun w' => w'.cell? ⟨w.heap.size, 0, none⟩ = some (.string a.s) ∧ w'.cell? ⟨w.heap.size, 1, none⟩ = some (.string a.k) ∧ w'.cell? ⟨w.heap.size, 2, none⟩ = some (.int .i64 a.v) ∧ Below w1.heap.size w1 w')) (by kernel_rfl) ?_ (fun hHeld => ?_)
  · exact HX.out _ (Below.drew (Below.refl _ _))
  refine wpAnyH_take (i := 0) (oi := _) (v := ?_) rfl (by kernel_rfl) (by kernel_rfl) (by kernel_rfl) (fun _ _ _ h => h) (Or.inl ⟨by kernel_rfl, ?_⟩) (by assumption) ?_
  rotate_left
  · rintro w ⟨s1, s2, s3, s4⟩
    go_simp
    try with_reducible rfl
  try simp only [Act.put, List.setIfInBounds_toArray, List.set_cons_zero, List.set_cons_succ, List.getElem_toArray, List.getElem_cons_zero, List.getElem_cons_succ]
  refine wpAnyH_take (i := 1) (oi := _) (v := ?_) rfl (by kernel_rfl) (by kernel_rfl) (by kernel_rfl) (fun _ _ _ h => h) (Or.inl ⟨by kernel_rfl, ?_⟩) (by assumption) ?_
  rotate_left
  · rintro w ⟨s1, s2, s3, s4⟩
    go_simp
    try with_reducible rfl
  try simp only [Act.put, List.setIfInBounds_toArray, List.set_cons_zero, List.set_cons_succ, List.getElem_toArray, List.getElem_cons_zero, List.getElem_cons_succ]
  refine wpAnyH_take (i := 3) (oi := _) (v := ?_) rfl (by kernel_rfl) (by kernel_rfl) (by kernel_rfl) (fun _ _ _ h => h) (Or.inl ⟨by kernel_rfl, ?_⟩) (by assumption) ?_
  rotate_left
  · rintro w ⟨s1, s2, s3, s4⟩
    go_simp
    try with_reducible rfl
  try simp only [Act.put, List.setIfInBounds_toArray, List.set_cons_zero, List.set_cons_succ, List.getElem_toArray, List.getElem_cons_zero, List.getElem_cons_succ]
  refine wpAnyH_take (i := 4) (oi := _) (v := ?_) rfl (by kernel_rfl) (by kernel_rfl) (by kernel_rfl) (fun _ _ _ h => h) (Or.inl ⟨by kernel_rfl, ?_⟩) (by assumption) ?_
  rotate_left
  · rintro w ⟨s1, s2, s3, s4⟩
    go_simp
    try with_reducible rfl
  try simp only [Act.put, List.setIfInBounds_toArray, List.set_cons_zero, List.set_cons_succ, List.getElem_toArray, List.getElem_cons_zero, List.getElem_cons_succ]
  refine wpAnyH_take (i := 6) (oi := _) (v := ?_) rfl (by kernel_rfl) (by kernel_rfl) (by kernel_rfl) (fun _ _ _ h => h) (Or.inl ⟨by kernel_rfl, ?_⟩) (by assumption) ?_
  rotate_left
  · rintro w ⟨s1, s2, s3, s4⟩
    go_simp
    try with_reducible rfl
  try simp only [Act.put, List.setIfInBounds_toArray, List.set_cons_zero, List.set_cons_succ, List.getElem_toArray, List.getElem_cons_zero, List.getElem_cons_succ]
  refine wpAnyH_take (i := 7) (oi := _) (v := ?_) rfl (by kernel_rfl) (by kernel_rfl) (by kernel_rfl) (fun _ _ _ h => h) (Or.inl ⟨by kernel_rfl, ?_⟩) (by assumption) ?_
  rotate_left
  · rintro w ⟨s1, s2, s3, s4⟩
    go_simp
    try simp only [hd]
    try with_reducible rfl
  try simp only [Act.put, List.setIfInBounds_toArray, List.set_cons_zero, List.set_cons_succ, List.getElem_toArray, List.getElem_cons_zero, List.getElem_cons_succ]
  refine wpAnyH_ready (rs := [2]) (by kernel_rfl) (by simp) ?_
  refine AllReadyH.cons (o := _) rfl (fun K hKK => ?_) AllReadyH.nil
  go_simp
  go_at_call 54
  with_reducible refine (HA.out _ hHeld.2.2.2).mono ?_
  rintro e' w' ⟨rfl, hbz⟩
  go_wp2_with fail
  refine hKK.out _ _ ?_ (fun hHeld => ?_)
  · exact HX.out _ (bstep hHeld.2.2.2 hbz)
  clear hKK K
  try simp only [Act.put, List.setIfInBounds_toArray, List.set_cons_zero, List.set_cons_succ, List.getElem_toArray, List.getElem_cons_zero, List.getElem_cons_succ]
  clear hbz
  refine wpAnyH_ready (rs := [5]) (by kernel_rfl) (by simp) ?_
  refine AllReadyH.cons (o := _) rfl (fun K hKK => ?_) AllReadyH.nil
  go_simp
  go_at_call 14
  with_reducible refine (HC.out _ hHeld.2.2.2).mono ?_
  rintro e' w' ⟨rfl, hbz⟩
  go_wp2_with fail
  refine hKK.out _ _ ?_ (fun hHeld => ?_)
  · exact HX.out _ (bstep hHeld.2.2.2 hbz)
  clear hKK K
  try simp only [Act.put, List.setIfInBounds_toArray, List.set_cons_zero, List.set_cons_succ, List.getElem_toArray, List.getElem_cons_zero, List.getElem_cons_succ]
  clear hbz
  refine wpAnyH_take (i := 8) (oi := _) (v := ?_) rfl (by kernel_rfl) (by kernel_rfl) (by kernel_rfl) (fun _ _ _ h => h) (Or.inl ⟨by kernel_rfl, ?_⟩) (by assumption) ?_
  rotate_left
  · rintro w ⟨s1, s2, s3, s4⟩
    go_simp
    try with_reducible rfl
  try simp only [Act.put, List.setIfInBounds_toArray, List.set_cons_zero, List.set_cons_succ, List.getElem_toArray, List.getElem_cons_zero, List.getElem_cons_succ]
  refine wpAnyH_take (i := 9) (oi := _) (v := ?_) rfl (by kernel_rfl) (by kernel_rfl) (by kernel_rfl) (fun _ _ _ h => h) (Or.inl ⟨by kernel_rfl, ?_⟩) (by assumption) ?_
  rotate_left
  · rintro w ⟨s1, s2, s3, s4⟩
    go_simp
    try with_reducible rfl
  try simp only [Act.put, List.setIfInBounds_toArray, List.set_cons_zero, List.set_cons_succ, List.getElem_toArray, List.getElem_cons_zero, List.getElem_cons_succ]
  refine wpAnyH_take (i := 10) (oi := _) (v := ?_) rfl (by kernel_rfl) (by kernel_rfl) (by kernel_rfl) (fun _ _ _ h => h) (Or.inl ⟨by kernel_rfl, ?_⟩) (by assumption) ?_
  rotate_left
  · rintro w ⟨s1, s2, s3, s4⟩
    go_simp
    try with_reducible rfl
  try simp only [Act.put, List.setIfInBounds_toArray, List.set_cons_zero, List.set_cons_succ, List.getElem_toArray, List.getElem_cons_zero, List.getElem_cons_succ]
  refine wpAnyH_take (i := 11) (oi := _) (v := ?_) rfl (by kernel_rfl) (by kernel_rfl) (by kernel_rfl) (fun _ _ _ h => h) (Or.inl ⟨by kernel_rfl, ?_⟩) (by assumption) ?_
  rotate_left
  · rintro w ⟨s1, s2, s3, s4⟩
    go_simp
    try with_reducible rfl
  try simp only [Act.put, List.setIfInBounds_toArray, List.set_cons_zero, List.set_cons_succ, List.getElem_toArray, List.getElem_cons_zero, List.getElem_cons_succ]
  refine wpAnyH_take (i := 12) (oi := _) (v := ?_) rfl (by kernel_rfl) (by kernel_rfl) (by kernel_rfl) (fun _ _ _ h => h) (Or.inl ⟨by kernel_rfl, ?_⟩) (by assumption) ?_
  rotate_left
  · rintro w ⟨s1, s2, s3, s4⟩
    go_simp
    try with_reducible rfl
  try simp only [Act.put, List.setIfInBounds_toArray, List.set_cons_zero, List.set_cons_succ, List.getElem_toArray, List.getElem_cons_zero, List.getElem_cons_succ]
  refine wpAnyH_take (i := 13) (oi := _) (v := ?_) rfl (by kernel_rfl) (by kernel_rfl) (by kernel_rfl) (fun _ _ _ h => h) (Or.inl ⟨by kernel_rfl, ?_⟩) (by assumption) ?_
  rotate_left
  · rintro w ⟨s1, s2, s3, s4⟩
    go_simp
    try with_reducible rfl
  try simp only [Act.put, List.setIfInBounds_toArray, List.set_cons_zero, List.set_cons_succ, List.getElem_toArray, List.getElem_cons_zero, List.getElem_cons_succ]
  refine wpAnyH_ready (rs := [14]) (by kernel_rfl) (by simp) ?_
  refine AllReadyH.cons (o := _) rfl (fun K hKK => ?_) AllReadyH.nil
  go_simp
  go_at_call 47
  with_reducible refine (HW.out _).mono ?_
  rintro e' w' ⟨rfl, rfl⟩
  go_wp2_with fail
  refine hKK.out _ _ ?_ (fun hHeld => ?_)
  · exact hHeld
  clear hKK K
  try simp only [Act.put, List.setIfInBounds_toArray, List.set_cons_zero, List.set_cons_succ, List.getElem_toArray, List.getElem_cons_zero, List.getElem_cons_succ]
  refine wpAnyH_ready (rs := [15]) (by kernel_rfl) (by simp) ?_
  refine AllReadyH.cons (o := _) rfl (fun K hKK => ?_) AllReadyH.nil
  go_simp
  refine hKK.out _ _ ?_ (fun hHeld => ?_)
  · exact HX.out _ (balloc _ hHeld.2.2.2)
  clear hKK K
  try simp only [Act.put, List.setIfInBounds_toArray, List.set_cons_zero, List.set_cons_succ, List.getElem_toArray, List.getElem_cons_zero, List.getElem_cons_succ]
  refine wpAnyH_ready (rs := [16]) (by kernel_rfl) (by simp) ?_
  refine AllReadyH.cons (o := _) rfl (fun K hKK => ?_) AllReadyH.nil
  go_simp
  go_at_call 42
  refine (HFi.out _ _ ?_).mono ?_
  · exact es3F _ _ _ _ _
  rintro e' w' ⟨rfl, rfl⟩
  go_wp2_with fail
  refine hKK.out _ _ ?_ (fun hHeld => ?_)
  · exact hHeld
  clear hKK K
  try simp only [Act.put, List.setIfInBounds_toArray, List.set_cons_zero, List.set_cons_succ, List.getElem_toArray, List.getElem_cons_zero, List.getElem_cons_succ]
  refine wpAnyH_take (i := 17) (oi := _) (v := ?_) rfl (by kernel_rfl) (by kernel_rfl) (by kernel_rfl) (fun _ _ _ h => h) (Or.inl ⟨by kernel_rfl, ?_⟩) (by assumption) ?_
  rotate_left
  · rintro w ⟨s1, s2, s3, s4⟩
    go_simp
    try with_reducible rfl
  try simp only [Act.put, List.setIfInBounds_toArray, List.set_cons_zero, List.set_cons_succ, List.getElem_toArray, List.getElem_cons_zero, List.getElem_cons_succ]
  refine wpAnyH_done (by kernel_rfl) ?_ _
  obtain ⟨d0, d1, d2, d3⟩ := hHeld
  have hb4 := bstep HB1.out d3
  have HBX := Lib.hid hb4
  have HWi := Lib.hid (fdWith_any L n cap g off i a _ (HZw.out _ hb4) hin hn)
  clear d3 hb4
  go_wp2_with fail
  refine HWi.out.mono ?_
  rintro e w9 ⟨v9, rfl, ho9, hb9⟩
  have hro : OwnActs w9 44 w.heap.size v9 (L.set i a) := by unfold OwnActs at *; exact own_low ho9 HBX.out.size
  have hb3 := bstep HBX.out hb9
  clear d0 d1 d2 ho9 hb9
  go_wp2
  go_ret2
  exact ⟨_, rfl, hro, hb3⟩
end Go.Mk
