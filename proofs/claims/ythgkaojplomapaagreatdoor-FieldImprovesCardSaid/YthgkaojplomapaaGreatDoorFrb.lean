/-
  Proved: rowRanks of package field: 0 for a row without a mark, else 1 and the number of rows whose marks in descending order are greater. Conditions: at most 100 rows, each with at most 12 trials, each of them at most 999,999, where the slices say.
-/
import Derived.Test.YthgkaojplomapaaGreatDoorFra
set_option linter.unusedVariables false
set_option linter.unusedSimpArgs false
open Go Go.Proofs Go.RowKit
set_option maxRecDepth 100000
namespace Go.Mk
set_option maxHeartbeats 2000000 in
theorem fdRkB_any (S : List (List Int)) (n c bx : Nat) (A : Option Addr) (hn : n ≤ 100) (j i : Nat) (hj : j < n) (hi : i < n) (w : World) (hS : SersZ w A n S) (hs : ∀ l ∈ S, l.length ≤ 12) (hbx : bx < w.heap.size) (hc : w.cell? ⟨bx, 0, none⟩ = some (.slice A n c)) :
    Calls Tryz.prog 129 #[.int .i64 j, .int .i64 i, .pointer (some ⟨bx, 0, none⟩)] w (RetPost (.bool (rkBt S j i)) w) := by
  obtain ⟨b, off, rfl, hbl, hcc⟩ := hS.2 (by omega)
  have hl : i < S.length := by rw [hS.1]; exact hi
  have hl2 : j < S.length := by rw [hS.1]; exact hj
  obtain ⟨A1, c1, h1, h2⟩ := hcc i S[i] (List.getElem?_eq_getElem hl)
  obtain ⟨A2, c2, h3, h4⟩ := hcc j S[j] (List.getElem?_eq_getElem hl2)
  have m1 := hs S[i] (List.getElem_mem hl)
  have m2 := hs S[j] (List.getElem_mem hl2)
  have hii : (i : Int) < (n : Int) := by omega
  have hi0 : (0 : Int) ≤ (i : Int) := by omega
  have hit : ((i : Int)).toNat = i := by omega
  have hji : (j : Int) < (n : Int) := by omega
  have hj0 : (0 : Int) ≤ (j : Int) := by omega
  have hjt : ((j : Int)).toNat = j := by omega
  have e : rkBt S j i = decide (0 < cmpL S[j] S[i]) := by
    unfold rkBt
    simp [List.getD_eq_getElem?_getD, hl, hl2]
  rw [e]
  have HC : Hid (∀ w', Below w.heap.size w w' → Calls Tryz.prog 100 #[.slice A2 S[j].length c2, .slice A1 S[i].length c1] w' (RetPost (.int .i64 (cmpL S[j] S[i])) w')) := Lib.hid fun w' hb =>
    slCompareI_any S[j] S[i] _ _ _ _ A2 A1 w' (h4.below hb) (h2.below hb) (by omega) (by omega)
  have HX : Hid (∀ w', Below w.heap.size w w' → w'.cell? ⟨bx, 0, none⟩ = some (.slice (some ⟨b, off, none⟩) n c) ∧ w'.cell? ⟨b, off + i, none⟩ = some (.slice A1 S[i].length c1) ∧ w'.cell? ⟨b, off + j, none⟩ = some (.slice A2 S[j].length c2) ∧ Below w.heap.size w w') := Lib.hid fun w' hb =>
    ⟨(hb.cell (p := ⟨bx, 0, none⟩) hbx).trans hc, (hb.cell (p := ⟨b, _, none⟩) hbl).trans h1, (hb.cell (p := ⟨b, _, none⟩) hbl).trans h3, hb⟩
  generalize S[i].length = k1 at *
  generalize S[j].length = k2 at *
  generalize cmpL S[j] S[i] = y at *
  clear e hcc hS h1 h2 h3 h4 hc hs
  go_enter Tryz.func129, Tryz.ntmps129
  go_wp2_with fail
  refine wp_region_held_drew (S := fun w' => w'.cell? ⟨bx, 0, none⟩ = some (.slice (some ⟨b, off, none⟩) n c) ∧ w'.cell? ⟨b, off + i, none⟩ = some (.slice A1 k1 c1) ∧ w'.cell? ⟨b, off + j, none⟩ = some (.slice A2 k2 c2) ∧ Below w.heap.size w w') (by kernel_rfl) ?_ (fun hHeld => ?_)
  · exact HX.out _ (Below.drew (Below.refl _ _))
  refine wpAnyH_take (i := 0) (oi := _) (v := ?_) rfl (by kernel_rfl) (by kernel_rfl) (by kernel_rfl) (fun _ _ _ h => h) (Or.inl ⟨by rfl, ?_⟩) (by assumption) ?_
  rotate_left
  · rintro w ⟨s0, s1, s2, s3⟩
    go_simp
    try with_reducible rfl
  try simp only [Act.put, zA1, zA2, zA3, zA4, zA5, zA6]
  refine wpAnyH_take (i := 1) (oi := _) (v := ?_) rfl (by kernel_rfl) (by kernel_rfl) (by kernel_rfl) (fun _ _ _ h => h) (Or.inl ⟨by rfl, ?_⟩) (by assumption) ?_
  rotate_left
  · rintro w ⟨s0, s1, s2, s3⟩
    go_simp
    try with_reducible rfl
  try simp only [Act.put, zA1, zA2, zA3, zA4, zA5, zA6]
  refine wpAnyH_take (i := 2) (oi := _) (v := ?_) rfl (by kernel_rfl) (by kernel_rfl) (by kernel_rfl) (fun _ _ _ h => h) (Or.inl ⟨by rfl, ?_⟩) (by assumption) ?_
  rotate_left
  · rintro w ⟨s0, s1, s2, s3⟩
    go_simp
    try with_reducible rfl
  try simp only [Act.put, zA1, zA2, zA3, zA4, zA5, zA6]
  refine wpAnyH_take (i := 3) (oi := _) (v := ?_) rfl (by kernel_rfl) (by kernel_rfl) (by kernel_rfl) (fun _ _ _ h => h) (Or.inl ⟨by rfl, ?_⟩) (by assumption) ?_
  rotate_left
  · rintro w ⟨s0, s1, s2, s3⟩
    go_simp
    try with_reducible rfl
  try simp only [Act.put, zA1, zA2, zA3, zA4, zA5, zA6]
  refine wpAnyH_take (i := 4) (oi := _) (v := ?_) rfl (by kernel_rfl) (by kernel_rfl) (by kernel_rfl) (fun _ _ _ h => h) (Or.inl ⟨by rfl, ?_⟩) (by assumption) ?_
  rotate_left
  · rintro w ⟨s0, s1, s2, s3⟩
    go_simp
    try with_reducible rfl
  try simp only [Act.put, zA1, zA2, zA3, zA4, zA5, zA6]
  refine wpAnyH_take (i := 5) (oi := _) (v := ?_) rfl (by kernel_rfl) (by kernel_rfl) (by kernel_rfl) (fun _ _ _ h => h) (Or.inl ⟨by rfl, ?_⟩) (by assumption) ?_
  rotate_left
  · rintro w ⟨s0, s1, s2, s3⟩
    go_simp
    try with_reducible rfl
  try simp only [Act.put, zA1, zA2, zA3, zA4, zA5, zA6]
  refine wpAnyH_take (i := 6) (oi := _) (v := ?_) rfl (by kernel_rfl) (by kernel_rfl) (by kernel_rfl) (fun _ _ _ h => h) (Or.inl ⟨by rfl, ?_⟩) (by assumption) ?_
  rotate_left
  · rintro w ⟨s0, s1, s2, s3⟩
    go_simp
    try with_reducible rfl
  try simp only [Act.put, zA1, zA2, zA3, zA4, zA5, zA6]
  refine wpAnyH_take (i := 7) (oi := _) (v := ?_) rfl (by kernel_rfl) (by kernel_rfl) (by kernel_rfl) (fun _ _ _ h => h) (Or.inl ⟨by rfl, ?_⟩) (by assumption) ?_
  rotate_left
  · rintro w ⟨s0, s1, s2, s3⟩
    go_simp
    try with_reducible rfl
  try simp only [Act.put, zA1, zA2, zA3, zA4, zA5, zA6]
  refine wpAnyH_ready (rs := [8]) (by kernel_rfl) (by simp) ?_
  refine AllReadyH.cons (o := _) rfl (fun K hKK => ?_) AllReadyH.nil
  go_simp
  go_at_call 100
  refine (HC.out _ hHeld.2.2.2).mono ?_
  rintro e w5 ⟨rfl, hb5⟩
  have hX := HX.out _ (bstep hHeld.2.2.2 hb5)
  clear hHeld hb5
  go_wp2_with fail
  refine hKK.out _ _ ?_ (fun hHeld => ?_)
  · exact hX
  clear hKK K
  try simp only [Act.put, zA1, zA2, zA3, zA4, zA5, zA6]
  clear hX
  refine wpAnyH_take (i := 9) (oi := _) (v := ?_) rfl (by kernel_rfl) (by kernel_rfl) (by kernel_rfl) (fun _ _ _ h => h) (Or.inl ⟨by rfl, ?_⟩) (by assumption) ?_
  rotate_left
  · rintro w ⟨s0, s1, s2, s3⟩
    go_simp
    try with_reducible rfl
  try simp only [Act.put, zA1, zA2, zA3, zA4, zA5, zA6]
  refine wpAnyH_take (i := 10) (oi := _) (v := ?_) rfl (by kernel_rfl) (by kernel_rfl) (by kernel_rfl) (fun _ _ _ h => h) (Or.inl ⟨by rfl, ?_⟩) (by assumption) ?_
  rotate_left
  · rintro w ⟨s0, s1, s2, s3⟩
    go_simp
    try with_reducible rfl
  try simp only [Act.put, zA1, zA2, zA3, zA4, zA5, zA6]
  refine wpAnyH_done (by kernel_rfl) ?_ _
  have hX := hHeld.2.2.2
  go_wp2
  go_ret
  exact ⟨rfl, hX⟩
set_option maxHeartbeats 2000000 in
theorem fdRowRanks_any (L : List RowR) (n cap : Nat) (A : Option Addr) (w : World) (hZ : Rows w A n L) (hn : n ≤ 100) (hs : ∀ r ∈ L, r.n ≤ 12 ∧ r.T.length = r.n ∧ ∀ t ∈ r.T, t ≤ 999999) :
    Calls Tryz.prog 73 #[.slice A n cap] w (fun e w' => ∃ g, e = .returned (.slice (some ⟨g, 0, none⟩) n n) ∧ Row w' g (ranksB (rkR (sersOf L)) (rkBt (sersOf L)) n) ∧ w.heap.size ≤ g ∧ Below w.heap.size w w') := by
  have hE := fdEachRZ_any L n cap A w hZ hn (fun r hr => ⟨(hs r hr).1, (hs r hr).2.2⟩)
  have hSl : ∀ l ∈ sersOf L, l.length ≤ 12 := fun l hl => by
    obtain ⟨r, hr, rfl⟩ := List.mem_map.1 hl
    have h1 := hs r hr
    have h2 := (List.mergeSort_perm (r.T.filter fun t => decide (0 ≤ t)) (fun a b => decide (b ≤ a))).length_eq
    have h3 := List.length_filter_le (fun t => decide (0 ≤ t)) r.T
    unfold serD
    omega
  have hlen : (sersOf L).length = n := by unfold sersOf; rw [List.length_map]; exact hZ.1
  generalize sersOf L = S at *
  have HSl := Lib.hid hSl
  have HLn := Lib.hid hlen
  have hni : (n : Int) ≤ 100 := by omega
  clear hZ hs hSl hlen
  go_enter Tryz.func73, Tryz.ntmps73
  go_wp2_with fail
  refine hE.mono ?_
  rintro e w2 ⟨v, rfl, ho, hb⟩
  obtain ⟨A2, c2, rfl, hS⟩ := SersZ.of_own ho
  rw [HLn.out] at hS ⊢
  obtain ⟨w3, hw3⟩ : ∃ w3, w2.alloc (.cells #[.slice A2 n c2] 201) = w3 := ⟨_, rfl⟩
  have hb3 : Below w2.heap.size w2 w3 := by rw [← hw3]; exact balloc _ (Below.refl _ _)
  have y0 : w3.cell? ⟨w2.heap.size, 0, none⟩ = some (.slice A2 n c2) := by rw [← hw3]; simp
  have hs3 : w2.heap.size < w3.heap.size := by rw [← hw3]; simp
  have hS3 := hS.below hb3
  have hR := fdRanks_any n (by omega) (rkR S) (rkBt S) 128 129 (.pointer (some ⟨w2.heap.size, 0, none⟩)) (.pointer (some ⟨w2.heap.size, 0, none⟩)) w3 (enters_of Tryz.func128 (by kernel_rfl) rfl) (enters_of Tryz.func129 (by kernel_rfl) rfl)
    (fun w' i hb' hi => fdRkA_any S n c2 w2.heap.size A2 hn i hi w' (hS3.below hb') HSl.out (Nat.lt_of_lt_of_le hs3 hb'.size) ((hb'.cell (p := ⟨w2.heap.size, 0, none⟩) hs3).trans y0))
    (fun w' j i hb' hj hi => fdRkB_any S n c2 w2.heap.size A2 hn j i hj hi w' (hS3.below hb') HSl.out (Nat.lt_of_lt_of_le hs3 hb'.size) ((hb'.cell (p := ⟨w2.heap.size, 0, none⟩) hs3).trans y0))
  have HB3 := Lib.hid (bstep hb hb3)
  clear ho hS hS3 hb hb3 hE hs3
  go_wp2_with fail
  refine hR.mono ?_
  rintro e w5 ⟨g, rfl, hrow, hg, hb5⟩
  have HF := Lib.hid (And.intro hrow (And.intro (Nat.le_trans HB3.out.size hg) (bstep HB3.out hb5)))
  clear hrow hg hb5 hR
  go_wp2
  go_ret
  exact ⟨g, rfl, HF.out⟩
end Go.Mk
