/-
  Proved: the reference's remainder and greatest common divisor of integers of one digit to the base 10^9 (divDigits, common). Conditions: the integers have at most nine digits, the first one is not 0, and they lie where the values say.
  Proved: the numerator and the denominator of a rational number's text by the reference (parts). Conditions: both have at most nine digits, neither is 0, the denominator is not 1.
-/
import Derived.Test.YtickjnahdeikfaaGreatDoorVg
section
set_option linter.unusedVariables false
set_option linter.unusedSimpArgs false
open Go Go.Proofs Go.RowKit
set_option maxRecDepth 100000
namespace Go.Mk
set_option maxHeartbeats 4000000 in
theorem rfDivDigits_one (A B g o c g' o' c' : Nat) (w : World) (hA0 : 0 < A) (hA : A ≤ 999999999) (hB0 : 0 < B) (hg : g < w.heap.size) (hg' : g' < w.heap.size)
    (hx : w.cell? ⟨g, o, none⟩ = some (.int .i64 (A : Int))) (hy : w.cell? ⟨g', o', none⟩ = some (.int .i64 (B : Int))) :
    Calls Tryz.prog 115 #[.slice (some ⟨g, o, none⟩) 1 c, .slice (some ⟨g', o', none⟩) 1 c'] w (fun e w' => ∃ q v, e = .returned (.tuple #[q, v]) ∧ D1 w' v (A % B) ∧ Below w.heap.size w w') := by
  have hC := rfCmp_one A B g o c g' o' c' w hx hy
  have HY := Lib.hid hy
  by_cases h : A < B
  · have hs : sgn3 A B = -1 := by unfold sgn3; rw [if_pos h]
    rw [hs] at hC
    have hm : A % B = A := Nat.mod_eq_of_lt h
    rw [hm]
    have HD : Hid (D1 w (.slice (some ⟨g, o, none⟩) 1 c) A) := Lib.hid (.inr ⟨hA0, g, o, c, rfl, hg, hx⟩)
    clear hx hy
    go_enter Tryz.func115, Tryz.ntmps115
    go_wp2_with fail
    refine hC.mono ?_
    rintro e w1 ⟨rfl, b1⟩
    go_wp2
    go_ret2
    exact ⟨_, _, rfl, HD.out.below b1, b1⟩
  · have hs : 0 ≤ sgn3 A B := by unfold sgn3; rw [if_neg h]; split <;> decide
    obtain ⟨s, hse⟩ : ∃ s, sgn3 A B = s := ⟨_, rfl⟩
    rw [hse] at hC hs
    have hs' : ¬ s < 0 := by omega
    have hD := fun w' (hb : Below w.heap.size w w') => rfDivDigit_one A B g o c w' hA hB0 (Nat.lt_of_lt_of_le hg hb.size) ((hb.cell (p := ⟨g, o, none⟩) hg).trans hx)
    have HC := Lib.hid fun w' (hb : Below w.heap.size w w') => (hb.cell (p := ⟨g', o', none⟩) hg').trans hy
    obtain ⟨R, hR⟩ : ∃ R, A % B = R := ⟨_, rfl⟩
    rw [hR] at hD ⊢
    clear hx hy hse hR
    go_enter Tryz.func115, Tryz.ntmps115
    go_wp2_with fail
    refine hC.mono ?_
    rintro e w1 ⟨rfl, b1⟩
    have k1 := HC.out _ b1
    go_wp2_with fail
    refine (hD _ b1).mono ?_
    rintro e w2 ⟨q, rfl, b2⟩
    have b12 := bstep b1 b2
    clear k1
    obtain ⟨w3, hw3⟩ : ∃ w3, w2.alloc (.cells #[.int .i64 (R : Int)] 3) = w3 := ⟨_, rfl⟩
    have hT := rfTrim_cell w2.heap.size 0 1 R w3 (by decide) (by decide) (by rw [← hw3]; simp) (by rw [← hw3]; simp)
    have b3 : Below w.heap.size w w3 := by rw [← hw3]; exact balloc _ b12
    go_wp2_with fail
    refine hT.mono ?_
    rintro e w4 ⟨v, rfl, hv, rfl⟩
    have HV := Lib.hid hv
    clear hv hw3
    go_wp2
    go_ret2
    exact ⟨_, _, rfl, HV.out, b3⟩
def mea (y : Value) (w : World) : Nat := match y with
  | .slice (some a) 1 _ => (match w.cell? a with | some v => (intOf v).toNat | none => 0)
  | _ => 0
theorem mea_D1 {w : World} {y : Value} {N : Nat} (h : D1 w y N) : mea y w = N := by
  rcases h with ⟨rfl, A, c, rfl⟩ | ⟨h0, g, off, c, rfl, hg, hc⟩
  · cases A <;> rfl
  · unfold mea
    simp only [hc]
    simp [intOf]
set_option maxHeartbeats 4000000 in
theorem rfCommon_any (A B : Nat) (v u : Value) (w : World) (hA0 : 0 < A) (hA : A ≤ 999999999) (hB : B ≤ 999999999) (hv : D1 w v A) (hu : D1 w u B) :
    Calls Tryz.prog 111 #[v, u] w (fun e w' => ∃ r, e = .returned r ∧ D1 w' r (Nat.gcd A B) ∧ Below w.heap.size w w') := by
  obtain ⟨G, hG⟩ : ∃ G, Nat.gcd A B = G := ⟨_, rfl⟩
  rw [hG]
  have HG := Lib.hid hG
  have HV := Lib.hid hv
  have HU := Lib.hid hu
  obtain ⟨Av, nv, cv, rfl⟩ := hv.slice
  obtain ⟨Au, nu, cu, rfl⟩ := hu.slice
  clear hG hv hu
  go_enter Tryz.func111, Tryz.ntmps111
  go_wp2
  go_loopw [0, 1] (fun x y wr => ∃ A' B' : Nat, 0 < A' ∧ A' ≤ 999999999 ∧ B' ≤ 999999999 ∧ Hid (D1 wr x A') ∧ Hid (D1 wr y B') ∧ Hid (Nat.gcd A' B' = G) ∧ Below w.heap.size w wr) (fun _ y wr => mea y wr)
  case atStart => exact ⟨A, B, hA0, hA, hB, HV, HU, HG, Below.refl _ _⟩
  case round =>
    obtain ⟨A', B', h0, h1, h2, hx, hy, hg, hb⟩ := hrel
    rcases hy.out with ⟨hz, Ay, cy, rfl⟩ | ⟨hB0, g', o', c', rfl, hg', hc'⟩
    · have hr := hx.out
      rw [show A' = G from by rw [← hg.out, hz, Nat.gcd_zero_right]] at hr
      have HR := Lib.hid hr
      clear hr
      go_wp2
      go_ret
      exact ⟨_, rfl, HR.out, hb⟩
    · rcases hx.out with ⟨hz, _⟩ | ⟨_, g, o, c, rfl, hgx, hc⟩
      · exact absurd hz (by omega)
      have hD := rfDivDigits_one A' B' g o c g' o' c' wr h0 h1 hB0 hgx hg' hc hc'
      have hmB : A' % B' < B' := Nat.mod_lt _ hB0
      have HM := Lib.hid (mea_D1 hy.out)
      have HN : Hid (Nat.gcd B' (A' % B') = G) := Lib.hid (by rw [← hg.out, Nat.gcd_comm A' B', Nat.gcd_rec B' A', Nat.gcd_comm])
      generalize A' % B' = R at *
      clear hc hc' hx hg
      go_wp2_with fail
      refine hD.mono ?_
      rintro e w2 ⟨q, v, rfl, hv, b2⟩
      have HB := Lib.hid (hy.out.below b2)
      have HV2 := Lib.hid hv
      have HM2 := Lib.hid (mea_D1 hv)
      have bw := bstep hb b2
      clear hv b2 hD
      go_wp2
      go_roundw
      case rel => exact ⟨B', R, hB0, h2, by omega, HB, HV2, HN, bw⟩
      case measure => show mea _ _ < mea _ _; rw [HM2.out, HM.out]; exact hmB
end Go.Mk
end
section
set_option linter.unusedVariables false
set_option linter.unusedSimpArgs false
open Go Go.Proofs Go.RowKit
set_option maxRecDepth 100000
namespace Go.Mk
/-- What a rational number's text with a slash is made of. -/
theorem ratT_facts (N D : Nat) (hN : N ≤ 999999999) (hD : D ≤ 999999999) (h1 : D ≠ 1) : ∃ (s : ByteArray) (a : Nat), ratT N D = s ∧ a = (digT N).size ∧ s.size = a + 1 + (digT D).size ∧ 0 < a ∧ a ≤ 9 ∧ s.size ≤ 19 ∧ slashL s.data.toList = a ∧ s.extract 0 a = digT N ∧ s.extract (a + 1) s.size = digT D ∧ ∃ c l, s.data.toList = c :: l ∧ 48 ≤ c.toNat := by
  have hn1 := digT_pos N
  have hn9 := digT_le9 N hN
  have hd9 := digT_le9 D hD
  have hh : ∃ c l, (digT N).data.toList = c :: l ∧ 48 ≤ c.toNat := by
    have := digT_isD N
    cases e : (digT N).data.toList with
    | nil => rw [digT_size2, e] at hn1; simp at hn1
    | cons c l => exact ⟨c, l, rfl, (this c (by rw [e]; simp)).1⟩
  have hl : (digT N ++ (⟨#[47]⟩ ++ digT D)).data.toList = (digT N).data.toList ++ 47 :: (digT D).data.toList := by simp
  have hz : (digT N ++ (⟨#[47]⟩ ++ digT D)).size = (digT N).size + (1 + (digT D).size) := by rw [ByteArray.size_append, ByteArray.size_append]; rfl
  have hsN : (digT N).data.toList.length = (digT N).size := (digT_size2 N).symm
  refine ⟨digT N ++ (⟨#[47]⟩ ++ digT D), (digT N).size, by unfold ratT; rw [if_neg h1], rfl, by omega, hn1, hn9, by omega, ?_, ?_, ?_, ?_⟩
  · rw [hl, slash_mid (digT_isD N), hsN]
  · apply baExt
    rw [ByteArray.data_extract, Array.toList_extract, hl]
    simp only [List.extract_eq_take_drop, List.drop_zero, Nat.sub_zero]
    rw [← hsN, List.take_left]
  · apply baExt
    rw [ByteArray.data_extract, Array.toList_extract, hl]
    simp only [List.extract_eq_take_drop]
    rw [List.take_of_length_le (by simp [hz]; omega), show (digT N).data.toList ++ 47 :: (digT D).data.toList = ((digT N).data.toList ++ [47]) ++ (digT D).data.toList by simp]
    exact List.drop_left' (by simp [hsN])
  · obtain ⟨c, l, e, hc⟩ := hh
    exact ⟨c, l ++ 47 :: (digT D).data.toList, by rw [hl, e]; rfl, hc⟩
theorem J1.below {w w' : World} {v : Value} {N : Nat} (h : J1 w v N) (hb : Below w.heap.size w w') : J1 w' v N := by
  obtain ⟨u, e, hu⟩ := h
  exact ⟨u, e, hu.below hb⟩
set_option maxHeartbeats 8000000 in
theorem rfParts_any (N D : Nat) (hN0 : 0 < N) (hN : N ≤ 999999999) (hD0 : 0 < D) (hD : D ≤ 999999999) (h1 : D ≠ 1) (w : World) :
    Calls Tryz.prog 75 #[.string (ratT N D)] w (fun e w' => ∃ u v, e = .returned (.tuple #[u, v]) ∧ J1 w' u N ∧ J1 w' v D ∧ Below w.heap.size w w') := by
  obtain ⟨s, a, hs, ha, hsz, ha0, ha9, h19, hsl, hx, hy, _⟩ := ratT_facts N D hN hD h1
  rw [hs]
  have hS := rfSlash_any s (by unfold maxLen; omega)
  rw [hsl] at hS
  have hPN := fun w => rfParse_any N hN0 hN w
  have hPD := fun w => rfParse_any D hD0 hD w
  have hd1 := digT_pos D
  obtain ⟨x, hxe⟩ : ∃ x, digT N = x := ⟨_, rfl⟩
  obtain ⟨y, hye⟩ : ∃ y, digT D = y := ⟨_, rfl⟩
  rw [hxe] at hx hPN
  rw [hye] at hy hPD hd1 hsz
  have hi1 : (s.size : Int) ≤ 19 := by omega
  have hia : (a : Int) ≤ 9 := by omega
  have hi2 : (a : Int) < (s.size : Int) := by omega
  have hne : ((a : Int) == (s.size : Int)) = false := by rw [beq_eq_false_iff_ne]; omega
  have hn0 : ¬ (a : Int) = (s.size : Int) := by omega
  have hi3 : (a : Int) ≤ (s.size : Int) := by omega
  have hi4 : (0 : Int) ≤ (a : Int) := by omega
  have hi5 : ((a : Int)).toNat = a := by omega
  have hi6 : (a : Int) + 1 ≤ (s.size : Int) := by omega
  have hi7 : (0 : Int) ≤ (a : Int) + 1 := by omega
  have hi8 : ((a : Int) + 1).toNat = a + 1 := by omega
  have hw2 : IntKind.i64.wrap ((a : Int) + 1) = (a : Int) + 1 := IntWalk.i64_in _ (by omega)
  obtain ⟨p, hp⟩ : ∃ p, w.heap.size = p := ⟨_, rfl⟩
  obtain ⟨wb, hwb⟩ : ∃ wb, (w.alloc (.cells #[.bool false, .slice none 0 0] 127)).alloc (.cells #[.bool false, .slice none 0 0] 127) = wb := ⟨_, rfl⟩
  have hbb : Below p w wb := by rw [← hwb, ← hp]; exact balloc _ (balloc _ (Below.refl _ _))
  have hsb : wb.heap.size = p + 2 := by rw [← hwb, ← hp]; simp
  have g0 : wb.heap[p]? = some (.cells #[.bool false, .slice none 0 0] 127 (0, 0)) := by
    rw [← hwb, ← hp]
    exact (((Below.refl (w.alloc (.cells #[.bool false, .slice none 0 0] 127)).heap.size (w.alloc (.cells #[.bool false, .slice none 0 0] 127))).alloc (Nat.le_refl _) _).block w.heap.size (by simp)).trans Array.getElem?_push_size
  have g1 : wb.heap[p + 1]? = some (.cells #[.bool false, .slice none 0 0] 127 (0, 0)) := by
    rw [← hwb, ← hp, show w.heap.size + 1 = (w.alloc (.cells #[.bool false, .slice none 0 0] 127)).heap.size by simp]
    exact Array.getElem?_push_size
  have Hp := Lib.hid hp
  have G0 := Lib.hid g0
  have G1 := Lib.hid g1
  clear hs ha hsz hsl hxe hye hN hD hN0 hD0 h1 h19 ha0 ha9 g0 g1
  go_enter Tryz.func75, Tryz.ntmps75
  go_wp2_with fail
  refine (hS _).mono ?_
  rintro e w1 ⟨rfl, rfl⟩
  go_wp2_with fail
  clear hwb
  refine wp_region_held_drew (S := (fun w' => Below p w w')) (by kernel_rfl) ?_ (fun hHeld => ?_)
  · exact hbb.drew
  obtain ⟨wd, hwd⟩ : ∃ wd, World.drew wb = wd := ⟨_, rfl⟩
  have e0 : wd.heap[p]? = wb.heap[p]? := by rw [← hwd]; rfl
  have e1 : wd.heap[p + 1]? = wb.heap[p + 1]? := by rw [← hwd]; rfl
  have hsd : wd.heap.size = p + 2 := by rw [← hwd]; exact hsb
  rw [hwd] at hHeld ⊢
  clear hwd
  have E0 := Lib.hid (e0.trans G0.out)
  have E1 := Lib.hid (e1.trans G1.out)
  clear e0 e1
  refine wpAnyH_take (i := 0) (oi := _) (v := ?_) rfl (by kernel_rfl) (by kernel_rfl) (by kernel_rfl) (fun _ _ _ h => h) (Or.inl ⟨by kernel_rfl, ?_⟩) (by assumption) ?_
  rotate_left
  · rintro w hw
    go_simp
    try with_reducible rfl
  try simp only [Act.put, List.setIfInBounds_toArray, List.set_cons_zero, List.set_cons_succ, List.getElem_toArray, List.getElem_cons_zero, List.getElem_cons_succ]
  refine wpAnyH_take (i := 1) (oi := _) (v := ?_) rfl (by kernel_rfl) (by kernel_rfl) (by kernel_rfl) (fun _ _ _ h => h) (Or.inl ⟨by kernel_rfl, ?_⟩) (by assumption) ?_
  rotate_left
  · rintro w hw
    go_simp
    try with_reducible rfl
  try simp only [Act.put, List.setIfInBounds_toArray, List.set_cons_zero, List.set_cons_succ, List.getElem_toArray, List.getElem_cons_zero, List.getElem_cons_succ]
  refine wpAnyH_take (i := 2) (oi := _) (v := ?_) rfl (by kernel_rfl) (by kernel_rfl) (by kernel_rfl) (fun _ _ _ h => h) (Or.inl ⟨by kernel_rfl, ?_⟩) (by assumption) ?_
  rotate_left
  · rintro w hw
    go_simp
    try with_reducible rfl
  try simp only [Act.put, List.setIfInBounds_toArray, List.set_cons_zero, List.set_cons_succ, List.getElem_toArray, List.getElem_cons_zero, List.getElem_cons_succ]
  refine wpAnyH_take (i := 4) (oi := _) (v := ?_) rfl (by kernel_rfl) (by kernel_rfl) (by kernel_rfl) (fun _ _ _ h => h) (Or.inl ⟨by kernel_rfl, ?_⟩) (by assumption) ?_
  rotate_left
  · rintro w hw
    go_simp
    try with_reducible rfl
  try simp only [Act.put, List.setIfInBounds_toArray, List.set_cons_zero, List.set_cons_succ, List.getElem_toArray, List.getElem_cons_zero, List.getElem_cons_succ]
  refine wpAnyH_take (i := 5) (oi := _) (v := ?_) rfl (by kernel_rfl) (by kernel_rfl) (by kernel_rfl) (fun _ _ _ h => h) (Or.inl ⟨by kernel_rfl, ?_⟩) (by assumption) ?_
  rotate_left
  · rintro w hw
    go_simp
    try with_reducible rfl
  try simp only [Act.put, List.setIfInBounds_toArray, List.set_cons_zero, List.set_cons_succ, List.getElem_toArray, List.getElem_cons_zero, List.getElem_cons_succ]
  refine wpAnyH_take (i := 6) (oi := _) (v := ?_) rfl (by kernel_rfl) (by kernel_rfl) (by kernel_rfl) (fun _ _ _ h => h) (Or.inl ⟨by kernel_rfl, ?_⟩) (by assumption) ?_
  rotate_left
  · rintro w hw
    go_simp
    try with_reducible rfl
  try simp only [Act.put, List.setIfInBounds_toArray, List.set_cons_zero, List.set_cons_succ, List.getElem_toArray, List.getElem_cons_zero, List.getElem_cons_succ]
  refine wpAnyH_take (i := 7) (oi := _) (v := ?_) rfl (by kernel_rfl) (by kernel_rfl) (by kernel_rfl) (fun _ _ _ h => h) (Or.inl ⟨by kernel_rfl, ?_⟩) (by assumption) ?_
  rotate_left
  · rintro w hw
    go_simp
    try with_reducible rfl
  try simp only [Act.put, List.setIfInBounds_toArray, List.set_cons_zero, List.set_cons_succ, List.getElem_toArray, List.getElem_cons_zero, List.getElem_cons_succ]
  refine wpAnyH_ready (rs := [3]) (by kernel_rfl) (by simp) ?_
  refine AllReadyH.cons (o := _) rfl (fun K hKK => ?_) AllReadyH.nil
  go_simp
  go_at_call 113
  refine (hPN _).mono ?_
  rintro e w2 ⟨u, rfl, ⟨Nv, rfl, hN⟩, hbw2⟩
  have hNb := hHeld.trans (hbw2.mono (by have := hHeld.size; omega))
  replace E0 := Lib.hid ((hbw2.block p (by omega)).trans E0.out)
  replace E1 := Lib.hid ((hbw2.block (p + 1) (by omega)).trans E1.out)
  have hsw2 := hbw2.size
  clear hHeld
  go_wp2_with fail
  refine hKK.out _ _ ?_ (fun hHeld => ?_)
  · exact hNb
  clear hKK K
  try simp only [Act.put, List.setIfInBounds_toArray, List.set_cons_zero, List.set_cons_succ, List.getElem_toArray, List.getElem_cons_zero, List.getElem_cons_succ]
  clear hNb
  refine wpAnyH_ready (rs := [8]) (by kernel_rfl) (by simp) ?_
  refine AllReadyH.cons (o := _) rfl (fun K hKK => ?_) AllReadyH.nil
  go_simp
  go_at_call 113
  refine (hPD _).mono ?_
  rintro e w3 ⟨u, rfl, ⟨Dv, rfl, hD⟩, hbw3⟩
  have hNb := hHeld.trans (hbw3.mono (by have := hHeld.size; omega))
  replace E0 := Lib.hid ((hbw3.block p (by omega)).trans E0.out)
  replace E1 := Lib.hid ((hbw3.block (p + 1) (by omega)).trans E1.out)
  have hsw3 := hbw3.size
  clear hHeld
  go_wp2_with fail
  refine hKK.out _ _ ?_ (fun hHeld => ?_)
  · exact hNb
  clear hKK K
  try simp only [Act.put, List.setIfInBounds_toArray, List.set_cons_zero, List.set_cons_succ, List.getElem_toArray, List.getElem_cons_zero, List.getElem_cons_succ]
  clear hNb
  replace hN := hN.below hbw3
  obtain ⟨AN, nN, cN, rfl⟩ := hN.slice
  obtain ⟨AD, nD, cD, rfl⟩ := hD.slice
  clear hbw2 hbw3
  have c0 := Go.Joins.cell_of_block E0.out 0
  have c1 := Go.Joins.cell_of_block E0.out 1
  have f0 := Go.Joins.unfrozen_of_block E0.out 0
  have f1 := Go.Joins.unfrozen_of_block E0.out 1
  have l1 := Go.Joins.block_setCell (i := 0) E0.out (.bool false)
  have l2 := Go.Joins.block_setCell (i := 1) l1 (.slice AN nN cN)
  have c1' := Go.Joins.cell_of_block l1 1
  have f1' := Go.Joins.unfrozen_of_block l1 1
  have m1 := D1.box2s (s' := false) (y := .slice AN nN cN) hN E0.out
  have m2 := D1.box2s (s' := false) (y := .slice AN nN cN) hD E0.out
  have L2 := Lib.hid l2
  have M1 := Lib.hid m1
  have M2 := Lib.hid m2
  clear m1 m2 l1 l2
  refine wpAnyH_ready (rs := [9]) (by kernel_rfl) (by simp) ?_
  refine AllReadyH.cons (o := _) rfl (fun K hKK => ?_) AllReadyH.nil
  go_simp
  obtain ⟨w4, hw4⟩ : ∃ w4, ((w3.setCell ⟨p, 0, none⟩ (.bool false)).setCell ⟨p, 1, none⟩ (.slice AN nN cN)) = w4 := ⟨_, rfl⟩
  rw [hw4] at L2 M1 M2 ⊢
  have hNb : Below p w w4 := by rw [← hw4]; exact (hHeld.setCell (p := ⟨p, 0, none⟩) (by show p ≤ p; omega) _).setCell (p := ⟨p, 1, none⟩) (by show p ≤ p; omega) _
  have hO : w4.heap[p + 1]? = w3.heap[p + 1]? := by rw [← hw4, Below.heap_setCell _ _ _ _ (by show p + 1 ≠ p; omega), Below.heap_setCell _ _ _ _ (by show p + 1 ≠ p; omega)]
  have HO := Lib.hid hO
  clear c0 c1 f0 f1 c1' f1' hHeld hw4 hO hN hD
  refine hKK.out _ _ ?_ (fun hHeld => ?_)
  · exact hNb
  clear hKK K
  try simp only [Act.put, List.setIfInBounds_toArray, List.set_cons_zero, List.set_cons_succ, List.getElem_toArray, List.getElem_cons_zero, List.getElem_cons_succ]
  clear hNb
  have E0' := Lib.hid L2.out
  have E1' := Lib.hid (HO.out.trans E1.out)
  clear E0 E1 L2 HO
  have hN := M1.out
  have hD := M2.out
  clear M1 M2
  have E0 := E0'
  have E1 := E1'
  clear E0' E1'
  have c0 := Go.Joins.cell_of_block E1.out 0
  have c1 := Go.Joins.cell_of_block E1.out 1
  have f0 := Go.Joins.unfrozen_of_block E1.out 0
  have f1 := Go.Joins.unfrozen_of_block E1.out 1
  have l1 := Go.Joins.block_setCell (i := 0) E1.out (.bool false)
  have l2 := Go.Joins.block_setCell (i := 1) l1 (.slice AD nD cD)
  have c1' := Go.Joins.cell_of_block l1 1
  have f1' := Go.Joins.unfrozen_of_block l1 1
  have m1 := D1.box2s (s' := false) (y := .slice AD nD cD) hN E1.out
  have m2 := D1.box2s (s' := false) (y := .slice AD nD cD) hD E1.out
  have L2 := Lib.hid l2
  have M1 := Lib.hid m1
  have M2 := Lib.hid m2
  clear m1 m2 l1 l2
  refine wpAnyH_ready (rs := [10]) (by kernel_rfl) (by simp) ?_
  refine AllReadyH.cons (o := _) rfl (fun K hKK => ?_) AllReadyH.nil
  go_simp
  obtain ⟨w5, hw5⟩ : ∃ w5, ((w4.setCell ⟨p + 1, 0, none⟩ (.bool false)).setCell ⟨p + 1, 1, none⟩ (.slice AD nD cD)) = w5 := ⟨_, rfl⟩
  rw [hw5] at L2 M1 M2 ⊢
  have hNb : Below p w w5 := by rw [← hw5]; exact (hHeld.setCell (p := ⟨p + 1, 0, none⟩) (by show p ≤ p + 1; omega) _).setCell (p := ⟨p + 1, 1, none⟩) (by show p ≤ p + 1; omega) _
  have hO : w5.heap[p]? = w4.heap[p]? := by rw [← hw5, Below.heap_setCell _ _ _ _ (by show p ≠ p + 1; omega), Below.heap_setCell _ _ _ _ (by show p ≠ p + 1; omega)]
  have HO := Lib.hid hO
  clear c0 c1 f0 f1 c1' f1' hHeld hw5 hO hN hD
  refine hKK.out _ _ ?_ (fun hHeld => ?_)
  · exact hNb
  clear hKK K
  try simp only [Act.put, List.setIfInBounds_toArray, List.set_cons_zero, List.set_cons_succ, List.getElem_toArray, List.getElem_cons_zero, List.getElem_cons_succ]
  clear hNb
  have E1' := Lib.hid L2.out
  have E0' := Lib.hid (HO.out.trans E0.out)
  clear E0 E1 L2 HO
  have HN5 := M1
  have HD5 := M2
  have E0 := E0'
  have E1 := E1'
  clear E0' E1' M1 M2
  refine wpAnyH_done (by kernel_rfl) ?_ _
  have k0 := Go.Joins.cell_of_block E0.out 0
  have k1 := Go.Joins.cell_of_block E0.out 1
  have k2 := Go.Joins.cell_of_block E1.out 0
  have k3 := Go.Joins.cell_of_block E1.out 1
  have hbw : Below w.heap.size w w5 := by rw [Hp.out]; exact hHeld
  go_wp2
  exact bodyPost_ret (v := .tuple #[.agg #[.bool false, .slice AN nN cN], .agg #[.bool false, .slice AD nD cD]]) (by simp [results, Tryz.results75, go_sem, Hp.out, k0, k1, k2, k3]) rfl ⟨_, _, rfl, ⟨_, rfl, HN5.out⟩, ⟨_, rfl, HD5.out⟩, hbw⟩
end Go.Mk
end
