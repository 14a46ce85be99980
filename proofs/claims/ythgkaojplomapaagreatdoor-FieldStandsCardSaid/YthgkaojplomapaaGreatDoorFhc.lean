/-
  Proved: the reference's higher compares two cards with a clearance as their tallies
-/
import Derived.Test.YthgkaojplomapaaGreatDoorFha
set_option maxHeartbeats 32000000
set_option linter.unusedVariables false
set_option linter.unusedSimpArgs false
open Go Go.Proofs Go.RowKit
set_option maxRecDepth 100000
namespace Go.Mk
theorem cmpZ_add (a b c : Int) : cmpZ (a + c) (b + c) = cmpZ a b := by unfold cmpZ; simp only [Int.add_lt_add_iff_right]
theorem cmpZ_neg2 (a b : Int) : cmpZ (-a) (-b) = cmpZ b a := by unfold cmpZ; simp only [Int.neg_lt_neg_iff]
theorem tal_clear {r : CardR} (hl : r.H.length = r.nh) (h : 0 < (talR r).a) : ∃ (k f s : Nat) (x : ByteArray), (talR r).a = (k : Int) + 1 ∧ k < r.nh ∧ r.H[k]? = some x ∧ nxL (bl x) = f ∧ (talR r).b = -(f : Int) ∧ (talR r).c = -(s : Int) := by
 rcases tal_facts (bls r.H) with ⟨h1, _⟩ | ⟨k, y, h1, h2, h3, h4⟩
 ·unfold talR at h; omega
 ·have hk := (List.getElem?_eq_some_iff.1 h2).1
  rw [bls_length] at hk
  have e := bls_get (List.getElem?_eq_getElem hk)
  rw [h2] at e
  have e' : y = bl r.H[k] := Option.some.inj e
  rw [e'] at h3
  exact ⟨k, _, _, r.H[k], h1, by omega, List.getElem?_eq_getElem hk, rfl, h3, h4⟩
theorem r6higher_any (x y : CardR) (w : World) (hx : CardZ w x) (hy : CardZ w y) (hn1 : x.nh ≤ 1000 ∧ ∀ t ∈ x.H, t.size ≤ 5000) (hn2 : y.nh ≤ 1000 ∧ ∀ t ∈ y.H, t.size ≤ 5000) (hvx : CardV x) (hvy : CardV y) (hax : 0 < (talR x).a) (hay : 0 < (talR y).a) :
  Calls Tryz.prog 65 #[x.val, y.val] w (RetPost (.int .i64 (cmpL (talR x).l (talR y).l)) w) := by
 have hml : maxLen = 9223372036854775807 := rfl
 obtain ⟨k1, f1, s1', X, ea1, hk1, hX, ef1, eb1, ec1⟩ := tal_clear hx.1.1 hax
 obtain ⟨k2, f2, s2', Y, ea2, hk2, hY, ef2, eb2, ec2⟩ := tal_clear hy.1.1 hay
 have hres : cmpL (talR x).l (talR y).l = if k1 = k2 then (if f1 = f2 then cmpZ (s2' : Int) s1' else cmpZ (f2 : Int) f1) else cmpZ (k1 : Int) k2 := by
  rw [cmpT, ea1, ea2, eb1, eb2, ec1, ec2, cmpZ_neg2, cmpZ_neg2, cmpZ_add]
  by_cases h1 : k1 = k2
  ·rw [if_pos h1, if_pos (by omega)]
   by_cases h2 : f1 = f2
   ·rw [if_pos h2, if_pos (by omega)]
   ·rw [if_neg h2, if_neg (by omega)]
  ·rw [if_neg h1, if_neg (by omega)]
 rw [hres]
 obtain ⟨g, hg⟩ : ∃ g, w.heap.size = g := ⟨_, rfl⟩
 obtain ⟨w1, hw1⟩ : ∃ w1, (w.alloc (.cells #[.string x.s, .slice x.AH x.nh x.ch, .slice x.AO x.no x.co, .bool x.rt] 66)).alloc (.cells #[.string y.s, .slice y.AH y.nh y.ch, .slice y.AO y.no y.co, .bool y.rt] 66) = w1 := ⟨_, rfl⟩
 have hb1 : Below w.heap.size w w1 := by rw [← hw1]; exact balloc _ (balloc _ (Below.refl _ _))
 have hgl : g + 1 < w1.heap.size := by rw [← hw1, ← hg]; simp
 obtain ⟨b1, o1, X', eA1, hbl1, hX', hcX⟩ := hx.1.at_ hk1
 obtain ⟨b2, o2, Y', eA2, hbl2, hY', hcY⟩ := hy.1.at_ hk2
 obtain rfl : X' = X := by rw [hX] at hX'; exact (Option.some.inj hX').symm
 obtain rfl : Y' = Y := by rw [hY] at hY'; exact (Option.some.inj hY').symm
 have HB1 : Hid (∀ w', Below w1.heap.size w1 w' → Calls Tryz.prog 64 #[x.val] w' (RetPost (.int .i64 (k1 : Nat)) w')) := Lib.hid fun w' hb => by
  have := r6best_any x w' (hx.below (bstep hb1 hb)) hn1.1 hn1.2 hvx
  rw [ea1, Int.add_sub_cancel] at this; exact this
 have HB2 : Hid (∀ w', Below w1.heap.size w1 w' → Calls Tryz.prog 64 #[y.val] w' (RetPost (.int .i64 (k2 : Nat)) w')) := Lib.hid fun w' hb => by
  have := r6best_any y w' (hy.below (bstep hb1 hb)) hn2.1 hn2.2 hvy
  rw [ea2, Int.add_sub_cancel] at this; exact this
 have HT1 : Hid (∀ w', Below w1.heap.size w1 w' → Calls Tryz.prog 119 #[x.val] w' (RetPost (.int .i64 (s1' : Nat)) w')) := Lib.hid fun w' hb => by
  have := r6total_any x w' (hx.below (bstep hb1 hb)) hn1.1 hn1.2 hvx
  rw [ec1, Int.neg_neg] at this; exact this
 have HT2 : Hid (∀ w', Below w1.heap.size w1 w' → Calls Tryz.prog 119 #[y.val] w' (RetPost (.int .i64 (s2' : Nat)) w')) := Lib.hid fun w' hb => by
  have := r6total_any y w' (hy.below (bstep hb1 hb)) hn2.1 hn2.2 hvy
  rw [ec2, Int.neg_neg] at this; exact this
 have HF1 : Hid (∀ w' : World, Calls Tryz.prog 112 #[.string X'] w' (RetSame (.int .i64 (f1 : Nat)) w')) := Lib.hid fun w' => by
  have h0 := List.mem_of_getElem? hX
  rw [← ef1, ← (shaped_facts (hvx.1 X' h0)).1]
  exact r6failures_any X' w' (by have := hn1.2 X' h0; omega)
 have HF2 : Hid (∀ w' : World, Calls Tryz.prog 112 #[.string Y'] w' (RetSame (.int .i64 (f2 : Nat)) w')) := Lib.hid fun w' => by
  have h0 := List.mem_of_getElem? hY
  rw [← ef2, ← (shaped_facts (hvy.1 Y' h0)).1]
  exact r6failures_any Y' w' (by have := hn2.2 Y' h0; omega)
 have hc1 := (hb1.cell (p := ⟨b1, _, none⟩) hbl1).trans hcX
 have hc2 := (hb1.cell (p := ⟨b2, _, none⟩) hbl2).trans hcY
 have hbl1' : b1 < w1.heap.size := Nat.lt_of_lt_of_le hbl1 hb1.size
 have hbl2' : b2 < w1.heap.size := Nat.lt_of_lt_of_le hbl2 hb1.size
 have hn1' : (x.nh : Int) ≤ 1000 := by omega
 have hn2' : (y.nh : Int) ≤ 1000 := by omega
 have hki1 : (k1 : Int) < (x.nh : Int) := by omega
 have hki2 : (k2 : Int) < (y.nh : Int) := by omega
 have hk10 : (0 : Int) ≤ (k1 : Int) := by omega
 have hk20 : (0 : Int) ≤ (k2 : Int) := by omega
 have hkt1 : ((k1 : Int)).toNat = k1 := by omega
 have hkt2 : ((k2 : Int)).toNat = k2 := by omega
 have HB0 := Lib.hid hb1
 clear hx hy hn1 hn2 hvx hvy hax hay hres ea1 ea2 eb1 eb2 ec1 ec2 ef1 ef2 hX hY hX' hY' hb1 hk1 hk2 hcX hcY hbl1 hbl2
 obtain ⟨s1, A1, n1, c1, H1, B1, m1, d1, O1, r1⟩ := x
 obtain ⟨s2, A2, n2, c2, H2, B2, m2, d2, O2, r2⟩ := y
 unfold CardR.val at *
 dsimp only at *
 subst eA1 eA2
 have HX : Hid (∀ w', Below w1.heap.size w1 w' → (fun w' => (w'.cell? ⟨g, 0, none⟩ = some (.string s1) ∧ w'.cell? ⟨g, 1, none⟩ = some (.slice (some ⟨b1, o1, none⟩) n1 c1) ∧ w'.cell? ⟨g, 2, none⟩ = some (.slice B1 m1 d1) ∧ w'.cell? ⟨g, 3, none⟩ = some (.bool r1)) ∧ (w'.cell? ⟨g + 1, 0, none⟩ = some (.string s2) ∧ w'.cell? ⟨g + 1, 1, none⟩ = some (.slice (some ⟨b2, o2, none⟩) n2 c2) ∧ w'.cell? ⟨g + 1, 2, none⟩ = some (.slice B2 m2 d2) ∧ w'.cell? ⟨g + 1, 3, none⟩ = some (.bool r2)) ∧ (w'.cell? ⟨b1, o1 + k1, none⟩ = some (.string X') ∧ w'.cell? ⟨b2, o2 + k2, none⟩ = some (.string Y')) ∧ Below w1.heap.size w1 w') w') := Lib.hid fun w' hb => by
  refine ⟨⟨?_, ?_, ?_, ?_⟩, ⟨?_, ?_, ?_, ?_⟩, ⟨(hb.cell (p := ⟨b1, _, none⟩) hbl1').trans hc1, (hb.cell (p := ⟨b2, _, none⟩) hbl2').trans hc2⟩, hb⟩
  all_goals
   refine (hb.cell (p := ⟨_, _, none⟩) (by dsimp only; omega)).trans ?_
   rw [← hw1, ← hg]; simp
 dsimp only at HX
 obtain ⟨⟨a0, a1, a2, a3⟩, ⟨e0, e1, e2, e3⟩, _, _⟩ := HX.out w1 (Below.refl _ _)
 clear hc1 hc2 hbl1' hbl2' hgl
 obtain ⟨res, hr⟩ : ∃ res, (if k1 = k2 then (if f1 = f2 then cmpZ (s2' : Int) s1' else cmpZ (f2 : Int) f1) else cmpZ (k1 : Int) k2) = res := ⟨_, rfl⟩
 rw [hr]
 have HR := Lib.hid hr
 clear hr
 go_enter Tryz.func65, Tryz.ntmps65
 go_wp2_with fail
 clear a0 a1 a2 a3 e0 e1 e2 e3 hw1
 refine wp_region_held_drew (S := fun w' => (w'.cell? ⟨g, 0, none⟩ = some (.string s1) ∧ w'.cell? ⟨g, 1, none⟩ = some (.slice (some ⟨b1, o1, none⟩) n1 c1) ∧ w'.cell? ⟨g, 2, none⟩ = some (.slice B1 m1 d1) ∧ w'.cell? ⟨g, 3, none⟩ = some (.bool r1)) ∧ (w'.cell? ⟨g + 1, 0, none⟩ = some (.string s2) ∧ w'.cell? ⟨g + 1, 1, none⟩ = some (.slice (some ⟨b2, o2, none⟩) n2 c2) ∧ w'.cell? ⟨g + 1, 2, none⟩ = some (.slice B2 m2 d2) ∧ w'.cell? ⟨g + 1, 3, none⟩ = some (.bool r2)) ∧ (w'.cell? ⟨b1, o1 + k1, none⟩ = some (.string X') ∧ w'.cell? ⟨b2, o2 + k2, none⟩ = some (.string Y')) ∧ Below w1.heap.size w1 w') (by kernel_rfl) ?_ (fun hHeld => ?_)
 ·exact HX.out _ (Below.drew (Below.refl _ _))
 generalize World.drew _ = we at hHeld ⊢
 refine zV 0 (h := zV 2 (h := ?_))
 try simp only [zP, zQ, zA2, zA3]
 refine zN 1 fun K hKK => ?_
 go_simp
 go_at_call 64
 with_reducible refine (HB1.out _ hHeld.2.2.2).mono ?_
 rintro e w5 ⟨rfl, hb5⟩
 have hX := bstep hHeld.2.2.2 hb5
 clear hHeld hb5
 go_wp2_with fail
 refine hKK.out _ _ ?_ (fun hHeld => ?_)
 ·exact HX.out _ hX
 clear hKK K
 try simp only [zP, zQ, zA2, zA3]
 clear hX
 refine zN 3 fun K hKK => ?_
 go_simp
 go_at_call 64
 with_reducible refine (HB2.out _ hHeld.2.2.2).mono ?_
 rintro e w5 ⟨rfl, hb5⟩
 have hX := bstep hHeld.2.2.2 hb5
 clear hHeld hb5
 go_wp2_with fail
 refine hKK.out _ _ ?_ (fun hHeld => ?_)
 ·exact HX.out _ hX
 clear hKK K
 try simp only [zP, zQ, zA2, zA3]
 clear hX
 refine zV 4 (h := zV 5 (h := ?_))
 try simp only [zP, zQ, zA2, zA3]
 refine wpAnyH_done (by kernel_rfl) ?_ _
 by_cases h1 : k1 = k2
 ·have hne : ((k1 : Int) != (k2 : Int)) = false := by simp; omega
  have hr := HR.out
  rw [if_pos h1] at hr
  clear h1 HR
  have HR := Lib.hid hr
  clear hr
  go_wp2_with fail
  refine wp_region_held_drew (S := fun w' => (w'.cell? ⟨g, 0, none⟩ = some (.string s1) ∧ w'.cell? ⟨g, 1, none⟩ = some (.slice (some ⟨b1, o1, none⟩) n1 c1) ∧ w'.cell? ⟨g, 2, none⟩ = some (.slice B1 m1 d1) ∧ w'.cell? ⟨g, 3, none⟩ = some (.bool r1)) ∧ (w'.cell? ⟨g + 1, 0, none⟩ = some (.string s2) ∧ w'.cell? ⟨g + 1, 1, none⟩ = some (.slice (some ⟨b2, o2, none⟩) n2 c2) ∧ w'.cell? ⟨g + 1, 2, none⟩ = some (.slice B2 m2 d2) ∧ w'.cell? ⟨g + 1, 3, none⟩ = some (.bool r2)) ∧ (w'.cell? ⟨b1, o1 + k1, none⟩ = some (.string X') ∧ w'.cell? ⟨b2, o2 + k2, none⟩ = some (.string Y')) ∧ Below w1.heap.size w1 w') (by kernel_rfl) ?_ (fun hHeld => ?_)
  ·exact HX.out _ (Below.drew hHeld.2.2.2)
  generalize World.drew _ = we at hHeld ⊢
  refine zV 0 (h := zV 1 (h := zV 2 (h := zV 3 (h := zV 4 (h := zV 6 (h := zV 7 (h := zV 8 (h := zV 9 (h := zV 10 (h := ?_))))))))))
  try simp only [zP, zQ, zA2, zA3]
  refine zN 5 fun K hKK => ?_
  go_simp
  go_at_call 112
  with_reducible refine (HF1.out _).mono ?_
  rintro e w5 ⟨rfl, rfl⟩
  go_wp2_with fail
  refine hKK.out _ _ ?_ (fun hHeld => ?_)
  ·exact hHeld
  clear hKK K
  try simp only [zP, zQ, zA2, zA3]
  refine zN 11 fun K hKK => ?_
  go_simp
  go_at_call 112
  with_reducible refine (HF2.out _).mono ?_
  rintro e w5 ⟨rfl, rfl⟩
  go_wp2_with fail
  refine hKK.out _ _ ?_ (fun hHeld => ?_)
  ·exact hHeld
  clear hKK K
  try simp only [zP, zQ, zA2, zA3]
  refine zV 12 (h := ?_)
  try simp only [zP, zQ, zA2, zA3]
  refine wpAnyH_done (by kernel_rfl) ?_ _
  by_cases h2 : f1 = f2
  ·have hnf : ((f1 : Int) != (f2 : Int)) = false := by simp; omega
   have hr := HR.out
   rw [if_pos h2] at hr
   subst hr
   clear h2 HR
   go_wp2_with fail
   refine wp_region_held_drew (S := fun w' => (w'.cell? ⟨g, 0, none⟩ = some (.string s1) ∧ w'.cell? ⟨g, 1, none⟩ = some (.slice (some ⟨b1, o1, none⟩) n1 c1) ∧ w'.cell? ⟨g, 2, none⟩ = some (.slice B1 m1 d1) ∧ w'.cell? ⟨g, 3, none⟩ = some (.bool r1)) ∧ (w'.cell? ⟨g + 1, 0, none⟩ = some (.string s2) ∧ w'.cell? ⟨g + 1, 1, none⟩ = some (.slice (some ⟨b2, o2, none⟩) n2 c2) ∧ w'.cell? ⟨g + 1, 2, none⟩ = some (.slice B2 m2 d2) ∧ w'.cell? ⟨g + 1, 3, none⟩ = some (.bool r2)) ∧ (w'.cell? ⟨b1, o1 + k1, none⟩ = some (.string X') ∧ w'.cell? ⟨b2, o2 + k2, none⟩ = some (.string Y')) ∧ Below w1.heap.size w1 w') (by kernel_rfl) ?_ (fun hHeld => ?_)
   ·exact HX.out _ (Below.drew hHeld.2.2.2)
   generalize World.drew _ = we at hHeld ⊢
   refine zV 0 (h := zV 2 (h := ?_))
   try simp only [zP, zQ, zA2, zA3]
   refine zN 1 fun K hKK => ?_
   go_simp
   go_at_call 119
   with_reducible refine (HT2.out _ hHeld.2.2.2).mono ?_
   rintro e w5 ⟨rfl, hb5⟩
   have hX := bstep hHeld.2.2.2 hb5
   clear hHeld hb5
   go_wp2_with fail
   refine hKK.out _ _ ?_ (fun hHeld => ?_)
   ·exact HX.out _ hX
   clear hKK K
   try simp only [zP, zQ, zA2, zA3]
   clear hX
   refine zN 3 fun K hKK => ?_
   go_simp
   go_at_call 119
   with_reducible refine (HT1.out _ hHeld.2.2.2).mono ?_
   rintro e w5 ⟨rfl, hb5⟩
   have hX := bstep hHeld.2.2.2 hb5
   clear hHeld hb5
   go_wp2_with fail
   refine hKK.out _ _ ?_ (fun hHeld => ?_)
   ·exact HX.out _ hX
   clear hKK K
   try simp only [zP, zQ, zA2, zA3]
   clear hX
   refine zN 4 fun K hKK => ?_
   go_simp
   go_at_call 118
   with_reducible refine (r6compare_any _ _ _).mono ?_
   rintro e w5 ⟨rfl, rfl⟩
   go_wp2_with fail
   refine hKK.out _ _ ?_ (fun hHeld => ?_)
   ·exact hHeld
   clear hKK K
   try simp only [zP, zQ, zA2, zA3]
   refine zV 5 (h := ?_)
   try simp only [zP, zQ, zA2, zA3]
   refine wpAnyH_done (by kernel_rfl) ?_ _
   have HF := Lib.hid (bstep HB0.out hHeld.2.2.2)
   clear hHeld
   go_wp2
   go_ret
   exact ⟨rfl, HF.out⟩
  ·have hnf : ((f1 : Int) != (f2 : Int)) = true := by rw [bne_iff_ne]; omega
   have hr := HR.out
   rw [if_neg h2] at hr
   subst hr
   clear h2 HR
   go_wp2_with fail
   refine wp_region_held_drew (S := fun w' => (w'.cell? ⟨g, 0, none⟩ = some (.string s1) ∧ w'.cell? ⟨g, 1, none⟩ = some (.slice (some ⟨b1, o1, none⟩) n1 c1) ∧ w'.cell? ⟨g, 2, none⟩ = some (.slice B1 m1 d1) ∧ w'.cell? ⟨g, 3, none⟩ = some (.bool r1)) ∧ (w'.cell? ⟨g + 1, 0, none⟩ = some (.string s2) ∧ w'.cell? ⟨g + 1, 1, none⟩ = some (.slice (some ⟨b2, o2, none⟩) n2 c2) ∧ w'.cell? ⟨g + 1, 2, none⟩ = some (.slice B2 m2 d2) ∧ w'.cell? ⟨g + 1, 3, none⟩ = some (.bool r2)) ∧ (w'.cell? ⟨b1, o1 + k1, none⟩ = some (.string X') ∧ w'.cell? ⟨b2, o2 + k2, none⟩ = some (.string Y')) ∧ Below w1.heap.size w1 w') (by kernel_rfl) ?_ (fun hHeld => ?_)
   ·exact HX.out _ (Below.drew hHeld.2.2.2)
   generalize World.drew _ = we at hHeld ⊢
   refine zV 0 (h := zV 1 (h := zV 2 (h := zV 3 (h := zV 4 (h := zV 6 (h := zV 7 (h := zV 8 (h := zV 9 (h := zV 10 (h := ?_))))))))))
   try simp only [zP, zQ, zA2, zA3]
   refine zN 5 fun K hKK => ?_
   go_simp
   go_at_call 112
   with_reducible refine (HF2.out _).mono ?_
   rintro e w5 ⟨rfl, rfl⟩
   go_wp2_with fail
   refine hKK.out _ _ ?_ (fun hHeld => ?_)
   ·exact hHeld
   clear hKK K
   try simp only [zP, zQ, zA2, zA3]
   refine zN 11 fun K hKK => ?_
   go_simp
   go_at_call 112
   with_reducible refine (HF1.out _).mono ?_
   rintro e w5 ⟨rfl, rfl⟩
   go_wp2_with fail
   refine hKK.out _ _ ?_ (fun hHeld => ?_)
   ·exact hHeld
   clear hKK K
   try simp only [zP, zQ, zA2, zA3]
   refine zN 12 fun K hKK => ?_
   go_simp
   go_at_call 118
   with_reducible refine (r6compare_any _ _ _).mono ?_
   rintro e w5 ⟨rfl, rfl⟩
   go_wp2_with fail
   refine hKK.out _ _ ?_ (fun hHeld => ?_)
   ·exact hHeld
   clear hKK K
   try simp only [zP, zQ, zA2, zA3]
   refine zV 13 (h := ?_)
   try simp only [zP, zQ, zA2, zA3]
   refine wpAnyH_done (by kernel_rfl) ?_ _
   have HF := Lib.hid (bstep HB0.out hHeld.2.2.2)
   clear hHeld
   go_wp2
   go_ret
   exact ⟨rfl, HF.out⟩
 ·have hne : ((k1 : Int) != (k2 : Int)) = true := by rw [bne_iff_ne]; omega
  have hr := HR.out
  rw [if_neg h1] at hr
  subst hr
  have HF := Lib.hid (bstep HB0.out hHeld.2.2.2)
  clear hHeld h1 HR
  go_wp2_with fail
  refine (r6compare_any _ _ _).mono ?_
  rintro e w5 ⟨rfl, rfl⟩
  go_wp2
  go_ret
  exact ⟨rfl, HF.out⟩
end Go.Mk
