/-
  Proved: the comparison by which Standing ranks two cards, as a plain
-/
import Derived.Test.YthgkaojplomapaaGreatDoorFge
set_option maxHeartbeats 32000000
set_option linter.unusedVariables false
set_option linter.unusedSimpArgs false
open Go Go.Proofs Go.RowKit
set_option maxRecDepth 100000
namespace Go.Mk
def offP (L : List CardR) (i j : Nat) : Int := match L[i]?, L[j]? with
 | some x, some y => cmpOff (bls x.O) (bls y.O) x.rt y.rt
 | _, _ => 0
def fstB (L : List CardR) (t : Tal) (i : Nat) : Bool := decide (0 < (talA L i).a) && decide ((talA L i).l = t.l)
def stB (L : List CardR) (t : Tal) (i j : Nat) : Bool := decide (0 < cmpL (talA L i).l (talA L j).l) || (decide (cmpL (talA L i).l (talA L j).l = 0) && (fstB L t i && decide (0 < offP L i j)))
theorem fdStandB_any (L : List CardR) (n c bl bt : Nat) (A : Option Addr) (hn : n ≤ 1000) (t : Tal) (i j : Nat) (hi : i < n) (hj : j < n) (w : World) (hZ : Cards w A n L) (hs : ∀ r ∈ L, r.nh ≤ 1000 ∧ r.no ≤ 1000 ∧ ∀ x ∈ r.H, x.size ≤ 5000) (hc : w.cell? ⟨bl, 0, none⟩ = some (.slice A n c)) (hbl : bl < w.heap.size)
  (hbt : bt < w.heap.size) (ht0 : w.cell? ⟨bt, 0, none⟩ = some (.int .i64 t.a)) (ht1 : w.cell? ⟨bt, 1, none⟩ = some (.int .i64 t.b)) (ht2 : w.cell? ⟨bt, 2, none⟩ = some (.int .i64 t.c)) :
  Calls Tryz.prog 41 #[.int .i64 i, .int .i64 j, .pointer (some ⟨bl, 0, none⟩), .pointer (some ⟨bt, 0, none⟩)] w (RetPost (.bool (stB L t i j)) w) := by
 obtain ⟨b', off, x, rfl, hbb, hx, ⟨hx0, hx1, hx2, hx3⟩, hCX⟩ := hZ.at_ hi
 obtain ⟨bq, oq, y, e0, _, hy, ⟨hy0, hy1, hy2, hy3⟩, hCY⟩ := hZ.at_ hj
 obtain ⟨rfl, rfl⟩ : b' = bq ∧ off = oq := by simpa using e0
 obtain ⟨sx1, sx2, sx3⟩ := hs x (List.mem_of_getElem? hx)
 obtain ⟨sy1, sy2, sy3⟩ := hs y (List.mem_of_getElem? hy)
 have HT1 : Hid (∀ w', Below w.heap.size w w' → Calls Tryz.prog 42 #[x.val] w' (RetPost (talR x).val w')) := Lib.hid fun w' hb => fdTally_any x w' (hCX.below hb) sx1 sx3
 have HT2 : Hid (∀ w', Below w.heap.size w w' → Calls Tryz.prog 42 #[y.val] w' (RetPost (talR y).val w')) := Lib.hid fun w' hb => fdTally_any y w' (hCY.below hb) sy1 sy3
 have HCM : Hid (∀ w', Below w.heap.size w w' → Calls Tryz.prog 43 #[(talR x).val, (talR y).val] w' (RetPost (.int .i64 (cmpL (talR x).l (talR y).l)) w')) := Lib.hid fun w' _ => fdTallyCmp_any _ _ w'
 have HIF : Hid (∀ w', Below w.heap.size w w' → Calls Tryz.prog 44 #[x.val, t.val] w' (RetPost (.bool (decide (0 < (talR x).a) && decide ((talR x).l = t.l))) w')) := Lib.hid fun w' hb => fdIsFirst_any x t w' (hCX.below hb) sx1 sx3
 have HCO : Hid (∀ w', Below w.heap.size w w' → Calls Tryz.prog 45 #[x.val, y.val] w' (RetPost (.int .i64 (cmpOff (bls x.O) (bls y.O) x.rt y.rt)) w')) := Lib.hid fun w' hb => fdCompOff_any x y w' (hCX.below hb) (hCY.below hb) sx2 sy2
 unfold stB fstB
 rw [talA_at hx, talA_at hy, show offP L i j = cmpOff (bls x.O) (bls y.O) x.rt y.rt by unfold offP; rw [hx, hy]]
 generalize cmpOff (bls x.O) (bls y.O) x.rt y.rt = o at *
 generalize (decide (0 < (talR x).a) && decide ((talR x).l = t.l)) = f at *
 generalize cmpL (talR x).l (talR y).l = q at *
 generalize talR x = T1 at *
 generalize talR y = T2 at *
 have hni : (n : Int) ≤ 1000 := by omega
 have hii : (i : Int) < (n : Int) := by omega
 have hi0 : (0 : Int) ≤ (i : Int) := by omega
 have hit : ((i : Int)).toNat = i := by omega
 have hji : (j : Int) < (n : Int) := by omega
 have hj0 : (0 : Int) ≤ (j : Int) := by omega
 have hjt : ((j : Int)).toNat = j := by omega
 obtain ⟨s1, A1, n1, c1, H1, B1, m1, d1, O1, r1⟩ := x
 obtain ⟨s2, A2, n2, c2, H2, B2, m2, d2, O2, r2⟩ := y
 obtain ⟨ta, tb, tc⟩ := t
 obtain ⟨u1, u2, u3⟩ := T1
 obtain ⟨v1, v2, v3⟩ := T2
 unfold CardR.val Tal.val at *
 dsimp only at *
 have HX : Hid (∀ w', Below w.heap.size w w' → (w'.cell? ⟨bl, 0, none⟩ = some (.slice (some ⟨b', off, none⟩) n c) ∧ (w'.cell? ⟨b', off + i * 4, none⟩ = some (.string s1) ∧ w'.cell? ⟨b', off + i * 4 + 1, none⟩ = some (.slice A1 n1 c1) ∧ w'.cell? ⟨b', off + i * 4 + 2, none⟩ = some (.slice B1 m1 d1) ∧ w'.cell? ⟨b', off + i * 4 + 3, none⟩ = some (.bool r1)) ∧ (w'.cell? ⟨b', off + j * 4, none⟩ = some (.string s2) ∧ w'.cell? ⟨b', off + j * 4 + 1, none⟩ = some (.slice A2 n2 c2) ∧ w'.cell? ⟨b', off + j * 4 + 2, none⟩ = some (.slice B2 m2 d2) ∧ w'.cell? ⟨b', off + j * 4 + 3, none⟩ = some (.bool r2)) ∧ (w'.cell? ⟨bt, 0, none⟩ = some (.int .i64 ta) ∧ w'.cell? ⟨bt, 1, none⟩ = some (.int .i64 tb) ∧ w'.cell? ⟨bt, 2, none⟩ = some (.int .i64 tc))) ∧ Below w.heap.size w w') := Lib.hid fun w' hb =>
  ⟨⟨(hb.cell (p := ⟨bl, 0, none⟩) hbl).trans hc, ⟨(hb.cell (p := ⟨b', _, none⟩) hbb).trans hx0, (hb.cell (p := ⟨b', _, none⟩) hbb).trans hx1, (hb.cell (p := ⟨b', _, none⟩) hbb).trans hx2, (hb.cell (p := ⟨b', _, none⟩) hbb).trans hx3⟩, ⟨(hb.cell (p := ⟨b', _, none⟩) hbb).trans hy0, (hb.cell (p := ⟨b', _, none⟩) hbb).trans hy1, (hb.cell (p := ⟨b', _, none⟩) hbb).trans hy2, (hb.cell (p := ⟨b', _, none⟩) hbb).trans hy3⟩, ⟨(hb.cell (p := ⟨bt, 0, none⟩) hbt).trans ht0, (hb.cell (p := ⟨bt, 1, none⟩) hbt).trans ht1, (hb.cell (p := ⟨bt, 2, none⟩) hbt).trans ht2⟩⟩, hb⟩
 clear hZ hs hx hy hCX hCY sx1 sx2 sx3 sy1 sy2 sy3 hc hbl hbt ht0 ht1 ht2 hbb hx0 hx1 hx2 hx3 hy0 hy1 hy2 hy3 e0
 have hcase : (0 < q ∧ (decide (0 < q) || (decide (q = 0) && (f && decide (0 < o)))) = true) ∨ (q < 0 ∧ (decide (0 < q) || (decide (q = 0) && (f && decide (0 < o)))) = false) ∨ (q = 0 ∧ f = false ∧ (decide (0 < q) || (decide (q = 0) && (f && decide (0 < o)))) = false) ∨ (q = 0 ∧ f = true ∧ (decide (0 < q) || (decide (q = 0) && (f && decide (0 < o)))) = decide (0 < o)) := by
  rcases Int.lt_trichotomy q 0 with h | h | h
  ·exact .inr (.inl ⟨h, by simp [show ¬ 0 < q by omega, show ¬ q = 0 by omega]⟩)
  ·cases f with
   | false => exact .inr (.inr (.inl ⟨h, rfl, by simp [show ¬ 0 < q by omega]⟩))
   | true => exact .inr (.inr (.inr ⟨h, rfl, by simp [h]⟩))
  ·exact .inl ⟨h, by simp [h]⟩
 obtain ⟨res, hres⟩ : ∃ res, (decide (0 < q) || (decide (q = 0) && (f && decide (0 < o)))) = res := ⟨_, rfl⟩
 rw [hres] at hcase ⊢
 clear hres
 obtain ⟨ob, hob⟩ : ∃ ob, decide (0 < o) = ob := ⟨_, rfl⟩
 rw [hob] at hcase
 have HOB := Lib.hid hob
 clear hob
 go_enter Tryz.func41, Tryz.ntmps41
 go_wp2
 refine wp_region_held_drew (S := fun w' => (w'.cell? ⟨bl, 0, none⟩ = some (.slice (some ⟨b', off, none⟩) n c) ∧ (w'.cell? ⟨b', off + i * 4, none⟩ = some (.string s1) ∧ w'.cell? ⟨b', off + i * 4 + 1, none⟩ = some (.slice A1 n1 c1) ∧ w'.cell? ⟨b', off + i * 4 + 2, none⟩ = some (.slice B1 m1 d1) ∧ w'.cell? ⟨b', off + i * 4 + 3, none⟩ = some (.bool r1)) ∧ (w'.cell? ⟨b', off + j * 4, none⟩ = some (.string s2) ∧ w'.cell? ⟨b', off + j * 4 + 1, none⟩ = some (.slice A2 n2 c2) ∧ w'.cell? ⟨b', off + j * 4 + 2, none⟩ = some (.slice B2 m2 d2) ∧ w'.cell? ⟨b', off + j * 4 + 3, none⟩ = some (.bool r2)) ∧ (w'.cell? ⟨bt, 0, none⟩ = some (.int .i64 ta) ∧ w'.cell? ⟨bt, 1, none⟩ = some (.int .i64 tb) ∧ w'.cell? ⟨bt, 2, none⟩ = some (.int .i64 tc))) ∧ Below w.heap.size w w') (by kernel_rfl) ?_ (fun hHeld => ?_)
 ·exact HX.out _ (Below.drew (Below.refl _ _))
 generalize w.drew = wd at hHeld ⊢
 refine zU 0 ?_ rfl ?_ ?_
 rotate_left
 ·rintro w ⟨⟨sl, ⟨a0, a1, a2, a3⟩, ⟨b0, b1, b2, b3⟩, ⟨t0, t1, t2⟩⟩, sb⟩
  go_simp
  try with_reducible rfl
 try simp only [Act.put, zA1, zA2, zA3, zA4, zA5, zA6]
 refine zU 1 ?_ rfl ?_ ?_
 rotate_left
 ·rintro w ⟨⟨sl, ⟨a0, a1, a2, a3⟩, ⟨b0, b1, b2, b3⟩, ⟨t0, t1, t2⟩⟩, sb⟩
  go_simp
  try with_reducible rfl
 try simp only [Act.put, zA1, zA2, zA3, zA4, zA5, zA6]
 refine zU 2 ?_ rfl ?_ ?_
 rotate_left
 ·rintro w ⟨⟨sl, ⟨a0, a1, a2, a3⟩, ⟨b0, b1, b2, b3⟩, ⟨t0, t1, t2⟩⟩, sb⟩
  go_simp
  try with_reducible rfl
 try simp only [Act.put, zA1, zA2, zA3, zA4, zA5, zA6]
 refine zU 3 ?_ rfl ?_ ?_
 rotate_left
 ·rintro w ⟨⟨sl, ⟨a0, a1, a2, a3⟩, ⟨b0, b1, b2, b3⟩, ⟨t0, t1, t2⟩⟩, sb⟩
  go_simp
  try with_reducible rfl
 try simp only [Act.put, zA1, zA2, zA3, zA4, zA5, zA6]
 refine zU 5 ?_ rfl ?_ ?_
 rotate_left
 ·rintro w ⟨⟨sl, ⟨a0, a1, a2, a3⟩, ⟨b0, b1, b2, b3⟩, ⟨t0, t1, t2⟩⟩, sb⟩
  go_simp
  try with_reducible rfl
 try simp only [Act.put, zA1, zA2, zA3, zA4, zA5, zA6]
 refine zU 6 ?_ rfl ?_ ?_
 rotate_left
 ·rintro w ⟨⟨sl, ⟨a0, a1, a2, a3⟩, ⟨b0, b1, b2, b3⟩, ⟨t0, t1, t2⟩⟩, sb⟩
  go_simp
  try with_reducible rfl
 try simp only [Act.put, zA1, zA2, zA3, zA4, zA5, zA6]
 refine zU 7 ?_ rfl ?_ ?_
 rotate_left
 ·rintro w ⟨⟨sl, ⟨a0, a1, a2, a3⟩, ⟨b0, b1, b2, b3⟩, ⟨t0, t1, t2⟩⟩, sb⟩
  go_simp
  try with_reducible rfl
 try simp only [Act.put, zA1, zA2, zA3, zA4, zA5, zA6]
 refine zU 8 ?_ rfl ?_ ?_
 rotate_left
 ·rintro w ⟨⟨sl, ⟨a0, a1, a2, a3⟩, ⟨b0, b1, b2, b3⟩, ⟨t0, t1, t2⟩⟩, sb⟩
  go_simp
  try with_reducible rfl
 try simp only [Act.put, zA1, zA2, zA3, zA4, zA5, zA6]
 refine wpAnyH_ready (rs := [4]) (by kernel_rfl) (by simp) ?_
 refine AllReadyH.cons (o := _) rfl (fun K hKK => ?_) AllReadyH.nil
 go_simp
 go_at_call 42
 refine (HT1.out _ hHeld.2).mono ?_
 rintro e w5 ⟨rfl, hb5⟩
 have hX := bstep hHeld.2 hb5
 clear hHeld hb5
 go_wp2_with fail
 refine hKK.out _ _ ?_ (fun hHeld => ?_)
 ·exact HX.out _ hX
 clear hKK K
 try simp only [Act.put, zA1, zA2, zA3, zA4, zA5, zA6]
 clear hX
 refine wpAnyH_ready (rs := [9]) (by kernel_rfl) (by simp) ?_
 refine AllReadyH.cons (o := _) rfl (fun K hKK => ?_) AllReadyH.nil
 go_simp
 go_at_call 42
 refine (HT2.out _ hHeld.2).mono ?_
 rintro e w5 ⟨rfl, hb5⟩
 have hX := bstep hHeld.2 hb5
 clear hHeld hb5
 go_wp2_with fail
 refine hKK.out _ _ ?_ (fun hHeld => ?_)
 ·exact HX.out _ hX
 clear hKK K
 try simp only [Act.put, zA1, zA2, zA3, zA4, zA5, zA6]
 clear hX
 refine wpAnyH_ready (rs := [10]) (by kernel_rfl) (by simp) ?_
 refine AllReadyH.cons (o := _) rfl (fun K hKK => ?_) AllReadyH.nil
 go_simp
 go_at_call 43
 refine (HCM.out _ hHeld.2).mono ?_
 rintro e w5 ⟨rfl, hb5⟩
 have hX := bstep hHeld.2 hb5
 clear hHeld hb5
 go_wp2_with fail
 refine hKK.out _ _ ?_ (fun hHeld => ?_)
 ·exact HX.out _ hX
 clear hKK K
 try simp only [Act.put, zA1, zA2, zA3, zA4, zA5, zA6]
 clear hX
 refine zU 11 ?_ rfl ?_ ?_
 rotate_left
 ·rintro w ⟨⟨sl, ⟨a0, a1, a2, a3⟩, ⟨b0, b1, b2, b3⟩, ⟨t0, t1, t2⟩⟩, sb⟩
  go_simp
  try with_reducible rfl
 try simp only [Act.put, zA1, zA2, zA3, zA4, zA5, zA6]
 refine wpAnyH_done (by kernel_rfl) ?_ _
 go_wp2
 rcases hcase with ⟨h, rfl⟩ | ⟨h, rfl⟩ | ⟨rfl, rfl, rfl⟩ | ⟨rfl, rfl, rfl⟩
 ·have h1 : decide (0 < q) = true := decide_eq_true h
  refine wp_region_held_drew (S := fun w' => (w'.cell? ⟨bl, 0, none⟩ = some (.slice (some ⟨b', off, none⟩) n c) ∧ (w'.cell? ⟨b', off + i * 4, none⟩ = some (.string s1) ∧ w'.cell? ⟨b', off + i * 4 + 1, none⟩ = some (.slice A1 n1 c1) ∧ w'.cell? ⟨b', off + i * 4 + 2, none⟩ = some (.slice B1 m1 d1) ∧ w'.cell? ⟨b', off + i * 4 + 3, none⟩ = some (.bool r1)) ∧ (w'.cell? ⟨b', off + j * 4, none⟩ = some (.string s2) ∧ w'.cell? ⟨b', off + j * 4 + 1, none⟩ = some (.slice A2 n2 c2) ∧ w'.cell? ⟨b', off + j * 4 + 2, none⟩ = some (.slice B2 m2 d2) ∧ w'.cell? ⟨b', off + j * 4 + 3, none⟩ = some (.bool r2)) ∧ (w'.cell? ⟨bt, 0, none⟩ = some (.int .i64 ta) ∧ w'.cell? ⟨bt, 1, none⟩ = some (.int .i64 tb) ∧ w'.cell? ⟨bt, 2, none⟩ = some (.int .i64 tc))) ∧ Below w.heap.size w w') (by kernel_rfl) ?_ (fun hHeld => ?_)
  ·exact HX.out _ (Below.drew hHeld.2)
  generalize World.drew _ = we at hHeld ⊢
  refine zU 0 ?_ rfl ?_ ?_
  rotate_left
  ·rintro w ⟨⟨sl, ⟨a0, a1, a2, a3⟩, ⟨b0, b1, b2, b3⟩, ⟨t0, t1, t2⟩⟩, sb⟩
   go_simp
   try with_reducible rfl
  try simp only [Act.put, zA1, zA2, zA3, zA4, zA5, zA6]
  refine zU 1 ?_ rfl ?_ ?_
  rotate_left
  ·rintro w ⟨⟨sl, ⟨a0, a1, a2, a3⟩, ⟨b0, b1, b2, b3⟩, ⟨t0, t1, t2⟩⟩, sb⟩
   go_simp
   try with_reducible rfl
  try simp only [Act.put, zA1, zA2, zA3, zA4, zA5, zA6]
  refine zU 2 ?_ rfl ?_ ?_
  rotate_left
  ·rintro w ⟨⟨sl, ⟨a0, a1, a2, a3⟩, ⟨b0, b1, b2, b3⟩, ⟨t0, t1, t2⟩⟩, sb⟩
   go_simp
   try with_reducible rfl
  try simp only [Act.put, zA1, zA2, zA3, zA4, zA5, zA6]
  refine zD 3 rfl ?_
  try simp only [Act.put, zA1, zA2, zA3, zA4, zA5, zA6]
  refine zD 4 rfl ?_
  try simp only [Act.put, zA1, zA2, zA3, zA4, zA5, zA6]
  refine zD 5 rfl ?_
  try simp only [Act.put, zA1, zA2, zA3, zA4, zA5, zA6]
  refine zD 6 rfl ?_
  try simp only [Act.put, zA1, zA2, zA3, zA4, zA5, zA6]
  refine zD 7 rfl ?_
  try simp only [Act.put, zA1, zA2, zA3, zA4, zA5, zA6]
  refine zD 8 rfl ?_
  try simp only [Act.put, zA1, zA2, zA3, zA4, zA5, zA6]
  refine zD 9 rfl ?_
  try simp only [Act.put, zA1, zA2, zA3, zA4, zA5, zA6]
  refine zD 10 rfl ?_
  try simp only [Act.put, zA1, zA2, zA3, zA4, zA5, zA6]
  refine zD 11 rfl ?_
  try simp only [Act.put, zA1, zA2, zA3, zA4, zA5, zA6]
  refine zD 12 rfl ?_
  try simp only [Act.put, zA1, zA2, zA3, zA4, zA5, zA6]
  refine zD 13 rfl ?_
  try simp only [Act.put, zA1, zA2, zA3, zA4, zA5, zA6]
  refine zD 14 rfl ?_
  try simp only [Act.put, zA1, zA2, zA3, zA4, zA5, zA6]
  refine zD 15 rfl ?_
  try simp only [Act.put, zA1, zA2, zA3, zA4, zA5, zA6]
  refine zD 16 rfl ?_
  try simp only [Act.put, zA1, zA2, zA3, zA4, zA5, zA6]
  refine zD 17 rfl ?_
  try simp only [Act.put, zA1, zA2, zA3, zA4, zA5, zA6]
  refine zD 18 rfl ?_
  try simp only [Act.put, zA1, zA2, zA3, zA4, zA5, zA6]
  refine zD 19 rfl ?_
  try simp only [Act.put, zA1, zA2, zA3, zA4, zA5, zA6]
  refine zD 20 rfl ?_
  try simp only [Act.put, zA1, zA2, zA3, zA4, zA5, zA6]
  refine zD 21 rfl ?_
  try simp only [Act.put, zA1, zA2, zA3, zA4, zA5, zA6]
  refine zD 22 rfl ?_
  try simp only [Act.put, zA1, zA2, zA3, zA4, zA5, zA6]
  refine zD 23 rfl ?_
  try simp only [Act.put, zA1, zA2, zA3, zA4, zA5, zA6]
  refine zD 24 rfl ?_
  try simp only [Act.put, zA1, zA2, zA3, zA4, zA5, zA6]
  refine zU 25 ?_ rfl ?_ ?_
  rotate_left
  ·rintro w ⟨⟨sl, ⟨a0, a1, a2, a3⟩, ⟨b0, b1, b2, b3⟩, ⟨t0, t1, t2⟩⟩, sb⟩
   go_simp
   try with_reducible rfl
  try simp only [Act.put, zA1, zA2, zA3, zA4, zA5, zA6]
  refine zU 26 ?_ rfl ?_ ?_
  rotate_left
  ·rintro w ⟨⟨sl, ⟨a0, a1, a2, a3⟩, ⟨b0, b1, b2, b3⟩, ⟨t0, t1, t2⟩⟩, sb⟩
   go_simp
   try with_reducible rfl
  try simp only [Act.put, zA1, zA2, zA3, zA4, zA5, zA6]
  refine wpAnyH_done (by kernel_rfl) ?_ _
  go_wp2
  go_ret
  exact ⟨rfl, hHeld.2⟩
 ·have h1 : ¬ 0 < q := by omega
  have h2 : (q == 0) = false := by simp; omega
  refine wp_region_held_drew (S := fun w' => (w'.cell? ⟨bl, 0, none⟩ = some (.slice (some ⟨b', off, none⟩) n c) ∧ (w'.cell? ⟨b', off + i * 4, none⟩ = some (.string s1) ∧ w'.cell? ⟨b', off + i * 4 + 1, none⟩ = some (.slice A1 n1 c1) ∧ w'.cell? ⟨b', off + i * 4 + 2, none⟩ = some (.slice B1 m1 d1) ∧ w'.cell? ⟨b', off + i * 4 + 3, none⟩ = some (.bool r1)) ∧ (w'.cell? ⟨b', off + j * 4, none⟩ = some (.string s2) ∧ w'.cell? ⟨b', off + j * 4 + 1, none⟩ = some (.slice A2 n2 c2) ∧ w'.cell? ⟨b', off + j * 4 + 2, none⟩ = some (.slice B2 m2 d2) ∧ w'.cell? ⟨b', off + j * 4 + 3, none⟩ = some (.bool r2)) ∧ (w'.cell? ⟨bt, 0, none⟩ = some (.int .i64 ta) ∧ w'.cell? ⟨bt, 1, none⟩ = some (.int .i64 tb) ∧ w'.cell? ⟨bt, 2, none⟩ = some (.int .i64 tc))) ∧ Below w.heap.size w w') (by kernel_rfl) ?_ (fun hHeld => ?_)
  ·exact HX.out _ (Below.drew hHeld.2)
  generalize World.drew _ = we at hHeld ⊢
  refine zU 0 ?_ rfl ?_ ?_
  rotate_left
  ·rintro w ⟨⟨sl, ⟨a0, a1, a2, a3⟩, ⟨b0, b1, b2, b3⟩, ⟨t0, t1, t2⟩⟩, sb⟩
   go_simp
   try with_reducible rfl
  try simp only [Act.put, zA1, zA2, zA3, zA4, zA5, zA6]
  refine zU 1 ?_ rfl ?_ ?_
  rotate_left
  ·rintro w ⟨⟨sl, ⟨a0, a1, a2, a3⟩, ⟨b0, b1, b2, b3⟩, ⟨t0, t1, t2⟩⟩, sb⟩
   go_simp
   try with_reducible rfl
  try simp only [Act.put, zA1, zA2, zA3, zA4, zA5, zA6]
  refine zU 2 ?_ rfl ?_ ?_
  rotate_left
  ·rintro w ⟨⟨sl, ⟨a0, a1, a2, a3⟩, ⟨b0, b1, b2, b3⟩, ⟨t0, t1, t2⟩⟩, sb⟩
   go_simp
   try with_reducible rfl
  try simp only [Act.put, zA1, zA2, zA3, zA4, zA5, zA6]
  refine zU 3 ?_ rfl ?_ ?_
  rotate_left
  ·rintro w ⟨⟨sl, ⟨a0, a1, a2, a3⟩, ⟨b0, b1, b2, b3⟩, ⟨t0, t1, t2⟩⟩, sb⟩
   go_simp
   try with_reducible rfl
  try simp only [Act.put, zA1, zA2, zA3, zA4, zA5, zA6]
  refine zU 4 ?_ rfl ?_ ?_
  rotate_left
  ·rintro w ⟨⟨sl, ⟨a0, a1, a2, a3⟩, ⟨b0, b1, b2, b3⟩, ⟨t0, t1, t2⟩⟩, sb⟩
   go_simp
   try with_reducible rfl
  try simp only [Act.put, zA1, zA2, zA3, zA4, zA5, zA6]
  refine zU 5 ?_ rfl ?_ ?_
  rotate_left
  ·rintro w ⟨⟨sl, ⟨a0, a1, a2, a3⟩, ⟨b0, b1, b2, b3⟩, ⟨t0, t1, t2⟩⟩, sb⟩
   go_simp
   try with_reducible rfl
  try simp only [Act.put, zA1, zA2, zA3, zA4, zA5, zA6]
  refine zD 6 rfl ?_
  try simp only [Act.put, zA1, zA2, zA3, zA4, zA5, zA6]
  refine zD 7 rfl ?_
  try simp only [Act.put, zA1, zA2, zA3, zA4, zA5, zA6]
  refine zD 8 rfl ?_
  try simp only [Act.put, zA1, zA2, zA3, zA4, zA5, zA6]
  refine zD 9 rfl ?_
  try simp only [Act.put, zA1, zA2, zA3, zA4, zA5, zA6]
  refine zD 10 rfl ?_
  try simp only [Act.put, zA1, zA2, zA3, zA4, zA5, zA6]
  refine zD 11 rfl ?_
  try simp only [Act.put, zA1, zA2, zA3, zA4, zA5, zA6]
  refine zU 12 ?_ rfl ?_ ?_
  rotate_left
  ·rintro w ⟨⟨sl, ⟨a0, a1, a2, a3⟩, ⟨b0, b1, b2, b3⟩, ⟨t0, t1, t2⟩⟩, sb⟩
   go_simp
   try with_reducible rfl
  try simp only [Act.put, zA1, zA2, zA3, zA4, zA5, zA6]
  refine zU 13 ?_ rfl ?_ ?_
  rotate_left
  ·rintro w ⟨⟨sl, ⟨a0, a1, a2, a3⟩, ⟨b0, b1, b2, b3⟩, ⟨t0, t1, t2⟩⟩, sb⟩
   go_simp
   try with_reducible rfl
  try simp only [Act.put, zA1, zA2, zA3, zA4, zA5, zA6]
  refine zD 14 rfl ?_
  try simp only [Act.put, zA1, zA2, zA3, zA4, zA5, zA6]
  refine zD 15 rfl ?_
  try simp only [Act.put, zA1, zA2, zA3, zA4, zA5, zA6]
  refine zD 16 rfl ?_
  try simp only [Act.put, zA1, zA2, zA3, zA4, zA5, zA6]
  refine zD 17 rfl ?_
  try simp only [Act.put, zA1, zA2, zA3, zA4, zA5, zA6]
  refine zD 18 rfl ?_
  try simp only [Act.put, zA1, zA2, zA3, zA4, zA5, zA6]
  refine zD 19 rfl ?_
  try simp only [Act.put, zA1, zA2, zA3, zA4, zA5, zA6]
  refine zD 20 rfl ?_
  try simp only [Act.put, zA1, zA2, zA3, zA4, zA5, zA6]
  refine zD 21 rfl ?_
  try simp only [Act.put, zA1, zA2, zA3, zA4, zA5, zA6]
  refine zD 22 rfl ?_
  try simp only [Act.put, zA1, zA2, zA3, zA4, zA5, zA6]
  refine zD 23 rfl ?_
  try simp only [Act.put, zA1, zA2, zA3, zA4, zA5, zA6]
  refine zU 24 ?_ rfl ?_ ?_
  rotate_left
  ·rintro w ⟨⟨sl, ⟨a0, a1, a2, a3⟩, ⟨b0, b1, b2, b3⟩, ⟨t0, t1, t2⟩⟩, sb⟩
   go_simp
   try with_reducible rfl
  try simp only [Act.put, zA1, zA2, zA3, zA4, zA5, zA6]
  refine zU 25 ?_ rfl ?_ ?_
  rotate_left
  ·rintro w ⟨⟨sl, ⟨a0, a1, a2, a3⟩, ⟨b0, b1, b2, b3⟩, ⟨t0, t1, t2⟩⟩, sb⟩
   go_simp
   try with_reducible rfl
  try simp only [Act.put, zA1, zA2, zA3, zA4, zA5, zA6]
  refine zU 26 ?_ rfl ?_ ?_
  rotate_left
  ·rintro w ⟨⟨sl, ⟨a0, a1, a2, a3⟩, ⟨b0, b1, b2, b3⟩, ⟨t0, t1, t2⟩⟩, sb⟩
   go_simp
   try with_reducible rfl
  try simp only [Act.put, zA1, zA2, zA3, zA4, zA5, zA6]
  refine wpAnyH_done (by kernel_rfl) ?_ _
  go_wp2
  go_ret
  exact ⟨rfl, hHeld.2⟩
 ·skip
  refine wp_region_held_drew (S := fun w' => (w'.cell? ⟨bl, 0, none⟩ = some (.slice (some ⟨b', off, none⟩) n c) ∧ (w'.cell? ⟨b', off + i * 4, none⟩ = some (.string s1) ∧ w'.cell? ⟨b', off + i * 4 + 1, none⟩ = some (.slice A1 n1 c1) ∧ w'.cell? ⟨b', off + i * 4 + 2, none⟩ = some (.slice B1 m1 d1) ∧ w'.cell? ⟨b', off + i * 4 + 3, none⟩ = some (.bool r1)) ∧ (w'.cell? ⟨b', off + j * 4, none⟩ = some (.string s2) ∧ w'.cell? ⟨b', off + j * 4 + 1, none⟩ = some (.slice A2 n2 c2) ∧ w'.cell? ⟨b', off + j * 4 + 2, none⟩ = some (.slice B2 m2 d2) ∧ w'.cell? ⟨b', off + j * 4 + 3, none⟩ = some (.bool r2)) ∧ (w'.cell? ⟨bt, 0, none⟩ = some (.int .i64 ta) ∧ w'.cell? ⟨bt, 1, none⟩ = some (.int .i64 tb) ∧ w'.cell? ⟨bt, 2, none⟩ = some (.int .i64 tc))) ∧ Below w.heap.size w w') (by kernel_rfl) ?_ (fun hHeld => ?_)
  ·exact HX.out _ (Below.drew hHeld.2)
  generalize World.drew _ = we at hHeld ⊢
  refine zU 0 ?_ rfl ?_ ?_
  rotate_left
  ·rintro w ⟨⟨sl, ⟨a0, a1, a2, a3⟩, ⟨b0, b1, b2, b3⟩, ⟨t0, t1, t2⟩⟩, sb⟩
   go_simp
   try with_reducible rfl
  try simp only [Act.put, zA1, zA2, zA3, zA4, zA5, zA6]
  refine zU 1 ?_ rfl ?_ ?_
  rotate_left
  ·rintro w ⟨⟨sl, ⟨a0, a1, a2, a3⟩, ⟨b0, b1, b2, b3⟩, ⟨t0, t1, t2⟩⟩, sb⟩
   go_simp
   try with_reducible rfl
  try simp only [Act.put, zA1, zA2, zA3, zA4, zA5, zA6]
  refine zU 2 ?_ rfl ?_ ?_
  rotate_left
  ·rintro w ⟨⟨sl, ⟨a0, a1, a2, a3⟩, ⟨b0, b1, b2, b3⟩, ⟨t0, t1, t2⟩⟩, sb⟩
   go_simp
   try with_reducible rfl
  try simp only [Act.put, zA1, zA2, zA3, zA4, zA5, zA6]
  refine zU 3 ?_ rfl ?_ ?_
  rotate_left
  ·rintro w ⟨⟨sl, ⟨a0, a1, a2, a3⟩, ⟨b0, b1, b2, b3⟩, ⟨t0, t1, t2⟩⟩, sb⟩
   go_simp
   try with_reducible rfl
  try simp only [Act.put, zA1, zA2, zA3, zA4, zA5, zA6]
  refine zU 4 ?_ rfl ?_ ?_
  rotate_left
  ·rintro w ⟨⟨sl, ⟨a0, a1, a2, a3⟩, ⟨b0, b1, b2, b3⟩, ⟨t0, t1, t2⟩⟩, sb⟩
   go_simp
   try with_reducible rfl
  try simp only [Act.put, zA1, zA2, zA3, zA4, zA5, zA6]
  refine zU 5 ?_ rfl ?_ ?_
  rotate_left
  ·rintro w ⟨⟨sl, ⟨a0, a1, a2, a3⟩, ⟨b0, b1, b2, b3⟩, ⟨t0, t1, t2⟩⟩, sb⟩
   go_simp
   try with_reducible rfl
  try simp only [Act.put, zA1, zA2, zA3, zA4, zA5, zA6]
  refine zU 6 ?_ rfl ?_ ?_
  rotate_left
  ·rintro w ⟨⟨sl, ⟨a0, a1, a2, a3⟩, ⟨b0, b1, b2, b3⟩, ⟨t0, t1, t2⟩⟩, sb⟩
   go_simp
   try with_reducible rfl
  try simp only [Act.put, zA1, zA2, zA3, zA4, zA5, zA6]
  refine zU 7 ?_ rfl ?_ ?_
  rotate_left
  ·rintro w ⟨⟨sl, ⟨a0, a1, a2, a3⟩, ⟨b0, b1, b2, b3⟩, ⟨t0, t1, t2⟩⟩, sb⟩
   go_simp
   try with_reducible rfl
  try simp only [Act.put, zA1, zA2, zA3, zA4, zA5, zA6]
  refine zU 8 ?_ rfl ?_ ?_
  rotate_left
  ·rintro w ⟨⟨sl, ⟨a0, a1, a2, a3⟩, ⟨b0, b1, b2, b3⟩, ⟨t0, t1, t2⟩⟩, sb⟩
   go_simp
   try with_reducible rfl
  try simp only [Act.put, zA1, zA2, zA3, zA4, zA5, zA6]
  refine zU 9 ?_ rfl ?_ ?_
  rotate_left
  ·rintro w ⟨⟨sl, ⟨a0, a1, a2, a3⟩, ⟨b0, b1, b2, b3⟩, ⟨t0, t1, t2⟩⟩, sb⟩
   go_simp
   try with_reducible rfl
  try simp only [Act.put, zA1, zA2, zA3, zA4, zA5, zA6]
  refine zU 10 ?_ rfl ?_ ?_
  rotate_left
  ·rintro w ⟨⟨sl, ⟨a0, a1, a2, a3⟩, ⟨b0, b1, b2, b3⟩, ⟨t0, t1, t2⟩⟩, sb⟩
   go_simp
   try with_reducible rfl
  try simp only [Act.put, zA1, zA2, zA3, zA4, zA5, zA6]
  refine wpAnyH_ready (rs := [11]) (by kernel_rfl) (by simp) ?_
  refine AllReadyH.cons (o := _) rfl (fun K hKK => ?_) AllReadyH.nil
  go_simp
  go_at_call 44
  refine (HIF.out _ hHeld.2).mono ?_
  rintro e w5 ⟨rfl, hb5⟩
  have hX := bstep hHeld.2 hb5
  clear hHeld hb5
  go_wp2_with fail
  refine hKK.out _ _ ?_ (fun hHeld => ?_)
  ·exact HX.out _ hX
  clear hKK K
  try simp only [Act.put, zA1, zA2, zA3, zA4, zA5, zA6]
  clear hX
  refine zU 12 ?_ rfl ?_ ?_
  rotate_left
  ·rintro w ⟨⟨sl, ⟨a0, a1, a2, a3⟩, ⟨b0, b1, b2, b3⟩, ⟨t0, t1, t2⟩⟩, sb⟩
   go_simp
   try with_reducible rfl
  try simp only [Act.put, zA1, zA2, zA3, zA4, zA5, zA6]
  refine zU 13 ?_ rfl ?_ ?_
  rotate_left
  ·rintro w ⟨⟨sl, ⟨a0, a1, a2, a3⟩, ⟨b0, b1, b2, b3⟩, ⟨t0, t1, t2⟩⟩, sb⟩
   go_simp
   try with_reducible rfl
  try simp only [Act.put, zA1, zA2, zA3, zA4, zA5, zA6]
  refine zD 14 rfl ?_
  try simp only [Act.put, zA1, zA2, zA3, zA4, zA5, zA6]
  refine zD 15 rfl ?_
  try simp only [Act.put, zA1, zA2, zA3, zA4, zA5, zA6]
  refine zD 16 rfl ?_
  try simp only [Act.put, zA1, zA2, zA3, zA4, zA5, zA6]
  refine zD 17 rfl ?_
  try simp only [Act.put, zA1, zA2, zA3, zA4, zA5, zA6]
  refine zD 18 rfl ?_
  try simp only [Act.put, zA1, zA2, zA3, zA4, zA5, zA6]
  refine zD 19 rfl ?_
  try simp only [Act.put, zA1, zA2, zA3, zA4, zA5, zA6]
  refine zD 20 rfl ?_
  try simp only [Act.put, zA1, zA2, zA3, zA4, zA5, zA6]
  refine zD 21 rfl ?_
  try simp only [Act.put, zA1, zA2, zA3, zA4, zA5, zA6]
  refine zD 22 rfl ?_
  try simp only [Act.put, zA1, zA2, zA3, zA4, zA5, zA6]
  refine zD 23 rfl ?_
  try simp only [Act.put, zA1, zA2, zA3, zA4, zA5, zA6]
  refine zU 24 ?_ rfl ?_ ?_
  rotate_left
  ·rintro w ⟨⟨sl, ⟨a0, a1, a2, a3⟩, ⟨b0, b1, b2, b3⟩, ⟨t0, t1, t2⟩⟩, sb⟩
   go_simp
   try with_reducible rfl
  try simp only [Act.put, zA1, zA2, zA3, zA4, zA5, zA6]
  refine zU 25 ?_ rfl ?_ ?_
  rotate_left
  ·rintro w ⟨⟨sl, ⟨a0, a1, a2, a3⟩, ⟨b0, b1, b2, b3⟩, ⟨t0, t1, t2⟩⟩, sb⟩
   go_simp
   try with_reducible rfl
  try simp only [Act.put, zA1, zA2, zA3, zA4, zA5, zA6]
  refine zU 26 ?_ rfl ?_ ?_
  rotate_left
  ·rintro w ⟨⟨sl, ⟨a0, a1, a2, a3⟩, ⟨b0, b1, b2, b3⟩, ⟨t0, t1, t2⟩⟩, sb⟩
   go_simp
   try with_reducible rfl
  try simp only [Act.put, zA1, zA2, zA3, zA4, zA5, zA6]
  refine wpAnyH_done (by kernel_rfl) ?_ _
  go_wp2
  go_ret
  exact ⟨rfl, hHeld.2⟩
 ·skip
  refine wp_region_held_drew (S := fun w' => (w'.cell? ⟨bl, 0, none⟩ = some (.slice (some ⟨b', off, none⟩) n c) ∧ (w'.cell? ⟨b', off + i * 4, none⟩ = some (.string s1) ∧ w'.cell? ⟨b', off + i * 4 + 1, none⟩ = some (.slice A1 n1 c1) ∧ w'.cell? ⟨b', off + i * 4 + 2, none⟩ = some (.slice B1 m1 d1) ∧ w'.cell? ⟨b', off + i * 4 + 3, none⟩ = some (.bool r1)) ∧ (w'.cell? ⟨b', off + j * 4, none⟩ = some (.string s2) ∧ w'.cell? ⟨b', off + j * 4 + 1, none⟩ = some (.slice A2 n2 c2) ∧ w'.cell? ⟨b', off + j * 4 + 2, none⟩ = some (.slice B2 m2 d2) ∧ w'.cell? ⟨b', off + j * 4 + 3, none⟩ = some (.bool r2)) ∧ (w'.cell? ⟨bt, 0, none⟩ = some (.int .i64 ta) ∧ w'.cell? ⟨bt, 1, none⟩ = some (.int .i64 tb) ∧ w'.cell? ⟨bt, 2, none⟩ = some (.int .i64 tc))) ∧ Below w.heap.size w w') (by kernel_rfl) ?_ (fun hHeld => ?_)
  ·exact HX.out _ (Below.drew hHeld.2)
  generalize World.drew _ = we at hHeld ⊢
  refine zU 0 ?_ rfl ?_ ?_
  rotate_left
  ·rintro w ⟨⟨sl, ⟨a0, a1, a2, a3⟩, ⟨b0, b1, b2, b3⟩, ⟨t0, t1, t2⟩⟩, sb⟩
   go_simp
   try with_reducible rfl
  try simp only [Act.put, zA1, zA2, zA3, zA4, zA5, zA6]
  refine zU 1 ?_ rfl ?_ ?_
  rotate_left
  ·rintro w ⟨⟨sl, ⟨a0, a1, a2, a3⟩, ⟨b0, b1, b2, b3⟩, ⟨t0, t1, t2⟩⟩, sb⟩
   go_simp
   try with_reducible rfl
  try simp only [Act.put, zA1, zA2, zA3, zA4, zA5, zA6]
  refine zU 2 ?_ rfl ?_ ?_
  rotate_left
  ·rintro w ⟨⟨sl, ⟨a0, a1, a2, a3⟩, ⟨b0, b1, b2, b3⟩, ⟨t0, t1, t2⟩⟩, sb⟩
   go_simp
   try with_reducible rfl
  try simp only [Act.put, zA1, zA2, zA3, zA4, zA5, zA6]
  refine zU 3 ?_ rfl ?_ ?_
  rotate_left
  ·rintro w ⟨⟨sl, ⟨a0, a1, a2, a3⟩, ⟨b0, b1, b2, b3⟩, ⟨t0, t1, t2⟩⟩, sb⟩
   go_simp
   try with_reducible rfl
  try simp only [Act.put, zA1, zA2, zA3, zA4, zA5, zA6]
  refine zU 4 ?_ rfl ?_ ?_
  rotate_left
  ·rintro w ⟨⟨sl, ⟨a0, a1, a2, a3⟩, ⟨b0, b1, b2, b3⟩, ⟨t0, t1, t2⟩⟩, sb⟩
   go_simp
   try with_reducible rfl
  try simp only [Act.put, zA1, zA2, zA3, zA4, zA5, zA6]
  refine zU 5 ?_ rfl ?_ ?_
  rotate_left
  ·rintro w ⟨⟨sl, ⟨a0, a1, a2, a3⟩, ⟨b0, b1, b2, b3⟩, ⟨t0, t1, t2⟩⟩, sb⟩
   go_simp
   try with_reducible rfl
  try simp only [Act.put, zA1, zA2, zA3, zA4, zA5, zA6]
  refine zU 6 ?_ rfl ?_ ?_
  rotate_left
  ·rintro w ⟨⟨sl, ⟨a0, a1, a2, a3⟩, ⟨b0, b1, b2, b3⟩, ⟨t0, t1, t2⟩⟩, sb⟩
   go_simp
   try with_reducible rfl
  try simp only [Act.put, zA1, zA2, zA3, zA4, zA5, zA6]
  refine zU 7 ?_ rfl ?_ ?_
  rotate_left
  ·rintro w ⟨⟨sl, ⟨a0, a1, a2, a3⟩, ⟨b0, b1, b2, b3⟩, ⟨t0, t1, t2⟩⟩, sb⟩
   go_simp
   try with_reducible rfl
  try simp only [Act.put, zA1, zA2, zA3, zA4, zA5, zA6]
  refine zU 8 ?_ rfl ?_ ?_
  rotate_left
  ·rintro w ⟨⟨sl, ⟨a0, a1, a2, a3⟩, ⟨b0, b1, b2, b3⟩, ⟨t0, t1, t2⟩⟩, sb⟩
   go_simp
   try with_reducible rfl
  try simp only [Act.put, zA1, zA2, zA3, zA4, zA5, zA6]
  refine zU 9 ?_ rfl ?_ ?_
  rotate_left
  ·rintro w ⟨⟨sl, ⟨a0, a1, a2, a3⟩, ⟨b0, b1, b2, b3⟩, ⟨t0, t1, t2⟩⟩, sb⟩
   go_simp
   try with_reducible rfl
  try simp only [Act.put, zA1, zA2, zA3, zA4, zA5, zA6]
  refine zU 10 ?_ rfl ?_ ?_
  rotate_left
  ·rintro w ⟨⟨sl, ⟨a0, a1, a2, a3⟩, ⟨b0, b1, b2, b3⟩, ⟨t0, t1, t2⟩⟩, sb⟩
   go_simp
   try with_reducible rfl
  try simp only [Act.put, zA1, zA2, zA3, zA4, zA5, zA6]
  refine wpAnyH_ready (rs := [11]) (by kernel_rfl) (by simp) ?_
  refine AllReadyH.cons (o := _) rfl (fun K hKK => ?_) AllReadyH.nil
  go_simp
  go_at_call 44
  refine (HIF.out _ hHeld.2).mono ?_
  rintro e w5 ⟨rfl, hb5⟩
  have hX := bstep hHeld.2 hb5
  clear hHeld hb5
  go_wp2_with fail
  refine hKK.out _ _ ?_ (fun hHeld => ?_)
  ·exact HX.out _ hX
  clear hKK K
  try simp only [Act.put, zA1, zA2, zA3, zA4, zA5, zA6]
  clear hX
  refine zU 12 ?_ rfl ?_ ?_
  rotate_left
  ·rintro w ⟨⟨sl, ⟨a0, a1, a2, a3⟩, ⟨b0, b1, b2, b3⟩, ⟨t0, t1, t2⟩⟩, sb⟩
   go_simp
   try with_reducible rfl
  try simp only [Act.put, zA1, zA2, zA3, zA4, zA5, zA6]
  refine zU 13 ?_ rfl ?_ ?_
  rotate_left
  ·rintro w ⟨⟨sl, ⟨a0, a1, a2, a3⟩, ⟨b0, b1, b2, b3⟩, ⟨t0, t1, t2⟩⟩, sb⟩
   go_simp
   try with_reducible rfl
  try simp only [Act.put, zA1, zA2, zA3, zA4, zA5, zA6]
  refine zU 14 ?_ rfl ?_ ?_
  rotate_left
  ·rintro w ⟨⟨sl, ⟨a0, a1, a2, a3⟩, ⟨b0, b1, b2, b3⟩, ⟨t0, t1, t2⟩⟩, sb⟩
   go_simp
   try with_reducible rfl
  try simp only [Act.put, zA1, zA2, zA3, zA4, zA5, zA6]
  refine zU 15 ?_ rfl ?_ ?_
  rotate_left
  ·rintro w ⟨⟨sl, ⟨a0, a1, a2, a3⟩, ⟨b0, b1, b2, b3⟩, ⟨t0, t1, t2⟩⟩, sb⟩
   go_simp
   try with_reducible rfl
  try simp only [Act.put, zA1, zA2, zA3, zA4, zA5, zA6]
  refine zU 16 ?_ rfl ?_ ?_
  rotate_left
  ·rintro w ⟨⟨sl, ⟨a0, a1, a2, a3⟩, ⟨b0, b1, b2, b3⟩, ⟨t0, t1, t2⟩⟩, sb⟩
   go_simp
   try with_reducible rfl
  try simp only [Act.put, zA1, zA2, zA3, zA4, zA5, zA6]
  refine zU 17 ?_ rfl ?_ ?_
  rotate_left
  ·rintro w ⟨⟨sl, ⟨a0, a1, a2, a3⟩, ⟨b0, b1, b2, b3⟩, ⟨t0, t1, t2⟩⟩, sb⟩
   go_simp
   try with_reducible rfl
  try simp only [Act.put, zA1, zA2, zA3, zA4, zA5, zA6]
  refine zU 18 ?_ rfl ?_ ?_
  rotate_left
  ·rintro w ⟨⟨sl, ⟨a0, a1, a2, a3⟩, ⟨b0, b1, b2, b3⟩, ⟨t0, t1, t2⟩⟩, sb⟩
   go_simp
   try with_reducible rfl
  try simp only [Act.put, zA1, zA2, zA3, zA4, zA5, zA6]
  refine zU 19 ?_ rfl ?_ ?_
  rotate_left
  ·rintro w ⟨⟨sl, ⟨a0, a1, a2, a3⟩, ⟨b0, b1, b2, b3⟩, ⟨t0, t1, t2⟩⟩, sb⟩
   go_simp
   try with_reducible rfl
  try simp only [Act.put, zA1, zA2, zA3, zA4, zA5, zA6]
  refine zU 20 ?_ rfl ?_ ?_
  rotate_left
  ·rintro w ⟨⟨sl, ⟨a0, a1, a2, a3⟩, ⟨b0, b1, b2, b3⟩, ⟨t0, t1, t2⟩⟩, sb⟩
   go_simp
   try with_reducible rfl
  try simp only [Act.put, zA1, zA2, zA3, zA4, zA5, zA6]
  refine zU 21 ?_ rfl ?_ ?_
  rotate_left
  ·rintro w ⟨⟨sl, ⟨a0, a1, a2, a3⟩, ⟨b0, b1, b2, b3⟩, ⟨t0, t1, t2⟩⟩, sb⟩
   go_simp
   try with_reducible rfl
  try simp only [Act.put, zA1, zA2, zA3, zA4, zA5, zA6]
  refine wpAnyH_ready (rs := [22]) (by kernel_rfl) (by simp) ?_
  refine AllReadyH.cons (o := _) rfl (fun K hKK => ?_) AllReadyH.nil
  go_simp
  go_at_call 45
  refine (HCO.out _ hHeld.2).mono ?_
  rintro e w5 ⟨rfl, hb5⟩
  have hX := bstep hHeld.2 hb5
  clear hHeld hb5
  go_wp2_with fail
  refine hKK.out _ _ ?_ (fun hHeld => ?_)
  ·exact HX.out _ hX
  clear hKK K
  try simp only [Act.put, zA1, zA2, zA3, zA4, zA5, zA6]
  clear hX
  refine zU 23 ?_ rfl ?_ ?_
  rotate_left
  ·rintro w ⟨⟨sl, ⟨a0, a1, a2, a3⟩, ⟨b0, b1, b2, b3⟩, ⟨t0, t1, t2⟩⟩, sb⟩
   go_simp
   try with_reducible rfl
  try simp only [Act.put, zA1, zA2, zA3, zA4, zA5, zA6]
  refine zU 24 ?_ rfl ?_ ?_
  rotate_left
  ·rintro w ⟨⟨sl, ⟨a0, a1, a2, a3⟩, ⟨b0, b1, b2, b3⟩, ⟨t0, t1, t2⟩⟩, sb⟩
   go_simp
   try with_reducible rfl
  try simp only [Act.put, zA1, zA2, zA3, zA4, zA5, zA6]
  refine zU 25 ?_ rfl ?_ ?_
  rotate_left
  ·rintro w ⟨⟨sl, ⟨a0, a1, a2, a3⟩, ⟨b0, b1, b2, b3⟩, ⟨t0, t1, t2⟩⟩, sb⟩
   go_simp
   try with_reducible rfl
  try simp only [Act.put, zA1, zA2, zA3, zA4, zA5, zA6]
  refine zU 26 ?_ rfl ?_ ?_
  rotate_left
  ·rintro w ⟨⟨sl, ⟨a0, a1, a2, a3⟩, ⟨b0, b1, b2, b3⟩, ⟨t0, t1, t2⟩⟩, sb⟩
   go_simp
   try with_reducible rfl
  try simp only [Act.put, zA1, zA2, zA3, zA4, zA5, zA6]
  refine wpAnyH_done (by kernel_rfl) ?_ _
  go_wp2
  go_ret
  exact ⟨by rw [← HOB.out]; rfl, hHeld.2⟩
end Go.Mk
