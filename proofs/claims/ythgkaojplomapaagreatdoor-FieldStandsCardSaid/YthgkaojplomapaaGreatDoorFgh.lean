/-
  Proved: CheckCards of package field as a plain function of the competition and the
  Proved: CheckCards of package field as a plain function of the competition and the
-/
import Derived.Test.YthgkaojplomapaaGreatDoorFge
import Derived.Test.YthgkaojplomapaaGreatDoorFcc
set_option maxHeartbeats 32000000
set_option linter.unusedVariables false
set_option linter.unusedSimpArgs false
open Go Go.Proofs Go.RowKit
set_option maxRecDepth 100000
section
namespace Go.Mk
theorem es3G (w : World) (a b c : Int) (t : TypeId) : Es (w.alloc (.cells #[.int .i64 a, .int .i64 b, .int .i64 c] t)) w.heap.size [a, b, c] := by
 intro i v hv
 match i, hv with
 | 0, hv => simp at hv; subst hv; simp
 | 1, hv => simp at hv; subst hv; simp
 | 2, hv => simp at hv; subst hv; simp
def cdE (N : List ByteArray) (m k : Nat) (r : CardR) : Int := if N[k]? = some r.s then fstN [frmE r.s (bls r.H) (bls r.O), if m < r.nh then 5 else 0] else 10
def cdsE (N : List ByteArray) (m : Nat) : Nat → List CardR → Int
 | _, [] => 0
 | k, r :: l => if cdE N m k r = 0 then cdsE N m (k + 1) l else cdE N m k r
theorem cdsE_drop {N : List ByteArray} {m : Nat} {L : List CardR} {k : Nat} {r : CardR} (h : L[k]? = some r) : cdsE N m k (L.drop k) = if cdE N m k r = 0 then cdsE N m (k + 1) (L.drop (k + 1)) else cdE N m k r := by
 obtain ⟨hk, rfl⟩ := List.getElem?_eq_some_iff.1 h
 rw [List.drop_eq_getElem_cons hk, cdsE]
def crdE (N : List ByteArray) (G : List Int) (st : Int) (L : List CardR) : Int := fstN [verE N G st, if L.length = N.length then 0 else 2, cdsE N G.length 0 L]
def CardS (r : CardR) : Prop := r.s.size ≤ maxLen ∧ r.nh ≤ 1000 ∧ r.no ≤ 1000 ∧ (∀ x ∈ r.H, x.size ≤ 5000) ∧ ∀ x ∈ r.O, x.size ≤ 5000
theorem fdCardError_any (N : List ByteArray) (nN cN : Nat) (AN : Option Addr) (AG : Option Addr) (m cG : Nat) (st : Int) (k : Nat) (r : CardR) (w : World) (hN : TextsZ w AN nN N) (hnN : nN ≤ 1000) (hm : m ≤ 1000) (hk : k ≤ 1000) (hZ : CardZ w r) (hS : CardS r) :
  Calls Tryz.prog 61 #[.agg #[.slice AN nN cN, .slice AG m cG, .int .i64 st], .int .i64 k, r.val] w (RetPost (.int .i64 (cdE N m k r)) w) := by
 obtain ⟨g, hg⟩ : ∃ g, w.heap.size = g := ⟨_, rfl⟩
 obtain ⟨w1, hw1⟩ : ∃ w1, (w.alloc (.cells #[.slice AN nN cN, .slice AG m cG, .int .i64 st] 33)).alloc (.cells #[.string r.s, .slice r.AH r.nh r.ch, .slice r.AO r.no r.co, .bool r.rt] 94) = w1 := ⟨_, rfl⟩
 have hb1 : Below w.heap.size w w1 := by rw [← hw1]; exact balloc _ (balloc _ (Below.refl _ _))
 have v0 : w1.cell? ⟨g, 0, none⟩ = some (.slice AN nN cN) := by rw [← hw1, ← hg]; simp
 have v1 : w1.cell? ⟨g, 1, none⟩ = some (.slice AG m cG) := by rw [← hw1, ← hg]; simp
 have x0 : w1.cell? ⟨g + 1, 0, none⟩ = some (.string r.s) := by rw [← hw1, ← hg]; simp
 have x1 : w1.cell? ⟨g + 1, 1, none⟩ = some (.slice r.AH r.nh r.ch) := by rw [← hw1, ← hg]; simp
 have x2 : w1.cell? ⟨g + 1, 2, none⟩ = some (.slice r.AO r.no r.co) := by rw [← hw1, ← hg]; simp
 have x3 : w1.cell? ⟨g + 1, 3, none⟩ = some (.bool r.rt) := by rw [← hw1, ← hg]; simp
 have hs1 : g + 1 < w1.heap.size := by rw [← hw1, ← hg]; simp
 have hs0 : g < w1.heap.size := by omega
 have HFE : Hid (∀ w', Below w1.heap.size w1 w' → Calls Tryz.prog 85 #[.agg #[.string r.s, .slice r.AH r.nh r.ch, .slice r.AO r.no r.co, .bool r.rt]] w' (RetPost (.int .i64 (frmE r.s (bls r.H) (bls r.O))) w')) := Lib.hid fun w' hb => by
  obtain ⟨y1, y2, y3, y4, y5⟩ := hS
  have hz := hZ.below (bstep hb1 hb)
  exact fdFormError_any r.s r.H r.O r.nh r.ch r.no r.co r.AH r.AO r.rt w' y1 hz.1 (by omega) hz.2.1 y4 hz.2.2.1 (by omega) y5
 have hnh := hS.2.1
 obtain ⟨s, AH, nh, ch, HH, AO, no, co, O, rt⟩ := r
 unfold CardR.val
 dsimp only at *
 have HX : Hid (∀ w', Below w1.heap.size w1 w' → w'.cell? ⟨g, 0, none⟩ = some (.slice AN nN cN) ∧ w'.cell? ⟨g, 1, none⟩ = some (.slice AG m cG) ∧ w'.cell? ⟨g + 1, 0, none⟩ = some (.string s) ∧ w'.cell? ⟨g + 1, 1, none⟩ = some (.slice AH nh ch) ∧ w'.cell? ⟨g + 1, 2, none⟩ = some (.slice AO no co) ∧ w'.cell? ⟨g + 1, 3, none⟩ = some (.bool rt) ∧ Below w1.heap.size w1 w') := Lib.hid fun w' hb =>
  ⟨(hb.cell (p := ⟨g, 0, none⟩) hs0).trans v0, (hb.cell (p := ⟨g, 1, none⟩) hs0).trans v1, (hb.cell (p := ⟨g + 1, 0, none⟩) hs1).trans x0, (hb.cell (p := ⟨g + 1, 1, none⟩) hs1).trans x1, (hb.cell (p := ⟨g + 1, 2, none⟩) hs1).trans x2, (hb.cell (p := ⟨g + 1, 3, none⟩) hs1).trans x3, hb⟩
 have HNT := Lib.hid (hN.below hb1)
 have HNl := Lib.hid hN.1
 have HB1 := Lib.hid hb1
 have hnNi : (nN : Int) ≤ 1000 := by omega
 have hmi : (m : Int) ≤ 1000 := by omega
 have hki : (k : Int) ≤ 1000 := by omega
 have hk0 : (0 : Int) ≤ (k : Int) := by omega
 have hkt : ((k : Int)).toNat = k := by omega
 have hni : (nh : Int) ≤ 1000 := by omega
 unfold cdE
 dsimp only
 clear hN hnN hZ hS hb1 v0 v1 x0 x1 x2 x3 hs1 hs0
 by_cases hlt : k < nN
 ·obtain ⟨bN, oN, z, rfl, hbN, hz, hcz⟩ := HNT.out.at_ hlt
  have HN1 : Hid (∀ w', Below w1.heap.size w1 w' → w'.cell? ⟨bN, oN + k, none⟩ = some (.string z)) := Lib.hid fun w' hb => (hb.cell (p := ⟨bN, _, none⟩) hbN).trans hcz
  have hge : ¬ (nN : Int) ≤ (k : Int) := by omega
  have hgd : decide ((nN : Int) ≤ (k : Int)) = false := decide_eq_false hge
  have hgn : ¬ nN ≤ k := by omega
  have hlti : (k : Int) < (nN : Int) := by omega
  clear hbN hcz
  by_cases he : z = s
  ·have he' := he.symm
   subst he'
   rw [if_pos hz]
   have hbt : (s.toList != s.toList) = false := by simp
   have hbt2 : (s.toList == s.toList) = true := by simp
   have hW := fun w => trWhen_any (decide (m < nh)) 5 w
   have hF0 := fun a b g w => trFirst_any [a, b] 2 rfl (by decide) g w
   obtain ⟨e1, he1⟩ : ∃ e1, frmE s (bls HH) (bls O) = e1 := ⟨_, rfl⟩
   rw [he1] at HFE ⊢
   obtain ⟨e2, he2⟩ : ∃ e2 : Int, (if m < nh then 5 else 0) = e2 := ⟨_, rfl⟩
   rw [he2]
   have he3 : (if decide (m < nh) = true then (5 : Int) else 0) = e2 := by rw [← he2]; simp
   rw [he3] at hW
   have hF := hF0 e1 e2
   generalize fstN [e1, e2] = y at hF ⊢
   clear hF0 he1 he2 he3 hz
   go_enter Tryz.func61, Tryz.ntmps61
   go_wp2_with fail
   refine wp_region_held_drew (S := (fun w' => w'.cell? ⟨bN, oN + k, none⟩ = some (.string s) ∧ w'.cell? ⟨g, 0, none⟩ = some (.slice (some ⟨bN, oN, none⟩) nN cN) ∧ w'.cell? ⟨g, 1, none⟩ = some (.slice AG m cG) ∧ w'.cell? ⟨g + 1, 0, none⟩ = some (.string s) ∧ w'.cell? ⟨g + 1, 1, none⟩ = some (.slice AH nh ch) ∧ w'.cell? ⟨g + 1, 2, none⟩ = some (.slice AO no co) ∧ w'.cell? ⟨g + 1, 3, none⟩ = some (.bool rt) ∧ Below w1.heap.size w1 w')) (by kernel_rfl) ?_ (fun hHeld => ?_)
   ·exact ⟨HN1.out _ (Below.drew (Below.refl _ _)), HX.out _ (Below.drew (Below.refl _ _))⟩
   refine zU 0 ?_ rfl ?_ ?_
   rotate_left
   ·rintro w ⟨s0, s1, s2, s3, s4, s5, s6, s7⟩
    go_simp
    try with_reducible rfl
   try simp only [Act.put, zA1, zA2, zA3, zA4, zA5, zA6]
   refine zU 1 ?_ rfl ?_ ?_
   rotate_left
   ·rintro w ⟨s0, s1, s2, s3, s4, s5, s6, s7⟩
    go_simp
    try with_reducible rfl
   try simp only [Act.put, zA1, zA2, zA3, zA4, zA5, zA6]
   refine zU 2 ?_ rfl ?_ ?_
   rotate_left
   ·rintro w ⟨s0, s1, s2, s3, s4, s5, s6, s7⟩
    go_simp
    try with_reducible rfl
   try simp only [Act.put, zA1, zA2, zA3, zA4, zA5, zA6]
   refine zU 3 ?_ rfl ?_ ?_
   rotate_left
   ·rintro w ⟨s0, s1, s2, s3, s4, s5, s6, s7⟩
    go_simp
    try with_reducible rfl
   try simp only [Act.put, zA1, zA2, zA3, zA4, zA5, zA6]
   refine zU 4 ?_ rfl ?_ ?_
   rotate_left
   ·rintro w ⟨s0, s1, s2, s3, s4, s5, s6, s7⟩
    go_simp
    try with_reducible rfl
   try simp only [Act.put, zA1, zA2, zA3, zA4, zA5, zA6]
   refine zU 5 ?_ rfl ?_ ?_
   rotate_left
   ·rintro w ⟨s0, s1, s2, s3, s4, s5, s6, s7⟩
    go_simp
    try with_reducible rfl
   try simp only [Act.put, zA1, zA2, zA3, zA4, zA5, zA6]
   refine zU 6 ?_ rfl ?_ ?_
   rotate_left
   ·rintro w ⟨s0, s1, s2, s3, s4, s5, s6, s7⟩
    go_simp
    try with_reducible rfl
   try simp only [Act.put, zA1, zA2, zA3, zA4, zA5, zA6]
   refine zU 7 ?_ rfl ?_ ?_
   rotate_left
   ·rintro w ⟨s0, s1, s2, s3, s4, s5, s6, s7⟩
    go_simp
    try with_reducible rfl
   try simp only [Act.put, zA1, zA2, zA3, zA4, zA5, zA6]
   refine zU 8 ?_ rfl ?_ ?_
   rotate_left
   ·rintro w ⟨s0, s1, s2, s3, s4, s5, s6, s7⟩
    go_simp
    try with_reducible rfl
   try simp only [Act.put, zA1, zA2, zA3, zA4, zA5, zA6]
   refine zU 9 ?_ rfl ?_ ?_
   rotate_left
   ·rintro w ⟨s0, s1, s2, s3, s4, s5, s6, s7⟩
    go_simp
    try with_reducible rfl
   try simp only [Act.put, zA1, zA2, zA3, zA4, zA5, zA6]
   refine zU 10 ?_ rfl ?_ ?_
   rotate_left
   ·rintro w ⟨s0, s1, s2, s3, s4, s5, s6, s7⟩
    go_simp
    try with_reducible rfl
   try simp only [Act.put, zA1, zA2, zA3, zA4, zA5, zA6]
   refine zU 11 ?_ rfl ?_ ?_
   rotate_left
   ·rintro w ⟨s0, s1, s2, s3, s4, s5, s6, s7⟩
    go_simp
    try with_reducible rfl
   try simp only [Act.put, zA1, zA2, zA3, zA4, zA5, zA6]
   refine zU 12 ?_ rfl ?_ ?_
   rotate_left
   ·rintro w ⟨s0, s1, s2, s3, s4, s5, s6, s7⟩
    go_simp
    try with_reducible rfl
   try simp only [Act.put, zA1, zA2, zA3, zA4, zA5, zA6]
   refine zU 13 ?_ rfl ?_ ?_
   rotate_left
   ·rintro w ⟨s0, s1, s2, s3, s4, s5, s6, s7⟩
    go_simp
    try with_reducible rfl
   try simp only [Act.put, zA1, zA2, zA3, zA4, zA5, zA6]
   refine zU 14 ?_ rfl ?_ ?_
   rotate_left
   ·rintro w ⟨s0, s1, s2, s3, s4, s5, s6, s7⟩
    go_simp
    try with_reducible rfl
   try simp only [Act.put, zA1, zA2, zA3, zA4, zA5, zA6]
   refine wpAnyH_done (by kernel_rfl) ?_ _
   have HBN := Lib.hid hHeld.2.2.2.2.2.2.2
   clear hHeld
   go_wp2_with fail
   refine wp_region_held_drew (S := (fun w' => w'.cell? ⟨g, 0, none⟩ = some (.slice (some ⟨bN, oN, none⟩) nN cN) ∧ w'.cell? ⟨g, 1, none⟩ = some (.slice AG m cG) ∧ w'.cell? ⟨g + 1, 0, none⟩ = some (.string s) ∧ w'.cell? ⟨g + 1, 1, none⟩ = some (.slice AH nh ch) ∧ w'.cell? ⟨g + 1, 2, none⟩ = some (.slice AO no co) ∧ w'.cell? ⟨g + 1, 3, none⟩ = some (.bool rt) ∧ Below w1.heap.size w1 w')) (by kernel_rfl) ?_ (fun hHeld => ?_)
   ·exact HX.out _ (by first | exact Below.drew HBN.out | exact Below.drew (below_drewN HBN.out _))
   generalize World.drew _ = wd at hHeld ⊢
   refine zU 0 ?_ rfl ?_ ?_
   rotate_left
   ·rintro w ⟨s1, s2, s3, s4, s5, s6, s7⟩
    go_simp
    try with_reducible rfl
   try simp only [Act.put, zA1, zA2, zA3, zA4, zA5, zA6]
   refine zU 2 ?_ rfl ?_ ?_
   rotate_left
   ·rintro w ⟨s1, s2, s3, s4, s5, s6, s7⟩
    go_simp
    try with_reducible rfl
   try simp only [Act.put, zA1, zA2, zA3, zA4, zA5, zA6]
   refine zU 3 ?_ rfl ?_ ?_
   rotate_left
   ·rintro w ⟨s1, s2, s3, s4, s5, s6, s7⟩
    go_simp
    try with_reducible rfl
   try simp only [Act.put, zA1, zA2, zA3, zA4, zA5, zA6]
   refine zU 4 ?_ rfl ?_ ?_
   rotate_left
   ·rintro w ⟨s1, s2, s3, s4, s5, s6, s7⟩
    go_simp
    try with_reducible rfl
   try simp only [Act.put, zA1, zA2, zA3, zA4, zA5, zA6]
   refine zU 5 ?_ rfl ?_ ?_
   rotate_left
   ·rintro w ⟨s1, s2, s3, s4, s5, s6, s7⟩
    go_simp
    try with_reducible rfl
   try simp only [Act.put, zA1, zA2, zA3, zA4, zA5, zA6]
   refine zU 6 ?_ rfl ?_ ?_
   rotate_left
   ·rintro w ⟨s1, s2, s3, s4, s5, s6, s7⟩
    go_simp
    try with_reducible rfl
   try simp only [Act.put, zA1, zA2, zA3, zA4, zA5, zA6]
   refine zU 7 ?_ rfl ?_ ?_
   rotate_left
   ·rintro w ⟨s1, s2, s3, s4, s5, s6, s7⟩
    go_simp
    try with_reducible rfl
   try simp only [Act.put, zA1, zA2, zA3, zA4, zA5, zA6]
   refine zU 8 ?_ rfl ?_ ?_
   rotate_left
   ·rintro w ⟨s1, s2, s3, s4, s5, s6, s7⟩
    go_simp
    try with_reducible rfl
   try simp only [Act.put, zA1, zA2, zA3, zA4, zA5, zA6]
   refine wpAnyH_ready (rs := [1]) (by kernel_rfl) (by simp) ?_
   refine AllReadyH.cons (o := _) rfl (fun K hKK => ?_) AllReadyH.nil
   go_simp
   go_at_call 85
   with_reducible refine (HFE.out _ hHeld.2.2.2.2.2.2).mono ?_
   rintro e' w' ⟨rfl, hbz⟩
   go_wp2_with fail
   refine hKK.out _ _ ?_ (fun hHeld => ?_)
   ·exact HX.out _ (bstep hHeld.2.2.2.2.2.2 hbz)
   clear hKK K
   try simp only [Act.put, zA1, zA2, zA3, zA4, zA5, zA6]
   clear hbz
   refine wpAnyH_ready (rs := [9]) (by kernel_rfl) (by simp) ?_
   refine AllReadyH.cons (o := _) rfl (fun K hKK => ?_) AllReadyH.nil
   go_simp
   go_at_call 58
   with_reducible refine (hW _).mono ?_
   rintro e' w' ⟨rfl, rfl⟩
   go_wp2_with fail
   refine hKK.out _ _ ?_ (fun hHeld => ?_)
   ·exact hHeld
   clear hKK K
   try simp only [Act.put, zA1, zA2, zA3, zA4, zA5, zA6]
   refine wpAnyH_ready (rs := [10]) (by kernel_rfl) (by simp) ?_
   refine AllReadyH.cons (o := _) rfl (fun K hKK => ?_) AllReadyH.nil
   go_simp
   refine hKK.out _ _ ?_ (fun hHeld => ?_)
   ·exact HX.out _ (balloc _ hHeld.2.2.2.2.2.2)
   clear hKK K
   try simp only [Act.put, zA1, zA2, zA3, zA4, zA5, zA6]
   refine wpAnyH_ready (rs := [11]) (by kernel_rfl) (by simp) ?_
   refine AllReadyH.cons (o := _) rfl (fun K hKK => ?_) AllReadyH.nil
   go_simp
   go_at_call 56
   refine (hF _ _ ?_).mono ?_
   ·exact es2 _ _ _ _
   rintro e' w' ⟨rfl, rfl⟩
   go_wp2_with fail
   refine hKK.out _ _ ?_ (fun hHeld => ?_)
   ·exact hHeld
   clear hKK K
   try simp only [Act.put, zA1, zA2, zA3, zA4, zA5, zA6]
   refine zU 12 ?_ rfl ?_ ?_
   rotate_left
   ·rintro w ⟨s1, s2, s3, s4, s5, s6, s7⟩
    go_simp
    try with_reducible rfl
   try simp only [Act.put, zA1, zA2, zA3, zA4, zA5, zA6]
   refine wpAnyH_done (by kernel_rfl) ?_ _
   go_wp2
   go_ret
   exact ⟨rfl, bstep HB1.out hHeld.2.2.2.2.2.2⟩
  ·rw [if_neg (by rw [hz]; simpa using he)]
   have hbt : (s.toList != z.toList) = true := by
    have := tl_ne (show ¬ s = z from fun e => he e.symm)
    simp [bne, this]
   have hbt2 : (s.toList == z.toList) = false := tl_ne (fun e => he e.symm)
   clear hz
   go_enter Tryz.func61, Tryz.ntmps61
   go_wp2_with fail
   refine wp_region_held_drew (S := (fun w' => w'.cell? ⟨bN, oN + k, none⟩ = some (.string z) ∧ w'.cell? ⟨g, 0, none⟩ = some (.slice (some ⟨bN, oN, none⟩) nN cN) ∧ w'.cell? ⟨g, 1, none⟩ = some (.slice AG m cG) ∧ w'.cell? ⟨g + 1, 0, none⟩ = some (.string s) ∧ w'.cell? ⟨g + 1, 1, none⟩ = some (.slice AH nh ch) ∧ w'.cell? ⟨g + 1, 2, none⟩ = some (.slice AO no co) ∧ w'.cell? ⟨g + 1, 3, none⟩ = some (.bool rt) ∧ Below w1.heap.size w1 w')) (by kernel_rfl) ?_ (fun hHeld => ?_)
   ·exact ⟨HN1.out _ (Below.drew (Below.refl _ _)), HX.out _ (Below.drew (Below.refl _ _))⟩
   refine zU 0 ?_ rfl ?_ ?_
   rotate_left
   ·rintro w ⟨s0, s1, s2, s3, s4, s5, s6, s7⟩
    go_simp
    try with_reducible rfl
   try simp only [Act.put, zA1, zA2, zA3, zA4, zA5, zA6]
   refine zU 1 ?_ rfl ?_ ?_
   rotate_left
   ·rintro w ⟨s0, s1, s2, s3, s4, s5, s6, s7⟩
    go_simp
    try with_reducible rfl
   try simp only [Act.put, zA1, zA2, zA3, zA4, zA5, zA6]
   refine zU 2 ?_ rfl ?_ ?_
   rotate_left
   ·rintro w ⟨s0, s1, s2, s3, s4, s5, s6, s7⟩
    go_simp
    try with_reducible rfl
   try simp only [Act.put, zA1, zA2, zA3, zA4, zA5, zA6]
   refine zU 3 ?_ rfl ?_ ?_
   rotate_left
   ·rintro w ⟨s0, s1, s2, s3, s4, s5, s6, s7⟩
    go_simp
    try with_reducible rfl
   try simp only [Act.put, zA1, zA2, zA3, zA4, zA5, zA6]
   refine zU 4 ?_ rfl ?_ ?_
   rotate_left
   ·rintro w ⟨s0, s1, s2, s3, s4, s5, s6, s7⟩
    go_simp
    try with_reducible rfl
   try simp only [Act.put, zA1, zA2, zA3, zA4, zA5, zA6]
   refine zU 5 ?_ rfl ?_ ?_
   rotate_left
   ·rintro w ⟨s0, s1, s2, s3, s4, s5, s6, s7⟩
    go_simp
    try with_reducible rfl
   try simp only [Act.put, zA1, zA2, zA3, zA4, zA5, zA6]
   refine zU 6 ?_ rfl ?_ ?_
   rotate_left
   ·rintro w ⟨s0, s1, s2, s3, s4, s5, s6, s7⟩
    go_simp
    try with_reducible rfl
   try simp only [Act.put, zA1, zA2, zA3, zA4, zA5, zA6]
   refine zU 7 ?_ rfl ?_ ?_
   rotate_left
   ·rintro w ⟨s0, s1, s2, s3, s4, s5, s6, s7⟩
    go_simp
    try with_reducible rfl
   try simp only [Act.put, zA1, zA2, zA3, zA4, zA5, zA6]
   refine zU 8 ?_ rfl ?_ ?_
   rotate_left
   ·rintro w ⟨s0, s1, s2, s3, s4, s5, s6, s7⟩
    go_simp
    try with_reducible rfl
   try simp only [Act.put, zA1, zA2, zA3, zA4, zA5, zA6]
   refine zU 9 ?_ rfl ?_ ?_
   rotate_left
   ·rintro w ⟨s0, s1, s2, s3, s4, s5, s6, s7⟩
    go_simp
    try with_reducible rfl
   try simp only [Act.put, zA1, zA2, zA3, zA4, zA5, zA6]
   refine zU 10 ?_ rfl ?_ ?_
   rotate_left
   ·rintro w ⟨s0, s1, s2, s3, s4, s5, s6, s7⟩
    go_simp
    try with_reducible rfl
   try simp only [Act.put, zA1, zA2, zA3, zA4, zA5, zA6]
   refine zU 11 ?_ rfl ?_ ?_
   rotate_left
   ·rintro w ⟨s0, s1, s2, s3, s4, s5, s6, s7⟩
    go_simp
    try with_reducible rfl
   try simp only [Act.put, zA1, zA2, zA3, zA4, zA5, zA6]
   refine zU 12 ?_ rfl ?_ ?_
   rotate_left
   ·rintro w ⟨s0, s1, s2, s3, s4, s5, s6, s7⟩
    go_simp
    try with_reducible rfl
   try simp only [Act.put, zA1, zA2, zA3, zA4, zA5, zA6]
   refine zU 13 ?_ rfl ?_ ?_
   rotate_left
   ·rintro w ⟨s0, s1, s2, s3, s4, s5, s6, s7⟩
    go_simp
    try with_reducible rfl
   try simp only [Act.put, zA1, zA2, zA3, zA4, zA5, zA6]
   refine zU 14 ?_ rfl ?_ ?_
   rotate_left
   ·rintro w ⟨s0, s1, s2, s3, s4, s5, s6, s7⟩
    go_simp
    try with_reducible rfl
   try simp only [Act.put, zA1, zA2, zA3, zA4, zA5, zA6]
   refine wpAnyH_done (by kernel_rfl) ?_ _
   go_wp2
   go_ret
   exact ⟨rfl, bstep HB1.out hHeld.2.2.2.2.2.2.2⟩
 ·rw [if_neg (by rw [List.getElem?_eq_none (by rw [HNl.out]; omega)]; simp)]
  have hge : (nN : Int) ≤ (k : Int) := by omega
  have hgd : decide ((nN : Int) ≤ (k : Int)) = true := decide_eq_true hge
  have hgn : nN ≤ k := by omega
  go_enter Tryz.func61, Tryz.ntmps61
  go_wp2_with fail
  refine wp_region_held_drew (S := (fun w' => w'.cell? ⟨g, 0, none⟩ = some (.slice AN nN cN) ∧ w'.cell? ⟨g, 1, none⟩ = some (.slice AG m cG) ∧ w'.cell? ⟨g + 1, 0, none⟩ = some (.string s) ∧ w'.cell? ⟨g + 1, 1, none⟩ = some (.slice AH nh ch) ∧ w'.cell? ⟨g + 1, 2, none⟩ = some (.slice AO no co) ∧ w'.cell? ⟨g + 1, 3, none⟩ = some (.bool rt) ∧ Below w1.heap.size w1 w')) (by kernel_rfl) ?_ (fun hHeld => ?_)
  ·exact HX.out _ (Below.drew (Below.refl _ _))
  refine zU 0 ?_ rfl ?_ ?_
  rotate_left
  ·rintro w ⟨s1, s2, s3, s4, s5, s6, s7⟩
   go_simp
   try with_reducible rfl
  try simp only [Act.put, zA1, zA2, zA3, zA4, zA5, zA6]
  refine zU 1 ?_ rfl ?_ ?_
  rotate_left
  ·rintro w ⟨s1, s2, s3, s4, s5, s6, s7⟩
   go_simp
   try with_reducible rfl
  try simp only [Act.put, zA1, zA2, zA3, zA4, zA5, zA6]
  refine zU 2 ?_ rfl ?_ ?_
  rotate_left
  ·rintro w ⟨s1, s2, s3, s4, s5, s6, s7⟩
   go_simp
   try with_reducible rfl
  try simp only [Act.put, zA1, zA2, zA3, zA4, zA5, zA6]
  refine zU 3 ?_ rfl ?_ ?_
  rotate_left
  ·rintro w ⟨s1, s2, s3, s4, s5, s6, s7⟩
   go_simp
   try with_reducible rfl
  try simp only [Act.put, zA1, zA2, zA3, zA4, zA5, zA6]
  refine zU 4 ?_ rfl ?_ ?_
  rotate_left
  ·rintro w ⟨s1, s2, s3, s4, s5, s6, s7⟩
   go_simp
   try with_reducible rfl
  try simp only [Act.put, zA1, zA2, zA3, zA4, zA5, zA6]
  refine zU 5 ?_ rfl ?_ ?_
  rotate_left
  ·rintro w ⟨s1, s2, s3, s4, s5, s6, s7⟩
   go_simp
   try with_reducible rfl
  try simp only [Act.put, zA1, zA2, zA3, zA4, zA5, zA6]
  refine zD 6 rfl ?_
  try simp only [Act.put, zA1, zA2, zA3, zA4, zA5, zA6]
  refine zD 7 rfl ?_
  try simp only [Act.put, zA1, zA2, zA3, zA4, zA5, zA6]
  refine zD 8 rfl ?_
  try simp only [Act.put, zA1, zA2, zA3, zA4, zA5, zA6]
  refine zD 9 rfl ?_
  try simp only [Act.put, zA1, zA2, zA3, zA4, zA5, zA6]
  refine zD 10 rfl ?_
  try simp only [Act.put, zA1, zA2, zA3, zA4, zA5, zA6]
  refine zD 11 rfl ?_
  try simp only [Act.put, zA1, zA2, zA3, zA4, zA5, zA6]
  refine zD 12 rfl ?_
  try simp only [Act.put, zA1, zA2, zA3, zA4, zA5, zA6]
  refine zD 13 rfl ?_
  try simp only [Act.put, zA1, zA2, zA3, zA4, zA5, zA6]
  refine zU 14 ?_ rfl ?_ ?_
  rotate_left
  ·rintro w ⟨s1, s2, s3, s4, s5, s6, s7⟩
   go_simp
   try with_reducible rfl
  try simp only [Act.put, zA1, zA2, zA3, zA4, zA5, zA6]
  refine wpAnyH_done (by kernel_rfl) ?_ _
  go_wp2
  go_ret
  exact ⟨rfl, bstep HB1.out hHeld.2.2.2.2.2.2⟩
end Go.Mk
end
section
namespace Go.Mk
theorem fdCheckCardsC_any (N : List ByteArray) (nN cN : Nat) (AN : Option Addr) (AG : Option Addr) (m cG : Nat) (st : Int) (k bv : Nat) (r : CardR) (w : World) (hN : TextsZ w AN nN N) (hnN : nN ≤ 1000) (hm : m ≤ 1000) (hk : k ≤ 1000) (hZ : CardZ w r) (hS : CardS r)
  (h0 : w.cell? ⟨bv, 0, none⟩ = some (.slice AN nN cN)) (h1 : w.cell? ⟨bv, 1, none⟩ = some (.slice AG m cG)) (h2 : w.cell? ⟨bv, 2, none⟩ = some (.int .i64 st)) (hbv : bv < w.heap.size) :
  Calls Tryz.prog 60 #[.int .i64 k, r.val, .pointer (some ⟨bv, 0, none⟩)] w (RetPost (.int .i64 (cdE N m k r)) w) := by
 obtain ⟨g, hg⟩ : ∃ g, w.heap.size = g := ⟨_, rfl⟩
 obtain ⟨w1, hw1⟩ : ∃ w1, w.alloc (.cells #[.string r.s, .slice r.AH r.nh r.ch, .slice r.AO r.no r.co, .bool r.rt] 94) = w1 := ⟨_, rfl⟩
 have hb1 : Below w.heap.size w w1 := by rw [← hw1]; exact balloc _ (Below.refl _ _)
 have x0 : w1.cell? ⟨g, 0, none⟩ = some (.string r.s) := by rw [← hw1, ← hg]; simp
 have x1 : w1.cell? ⟨g, 1, none⟩ = some (.slice r.AH r.nh r.ch) := by rw [← hw1, ← hg]; simp
 have x2 : w1.cell? ⟨g, 2, none⟩ = some (.slice r.AO r.no r.co) := by rw [← hw1, ← hg]; simp
 have x3 : w1.cell? ⟨g, 3, none⟩ = some (.bool r.rt) := by rw [← hw1, ← hg]; simp
 have v0 := (hb1.cell (p := ⟨bv, 0, none⟩) hbv).trans h0
 have v1 := (hb1.cell (p := ⟨bv, 1, none⟩) hbv).trans h1
 have v2 := (hb1.cell (p := ⟨bv, 2, none⟩) hbv).trans h2
 have hC := fdCardError_any N nN cN AN AG m cG st k r w1 (hN.below hb1) hnN hm hk (hZ.below hb1) hS
 have HB1 := Lib.hid hb1
 generalize cdE N m k r = y at *
 obtain ⟨s, AH, nh, ch, HH, AO, no, co, O, rt⟩ := r
 unfold CardR.val at *
 dsimp only at *
 clear hN hnN hm hk hZ hS hb1 h0 h1 h2
 go_enter Tryz.func60, Tryz.ntmps60
 go_wp2_with fail
 refine hC.mono ?_
 rintro e w2 ⟨rfl, hb2⟩
 have hfin := Lib.hid (bstep HB1.out hb2)
 clear hb2
 go_wp2
 go_ret
 exact ⟨rfl, hfin.out⟩
theorem fdFirstOfC_any (N : List ByteArray) (nN cN : Nat) (AN : Option Addr) (AG : Option Addr) (m cG : Nat) (st : Int) (bv : Nat) (L : List CardR) (n cap : Nat) (A : Option Addr) (w : World) (hN : TextsZ w AN nN N) (hnN : nN ≤ 1000) (hm : m ≤ 1000) (hZ : Cards w A n L) (hn : n ≤ 1000) (hS : ∀ r ∈ L, CardS r)
  (h0 : w.cell? ⟨bv, 0, none⟩ = some (.slice AN nN cN)) (h1 : w.cell? ⟨bv, 1, none⟩ = some (.slice AG m cG)) (h2 : w.cell? ⟨bv, 2, none⟩ = some (.int .i64 st)) (hbv : bv < w.heap.size) :
  Calls Tryz.prog 59 #[.slice A n cap, .func (.func 60) #[] #[.pointer (some ⟨bv, 0, none⟩)]] w (RetPost (.int .i64 (cdsE N m 0 L)) w) := by
 have hni : (n : Int) ≤ 1000 := by omega
 have H := Lib.hid hZ
 have HL := Lib.hid hZ.1
 have HC : Hid (∀ (k : Nat) (r : CardR) (w' : World), L[k]? = some r → CardZ w' r → k ≤ 1000 → Below w.heap.size w w' → Calls Tryz.prog 60 #[.int .i64 k, r.val, .pointer (some ⟨bv, 0, none⟩)] w' (RetPost (.int .i64 (cdE N m k r)) w')) := Lib.hid fun k r w' hr hz hk hb =>
  fdCheckCardsC_any N nN cN AN AG m cG st k bv r w' (hN.below hb) hnN hm hk hz (hS r (List.mem_of_getElem? hr)) ((hb.cell (p := ⟨bv, 0, none⟩) hbv).trans h0) ((hb.cell (p := ⟨bv, 1, none⟩) hbv).trans h1) ((hb.cell (p := ⟨bv, 2, none⟩) hbv).trans h2) (Nat.lt_of_lt_of_le hbv hb.size)
 obtain ⟨y, hy⟩ : ∃ y, cdsE N m 0 L = y := ⟨_, rfl⟩
 rw [hy]
 have HY : Hid (cdsE N m 0 (L.drop 0) = y) := Lib.hid (by rw [← hy]; rfl)
 clear hN hnN hm hZ hS h0 h1 h2 hbv hy
 go_enter Tryz.func59, Tryz.ntmps59
 go_wp2
 go_loopw [10] (fun i wr => ∃ k : Nat, k ≤ n ∧ i = .int .i64 k ∧ Hid (cdsE N m k (L.drop k) = y) ∧ Below w.heap.size w wr) (fun i _ => n - (RowKit.intOf i).toNat)
 case atStart => exact ⟨0, by omega, rfl, HY, Below.refl _ _⟩
 case round =>
  obtain ⟨k, hk, rfl, HK, hb⟩ := hrel
  by_cases hlt : k < n
  ·obtain ⟨b', off, r, rfl, hbl, hx, ⟨hc0, hc1, hc2, hc3⟩, hCZ⟩ := (H.out.below hb).at_ hlt
   have hki : (k : Int) < (n : Int) := by omega
   have hk0 : (0 : Int) ≤ (k : Int) := by omega
   have hkt : ((k : Int)).toNat = k := by omega
   have hst := HK.out
   rw [cdsE_drop hx] at hst
   obtain ⟨p, hp⟩ : ∃ p, wr.heap.size = p := ⟨_, rfl⟩
   obtain ⟨wx, hwx⟩ : ∃ wx, wr.alloc (.cells #[.string r.s, .slice r.AH r.nh r.ch, .slice r.AO r.no r.co, .bool r.rt] 94) = wx := ⟨_, rfl⟩
   have hbx : Below w.heap.size w wx := by rw [← hwx]; exact hb.alloc hb.size _
   have hbwx : Below wr.heap.size wr wx := by rw [← hwx]; exact balloc _ (Below.refl _ _)
   have x0 : wx.cell? ⟨p, 0, none⟩ = some (.string r.s) := by rw [← hwx, ← hp]; simp
   have x1 : wx.cell? ⟨p, 1, none⟩ = some (.slice r.AH r.nh r.ch) := by rw [← hwx, ← hp]; simp
   have x2 : wx.cell? ⟨p, 2, none⟩ = some (.slice r.AO r.no r.co) := by rw [← hwx, ← hp]; simp
   have x3 : wx.cell? ⟨p, 3, none⟩ = some (.bool r.rt) := by rw [← hwx, ← hp]; simp
   have hC := HC.out k r wx hx (hCZ.below hbwx) (by omega) hbx
   obtain ⟨z, hz⟩ : ∃ z, cdE N m k r = z := ⟨_, rfl⟩
   rw [hz] at hst hC
   have HBX := Lib.hid hbx
   obtain ⟨s, AH, nh, ch, HH, AO, no, co, O, rt⟩ := r
   unfold CardR.val at *
   dsimp only at *
   clear hz hx HK hb hCZ hbx hbwx
   by_cases h0 : z = 0
   ·subst h0
    rw [if_pos rfl] at hst
    have Hst := Lib.hid hst
    clear hst
    go_wp2_with fail
    refine hC.mono ?_
    rintro e w' ⟨rfl, hb2⟩
    have hb3 := bstep HBX.out hb2
    clear hb2
    go_wp2
    exact ⟨⟨k + 1, by omega, by go_num, Hst, hb3⟩, by simp [RowKit.intOf]; omega⟩
   ·rw [if_neg h0] at hst
    subst hst
    have hne : (z != 0) = true := by rw [bne_iff_ne]; exact h0
    clear h0
    go_wp2_with fail
    refine hC.mono ?_
    rintro e w' ⟨rfl, hb2⟩
    have hb3 := Lib.hid (bstep HBX.out hb2)
    clear hb2
    go_wp2
    go_ret
    exact ⟨rfl, hb3.out⟩
  ·have h0 := HK.out
   rw [List.drop_eq_nil_of_le (by rw [HL.out]; omega), cdsE] at h0
   subst h0
   have HB := Lib.hid hb
   clear hb
   go_wp2
   go_ret
   exact ⟨rfl, HB.out⟩
theorem fdCheckCards_any (N : List ByteArray) (nN cN : Nat) (AN : Option Addr) (G : List Int) (AG : Option Addr) (m cG : Nat) (st : Int) (L : List CardR) (n cap : Nat) (A : Option Addr) (w : World) (hN : TextsZ w AN nN N) (hnN : nN ≤ 1000) (hcN : nN ≤ cN) (hsN : ∀ x ∈ N, x.size ≤ maxLen) (hG : IntsZ w AG m G) (hm : m ≤ 1000) (hZ : Cards w A n L) (hn : n ≤ 1000) (hS : ∀ r ∈ L, CardS r) :
  Calls Tryz.prog 13 #[.agg #[.slice AN nN cN, .slice AG m cG, .int .i64 st], .slice A n cap] w (RetPost (.int .i64 (crdE N G st L)) w) := by
 obtain ⟨g, hg⟩ : ∃ g, w.heap.size = g := ⟨_, rfl⟩
 obtain ⟨w1, hw1⟩ : ∃ w1, w.alloc (.cells #[.slice AN nN cN, .slice AG m cG, .int .i64 st] 33) = w1 := ⟨_, rfl⟩
 have hb1 : Below w.heap.size w w1 := by rw [← hw1]; exact balloc _ (Below.refl _ _)
 have v0 : w1.cell? ⟨g, 0, none⟩ = some (.slice AN nN cN) := by rw [← hw1, ← hg]; simp
 have v1 : w1.cell? ⟨g, 1, none⟩ = some (.slice AG m cG) := by rw [← hw1, ← hg]; simp
 have v2 : w1.cell? ⟨g, 2, none⟩ = some (.int .i64 st) := by rw [← hw1, ← hg]; simp
 have hs0 : g < w1.heap.size := by rw [← hw1, ← hg]; simp
 have HX : Hid (∀ w', Below w1.heap.size w1 w' → w'.cell? ⟨g, 0, none⟩ = some (.slice AN nN cN) ∧ w'.cell? ⟨g, 1, none⟩ = some (.slice AG m cG) ∧ w'.cell? ⟨g, 2, none⟩ = some (.int .i64 st) ∧ Below w1.heap.size w1 w') := Lib.hid fun w' hb =>
  ⟨(hb.cell (p := ⟨g, 0, none⟩) hs0).trans v0, (hb.cell (p := ⟨g, 1, none⟩) hs0).trans v1, (hb.cell (p := ⟨g, 2, none⟩) hs0).trans v2, hb⟩
 have HCV : Hid (∀ w', Below w1.heap.size w1 w' → Calls Tryz.prog 57 #[.agg #[.slice AN nN cN, .slice AG m cG, .int .i64 st]] w' (RetPost (.int .i64 (verE N G st)) w')) := Lib.hid fun w' hb => fdCheckVertical_any N nN cN AN G m cG AG st w' (hN.below (bstep hb1 hb)) hnN hcN hsN (hG.below (bstep hb1 hb)) hm
 have HFC : Hid (∀ w', Below w1.heap.size w1 w' → Calls Tryz.prog 59 #[.slice A n cap, .func (.func 60) #[] #[.pointer (some ⟨g, 0, none⟩)]] w' (RetPost (.int .i64 (cdsE N m 0 L)) w')) := Lib.hid fun w' hb => by
  obtain ⟨y0, y1, y2, _⟩ := HX.out w' hb
  exact fdFirstOfC_any N nN cN AN AG m cG st g L n cap A w' (hN.below (bstep hb1 hb)) hnN hm (hZ.below (bstep hb1 hb)) hn hS y0 y1 y2 (Nat.lt_of_lt_of_le hs0 hb.size)
 have hW := fun w => trWhen_any ((n : Int) != (nN : Int)) 2 w
 have hF0 := fun a b c g w => trFirst_any [a, b, c] 3 rfl (by decide) g w
 have hy : crdE N G st L = fstN [verE N G st, if ((n : Int) != (nN : Int)) = true then 2 else 0, cdsE N m 0 L] := by
  unfold crdE
  rw [hZ.1, hN.1, hG.1]
  by_cases q : n = nN
  ·subst q; simp
  ·rw [if_neg q, if_pos (by rw [bne_iff_ne]; omega)]
 rw [hy]
 clear hy
 generalize verE N G st = e1 at *
 generalize cdsE N m 0 L = e3 at *
 obtain ⟨e2, he2⟩ : ∃ e2 : Int, (if ((n : Int) != (nN : Int)) = true then 2 else 0) = e2 := ⟨_, rfl⟩
 rw [he2] at hW ⊢
 have hF := hF0 e1 e2 e3
 generalize fstN [e1, e2, e3] = y at hF ⊢
 have HB1 := Lib.hid hb1
 have hni : (n : Int) ≤ 1000 := by omega
 have hnNi : (nN : Int) ≤ 1000 := by omega
 clear hF0 he2 hN hnN hcN hsN hG hZ hS hb1 v0 v1 v2 hs0
 go_enter Tryz.func13, Tryz.ntmps13
 go_wp2_with fail
 refine wp_region_held_drew (S := (fun w' => w'.cell? ⟨g, 0, none⟩ = some (.slice AN nN cN) ∧ w'.cell? ⟨g, 1, none⟩ = some (.slice AG m cG) ∧ w'.cell? ⟨g, 2, none⟩ = some (.int .i64 st) ∧ Below w1.heap.size w1 w')) (by kernel_rfl) ?_ (fun hHeld => ?_)
 ·exact HX.out _ (Below.drew (Below.refl _ _))
 generalize World.drew _ = wd at hHeld ⊢
 refine zV 0 (h := zV 2 (h := zV 3 (h := zV 4 (h := zV 5 (h := zV 6 (h := zV 7 (h := zV 9 (h := zV 10 (h := ?_)))))))))
 try simp only [zP, zQ, zA2, zA3]
 refine zN 1 fun K hKK => ?_
 go_simp
 go_at_call 57
 with_reducible refine (HCV.out _ hHeld.2.2.2).mono ?_
 rintro e' w' ⟨rfl, hbz⟩
 go_wp2_with fail
 refine hKK.out _ _ ?_ (fun hHeld => ?_)
 ·exact HX.out _ (bstep hHeld.2.2.2 hbz)
 clear hKK K
 try simp only [zP, zQ, zA2, zA3]
 clear hbz
 refine zN 8 fun K hKK => ?_
 go_simp
 go_at_call 58
 with_reducible refine (hW _).mono ?_
 rintro e' w' ⟨rfl, rfl⟩
 go_wp2_with fail
 refine hKK.out _ _ ?_ (fun hHeld => ?_)
 ·exact hHeld
 clear hKK K
 try simp only [zP, zQ, zA2, zA3]
 refine zN 11 fun K hKK => ?_
 go_simp
 go_at_call 59
 with_reducible refine (HFC.out _ hHeld.2.2.2).mono ?_
 rintro e' w' ⟨rfl, hbz⟩
 go_wp2_with fail
 refine hKK.out _ _ ?_ (fun hHeld => ?_)
 ·exact HX.out _ (bstep hHeld.2.2.2 hbz)
 clear hKK K
 try simp only [zP, zQ, zA2, zA3]
 clear hbz
 refine zN 12 fun K hKK => ?_
 go_simp
 refine hKK.out _ _ ?_ (fun hHeld => ?_)
 ·exact HX.out _ (balloc _ hHeld.2.2.2)
 clear hKK K
 try simp only [zP, zQ, zA2, zA3]
 refine zN 13 fun K hKK => ?_
 go_simp
 go_at_call 56
 refine (hF _ _ ?_).mono ?_
 ·exact es3G _ _ _ _ _
 rintro e' w' ⟨rfl, rfl⟩
 go_wp2_with fail
 refine hKK.out _ _ ?_ (fun hHeld => ?_)
 ·exact hHeld
 clear hKK K
 try simp only [zP, zQ, zA2, zA3]
 refine zV 14 (h := ?_)
 try simp only [zP, zQ, zA2, zA3]
 refine wpAnyH_done (by kernel_rfl) ?_ _
 go_wp2
 go_ret
 exact ⟨rfl, bstep HB1.out hHeld.2.2.2⟩
end Go.Mk
end
