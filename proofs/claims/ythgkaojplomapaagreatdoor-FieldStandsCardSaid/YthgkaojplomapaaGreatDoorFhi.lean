/-
  Proved: offHeights and OffHeights of package field as plain
-/
import Derived.Test.YthgkaojplomapaaGreatDoorFhf
set_option maxHeartbeats 32000000
set_option linter.unusedVariables false
set_option linter.unusedSimpArgs false
open Go Go.Proofs Go.RowKit
set_option maxRecDepth 100000
namespace Go.Mk
theorem fdOffHts_any (G : List Int) (AA AG : Option Addr) (na ca m cG : Nat) (st : Int) (L : List CardR) (n cap : Nat) (A : Option Addr) (R : Nat) (w : World) (hG : IntsZ w AG m G) (hm : m ≤ 1000) (hGr : ∀ x ∈ G, 10 ≤ x ∧ x ≤ 999999) (hst1 : 10 ≤ st) (hst2 : st ≤ 1000)
  (hZ : Cards w A n L) (hn : n ≤ 100) (hs : ∀ r ∈ L, r.nh ≤ 1000 ∧ ∀ x ∈ r.H, x.size ≤ 5000) (hs2 : ∀ r ∈ L, r.no ≤ 1000) (ham : (bestT L).a ≤ m) (ha : 0 < (bestT L).a) (h0 : L ≠ []) (hR : R ≤ 900) (hR0 : 0 < R) :
  Calls Tryz.prog 53 #[.agg #[.slice AA na ca, .slice AG m cG, .int .i64 st], .slice A n cap, .int .i64 R] w (fun e w' => ∃ v, e = .returned v ∧ OwnZ w' w.heap.size v ((List.range R).map (hgtO L G st)) ∧ Below w.heap.size w w') := by
 obtain ⟨i0, hi, hz0, hz1, hz2⟩ := info_parts infoInt
 obtain ⟨g, hg⟩ : ∃ g, w.heap.size = g := ⟨_, rfl⟩
 obtain ⟨w1, hw1⟩ : ∃ w1, w.alloc (.cells #[.slice AA na ca, .slice AG m cG, .int .i64 st] 33) = w1 := ⟨_, rfl⟩
 have hb1 : Below w.heap.size w w1 := by rw [← hw1]; exact balloc _ (Below.refl _ _)
 have hgl : g < w1.heap.size := by rw [← hw1, ← hg]; simp
 have hn0 : 0 < n := by have := List.length_pos_iff.2 h0; rw [hZ.1] at this; exact this
 obtain ⟨a, hta⟩ : ∃ a : Nat, (bestT L).a = (a : Int) + 1 := ⟨((bestT L).a - 1).toNat, by omega⟩
 have ham' : a < m := by omega
 obtain ⟨bG, oG, eG, hbG, hcG⟩ := hG.2 (by omega)
 obtain ⟨z, hz⟩ : ∃ z, G[a]? = some z := ⟨_, List.getElem?_eq_getElem (by rw [hG.1]; exact ham')⟩
 have hzr := hGr z (List.mem_of_getElem? hz)
 have hz0' : hgtO L G st 0 = z + st := by
  show G.getD ((bestT L).a - 1).toNat 0 + st = z + st
  rw [hta, Int.add_sub_cancel, Int.toNat_natCast, List.getD_eq_getElem?_getD, hz]; rfl
 have hcz := (hb1.cell (p := ⟨bG, _, none⟩) hbG).trans (hcG a z hz)
 have hbG1 : bG < w1.heap.size := Nat.lt_of_lt_of_le hbG hb1.size
 have HBT : Hid (∀ w', Below w1.heap.size w1 w' → Calls Tryz.prog 40 #[.slice A n cap] w' (RetPost (bestT L).val w')) := Lib.hid fun w' hb => fdBestTally_any L n cap A w' (hZ.below (bstep hb1 hb)) (by omega) hn0 hs
 have HAC : Hid (∀ (k : Nat) (w' : World), k ≤ 1000 → Below w1.heap.size w1 w' → Calls Tryz.prog 109 #[.slice A n cap, .int .i64 k] w' (RetPost (.bool (clL L k)) w')) := Lib.hid fun k w' hk hb => fdAnyCleared_any L n cap A k w' (hZ.below (bstep hb1 hb)) (by omega) hs2 hk
 have HHR : Hid (∀ k, st ≤ hgtO L G st k ∧ hgtO L G st k ≤ 1000000 + (k + 1 : Nat) * 1000) := Lib.hid (hgtO_range hGr hst1 hst2)
 have HHS : Hid (∀ k, hgtO L G st (k + 1) = if clL L k then hgtO L G st k + st else max (hgtO L G st k - st) st) := Lib.hid fun k => rfl
 have HB1 := Lib.hid hb1
 obtain ⟨XX, hXX⟩ : ∃ XX, (List.range R).map (hgtO L G st) = XX := ⟨_, rfl⟩
 rw [hXX]
 have HXX := Lib.hid hXX
 clear hXX
 have HZ0 := Lib.hid hz0'
 have hni : (n : Int) ≤ 100 := by omega
 have hmi : (m : Int) ≤ 1000 := by omega
 have hRi : (R : Int) ≤ 900 := by omega
 have hai : (a : Int) < (m : Int) := by omega
 have ha0 : (0 : Int) ≤ (a : Int) := by omega
 have hat : ((a : Int)).toNat = a := by omega
 have hzz1 := hzr.1
 have hzz2 := hzr.2
 obtain ⟨T, hT⟩ : ∃ T, bestT L = T := ⟨_, rfl⟩
 rw [hT] at HBT hta
 obtain ⟨ta, tb, tc⟩ := T
 unfold Tal.val at HBT
 dsimp only at HBT hta
 obtain rfl : ta = (a : Int) + 1 := hta
 clear hG hGr hZ hs hs2 ham ha h0 hz hzr hz0' hcG hbG hb1 ham' hm hn hT
 subst eG
 have HXV : Hid (∀ w', Below w1.heap.size w1 w' → w'.cell? ⟨g, 0, none⟩ = some (.slice AA na ca) ∧ w'.cell? ⟨g, 1, none⟩ = some (.slice (some ⟨bG, oG, none⟩) m cG) ∧ w'.cell? ⟨g, 2, none⟩ = some (.int .i64 st)) := Lib.hid fun w' hb => by
  refine ⟨?_, ?_, ?_⟩
  all_goals
   refine (hb.cell (p := ⟨g, _, none⟩) hgl).trans ?_
   rw [← hw1, ← hg]; simp
 have HX : Hid (∀ w', Below w1.heap.size w1 w' → (fun w' => (w'.cell? ⟨g, 0, none⟩ = some (.slice AA na ca) ∧ w'.cell? ⟨g, 1, none⟩ = some (.slice (some ⟨bG, oG, none⟩) m cG) ∧ w'.cell? ⟨g, 2, none⟩ = some (.int .i64 st)) ∧ w'.cell? ⟨bG, oG + a, none⟩ = some (.int .i64 z) ∧ Below w1.heap.size w1 w') w') := Lib.hid fun w' hb => ⟨HXV.out w' hb, (hb.cell (p := ⟨bG, _, none⟩) hbG1).trans hcz, hb⟩
 obtain ⟨v0, v1, v2⟩ := HXV.out w1 (Below.refl _ _)
 clear hcz hbG1 hgl
 go_enter Tryz.func53, Tryz.ntmps53
 go_wp2_with fail
 have hix : ∀ w' : World, (Instr.index 103 (.agg #[.int .i64 ((a : Int) + 1), .int .i64 tb, .int .i64 tc]) (.int .i64 0)).run Tryz.prog w' = .ok (.int .i64 ((a : Int) + 1)) w' := fun w' => by kernel_rfl
 have hwa' : IntKind.i64.wrap (a : Int) = (a : Int) := IntWalk.i64_in _ (by omega)
 clear v0 v1 v2 hw1
 refine wp_region_held_drew (S := fun w' => (w'.cell? ⟨g, 0, none⟩ = some (.slice AA na ca) ∧ w'.cell? ⟨g, 1, none⟩ = some (.slice (some ⟨bG, oG, none⟩) m cG) ∧ w'.cell? ⟨g, 2, none⟩ = some (.int .i64 st)) ∧ w'.cell? ⟨bG, oG + a, none⟩ = some (.int .i64 z) ∧ Below w1.heap.size w1 w') (by kernel_rfl) ?_ (fun hHeld => ?_)
 ·exact HX.out _ (Below.drew (Below.refl _ _))
 generalize World.drew _ = we at hHeld ⊢
 refine zU 0 ?_ rfl ?_ ?_
 rotate_left
 ·rintro w ⟨⟨a0, a1, a2⟩, cz, sb⟩
  go_simp
  try with_reducible rfl
 try simp only [Act.put, zA1, zA2, zA3, zA4, zA5, zA6]
 refine zU 1 ?_ rfl ?_ ?_
 rotate_left
 ·rintro w ⟨⟨a0, a1, a2⟩, cz, sb⟩
  go_simp
  try with_reducible rfl
 try simp only [Act.put, zA1, zA2, zA3, zA4, zA5, zA6]
 refine zU 2 ?_ rfl ?_ ?_
 rotate_left
 ·rintro w ⟨⟨a0, a1, a2⟩, cz, sb⟩
  go_simp
  try with_reducible rfl
 try simp only [Act.put, zA1, zA2, zA3, zA4, zA5, zA6]
 refine zU 8 ?_ rfl ?_ ?_
 rotate_left
 ·rintro w ⟨⟨a0, a1, a2⟩, cz, sb⟩
  go_simp
  try with_reducible rfl
 try simp only [Act.put, zA1, zA2, zA3, zA4, zA5, zA6]
 refine zU 9 ?_ rfl ?_ ?_
 rotate_left
 ·rintro w ⟨⟨a0, a1, a2⟩, cz, sb⟩
  go_simp
  try with_reducible rfl
 try simp only [Act.put, zA1, zA2, zA3, zA4, zA5, zA6]
 refine wpAnyH_ready (rs := [3]) (by kernel_rfl) (by simp) ?_
 refine AllReadyH.cons (o := _) rfl (fun K hKK => ?_) AllReadyH.nil
 go_simp
 go_at_call 40
 with_reducible refine (HBT.out _ hHeld.2.2).mono ?_
 rintro e w5 ⟨rfl, hb5⟩
 have hX := bstep hHeld.2.2 hb5
 clear hHeld hb5
 go_wp2_with fail
 refine hKK.out _ _ ?_ (fun hHeld => ?_)
 ·exact HX.out _ hX
 clear hKK K
 try simp only [Act.put, zA1, zA2, zA3, zA4, zA5, zA6]
 clear hX
 refine zU 4 ?_ rfl ?_ ?_
 rotate_left
 ·rintro w ⟨⟨a0, a1, a2⟩, cz, sb⟩
  go_simp
  try with_reducible rfl
 try simp only [Act.put, zA1, zA2, zA3, zA4, zA5, zA6]
 refine zU 5 ?_ rfl ?_ ?_
 rotate_left
 ·rintro w ⟨⟨a0, a1, a2⟩, cz, sb⟩
  go_simp
  try with_reducible rfl
 try simp only [Act.put, zA1, zA2, zA3, zA4, zA5, zA6]
 refine zU 6 ?_ rfl ?_ ?_
 rotate_left
 ·rintro w ⟨⟨a0, a1, a2⟩, cz, sb⟩
  go_simp
  try with_reducible rfl
 try simp only [Act.put, zA1, zA2, zA3, zA4, zA5, zA6]
 refine zU 7 ?_ rfl ?_ ?_
 rotate_left
 ·rintro w ⟨⟨a0, a1, a2⟩, cz, sb⟩
  go_simp
  try with_reducible rfl
 try simp only [Act.put, zA1, zA2, zA3, zA4, zA5, zA6]
 refine zU 10 ?_ rfl ?_ ?_
 rotate_left
 ·rintro w ⟨⟨a0, a1, a2⟩, cz, sb⟩
  go_simp
  try with_reducible rfl
 try simp only [Act.put, zA1, zA2, zA3, zA4, zA5, zA6]
 refine zU 11 ?_ rfl ?_ ?_
 rotate_left
 ·rintro w ⟨⟨a0, a1, a2⟩, cz, sb⟩
  go_simp
  try with_reducible rfl
 try simp only [Act.put, zA1, zA2, zA3, zA4, zA5, zA6]
 refine wpAnyH_done (by kernel_rfl) ?_ _
 have HF := Lib.hid hHeld.2.2
 have e0 := HZ0.out
 clear hHeld
 have hwr : IntKind.i64.wrap (z + st) = z + st := IntWalk.i64_in _ (by omega)
 have HO0 := Lib.hid (one_int w5 w1.heap.size (z + st) HF.out.size)
 have HFA := Lib.hid (HF.out.alloc HF.out.size (.cells #[.int .i64 (z + st)] 3))
 obtain ⟨p5, hp5⟩ : ∃ p5, w5.heap.size = p5 := ⟨_, rfl⟩
 obtain ⟨wa, hwa⟩ : ∃ wa, w5.alloc (.cells #[.int .i64 (z + st)] 3) = wa := ⟨_, rfl⟩
 rw [hwa, hp5] at HO0
 rw [hwa] at HFA
 go_wp2
 go_loopw [7, 8, 25] (fun h v i wr => ∃ k : Nat, k + 1 ≤ R ∧ i = .int .i64 k ∧ h = .int .i64 (hgtO L G st k) ∧ OwnZ wr w1.heap.size v ((List.range (k + 1)).map (hgtO L G st)) ∧ Below w1.heap.size w1 wr) (fun _ _ i _ => R - (RowKit.intOf i).toNat)
 case atStart => exact ⟨0, by omega, rfl, by rw [e0, hwr], by rw [show (List.range (0 + 1)).map (hgtO L G st) = [z + st] by rw [← e0]; rfl]; exact HO0.out, HFA.out⟩
 case round =>
  obtain ⟨k, hk, rfl, rfl, hown, hb⟩ := hrel
  clear e0
  by_cases hlt : k + 1 < R
  ·have hki : (k : Int) < (R : Int) - 1 := by omega
   have hk0 : (0 : Int) ≤ (k : Int) := by omega
   have hkt : ((k : Int)).toNat = k := by omega
   have HB := Lib.hid hb
   have hh := HHR.out k
   have HST := Lib.hid (HHS.out k)
   have hAC := HAC.out k wr (by omega) hb
   have Hrs := Lib.hid (range_snoc (hgtO L G st) (k + 1))
   have hlen : ((List.range (k + 1)).map (hgtO L G st)).length = k + 1 := by simp
   have HO := Lib.hid hown
   obtain ⟨Q, hQ⟩ : ∃ Q, (List.range (k + 1)).map (hgtO L G st) = Q := ⟨_, rfl⟩
   rw [hQ] at Hrs hlen HO
   obtain ⟨h, hh0⟩ : ∃ h, hgtO L G st k = h := ⟨_, rfl⟩
   rw [hh0] at hh HST ⊢
   have hh1 := hh.1
   have hh2 : h ≤ 3000000 := by have := hh.2; omega
   have Hlen := Lib.hid hlen
   clear hh hh0 hb hown hQ hlen hwa hp5 hwr
   obtain ⟨c, hc⟩ : ∃ c, clL L k = c := ⟨_, rfl⟩
   rw [hc] at hAC HST
   obtain ⟨h', hh', hcs⟩ : ∃ h', hgtO L G st (k + 1) = h' ∧ ((c = true ∧ h' = h + st) ∨ (c = false ∧ (if h - st < st then st else h - st) = h')) := by
    refine ⟨_, rfl, ?_⟩
    rw [HST.out]
    cases c with
    | true => exact .inl ⟨rfl, rfl⟩
    | false => exact .inr ⟨rfl, by simp only [Bool.false_eq_true, if_false]; split <;> omega⟩
   have hb0 : 0 ≤ h' ∧ h' ≤ 4000000 := by
    rcases hcs with ⟨_, e⟩ | ⟨_, e⟩
    ·omega
    ·split at e <;> omega
   obtain ⟨hb0, hb0'⟩ := hb0
   rw [hh'] at Hrs
   have HH' := Lib.hid hh'
   clear hh' hc HST
   obtain ⟨v0, v1, v2⟩ := HXV.out wr HB.out
   go_wp2_with fail
   refine hAC.mono ?_
   rintro e w2 ⟨rfl, hb2⟩
   have hB2 := bstep HB.out hb2
   clear v0 v1 v2
   obtain ⟨v0, v1, v2⟩ := HXV.out w2 hB2
   have hown5 : OwnZ w2 w1.heap.size _ Q := ownN HO.out hb2
   unfold OwnZ at hown5
   rw [Hlen.out] at hown5
   clear hb2 hAC
   have HB2 := Lib.hid hB2
   rcases hcs with ⟨rfl, rfl⟩ | ⟨rfl, hmx⟩
   ·have hmx0 := Lib.hid True.intro
    go_wp2_with (at_builtin; refine wpList_append_own _ rfl _ _ 23 rfl w1.heap.size 3 i0 (.int .i64 0) 1 8 Tryz.underlying23 hi hz0 hz1 hz2 rfl (by decide) _ _ _ rfl (World.ownsRow.alloc hown5 _) ⟨w2.heap.size, 0, none⟩ 1 1 [.int .i64 (h + st)] rfl rfl ?c1 ?c2 ?c3 ?c4 ?c5 ?_)
    case c1 =>
     intro j u hj
     match j, hj with
     | 0, hj => simp at hj; subst hj; simp [Addr.add]
    case c2 => intro u hu; simp at hu; subst hu; rfl
    case c3 => unfold maxLen; omega
    case c4 => omega
    case c5 => have := HB2.out.size; simp; omega
    intro v' w6 hown' hgrow _
    have hb6 : Below w1.heap.size w1 w6 := (HB2.out.alloc HB2.out.size _).grown hgrow (by have := HB2.out.size; simp; omega) (fun r hr => (World.ownsRow.lt hown5 r hr).1)
    have ho6 : OwnZ w6 w1.heap.size v' ((List.range (k + 1 + 1)).map (hgtO L G st)) := by
     rw [Hrs.out]
     exact OwnZ.next (by rw [Hlen.out]; exact hown')
    clear hown' hgrow hown5
    go_wp2
    go_roundw
    case rel => exact ⟨k + 1, by omega, by go_num, by rw [HH'.out], ho6, hb6⟩
    case measure => simp [RowKit.intOf]; omega
   ·have Hmx := Lib.hid hmx
    go_wp2_with (at_builtin; refine wpList_append_own _ rfl _ _ 23 rfl w1.heap.size 3 i0 (.int .i64 0) 1 8 Tryz.underlying23 hi hz0 hz1 hz2 rfl (by decide) _ _ _ rfl (World.ownsRow.alloc hown5 _) ⟨w2.heap.size, 0, none⟩ 1 1 [.int .i64 h'] rfl rfl ?c1 ?c2 ?c3 ?c4 ?c5 ?_)
    case c1 =>
     intro j u hj
     match j, hj with
     | 0, hj => simp at hj; subst hj; simp [Addr.add]
    case c2 => intro u hu; simp at hu; subst hu; rfl
    case c3 => unfold maxLen; omega
    case c4 => omega
    case c5 => have := HB2.out.size; simp; omega
    intro v' w6 hown' hgrow _
    have hb6 : Below w1.heap.size w1 w6 := (HB2.out.alloc HB2.out.size _).grown hgrow (by have := HB2.out.size; simp; omega) (fun r hr => (World.ownsRow.lt hown5 r hr).1)
    have ho6 : OwnZ w6 w1.heap.size v' ((List.range (k + 1 + 1)).map (hgtO L G st)) := by
     rw [Hrs.out]
     exact OwnZ.next (by rw [Hlen.out]; exact hown')
    clear hown' hgrow hown5
    go_wp2
    go_roundw
    case rel => exact ⟨k + 1, by omega, by go_num, by rw [HH'.out], ho6, hb6⟩
    case measure => simp [RowKit.intOf]; omega
  ·obtain rfl : k + 1 = R := by omega
   have hki : ¬ (k : Int) < ((k + 1 : Nat) : Int) - 1 := by omega
   have HE : Hid (OwnZ wr w.heap.size _ XX ∧ Below w.heap.size w wr) := Lib.hid ⟨OwnZ.low5 (by rw [← HXX.out]; exact hown) HB1.out.size, bstep HB1.out hb⟩
   clear hown hb hwa hp5 hwr
   go_wp2
   go_ret
   exact ⟨_, rfl, by rw [← hg]; exact HE.out⟩
def offE (N : List ByteArray) (G : List Int) (st : Int) (L : List CardR) : Int := if crdE N G st L = 0 then (if rndG 0 L = 0 ∨ ¬ 0 < (bestT L).a then 7 else 0) else crdE N G st L
theorem fdOffHeights_any (N : List ByteArray) (nN cN : Nat) (AN : Option Addr) (G : List Int) (AG : Option Addr) (m cG : Nat) (st : Int) (L : List CardR) (n cap : Nat) (A : Option Addr) (w : World) (hN : TextsZ w AN nN N) (hnN : nN ≤ 1000) (hcN : nN ≤ cN) (hsN : ∀ x ∈ N, x.size ≤ maxLen) (hG : IntsZ w AG m G) (hm : m ≤ 1000) (hZ : Cards w A n L) (hn : n ≤ 1000) (hS : ∀ r ∈ L, CardS r) (hno : ∀ r ∈ L, r.no ≤ 900) :
  Calls Tryz.prog 10 #[.agg #[.slice AN nN cN, .slice AG m cG, .int .i64 st], .slice A n cap] w (fun e w' => ∃ v, e = .returned (.tuple #[v, .int .i64 (offE N G st L)]) ∧ OwnZ w' w.heap.size v (if offE N G st L = 0 then offR L G st else []) ∧ Below w.heap.size w w') := by
 obtain ⟨g, hg⟩ : ∃ g, w.heap.size = g := ⟨_, rfl⟩
 obtain ⟨w1, hw1⟩ : ∃ w1, w.alloc (.cells #[.slice AN nN cN, .slice AG m cG, .int .i64 st] 33) = w1 := ⟨_, rfl⟩
 have hb1 : Below w.heap.size w w1 := by rw [← hw1]; exact balloc _ (Below.refl _ _)
 have hgl : g < w1.heap.size := by rw [← hw1, ← hg]; simp
 have HXV : Hid (∀ w', Below w1.heap.size w1 w' → w'.cell? ⟨g, 0, none⟩ = some (.slice AN nN cN) ∧ w'.cell? ⟨g, 1, none⟩ = some (.slice AG m cG) ∧ w'.cell? ⟨g, 2, none⟩ = some (.int .i64 st)) := Lib.hid fun w' hb => by
  refine ⟨?_, ?_, ?_⟩
  all_goals
   refine (hb.cell (p := ⟨g, _, none⟩) hgl).trans ?_
   rw [← hw1, ← hg]; simp
 have hC := fdCheckCards_any N nN cN AN G AG m cG st L n cap A w1 (hN.below hb1) hnN hcN hsN (hG.below hb1) hm (hZ.below hb1) hn hS
 obtain ⟨v0, v1, v2⟩ := HXV.out w1 (Below.refl _ _)
 have HB1 := Lib.hid hb1
 have HNil : ∀ w' : World, OwnZ w' w.heap.size (.slice none 0 0) [] := fun w' => World.ownsRow_nil _ _ _ _
 have HNIL := Lib.hid HNil
 clear HNil
 unfold offE
 by_cases h0 : crdE N G st L = 0
 ·rw [h0] at hC
  rw [if_pos h0]
  obtain ⟨hve, _, hpos, h32, hrow⟩ := crdE_ok h0
  obtain ⟨hGr, hst1, hst2⟩ := ver_ok hve
  have hLn : L.length = n := hZ.1
  have hL0 : L ≠ [] := List.ne_nil_of_length_pos hpos
  have hTs : ∀ r ∈ L, r.nh ≤ 1000 ∧ ∀ x ∈ r.H, x.size ≤ 5000 := fun r hr => ⟨(hS r hr).2.1, (hS r hr).2.2.2.1⟩
  have ham : (bestT L).a ≤ m := by
   obtain ⟨_, y, hy, ey⟩ := bestT_max hL0
   have e1 := congrArg (fun l => l.headD 0) ey
   have e2 : (talR y).a = (bestT L).a := e1
   obtain ⟨j, hj⟩ := List.mem_iff_getElem?.1 hy
   have h1 := (hrow j y hj).2.2
   rw [hG.1] at h1
   have h2 := (tal_range y).2
   obtain ⟨_, _, _, _, hc⟩ := hZ.2 (by omega)
   have h3 := (hc j y hj).2.1.1
   omega
  have HEA : Hid (∀ w', Below w1.heap.size w1 w' → Calls Tryz.prog 51 #[.slice A n cap, .func (.func 52) #[] #[]] w' (fun e w'' => ∃ v, e = .returned v ∧ OwnZ w'' w'.heap.size v (L.map fun r => (r.no : Int)) ∧ Below w'.heap.size w' w'')) := Lib.hid fun w' hb => fdEachCI_any L n cap A w' (hZ.below (bstep hb1 hb)) hn
  obtain ⟨R, hR⟩ : ∃ R, rndG 0 L = R := ⟨_, rfl⟩
  have hRl : R ≤ 900 := by rw [← hR]; exact rndG_le L 0 (by omega) hno
  have HMX : Hid (∀ (w' : World) (v : Value) (B : Nat), OwnZ w' B v (L.map fun r => (r.no : Int)) → ∃ A' c', v = .slice A' n c' ∧ Calls Tryz.prog 50 #[.slice A' n c'] w' (RetPost (.int .i64 (R : Nat)) w')) := Lib.hid fun w' v B ho => by
   obtain ⟨A', c', rfl, hz⟩ := IntsZ.of_own ho
   rw [List.length_map, hLn] at hz ⊢
   refine ⟨A', c', rfl, ?_⟩
   rw [← hR]
   exact slMaxI_any L n c' A' w' hz hn (by omega) fun r hr => by have := hno r hr; omega
  have HBT : Hid (∀ w', Below w1.heap.size w1 w' → Calls Tryz.prog 40 #[.slice A n cap] w' (RetPost (bestT L).val w')) := Lib.hid fun w' hb => fdBestTally_any L n cap A w' (hZ.below (bstep hb1 hb)) hn (by omega) hTs
  have HOH : Hid (0 < R → 0 < (bestT L).a → ∀ w', Below w1.heap.size w1 w' → Calls Tryz.prog 53 #[.agg #[.slice AN nN cN, .slice AG m cG, .int .i64 st], .slice A n cap, .int .i64 R] w' (fun e w'' => ∃ v, e = .returned v ∧ OwnZ w'' w'.heap.size v (offR L G st) ∧ Below w'.heap.size w' w'')) := Lib.hid fun h1 h2 w' hb => by
   unfold offR
   rw [hR]
   exact fdOffHts_any G AN AG nN cN m cG st L n cap A R w' (hG.below (bstep hb1 hb)) hm hGr hst1 hst2 (hZ.below (bstep hb1 hb)) (by omega) hTs (fun r hr => by have := hno r hr; omega) ham h2 hL0 hRl h1
  have hRi : (R : Int) ≤ 900 := by omega
  have HT0 : Hid (0 ≤ (bestT L).a) := Lib.hid (by
   obtain ⟨_, y, hy, ey⟩ := bestT_max hL0
   have e1 := congrArg (fun l => l.headD 0) ey
   have e2 : (talR y).a = (bestT L).a := e1
   have := (tal_range y).1
   omega)
  rw [hR]
  obtain ⟨T, hT⟩ : ∃ T, bestT L = T := ⟨_, rfl⟩
  rw [hT] at HBT HOH HT0 ⊢
  obtain ⟨ta, tb, tc⟩ := T
  unfold Tal.val at HBT
  dsimp only at HBT HOH HT0 ⊢
  clear hN hnN hcN hsN hG hm hZ hn hS hno hb1 hve hpos h32 hrow hGr hst1 hst2 hLn hL0 hTs ham hR hT h0 hgl
  by_cases hr0 : R = 0
  ·rw [if_pos (Or.inl hr0), if_neg (by decide)]
   have hb0 : ((R : Int) == 0) = true := by simp [hr0]
   clear HOH hr0
   go_enter Tryz.func10, Tryz.ntmps10
   go_wp2_with fail
   refine hC.mono ?_
   rintro e w2 ⟨rfl, hb2⟩
   have HB2 := Lib.hid hb2
   clear hb2 v0 v1 v2 hw1
   go_wp2_with fail
   refine (HEA.out w2 HB2.out).mono ?_
   rintro e w3 ⟨v3, rfl, ho3, hb3⟩
   have HB3 := Lib.hid (bstep HB2.out hb3)
   obtain ⟨A3, c3, rfl, hMX⟩ := HMX.out w3 v3 _ ho3
   clear ho3 hb3
   go_wp2_with fail
   refine hMX.mono ?_
   rintro e w4 ⟨rfl, hb4⟩
   have HB4 := Lib.hid (bstep HB3.out hb4)
   clear hb4 hMX
   have HF := Lib.hid (bstep HB1.out HB4.out)
   go_wp2
   go_ret2
   exact ⟨_, rfl, HNIL.out _, HF.out⟩
  ·have hb0 : ((R : Int) == 0) = false := by simp [hr0]
   by_cases ht0 : 0 < ta
   ·rw [if_neg (by omega), if_pos rfl]
    have hOH := Lib.hid (HOH.out (by omega) ht0)
    have hta : (ta == 0) = false := by simp; omega
    clear HOH hr0
    go_enter Tryz.func10, Tryz.ntmps10
    go_wp2_with fail
    refine hC.mono ?_
    rintro e w2 ⟨rfl, hb2⟩
    have HB2 := Lib.hid hb2
    clear hb2 v0 v1 v2 hw1
    go_wp2_with fail
    refine (HEA.out w2 HB2.out).mono ?_
    rintro e w3 ⟨v3, rfl, ho3, hb3⟩
    have HB3 := Lib.hid (bstep HB2.out hb3)
    obtain ⟨A3, c3, rfl, hMX⟩ := HMX.out w3 v3 _ ho3
    clear ho3 hb3
    go_wp2_with fail
    refine hMX.mono ?_
    rintro e w4 ⟨rfl, hb4⟩
    have HB4 := Lib.hid (bstep HB3.out hb4)
    clear hb4 hMX
    go_wp2_with fail
    refine (HBT.out w4 HB4.out).mono ?_
    rintro e w5 ⟨rfl, hb5⟩
    have HB5 := Lib.hid (bstep HB4.out hb5)
    obtain ⟨v0, v1, v2⟩ := HXV.out w5 HB5.out
    clear hb5
    have hix : (Instr.index 103 (.agg #[.int .i64 ta, .int .i64 tb, .int .i64 tc]) (.int .i64 0)).run Tryz.prog w5 = .ok (.int .i64 ta) w5 := by kernel_rfl
    go_wp2_with fail
    refine (hOH.out w5 HB5.out).mono ?_
    rintro e w6 ⟨v6, rfl, ho6, hb6⟩
    have HF : Hid (OwnZ w6 w.heap.size v6 (offR L G st) ∧ Below w.heap.size w w6) := Lib.hid ⟨OwnZ.low5 ho6 (bstep HB1.out HB5.out).size, bstep HB1.out (bstep HB5.out hb6)⟩
    clear ho6 hb6
    go_wp2
    go_ret2
    exact ⟨_, rfl, HF.out⟩
   ·rw [if_pos (Or.inr ht0), if_neg (by decide)]
    have hta : (ta == 0) = true := by
     have := HT0.out
     simp; omega
    clear HOH hr0
    go_enter Tryz.func10, Tryz.ntmps10
    go_wp2_with fail
    refine hC.mono ?_
    rintro e w2 ⟨rfl, hb2⟩
    have HB2 := Lib.hid hb2
    clear hb2 v0 v1 v2 hw1
    go_wp2_with fail
    refine (HEA.out w2 HB2.out).mono ?_
    rintro e w3 ⟨v3, rfl, ho3, hb3⟩
    have HB3 := Lib.hid (bstep HB2.out hb3)
    obtain ⟨A3, c3, rfl, hMX⟩ := HMX.out w3 v3 _ ho3
    clear ho3 hb3
    go_wp2_with fail
    refine hMX.mono ?_
    rintro e w4 ⟨rfl, hb4⟩
    have HB4 := Lib.hid (bstep HB3.out hb4)
    clear hb4 hMX
    go_wp2_with fail
    refine (HBT.out w4 HB4.out).mono ?_
    rintro e w5 ⟨rfl, hb5⟩
    have HB5 := Lib.hid (bstep HB4.out hb5)
    clear hb5
    have hix : (Instr.index 103 (.agg #[.int .i64 ta, .int .i64 tb, .int .i64 tc]) (.int .i64 0)).run Tryz.prog w5 = .ok (.int .i64 ta) w5 := by kernel_rfl
    have HF := Lib.hid (bstep HB1.out HB5.out)
    go_wp2
    go_ret2
    exact ⟨_, rfl, HNIL.out _, HF.out⟩
 ·rw [if_neg h0, if_neg h0]
  have hne : (crdE N G st L != 0) = true := by rw [bne_iff_ne]; exact h0
  generalize crdE N G st L = y at *
  clear hN hnN hcN hsN hG hm hZ hn hS hno hb1 h0 hgl
  go_enter Tryz.func10, Tryz.ntmps10
  go_wp2_with fail
  refine hC.mono ?_
  rintro e w2 ⟨rfl, hb2⟩
  have HF := Lib.hid (bstep HB1.out hb2)
  clear hb2
  go_wp2
  go_ret2
  exact ⟨_, rfl, HNIL.out _, HF.out⟩
end Go.Mk
