/-
  Proved: the reference's Rounds, Cleared, offHeight and OffHeights as plain
  Proved: the reference's OffHeights; of package field the rounds of each card, their greatest number, and
-/
import Derived.Test.YthgkaojplomapaaGreatDoorFhd
set_option maxHeartbeats 32000000
set_option linter.unusedVariables false
set_option linter.unusedSimpArgs false
open Go Go.Proofs Go.RowKit
set_option maxRecDepth 100000
section
namespace Go.Mk
theorem wpAnyH_more5 {P : Program} {md : Region.Mode} {ops : Array Oper} {Q : Exit → Act → World → Prop} {S S' : World → Prop} (hS : ∀ w, S' w → S w) :
  ∀ (fuel : Nat) (listed : Array Bool) (a : Act) (w : World), wpAnyH P md ops Q S' fuel listed a w → wpAnyH P md ops Q S fuel listed a w
 | 0, _, _, _, h => h
 | fuel + 1, _, _, _, h => ⟨h.1, fun i hi => wpOp_mono (fun a' w' h' => ⟨hS _ h'.1, wpAnyH_more5 hS fuel _ a' w' h'.2⟩) (h.2 i hi)⟩
theorem r6Rounds_any (L : List CardR) (n cap : Nat) (A : Option Addr) (w : World) (hZ : Cards w A n L) (hn : n ≤ 100) (hs : ∀ r ∈ L, r.no ≤ 1000) :
  Calls Tryz.prog 17 #[.slice A n cap] w (RetPost (.int .i64 (rndG 0 L : Nat)) w) := by
 have hni : (n : Int) ≤ 100 := by omega
 have H := Lib.hid hZ
 have HL := Lib.hid hZ.1
 have HS := Lib.hid hs
 obtain ⟨y, hy⟩ : ∃ y, rndG 0 L = y := ⟨_, rfl⟩
 rw [hy]
 have HY : Hid (rndG 0 (L.drop 0) = y) := Lib.hid hy
 clear hZ hs hn hy
 go_enter Tryz.func17, Tryz.ntmps17
 go_wp2
 go_loopw [3, 4] (fun v i wr => ∃ k t : Nat, k ≤ n ∧ i = .int .i64 k ∧ v = .int .i64 t ∧ Hid (rndG t (L.drop k) = y) ∧ Below w.heap.size w wr) (fun _ i _ => n - (RowKit.intOf i).toNat)
 case atStart => exact ⟨0, 0, by omega, rfl, rfl, HY, Below.refl _ _⟩
 case round =>
  obtain ⟨k, t, hk, rfl, rfl, HK, hb⟩ := hrel
  by_cases hlt : k < n
  ·obtain ⟨b', off, r, rfl, hbl, hx, ⟨hc0, hc1, hc2, hc3⟩, hCZ⟩ := (H.out.below hb).at_ hlt
   have hki : (k : Int) < (n : Int) := by omega
   have hk0 : (0 : Int) ≤ (k : Int) := by omega
   have hkt : ((k : Int)).toNat = k := by omega
   have hst := HK.out
   rw [rndG_drop hx] at hst
   have hno := HS.out r (List.mem_of_getElem? hx)
   have Hst := Lib.hid hst
   have HB := Lib.hid hb
   obtain ⟨s, AH, nh, ch, HH, AO, no, co, O, rt⟩ := r
   dsimp only at *
   have hmax : (if t < no then (no : Int) else (t : Int)) = ((max t no : Nat) : Int) := by split <;> omega
   have Hmax := Lib.hid hmax
   clear hmax
   clear hst hx hb HK hCZ
   go_wp2
   exact ⟨⟨k + 1, max t no, by omega, by go_num, by rw [← Hmax.out], Hst, HB.out⟩, by simp [RowKit.intOf]; omega⟩
  ·have hst := HK.out
   rw [List.drop_eq_nil_of_le (by rw [HL.out]; omega)] at hst
   have e : t = y := hst
   subst e
   have HB := Lib.hid hb
   clear hst hb HK
   go_wp2
   go_ret
   exact ⟨rfl, HB.out⟩
theorem r6Cleared_any (L : List CardR) (n cap : Nat) (A : Option Addr) (w : World) (hZ : Cards w A n L) (hn : n ≤ 100) (hs : ∀ r ∈ L, r.nh ≤ 1000 ∧ ∀ x ∈ r.H, x.size ≤ 5000) (hv : ∀ r ∈ L, CardV r) (h0 : L ≠ []) :
  Calls Tryz.prog 18 #[.slice A n cap] w (RetPost (.bool (decide (0 < (bestT L).a))) w) := by
 have hF := r6firsts_any L n cap A w hZ hn hs hv
 obtain ⟨q, hq⟩ : ∃ q, ((fstsL L).map fun i : Nat => (i : Int)).length = q := ⟨_, rfl⟩
 have hql : q ≤ 100 := by
  rw [← hq, List.length_map]
  unfold fstsL
  have := List.length_filter_le (fstB L (bestT L)) (List.range L.length)
  rw [List.length_range] at this
  have := hZ.1
  omega
 have he : decide (0 < (bestT L).a) = decide ((0 : Int) < (q : Int)) := by
  refine decide_eq_decide.2 ⟨fun z => ?_, fun z => ?_⟩
  ·rcases Nat.eq_zero_or_pos q with h | h
   ·rw [h, List.length_map] at hq
    exact absurd z ((fsts_none h0).1 (List.eq_nil_of_length_eq_zero hq))
   ·omega
  ·refine Classical.byContradiction fun z2 => ?_
   have := (fsts_none h0).2 z2
   rw [this] at hq
   simp at hq; omega
 rw [he]
 have HQ := Lib.hid hq
 clear hZ hs hv hq he h0
 go_enter Tryz.func18, Tryz.ntmps18
 go_wp2_with fail
 refine hF.mono ?_
 rintro e w2 ⟨v, rfl, ho, hb⟩
 obtain ⟨A', c', rfl, hZ'⟩ := IntsZ.of_own ho
 rw [HQ.out]
 have HB := Lib.hid hb
 clear ho hZ' hb hF
 have hqi : (q : Int) ≤ 100 := by omega
 go_wp2
 go_ret
 exact ⟨by simp, HB.out⟩
theorem r6offHeight_any (G : List Int) (AA AG : Option Addr) (na ca m cG : Nat) (st : Int) (L : List CardR) (n cap : Nat) (A : Option Addr) (rd : Nat) (w : World) (hG : IntsZ w AG m G) (hm : m ≤ 1000) (hGr : ∀ x ∈ G, 10 ≤ x ∧ x ≤ 999999) (hst1 : 10 ≤ st) (hst2 : st ≤ 1000)
  (hZ : Cards w A n L) (hn : n ≤ 100) (hs : ∀ r ∈ L, r.nh ≤ 1000 ∧ ∀ x ∈ r.H, x.size ≤ 5000) (hs2 : ∀ r ∈ L, r.no ≤ 1000) (hle : ∀ r ∈ L, r.nh ≤ m) (hv : ∀ r ∈ L, CardV r) (ha : 0 < (bestT L).a) (h0 : L ≠ []) (hrd : rd ≤ 1000) :
  Calls Tryz.prog 69 #[.agg #[.slice AA na ca, .slice AG m cG, .int .i64 st], .slice A n cap, .int .i64 rd] w (RetPost (.int .i64 (hgtO L G st rd)) w) := by
 obtain ⟨g, hg⟩ : ∃ g, w.heap.size = g := ⟨_, rfl⟩
 obtain ⟨w1, hw1⟩ : ∃ w1, w.alloc (.cells #[.slice AA na ca, .slice AG m cG, .int .i64 st] 25) = w1 := ⟨_, rfl⟩
 have hb1 : Below w.heap.size w w1 := by rw [← hw1]; exact balloc _ (Below.refl _ _)
 have hgl : g < w1.heap.size := by rw [← hw1, ← hg]; simp
 obtain ⟨i, fl, hfl⟩ : ∃ i fl, fstsL L = i :: fl := by
  cases hf : fstsL L with
  | nil => exact absurd ha ((fsts_none h0).1 hf)
  | cons i fl => exact ⟨i, fl, rfl⟩
 obtain ⟨r, hr, hra, hra0⟩ := fsts_head hfl
 have hrm := List.mem_of_getElem? hr
 have hil : i < n := by have := (List.getElem?_eq_some_iff.1 hr).1; rw [hZ.1] at this; exact this
 obtain ⟨b', off, r', eA, hbl, hr', hcr, hCZ⟩ := hZ.at_ hil
 obtain rfl : r' = r := by rw [hr] at hr'; exact (Option.some.inj hr').symm
 obtain ⟨a, hta⟩ : ∃ a : Nat, (talR r').a = (a : Int) + 1 := ⟨((talR r').a - 1).toNat, by omega⟩
 have ham : a < m := by
  have h1 := (tal_range r').2
  have h2 := hle r' hrm
  have h3 := hCZ.1.1
  omega
 obtain ⟨bG, oG, eG, hbG, hcG⟩ := hG.2 (by omega)
 obtain ⟨z, hz⟩ : ∃ z, G[a]? = some z := ⟨_, List.getElem?_eq_getElem (by rw [hG.1]; exact ham)⟩
 have hzr := hGr z (List.mem_of_getElem? hz)
 have hz0 : hgtO L G st 0 = z + st := by
  show G.getD ((bestT L).a - 1).toNat 0 + st = z + st
  rw [← hra, hta, Int.add_sub_cancel, Int.toNat_natCast, List.getD_eq_getElem?_getD, hz]; rfl
 have HQ5 : Hid ((fstsL L).length = fl.length + 1) := Lib.hid (by rw [hfl]; rfl)
 have HH5 : Hid ((fstsL L).map (fun i : Nat => (i : Int)) = (i : Int) :: fl.map fun i : Nat => (i : Int)) := Lib.hid (by rw [hfl]; rfl)
 obtain ⟨q5, hq5⟩ : ∃ q5, fl.length = q5 := ⟨_, rfl⟩
 rw [hq5] at HQ5
 have hq5l : q5 ≤ 100 := by
  have h1 := HQ5.out
  unfold fstsL at h1
  have h2 := List.length_filter_le (fstB L (bestT L)) (List.range L.length)
  rw [List.length_range] at h2
  have := hZ.1
  omega
 have hcz := (hb1.cell (p := ⟨bG, _, none⟩) hbG).trans (hcG a z hz)
 have hbG1 : bG < w1.heap.size := Nat.lt_of_lt_of_le hbG hb1.size
 have HFI : Hid (∀ w', Below w1.heap.size w1 w' → Calls Tryz.prog 62 #[.slice A n cap] w' (fun e w'' => ∃ v, e = .returned v ∧ OwnZ w'' w'.heap.size v ((fstsL L).map fun i : Nat => (i : Int)) ∧ Below w'.heap.size w' w'')) := Lib.hid fun w' hb => r6firsts_any L n cap A w' (hZ.below (bstep hb1 hb)) hn hs hv
 have HBE : Hid (∀ w', Below w1.heap.size w1 w' → Calls Tryz.prog 64 #[r'.val] w' (RetPost (.int .i64 (a : Nat)) w')) := Lib.hid fun w' hb => by
  have := r6best_any r' w' (hCZ.below (bstep hb1 hb)) (hs r' hrm).1 (hs r' hrm).2 (hv r' hrm)
  rw [hta, Int.add_sub_cancel] at this; exact this
 have HZ := Lib.hid (hZ.below hb1)
 have HL := Lib.hid hZ.1
 have HS2 := Lib.hid hs2
 have HHR : Hid (∀ k, st ≤ hgtO L G st k ∧ hgtO L G st k ≤ 1000000 + (k + 1 : Nat) * 1000) := Lib.hid (hgtO_range hGr hst1 hst2)
 have HHS : Hid (∀ k, hgtO L G st (k + 1) = if clL L k then hgtO L G st k + st else max (hgtO L G st k - st) st) := Lib.hid fun k => rfl
 have HB1 := Lib.hid hb1
 have HZ0 := Lib.hid hz0
 have hni : (n : Int) ≤ 100 := by omega
 have hmi : (m : Int) ≤ 1000 := by omega
 have hrdi : (rd : Int) ≤ 1000 := by omega
 have hii : (i : Int) < (n : Int) := by omega
 have hi0 : (0 : Int) ≤ (i : Int) := by omega
 have hit : ((i : Int)).toNat = i := by omega
 have hai : (a : Int) < (m : Int) := by omega
 have ha0 : (0 : Int) ≤ (a : Int) := by omega
 have hat : ((a : Int)).toNat = a := by omega
 have hzz1 := hzr.1
 have hzz2 := hzr.2
 have hq5i : (0 : Int) < ((q5 + 1 : Nat) : Int) := by omega
 have HXc : Hid (∀ w', Below w1.heap.size w1 w' → w'.cell? ⟨b', off + i * 4, none⟩ = some (.string r'.s) ∧ w'.cell? ⟨b', off + i * 4 + 1, none⟩ = some (.slice r'.AH r'.nh r'.ch) ∧ w'.cell? ⟨b', off + i * 4 + 2, none⟩ = some (.slice r'.AO r'.no r'.co) ∧ w'.cell? ⟨b', off + i * 4 + 3, none⟩ = some (.bool r'.rt)) := Lib.hid fun w' hb => by
  have hb' := bstep hb1 hb
  exact ⟨(hb'.cell (p := ⟨b', _, none⟩) hbl).trans hcr.1, (hb'.cell (p := ⟨b', _, none⟩) hbl).trans hcr.2.1, (hb'.cell (p := ⟨b', _, none⟩) hbl).trans hcr.2.2.1, (hb'.cell (p := ⟨b', _, none⟩) hbl).trans hcr.2.2.2⟩
 clear hG hGr hZ hs hs2 hle hv ha h0 hfl hr hra hra0 hrm hr' hcr hCZ hta hz hzr hz0 hcG hbG hbl hb1 hil ham hq5 hm hn hrd
 obtain ⟨s1, A1, n1, c1, H1, B1, m1, d1, O1, r1⟩ := r'
 unfold CardR.val at HBE
 dsimp only at *
 subst eA eG
 have HXV : Hid (∀ w', Below w1.heap.size w1 w' → w'.cell? ⟨g, 0, none⟩ = some (.slice AA na ca) ∧ w'.cell? ⟨g, 1, none⟩ = some (.slice (some ⟨bG, oG, none⟩) m cG) ∧ w'.cell? ⟨g, 2, none⟩ = some (.int .i64 st)) := Lib.hid fun w' hb => by
  refine ⟨?_, ?_, ?_⟩
  all_goals
   refine (hb.cell (p := ⟨g, _, none⟩) hgl).trans ?_
   rw [← hw1, ← hg]; simp
 have HX : Hid (∀ w', Below w1.heap.size w1 w' → (fun w' => (w'.cell? ⟨g, 0, none⟩ = some (.slice AA na ca) ∧ w'.cell? ⟨g, 1, none⟩ = some (.slice (some ⟨bG, oG, none⟩) m cG) ∧ w'.cell? ⟨g, 2, none⟩ = some (.int .i64 st)) ∧ (w'.cell? ⟨b', off + i * 4, none⟩ = some (.string s1) ∧ w'.cell? ⟨b', off + i * 4 + 1, none⟩ = some (.slice A1 n1 c1) ∧ w'.cell? ⟨b', off + i * 4 + 2, none⟩ = some (.slice B1 m1 d1) ∧ w'.cell? ⟨b', off + i * 4 + 3, none⟩ = some (.bool r1)) ∧ w'.cell? ⟨bG, oG + a, none⟩ = some (.int .i64 z) ∧ Below w1.heap.size w1 w') w') := Lib.hid fun w' hb => ⟨HXV.out w' hb, HXc.out w' hb, (hb.cell (p := ⟨bG, _, none⟩) hbG1).trans hcz, hb⟩
 obtain ⟨v0, v1, v2⟩ := HXV.out w1 (Below.refl _ _)
 clear hcz hbG1 hgl
 go_enter Tryz.func69, Tryz.ntmps69
 go_wp2_with fail
 clear v0 v1 v2 hw1
 refine wp_region_held_drew (S := fun w' => (w'.cell? ⟨g, 0, none⟩ = some (.slice AA na ca) ∧ w'.cell? ⟨g, 1, none⟩ = some (.slice (some ⟨bG, oG, none⟩) m cG) ∧ w'.cell? ⟨g, 2, none⟩ = some (.int .i64 st)) ∧ (w'.cell? ⟨b', off + i * 4, none⟩ = some (.string s1) ∧ w'.cell? ⟨b', off + i * 4 + 1, none⟩ = some (.slice A1 n1 c1) ∧ w'.cell? ⟨b', off + i * 4 + 2, none⟩ = some (.slice B1 m1 d1) ∧ w'.cell? ⟨b', off + i * 4 + 3, none⟩ = some (.bool r1)) ∧ w'.cell? ⟨bG, oG + a, none⟩ = some (.int .i64 z) ∧ Below w1.heap.size w1 w') (by kernel_rfl) ?_ (fun hHeld => ?_)
 ·exact HX.out _ (Below.drew (Below.refl _ _))
 generalize World.drew _ = we at hHeld ⊢
 refine zU 0 ?_ rfl ?_ ?_
 rotate_left
 ·rintro w ⟨⟨a0, a1, a2⟩, ⟨b0, b1, b2, b3⟩, cz, sb⟩
  go_simp
  try with_reducible rfl
 try simp only [Act.put, zA1, zA2, zA3, zA4, zA5, zA6]
 refine zU 1 ?_ rfl ?_ ?_
 rotate_left
 ·rintro w ⟨⟨a0, a1, a2⟩, ⟨b0, b1, b2, b3⟩, cz, sb⟩
  go_simp
  try with_reducible rfl
 try simp only [Act.put, zA1, zA2, zA3, zA4, zA5, zA6]
 refine zU 2 ?_ rfl ?_ ?_
 rotate_left
 ·rintro w ⟨⟨a0, a1, a2⟩, ⟨b0, b1, b2, b3⟩, cz, sb⟩
  go_simp
  try with_reducible rfl
 try simp only [Act.put, zA1, zA2, zA3, zA4, zA5, zA6]
 refine zU 3 ?_ rfl ?_ ?_
 rotate_left
 ·rintro w ⟨⟨a0, a1, a2⟩, ⟨b0, b1, b2, b3⟩, cz, sb⟩
  go_simp
  try with_reducible rfl
 try simp only [Act.put, zA1, zA2, zA3, zA4, zA5, zA6]
 refine zU 12 ?_ rfl ?_ ?_
 rotate_left
 ·rintro w ⟨⟨a0, a1, a2⟩, ⟨b0, b1, b2, b3⟩, cz, sb⟩
  go_simp
  try with_reducible rfl
 try simp only [Act.put, zA1, zA2, zA3, zA4, zA5, zA6]
 refine zU 13 ?_ rfl ?_ ?_
 rotate_left
 ·rintro w ⟨⟨a0, a1, a2⟩, ⟨b0, b1, b2, b3⟩, cz, sb⟩
  go_simp
  try with_reducible rfl
 try simp only [Act.put, zA1, zA2, zA3, zA4, zA5, zA6]
 refine wpAnyH_ready (rs := [4]) (by kernel_rfl) (by simp) ?_
 refine AllReadyH.cons (o := _) rfl (fun K hKK => ?_) AllReadyH.nil
 go_simp
 go_at_call 62
 with_reducible refine (HFI.out _ hHeld.2.2.2).mono ?_
 rintro e w5 ⟨v5, rfl, ho5, hb5⟩
 have hX := bstep hHeld.2.2.2 hb5
 obtain ⟨A5, c5, rfl, hz5⟩ := IntsZ.of_own ho5
 have hl5 : ((fstsL L).map fun i : Nat => (i : Int)).length = q5 + 1 := by rw [List.length_map]; exact HQ5.out
 rw [hl5] at hz5 ⊢
 obtain ⟨b5, o5, rfl, hbl5, hc5⟩ := hz5.2 (by omega)
 have hf5 : w5.cell? ⟨b5, o5, none⟩ = some (.int .i64 i) := hc5 0 (i : Int) (by rw [HH5.out]; rfl)
 clear hHeld ho5 hz5 hl5 hc5
 go_wp2_with fail
 refine hKK.out _ _ ?_ (fun hHeld => ?_)
 ·exact HX.out _ hX
 clear hKK K
 try simp only [Act.put, zA1, zA2, zA3, zA4, zA5, zA6]
 refine wpAnyH_more5 (S' := fun w' => (fun w' => (w'.cell? ⟨g, 0, none⟩ = some (.slice AA na ca) ∧ w'.cell? ⟨g, 1, none⟩ = some (.slice (some ⟨bG, oG, none⟩) m cG) ∧ w'.cell? ⟨g, 2, none⟩ = some (.int .i64 st)) ∧ (w'.cell? ⟨b', off + i * 4, none⟩ = some (.string s1) ∧ w'.cell? ⟨b', off + i * 4 + 1, none⟩ = some (.slice A1 n1 c1) ∧ w'.cell? ⟨b', off + i * 4 + 2, none⟩ = some (.slice B1 m1 d1) ∧ w'.cell? ⟨b', off + i * 4 + 3, none⟩ = some (.bool r1)) ∧ w'.cell? ⟨bG, oG + a, none⟩ = some (.int .i64 z) ∧ Below w1.heap.size w1 w') w' ∧ w'.cell? ⟨b5, o5, none⟩ = some (.int .i64 i)) (fun _ h => h.1) _ _ _ _ ?_
 have hHeld2 := And.intro hHeld hf5
 have HX5 : Hid (∀ w', Below w5.heap.size w5 w' → w'.cell? ⟨b5, o5, none⟩ = some (.int .i64 i)) := Lib.hid fun w' hb => (hb.cell (p := ⟨b5, _, none⟩) hbl5).trans hf5
 have HX6 := Lib.hid hX
 clear hHeld hf5 hbl5 hX hb5
 refine zU 5 ?_ rfl ?_ ?_
 rotate_left
 ·rintro w ⟨⟨⟨a0, a1, a2⟩, ⟨b0, b1, b2, b3⟩, cz, sb⟩, cf⟩
  go_simp
  try with_reducible rfl
 try simp only [Act.put, zA1, zA2, zA3, zA4, zA5, zA6]
 refine zU 6 ?_ rfl ?_ ?_
 rotate_left
 ·rintro w ⟨⟨⟨a0, a1, a2⟩, ⟨b0, b1, b2, b3⟩, cz, sb⟩, cf⟩
  go_simp
  try with_reducible rfl
 try simp only [Act.put, zA1, zA2, zA3, zA4, zA5, zA6]
 refine zU 7 ?_ rfl ?_ ?_
 rotate_left
 ·rintro w ⟨⟨⟨a0, a1, a2⟩, ⟨b0, b1, b2, b3⟩, cz, sb⟩, cf⟩
  go_simp
  try with_reducible rfl
 try simp only [Act.put, zA1, zA2, zA3, zA4, zA5, zA6]
 refine zU 8 ?_ rfl ?_ ?_
 rotate_left
 ·rintro w ⟨⟨⟨a0, a1, a2⟩, ⟨b0, b1, b2, b3⟩, cz, sb⟩, cf⟩
  go_simp
  try with_reducible rfl
 try simp only [Act.put, zA1, zA2, zA3, zA4, zA5, zA6]
 refine wpAnyH_ready (rs := [9]) (by kernel_rfl) (by simp) ?_
 refine AllReadyH.cons (o := _) rfl (fun K hKK => ?_) AllReadyH.nil
 go_simp
 go_at_call 64
 with_reducible refine (HBE.out _ hHeld2.1.2.2.2).mono ?_
 rintro e w6 ⟨rfl, hb6⟩
 have hX := bstep hHeld2.1.2.2.2 hb6
 go_wp2_with fail
 refine hKK.out _ _ ?_ (fun hHeld => ?_)
 ·exact ⟨HX.out _ hX, HX5.out _ hb6⟩
 clear hKK K hHeld2 hX hb6
 try simp only [Act.put, zA1, zA2, zA3, zA4, zA5, zA6]
 refine zU 10 ?_ rfl ?_ ?_
 rotate_left
 ·rintro w ⟨⟨⟨a0, a1, a2⟩, ⟨b0, b1, b2, b3⟩, cz, sb⟩, cf⟩
  go_simp
  try with_reducible rfl
 try simp only [Act.put, zA1, zA2, zA3, zA4, zA5, zA6]
 refine zU 11 ?_ rfl ?_ ?_
 rotate_left
 ·rintro w ⟨⟨⟨a0, a1, a2⟩, ⟨b0, b1, b2, b3⟩, cz, sb⟩, cf⟩
  go_simp
  try with_reducible rfl
 try simp only [Act.put, zA1, zA2, zA3, zA4, zA5, zA6]
 refine zU 14 ?_ rfl ?_ ?_
 rotate_left
 ·rintro w ⟨⟨⟨a0, a1, a2⟩, ⟨b0, b1, b2, b3⟩, cz, sb⟩, cf⟩
  go_simp
  try with_reducible rfl
 try simp only [Act.put, zA1, zA2, zA3, zA4, zA5, zA6]
 refine zU 15 ?_ rfl ?_ ?_
 rotate_left
 ·rintro w ⟨⟨⟨a0, a1, a2⟩, ⟨b0, b1, b2, b3⟩, cz, sb⟩, cf⟩
  go_simp
  try with_reducible rfl
 try simp only [Act.put, zA1, zA2, zA3, zA4, zA5, zA6]
 refine wpAnyH_done (by kernel_rfl) ?_ _
 have HF := Lib.hid hHeld.1.2.2.2
 have e0 := HZ0.out
 clear hHeld HX5 HX6
 obtain ⟨wa, hwa⟩ : ∃ wa : World, wa = w6 := ⟨_, rfl⟩
 go_wp2
 go_loopw [7, 8] (fun v i wr => ∃ k : Nat, k ≤ rd ∧ i = .int .i64 k ∧ v = .int .i64 (hgtO L G st k) ∧ Below w1.heap.size w1 wr) (fun _ i _ => rd - (RowKit.intOf i).toNat)
 case atStart => exact ⟨0, by omega, rfl, by rw [e0, show IntKind.i64.wrap (z + st) = z + st from IntWalk.i64_in _ (by omega)], HF.out⟩
 case round =>
  obtain ⟨k, hk, rfl, rfl, hb⟩ := hrel
  clear e0
  by_cases hlt : k < rd
  ·have hki : (k : Int) < (rd : Int) := by omega
   have hk0 : (0 : Int) ≤ (k : Int) := by omega
   have hkt : ((k : Int)).toNat = k := by omega
   have HB := Lib.hid hb
   have hh := HHR.out k
   have HST := Lib.hid (HHS.out k)
   obtain ⟨h, hh0⟩ : ∃ h, hgtO L G st k = h := ⟨_, rfl⟩
   rw [hh0] at hh HST ⊢
   have hh1 := hh.1
   have hh2 : h ≤ 3000000 := by have := hh.2; omega
   clear hh hh0 hb
   obtain ⟨wy, rfl⟩ : ∃ wy : World, wy = wr := ⟨_, rfl⟩
   go_wp2
   go_loopw [9, 10] (fun v i wr => ∃ t : Nat, t ≤ n ∧ i = .int .i64 t ∧ v = .bool ((L.take t).any fun r => clC r k) ∧ Below w1.heap.size w1 wr) (fun _ i _ => n - (RowKit.intOf i).toNat)
   case atStart => exact ⟨0, by omega, rfl, by simp, HB.out⟩
   case round =>
    obtain ⟨t, ht, rfl, rfl, hb⟩ := hrel
    by_cases htn : t < n
    ·obtain ⟨b2, off2, x, e2, hbl2, hx, ⟨x0, x1, x2, x3⟩, hCX⟩ := (HZ.out.below hb).at_ htn
     obtain ⟨rfl, rfl⟩ : b' = b2 ∧ off = off2 := by simpa using e2
     have hti : (t : Int) < (n : Int) := by omega
     have ht0 : (0 : Int) ≤ (t : Int) := by omega
     have htt : ((t : Int)).toNat = t := by omega
     have hstep : ((L.take (t + 1)).any fun r => clC r k) = (((L.take t).any fun r => clC r k) || clC x k) := by
      rw [List.take_add_one, hx, Option.toList_some, List.any_append]; simp
     have Hstep := Lib.hid hstep
     have hno := HS2.out x (List.mem_of_getElem? hx)
     have hlen : x.O.length = x.no := hCX.2.2.1.1
     have hclx : clC x k = match x.O[k]? with | some y => decide (bl y = [111]) | none => false := rfl
     have HBT := Lib.hid hb
     obtain ⟨c, hc⟩ : ∃ c, ((L.take t).any fun r => clC r k) = c := ⟨_, rfl⟩
     rw [hc] at Hstep ⊢
     have hnoi : (x.no : Int) ≤ 1000 := by omega
     cases c with
     | true =>
      have Hst : Hid (((L.take (t + 1)).any fun r => clC r k) = true) := Lib.hid (by rw [Hstep.out]; rfl)
      clear hclx hlen hx hCX e2 hbl2 hb hc hstep Hstep hno
      go_wp2
      go_roundw
      case rel => exact ⟨t + 1, by omega, by go_num, by rw [Hst.out], HBT.out⟩
      case measure => simp [RowKit.intOf]; omega
     | false =>
      by_cases hkx : k < x.no
      ·obtain ⟨b3, o3, y, e3, _, hy, hcy⟩ := hCX.2.2.1.at_ hkx
       have hkxi : (k : Int) < (x.no : Int) := by omega
       have c1 : (y.toList == [111]) = decide (bl y = [111]) := by rw [tl_bl, list_beq]
       rw [hy] at hclx
       dsimp only at hclx
       obtain ⟨q, hq⟩ : ∃ q, decide (bl y = [111]) = q := ⟨_, rfl⟩
       rw [hq] at hclx c1
       have Hst : Hid (((L.take (t + 1)).any fun r => clC r k) = q) := Lib.hid (by rw [Hstep.out, hclx]; rfl)
       obtain ⟨s2, A2, n2, c2, H2, B2, m2, d2, O2, r2⟩ := x
       dsimp only at *
       subst e3
       clear hclx hlen hx hCX e2 hbl2 hb hc hstep Hstep hno hy hq
       cases q with
       | true =>
        go_wp2
        go_roundw
        case rel => exact ⟨t + 1, by omega, by go_num, by rw [Hst.out], HBT.out⟩
        case measure => simp [RowKit.intOf]; omega
       | false =>
        go_wp2
        go_roundw
        case rel => exact ⟨t + 1, by omega, by go_num, by rw [Hst.out], HBT.out⟩
        case measure => simp [RowKit.intOf]; omega
      ·have hkxi : ¬ (k : Int) < (x.no : Int) := by omega
       rw [List.getElem?_eq_none (by omega)] at hclx
       have Hst : Hid (((L.take (t + 1)).any fun r => clC r k) = false) := Lib.hid (by rw [Hstep.out, hclx]; rfl)
       obtain ⟨s2, A2, n2, c2, H2, B2, m2, d2, O2, r2⟩ := x
       dsimp only at *
       clear hclx hlen hx hCX e2 hbl2 hb hc hstep Hstep hno
       go_wp2
       go_roundw
       case rel => exact ⟨t + 1, by omega, by go_num, by rw [Hst.out], HBT.out⟩
       case measure => simp [RowKit.intOf]; omega
    ·have htn' : t = n := by omega
     rw [htn', List.take_of_length_le (by rw [HL.out]; exact Nat.le_refl _), show (L.any fun r => clC r k) = clL L k from rfl]
     obtain ⟨v0, v1, v2⟩ := HXV.out wr hb
     have HBT := Lib.hid hb
     have hmax : (if st < h - st then h - st else st) = max (h - st) st := by split <;> omega
     clear hb htn'
     cases hcl : clL L k with
     | true =>
      have Hst : Hid (hgtO L G st (k + 1) = h + st) := Lib.hid (by rw [HST.out, hcl]; rfl)
      clear hcl hmax
      go_wp2
      go_roundw
      case rel => exact ⟨k + 1, by omega, by go_num, by rw [Hst.out], HBT.out⟩
      case measure => simp [RowKit.intOf]; omega
     | false =>
      have Hst : Hid (hgtO L G st (k + 1) = max (h - st) st) := Lib.hid (by rw [HST.out, hcl]; rfl)
      clear hcl
      have Hmax := Lib.hid hmax
      clear hmax
      go_wp2
      go_roundw
      case rel => exact ⟨k + 1, by omega, by go_num, by rw [Hst.out, ← Hmax.out], HBT.out⟩
      case measure => simp [RowKit.intOf]; omega
  ·obtain rfl : k = rd := by omega
   have HB := Lib.hid (bstep HB1.out hb)
   clear hb
   go_wp2
   go_ret
   exact ⟨rfl, HB.out⟩
end Go.Mk
end
section
namespace Go.Mk
theorem one_int (w : World) (B : Nat) (x : Int) (hB : B ≤ w.heap.size) : OwnZ (w.alloc (.cells #[.int .i64 x] 3)) B (.slice (some ⟨w.heap.size, 0, none⟩) 1 1) [x] := World.ownsRow_lit w #[.int .i64 x] 1 hB (by decide) rfl
theorem OwnZ.low5 {w : World} {B B' : Nat} {v : Value} {L : List Int} (h : OwnZ w B v L) (hB : B' ≤ B) : OwnZ w B' v L := by
 refine ⟨h.1, ?_⟩
 rcases h.2 with q | ⟨g, cap, cur, a, b, c⟩
 ·exact .inl q
 ·exact .inr ⟨g, cap, cur, a, Nat.le_trans hB b, c⟩
theorem range_snoc {β : Type} (f : Nat → β) (k : Nat) : (List.range (k + 1)).map f = (List.range k).map f ++ [f k] := by rw [List.range_succ, List.map_append]; rfl
def offR (L : List CardR) (G : List Int) (st : Int) : List Int := (List.range (rndG 0 L)).map (hgtO L G st)
theorem r6OffHeights_any (G : List Int) (AA AG : Option Addr) (na ca m cG : Nat) (st : Int) (L : List CardR) (n cap : Nat) (A : Option Addr) (w : World) (hG : IntsZ w AG m G) (hm : m ≤ 1000) (hGr : ∀ x ∈ G, 10 ≤ x ∧ x ≤ 999999) (hst1 : 10 ≤ st) (hst2 : st ≤ 1000)
  (hZ : Cards w A n L) (hn : n ≤ 100) (hs : ∀ r ∈ L, r.nh ≤ 1000 ∧ ∀ x ∈ r.H, x.size ≤ 5000) (hs2 : ∀ r ∈ L, r.no ≤ 900) (hle : ∀ r ∈ L, r.nh ≤ m) (hv : ∀ r ∈ L, CardV r) (ha : 0 < (bestT L).a) (h0 : L ≠ []) :
  Calls Tryz.prog 20 #[.agg #[.slice AA na ca, .slice AG m cG, .int .i64 st], .slice A n cap] w (fun e w' => ∃ v, e = .returned v ∧ OwnZ w' w.heap.size v (offR L G st) ∧ Below w.heap.size w w') := by
 obtain ⟨i0, hi, hz0, hz1, hz2⟩ := info_parts infoInt
 obtain ⟨g, hg⟩ : ∃ g, w.heap.size = g := ⟨_, rfl⟩
 obtain ⟨w1, hw1⟩ : ∃ w1, w.alloc (.cells #[.slice AA na ca, .slice AG m cG, .int .i64 st] 25) = w1 := ⟨_, rfl⟩
 have hb1 : Below w.heap.size w w1 := by rw [← hw1]; exact balloc _ (Below.refl _ _)
 have hgl : g < w1.heap.size := by rw [← hw1, ← hg]; simp
 have HXV : Hid (∀ w', Below w1.heap.size w1 w' → w'.cell? ⟨g, 0, none⟩ = some (.slice AA na ca) ∧ w'.cell? ⟨g, 1, none⟩ = some (.slice AG m cG) ∧ w'.cell? ⟨g, 2, none⟩ = some (.int .i64 st)) := Lib.hid fun w' hb => by
  refine ⟨?_, ?_, ?_⟩
  all_goals
   refine (hb.cell (p := ⟨g, _, none⟩) hgl).trans ?_
   rw [← hw1, ← hg]; simp
 obtain ⟨R, hR⟩ : ∃ R, rndG 0 L = R := ⟨_, rfl⟩
 have hRl : R ≤ 900 := by rw [← hR]; exact rndG_le L 0 (by omega) hs2
 have HRN : Hid (∀ w', Below w1.heap.size w1 w' → Calls Tryz.prog 17 #[.slice A n cap] w' (RetPost (.int .i64 (R : Nat)) w')) := Lib.hid fun w' hb => by
  rw [← hR]; exact r6Rounds_any L n cap A w' (hZ.below (bstep hb1 hb)) hn fun r hr => by have := hs2 r hr; omega
 have HOH : Hid (∀ (k : Nat) (w' : World), k ≤ 1000 → Below w1.heap.size w1 w' → Calls Tryz.prog 69 #[.agg #[.slice AA na ca, .slice AG m cG, .int .i64 st], .slice A n cap, .int .i64 k] w' (RetPost (.int .i64 (hgtO L G st k)) w')) := Lib.hid fun k w' hk hb =>
  r6offHeight_any G AA AG na ca m cG st L n cap A k w' (hG.below (bstep hb1 hb)) hm hGr hst1 hst2 (hZ.below (bstep hb1 hb)) hn hs (fun r hr => by have := hs2 r hr; omega) hle hv ha h0 hk
 unfold offR
 rw [hR]
 obtain ⟨f, hf⟩ : ∃ f, hgtO L G st = f := ⟨_, rfl⟩
 rw [hf] at HOH ⊢
 have HB1 := Lib.hid hb1
 obtain ⟨v0, v1, v2⟩ := HXV.out w1 (Below.refl _ _)
 have hRi : (R : Int) ≤ 900 := by omega
 clear hG hm hGr hst1 hst2 hZ hn hs hs2 hle hv ha h0 hR hf hb1 hgl
 go_enter Tryz.func20, Tryz.ntmps20
 go_wp2
 clear v0 v1 v2 hw1
 go_loopw [5, 6] (fun v i wr => ∃ k : Nat, k ≤ R ∧ i = .int .i64 k ∧ OwnZ wr w1.heap.size v ((List.range k).map f) ∧ Below w1.heap.size w1 wr) (fun _ i _ => R - (RowKit.intOf i).toNat)
 case atStart => exact ⟨0, by omega, rfl, World.ownsRow_nil _ _ _ _, Below.refl _ _⟩
 case round =>
  obtain ⟨k, hk, rfl, hown, hb⟩ := hrel
  have hRN := HRN.out wr hb
  have HB := Lib.hid hb
  have HO := Lib.hid hown
  by_cases hlt : k < R
  ·have hki : (k : Int) < (R : Int) := by omega
   have hk0 : (0 : Int) ≤ (k : Int) := by omega
   have hkt : ((k : Int)).toNat = k := by omega
   have Hst := Lib.hid (range_snoc f k)
   have hlen : ((List.range k).map f).length = k := by simp
   clear hown hb
   go_wp2_with fail
   refine hRN.mono ?_
   rintro e w2 ⟨rfl, hb2⟩
   have HB2 := Lib.hid (bstep HB.out hb2)
   have HO2 : Hid (OwnZ w2 w1.heap.size _ ((List.range k).map f)) := Lib.hid (ownN HO.out hb2)
   have hOH := HOH.out k w2 (by omega) HB2.out
   obtain ⟨v0, v1, v2⟩ := HXV.out w2 HB2.out
   clear hb2 hRN
   go_wp2_with fail
   refine hOH.mono ?_
   rintro e w5 ⟨rfl, hb5⟩
   have hb15 := bstep HB2.out hb5
   have hown5 : OwnZ w5 w1.heap.size _ ((List.range k).map f) := ownN HO2.out hb5
   unfold OwnZ at hown5
   rw [hlen] at hown5
   clear hb5 hOH v0 v1 v2
   obtain ⟨x, hx⟩ : ∃ x, f k = x := ⟨_, rfl⟩
   rw [hx] at Hst ⊢
   generalize (List.range k).map f = Q at *
   have Hlen := Lib.hid hlen
   clear hlen hx
   go_wp2_with (at_builtin; refine wpList_append_own _ rfl _ _ 23 rfl w1.heap.size 3 i0 (.int .i64 0) 1 8 Tryz.underlying23 hi hz0 hz1 hz2 rfl (by decide) _ _ _ rfl (World.ownsRow.alloc hown5 _) ⟨w5.heap.size, 0, none⟩ 1 1 [.int .i64 x] rfl rfl ?c1 ?c2 ?c3 ?c4 ?c5 ?_)
   case c1 =>
    intro j u hj
    match j, hj with
    | 0, hj => simp at hj; subst hj; simp [Addr.add]
   case c2 => intro u hu; simp at hu; subst hu; rfl
   case c3 => unfold maxLen; omega
   case c4 => omega
   case c5 => have := hb15.size; simp; omega
   intro v' w6 hown' hgrow _
   have hb6 : Below w1.heap.size w1 w6 := (hb15.alloc hb15.size _).grown hgrow (by have := hb15.size; simp; omega) (fun r hr => (World.ownsRow.lt hown5 r hr).1)
   have ho6 : OwnZ w6 w1.heap.size v' ((List.range (k + 1)).map f) := by
    rw [Hst.out]
    exact OwnZ.next (by rw [Hlen.out]; exact hown')
   clear hown' hgrow hown5 hb15
   go_wp2
   go_roundw
   case rel => exact ⟨k + 1, by omega, by go_num, ho6, hb6⟩
   case measure => simp [RowKit.intOf]; omega
  ·have hkn : k = R := by omega
   rw [hkn] at hown
   have hki : ¬ (k : Int) < (R : Int) := by omega
   have HE := Lib.hid hown
   clear hown hb HO hkn
   go_wp2_with fail
   refine hRN.mono ?_
   rintro e w2 ⟨rfl, hb2⟩
   have HF : Hid (OwnZ w2 w.heap.size _ ((List.range R).map f) ∧ Below w.heap.size w w2) := Lib.hid ⟨OwnZ.low5 (ownN HE.out hb2) HB1.out.size, bstep HB1.out (bstep HB.out hb2)⟩
   clear hb2
   go_wp2
   go_ret
   exact ⟨_, rfl, HF.out⟩
theorem fdOffHeightsA_any (r : CardR) (w : World) : Calls Tryz.prog 52 #[r.val] w (RetPost (.int .i64 r.no) w) := by
 obtain ⟨s, AH, nh, ch, HH, AO, no, co, O, rt⟩ := r
 unfold CardR.val
 dsimp only
 have HB : Hid (Below w.heap.size w (w.alloc (.cells #[.string s, .slice AH nh ch, .slice AO no co, .bool rt] 94))) := Lib.hid (balloc _ (Below.refl _ _))
 go_enter Tryz.func52, Tryz.ntmps52
 go_wp2
 go_ret
 exact ⟨rfl, HB.out⟩
theorem fdEachCI_any (L : List CardR) (n cap : Nat) (A : Option Addr) (w : World) (hZ : Cards w A n L) (hn : n ≤ 1000) :
  Calls Tryz.prog 51 #[.slice A n cap, .func (.func 52) #[] #[]] w (fun e w' => ∃ v, e = .returned v ∧ OwnZ w' w.heap.size v (L.map fun r => (r.no : Int)) ∧ Below w.heap.size w w') := by
 obtain ⟨i0, hi, hz0, hz1, hz2⟩ := info_parts infoInt
 have hni : (n : Int) ≤ 1000 := by omega
 have H := Lib.hid hZ
 have HL := Lib.hid hZ.1
 clear hZ
 go_enter Tryz.func51, Tryz.ntmps51
 go_wp2
 go_loopw [5, 10] (fun v i wr => ∃ k : Nat, k ≤ n ∧ i = .int .i64 k ∧ OwnZ wr w.heap.size v ((L.take k).map fun r => (r.no : Int)) ∧ Below w.heap.size w wr) (fun _ i _ => n - (RowKit.intOf i).toNat)
 case atStart => exact ⟨0, by omega, rfl, World.ownsRow_nil _ _ _ _, Below.refl _ _⟩
 case round =>
  obtain ⟨k, hk, rfl, hown, hb⟩ := hrel
  by_cases hlt : k < n
  ·obtain ⟨b', off, r, rfl, hbl, hx, ⟨hc0, hc1, hc2, hc3⟩, hCZ⟩ := (H.out.below hb).at_ hlt
   have hki : (k : Int) < (n : Int) := by omega
   have hk0 : (0 : Int) ≤ (k : Int) := by omega
   have hkt : ((k : Int)).toNat = k := by omega
   have hlen : ((L.take k).map fun r => (r.no : Int)).length = k := by rw [List.length_map, List.length_take, HL.out]; omega
   have hst : ((L.take (k + 1)).map fun r => (r.no : Int)) = ((L.take k).map fun r => (r.no : Int)) ++ [(r.no : Int)] := by rw [List.take_add_one, hx, Option.toList_some, List.map_append]; rfl
   have Hst := Lib.hid hst
   have Hlen := Lib.hid hlen
   have HB := Lib.hid hb
   obtain ⟨p, hp⟩ : ∃ p, wr.heap.size = p := ⟨_, rfl⟩
   obtain ⟨wx, hwx⟩ : ∃ wx, wr.alloc (.cells #[.string r.s, .slice r.AH r.nh r.ch, .slice r.AO r.no r.co, .bool r.rt] 94) = wx := ⟨_, rfl⟩
   have hbx : Below w.heap.size w wx := by rw [← hwx]; exact hb.alloc hb.size _
   have hN := fdOffHeightsA_any r wx
   have x0 : wx.cell? ⟨p, 0, none⟩ = some (.string r.s) := by rw [← hwx, ← hp]; simp
   have x1 : wx.cell? ⟨p, 1, none⟩ = some (.slice r.AH r.nh r.ch) := by rw [← hwx, ← hp]; simp
   have x2 : wx.cell? ⟨p, 2, none⟩ = some (.slice r.AO r.no r.co) := by rw [← hwx, ← hp]; simp
   have x3 : wx.cell? ⟨p, 3, none⟩ = some (.bool r.rt) := by rw [← hwx, ← hp]; simp
   have HBX := Lib.hid hbx
   have HOX : Hid (OwnZ wx w.heap.size _ ((L.take k).map fun r => (r.no : Int))) := Lib.hid (by rw [← hwx]; exact World.ownsRow.alloc hown _)
   generalize ((L.take k).map fun r => (r.no : Int)) = Q at *
   clear hst hx hown hb hbx hCZ
   obtain ⟨s, AH, nh, ch, HH, AO, no, co, O, rt⟩ := r
   unfold CardR.val at hN
   dsimp only at *
   go_wp2_with fail
   refine hN.mono ?_
   rintro e w5 ⟨rfl, hb5⟩
   have hb15 := bstep HBX.out hb5
   have hown5 : OwnZ w5 w.heap.size _ Q := ownN HOX.out hb5
   unfold OwnZ at hown5
   rw [hlen] at hown5
   clear hb5 hN hlen
   go_wp2_with (at_builtin; refine wpList_append_own _ rfl _ _ 23 rfl w.heap.size 3 i0 (.int .i64 0) 1 8 Tryz.underlying23 hi hz0 hz1 hz2 rfl (by decide) _ _ _ rfl (World.ownsRow.alloc hown5 _) ⟨w5.heap.size, 0, none⟩ 1 1 [.int .i64 no] rfl rfl ?c1 ?c2 ?c3 ?c4 ?c5 ?_)
   case c1 =>
    intro j u hj
    match j, hj with
    | 0, hj => simp at hj; subst hj; simp [Addr.add]
   case c2 => intro u hu; simp at hu; subst hu; rfl
   case c3 => unfold maxLen; omega
   case c4 => omega
   case c5 => have := hb15.size; simp; omega
   intro v' w2 hown' hgrow _
   have hb2 : Below w.heap.size w w2 := (hb15.alloc hb15.size _).grown hgrow (by have := hb15.size; simp; omega) (fun r hr => (World.ownsRow.lt hown5 r hr).1)
   have ho2 : OwnZ w2 w.heap.size v' ((L.take (k + 1)).map fun r => (r.no : Int)) := by
    rw [Hst.out]
    exact OwnZ.next (by rw [Hlen.out]; exact hown')
   clear hown' hgrow hown5 hb15 hc0 hc1 hc2 hc3
   go_wp2
   go_roundw
   case rel => exact ⟨k + 1, by omega, by go_num, ho2, hb2⟩
   case measure => simp [RowKit.intOf]; omega
  ·have hkn : k = n := by omega
   rw [hkn, List.take_of_length_le (by rw [HL.out]; omega)] at hown
   have HO := Lib.hid hown
   clear hown
   go_wp2
   go_ret
   exact ⟨_, rfl, HO.out, hb⟩
theorem slMaxI_any (L : List CardR) (n cap : Nat) (A : Option Addr) (w : World) (hZ : IntsZ w A n (L.map fun r => (r.no : Int))) (hn : n ≤ 1000) (h0 : 0 < n) (hs : ∀ r ∈ L, r.no ≤ 1000) :
  Calls Tryz.prog 50 #[.slice A n cap] w (RetPost (.int .i64 (rndG 0 L : Nat)) w) := by
 have hni : (n : Int) ≤ 1000 := by omega
 have hn1 : ¬ (n : Int) < 1 := by omega
 have hn0 : (0 : Int) < (n : Int) := by omega
 have HL : Hid (L.length = n) := Lib.hid (by have := hZ.1; rw [List.length_map] at this; exact this)
 have HS := Lib.hid hs
 obtain ⟨bA, oA, rfl, hbA, hc⟩ := hZ.2 h0
 have HC : Hid (∀ (w' : World) (k : Nat) (r : CardR), Below w.heap.size w w' → L[k]? = some r → w'.cell? ⟨bA, oA + k, none⟩ = some (.int .i64 r.no)) := Lib.hid fun w' k r hb hk => (hb.cell (p := ⟨bA, _, none⟩) hbA).trans (hc k _ (by rw [List.getElem?_map, hk]; rfl))
 obtain ⟨y, hy⟩ : ∃ y, rndG 0 L = y := ⟨_, rfl⟩
 rw [hy]
 obtain ⟨r0, hr0⟩ : ∃ r0, L[0]? = some r0 := ⟨_, List.getElem?_eq_getElem (by rw [HL.out]; exact h0)⟩
 have HY : Hid (rndG r0.no (L.drop 1) = y) := Lib.hid (by
  rw [← hy, ← Nat.zero_max r0.no]
  exact (rndG_drop hr0 0).symm)
 have c0 := HC.out w 0 r0 (Below.refl _ _) hr0
 rw [Nat.add_zero] at c0
 have hr0s := hs r0 (List.mem_of_getElem? hr0)
 obtain ⟨t0, ht0⟩ : ∃ t0, r0.no = t0 := ⟨_, rfl⟩
 rw [ht0] at HY c0 hr0s
 clear hZ hc hs hn hy hbA hr0 ht0
 go_enter Tryz.func50, Tryz.ntmps50
 go_wp2
 go_loopw [3, 4] (fun v i wr => ∃ k t : Nat, 1 ≤ k ∧ k ≤ n ∧ i = .int .i64 k ∧ v = .int .i64 t ∧ Hid (t ≤ 1000) ∧ Hid (rndG t (L.drop k) = y) ∧ Below w.heap.size w wr) (fun _ i _ => n - (RowKit.intOf i).toNat)
 case atStart => exact ⟨1, t0, by omega, by omega, rfl, rfl, Lib.hid hr0s, HY, Below.refl _ _⟩
 case round =>
  obtain ⟨k, t, hk1, hk, rfl, rfl, ht, HK, hb⟩ := hrel
  clear c0
  by_cases hlt : k < n
  ·have hkl : k < L.length := by rw [HL.out]; exact hlt
   have hx := List.getElem?_eq_getElem hkl
   obtain ⟨r, hr⟩ : ∃ r, L[k] = r := ⟨_, rfl⟩
   rw [hr] at hx
   have cx := HC.out wr k r hb hx
   have hki : (k : Int) < (n : Int) := by omega
   have hk0 : (0 : Int) ≤ (k : Int) := by omega
   have hkt : ((k : Int)).toNat = k := by omega
   have hst := HK.out
   rw [rndG_drop hx] at hst
   have hno := HS.out r (List.mem_of_getElem? hx)
   have Hst := Lib.hid hst
   have HB := Lib.hid hb
   have HT := Lib.hid (show max t r.no ≤ 1000 by have := ht.out; omega)
   generalize r.no = no at *
   have Hmax : Hid ((if t < no then (no : Int) else (t : Int)) = ((max t no : Nat) : Int)) := Lib.hid (by split <;> omega)
   clear hst hx hb HK hr hkl
   go_wp2
   exact ⟨⟨k + 1, max t no, by omega, by omega, by go_num, by rw [← Hmax.out], HT, Hst, HB.out⟩, by simp [RowKit.intOf]; omega⟩
  ·have hst := HK.out
   rw [List.drop_eq_nil_of_le (by rw [HL.out]; omega)] at hst
   have e : t = y := hst
   subst e
   have HB := Lib.hid hb
   clear hst hb HK
   go_wp2
   go_ret
   exact ⟨rfl, HB.out⟩
theorem fdAnyClearedA_any (r : CardR) (k bx : Nat) (w : World) (hZ : CardZ w r) (hn : r.no ≤ 1000) (hk : k ≤ 1000) (hbx : bx < w.heap.size) (hc : w.cell? ⟨bx, 0, none⟩ = some (.int .i64 k)) :
  Calls Tryz.prog 174 #[r.val, .pointer (some ⟨bx, 0, none⟩)] w (RetPost (.bool (clC r k)) w) := by
 obtain ⟨w1, hw1⟩ : ∃ w1, w.alloc (.cells #[.string r.s, .slice r.AH r.nh r.ch, .slice r.AO r.no r.co, .bool r.rt] 94) = w1 := ⟨_, rfl⟩
 have hb1 : Below w.heap.size w w1 := by rw [← hw1]; exact balloc _ (Below.refl _ _)
 obtain ⟨g, hg⟩ : ∃ g, w.heap.size = g := ⟨_, rfl⟩
 have x0 : w1.cell? ⟨g, 0, none⟩ = some (.string r.s) := by rw [← hw1, ← hg]; simp
 have x1 : w1.cell? ⟨g, 1, none⟩ = some (.slice r.AH r.nh r.ch) := by rw [← hw1, ← hg]; simp
 have x2 : w1.cell? ⟨g, 2, none⟩ = some (.slice r.AO r.no r.co) := by rw [← hw1, ← hg]; simp
 have x3 : w1.cell? ⟨g, 3, none⟩ = some (.bool r.rt) := by rw [← hw1, ← hg]; simp
 have cb := (hb1.cell (p := ⟨bx, 0, none⟩) hbx).trans hc
 have hH := fdHasCleared_any r k w1 (hZ.below hb1) hn hk
 have HB := Lib.hid hb1
 generalize clC r k = q at *
 obtain ⟨s, AH, nh, ch, HH, AO, no, co, O, rt⟩ := r
 unfold CardR.val at *
 dsimp only at *
 clear hZ hb1 hc hbx
 go_enter Tryz.func174, Tryz.ntmps174
 go_wp2_with fail
 refine hH.mono ?_
 rintro e w2 ⟨rfl, hb2⟩
 have hfin := bstep HB.out hb2
 clear hb2 hH
 go_wp2
 go_ret
 exact ⟨rfl, hfin⟩
theorem slIndexFC_any (L : List CardR) (n cap : Nat) (A : Option Addr) (k bx : Nat) (w : World) (hZ : Cards w A n L) (hn : n ≤ 1000) (hs : ∀ r ∈ L, r.no ≤ 1000) (hk : k ≤ 1000) (hbx : bx < w.heap.size) (hc : w.cell? ⟨bx, 0, none⟩ = some (.int .i64 k)) :
  Calls Tryz.prog 215 #[.slice A n cap, .func (.func 174) #[] #[.pointer (some ⟨bx, 0, none⟩)]] w (fun e w' => ∃ z : Int, e = .returned (.int .i64 z) ∧ decide (0 ≤ z) = clL L k ∧ Below w.heap.size w w') := by
 have hni : (n : Int) ≤ 1000 := by omega
 have H := Lib.hid hZ
 have HL := Lib.hid hZ.1
 have HCL : Hid (∀ (r : CardR) (w' : World), r ∈ L → Below w.heap.size w w' → CardZ w' r → Calls Tryz.prog 174 #[r.val, .pointer (some ⟨bx, 0, none⟩)] w' (RetPost (.bool (clC r k)) w')) := Lib.hid fun r w' hr hb hz => fdAnyClearedA_any r k bx w' hz (hs r hr) hk (Nat.lt_of_lt_of_le hbx hb.size) ((hb.cell (p := ⟨bx, 0, none⟩) hbx).trans hc)
 obtain ⟨y, hy⟩ : ∃ y, clL L k = y := ⟨_, rfl⟩
 rw [hy]
 have HY : Hid (((L.drop 0).any fun r => clC r k) = y) := Lib.hid hy
 clear hZ hs hy hc hbx hk hn
 go_enter Tryz.func215, Tryz.ntmps215
 go_wp2
 go_loopw [8] (fun i wr => ∃ t : Nat, t ≤ n ∧ i = .int .i64 t ∧ Hid (((L.drop t).any fun r => clC r k) = y) ∧ Below w.heap.size w wr) (fun i _ => n - (RowKit.intOf i).toNat)
 case atStart => exact ⟨0, by omega, rfl, HY, Below.refl _ _⟩
 case round =>
  obtain ⟨t, ht, rfl, HK, hb⟩ := hrel
  by_cases hlt : t < n
  ·obtain ⟨b', off, r, rfl, hbl, hx, ⟨hc0, hc1, hc2, hc3⟩, hCZ⟩ := (H.out.below hb).at_ hlt
   have hki : (t : Int) < (n : Int) := by omega
   have hk0 : (0 : Int) ≤ (t : Int) := by omega
   have hkt : ((t : Int)).toNat = t := by omega
   have hst := HK.out
   rw [any_drop _ hx] at hst
   have hC := HCL.out r wr (List.mem_of_getElem? hx) hb hCZ
   have HB := Lib.hid hb
   obtain ⟨q, hq⟩ : ∃ q, clC r k = q := ⟨_, rfl⟩
   rw [hq] at hst hC
   obtain ⟨s, AH, nh, ch, HH, AO, no, co, O, rt⟩ := r
   unfold CardR.val at hC
   dsimp only at *
   clear hx hb HK hCZ hq
   cases q with
   | true =>
    rw [Bool.true_or] at hst
    subst hst
    go_wp2_with fail
    refine hC.mono ?_
    rintro e w5 ⟨rfl, hb5⟩
    have HF := Lib.hid (bstep HB.out hb5)
    clear hb5
    go_wp2
    go_ret
    exact ⟨_, rfl, by simp, HF.out⟩
   | false =>
    rw [Bool.false_or] at hst
    have Hst := Lib.hid hst
    clear hst
    go_wp2_with fail
    refine hC.mono ?_
    rintro e w5 ⟨rfl, hb5⟩
    have HF := Lib.hid (bstep HB.out hb5)
    clear hb5
    go_wp2
    go_roundw
    case rel => exact ⟨t + 1, by omega, by go_num, Hst, HF.out⟩
    case measure => simp [RowKit.intOf]; omega
  ·have hst := HK.out
   rw [List.drop_eq_nil_of_le (by rw [HL.out]; omega)] at hst
   have e : false = y := hst
   subst e
   have HB := Lib.hid hb
   clear hst hb HK
   go_wp2
   go_ret
   exact ⟨_, rfl, by decide, HB.out⟩
theorem fdAnyCleared_any (L : List CardR) (n cap : Nat) (A : Option Addr) (k : Nat) (w : World) (hZ : Cards w A n L) (hn : n ≤ 1000) (hs : ∀ r ∈ L, r.no ≤ 1000) (hk : k ≤ 1000) :
  Calls Tryz.prog 109 #[.slice A n cap, .int .i64 k] w (RetPost (.bool (clL L k)) w) := by
 obtain ⟨g, hg⟩ : ∃ g, w.heap.size = g := ⟨_, rfl⟩
 obtain ⟨w1, hw1⟩ : ∃ w1, w.alloc (.cells #[.int .i64 k] 3) = w1 := ⟨_, rfl⟩
 have hb1 : Below w.heap.size w w1 := by rw [← hw1]; exact balloc _ (Below.refl _ _)
 have hc : w1.cell? ⟨g, 0, none⟩ = some (.int .i64 k) := by rw [← hw1, ← hg]; simp
 have hgl : g < w1.heap.size := by rw [← hw1, ← hg]; simp
 have hI := slIndexFC_any L n cap A k g w1 (hZ.below hb1) hn hs hk hgl hc
 have hC : Calls Tryz.prog 173 #[.slice A n cap, .func (.func 174) #[] #[.pointer (some ⟨g, 0, none⟩)]] w1 (RetPost (.bool (clL L k)) w1) := by
  clear hZ hs hk hc hgl hw1 hg hb1
  go_enter Tryz.func173, Tryz.ntmps173
  go_wp2_with fail
  refine hI.mono ?_
  rintro e w2 ⟨z, rfl, hz, hb2⟩
  clear hI
  go_wp2
  go_ret
  exact ⟨rfl, hb2⟩
 have HB := Lib.hid hb1
 clear hI hZ hs hc hgl hb1
 go_enter Tryz.func109, Tryz.ntmps109
 go_wp2_with fail
 refine hC.mono ?_
 rintro e w2 ⟨rfl, hb2⟩
 have hfin := bstep HB.out hb2
 clear hb2 hC
 go_wp2
 go_ret
 exact ⟨rfl, hfin⟩
end Go.Mk
end
