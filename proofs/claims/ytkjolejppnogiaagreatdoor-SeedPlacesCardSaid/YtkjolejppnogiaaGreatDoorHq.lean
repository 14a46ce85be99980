/-
  Proved: the law SeedPlaces returns true and leaves all that was there, where the heats are short. Conditions: the tables that awake reads lie where the program lays them; the runners lie where the slices say.
-/
import Derived.Test.YtkjolejppnogiaaGreatDoorHh
set_option linter.unusedVariables false
set_option linter.unusedSimpArgs false
open Go Go.Proofs Go.RowKit Go.Sort
set_option maxRecDepth 100000
namespace Go.Mk
set_option maxHeartbeats 8000000 in
theorem places_law (LL : List (List Run)) (n cap : Nat) (A : Option Addr) (B : Nat) (p t : Int) (w : World) (ht : Tabs w) (hZ : RHeats w B A n LL) (hx : shortH LL = true) (hok : ∀ l ∈ LL, ∀ x ∈ l, x.ok) :
    Calls Tryz.prog 5 #[.slice A n cap, .int .i64 p, .int .i64 t] w (Yes w) := by
  obtain ⟨hn18, hsh⟩ := shortH_yes hx
  rw [hZ.1] at hn18
  have hR := l4runners_big LL n cap A B w hZ (by omega) (fun l hl => by have := (hsh l hl).1; omega)
  have hs1 : ∀ l ∈ LL, l.length ≤ 1000 ∧ ∀ x ∈ l, x.ok := fun l hl => ⟨by have := (hsh l hl).1; omega, hok l hl⟩
  have hl := hZ.1
  have HM : Hid (∀ w', Below w.heap.size w w' → RHeats w' B A n LL) := fun w' hb => hZ.below hb hZ.2.1
  have HSH := Lib.hid hsh
  have HOK := Lib.hid hok
  have HLL := Lib.hid hl
  have hG := ht.1
  have hni : (n : Int) ≤ 18 := by omega
  have o1 := fun w => r4Outside_any p 0 160 w
  have o2 := fun w => r4Outside_any t 0 160 w
  have hF := fun g w => l4first_any [chkRuns LL, rngE p 0 160, rngE t 0 160] 3 rfl (by decide) g w
  obtain ⟨bad, hbad⟩ : ∃ bad, chkRuns LL = bad := ⟨_, rfl⟩
  have HBAD := Lib.hid hbad
  have hbb : (bad != bad) = false := by simp
  have HSC : Hid (∀ w', Below w.heap.size w w' → Calls Tryz.prog 38 #[.slice A n cap] w' (RetPost (.int .i64 bad) w')) := fun w' hb => by
    have := seedCheckRunners_all LL n cap A B w' (hZ.below hb hZ.2.1) (by omega) hs1 (Nat.le_trans hG hb.size)
    rwa [hbad] at this
  have HO1 := Lib.hid o1
  have HO2 := Lib.hid o2
  have HFF := Lib.hid hF
  clear hZ hok hsh hbad o1 o2 hF
  go_enter Tryz.func5, Tryz.ntmps5
  go_wp2_with fail
  refine hR.mono ?_
  rintro e w1 ⟨v, rfl, hO, hb1⟩
  obtain ⟨A1, c1, rfl, hR1⟩ := RHeats.of_own hO
  obtain ⟨-, hcap1, hcap2⟩ := hO.cap
  rw [hl] at hR1 hcap1 ⊢
  have HX : Hid (∀ w', Below w1.heap.size w1 w' → RHeats w' w1.heap.size A1 n LL) := fun w' hb => hR1.below hb (Nat.le_refl _)
  have HS : Hid (∀ w', Below w1.heap.size w1 w' → Calls Tryz.prog 36 #[.slice A1 n c1] w' (RetPost (.bool true) w')) := fun w' hb => by
    have := short_any LL n c1 A1 _ w' (hR1.below hb (Nat.le_refl _)) (by omega)
    rwa [hx] at this
  have HRC : Hid (∀ w', Below w1.heap.size w1 w' → Calls Tryz.prog 37 #[.slice A1 n c1] w' (RetPost (.int .i64 bad) w')) := fun w' hb => by
    have := r4CheckRunners_all LL n c1 A1 _ w' (hR1.below hb (Nat.le_refl _)) (by omega) hs1
    rwa [HBAD.out] at this
  have ht1 := ht.grow hb1
  have HB1 := Lib.hid hb1
  have hcapi : (n : Int) ≤ (c1 : Int) := by omega
  have hcapm : (c1 : Int) ≤ 9223372036854775807 := by unfold maxLen at hcap2; omega
  have hsz1 := hb1.size
  clear hO hR1 hR ht hl hx hs1 hcap2 hb1
  go_wp2_with fail
  refine (aw _ ht1).mono ?_
  rintro e w2 ⟨rfl, hb2⟩
  have hS := HS.out _ hb2
  clear HS
  go_wp2_with fail
  refine hS.mono ?_
  rintro e w3 ⟨rfl, hb3⟩
  have hb13 := bstep hb2 hb3
  have hRC := HRC.out _ hb13
  clear hS HRC hb2 hb3
  go_wp2_with fail
  refine hRC.mono ?_
  rintro e w4 ⟨rfl, hb4⟩
  have hb14 := bstep hb13 hb4
  have hSC := HSC.out _ (HB1.out.trans (hb14.mono hsz1))
  clear hRC HSC hb13 hb4
  go_wp2_with fail
  refine hSC.mono ?_
  rintro e w5 ⟨rfl, hb5⟩
  have hb15 := bstep hb14 hb5
  clear hSC hb14 hb5
  go_wp2
  go_loopw [9] (fun i wr => ∃ k : Nat, k ≤ n ∧ i = .int .i64 k ∧ Below w1.heap.size w1 wr) (fun i _ => n - (RowKit.intOf i).toNat)
  case atStart => exact ⟨0, by omega, rfl, hb15⟩
  case round =>
    obtain ⟨k, hk, rfl, hb⟩ := hrel
    have hbW := HB1.out.trans (hb.mono hsz1)
    clear hb15
    by_cases hlt : k < n
    · obtain ⟨b, off, l, A', c', rfl, hbl, hL, hc, hZl⟩ := (HM.out _ hbW).at_ hlt
      obtain ⟨b2, off2, l2, A2, c2, rfl, hbl2, hL2, hc2, hZ2⟩ := (HX.out _ hb).at_ hlt
      cases hL.symm.trans hL2
      have hlm := HSH.out l (List.mem_of_getElem? hL)
      have hxk := HOK.out l (List.mem_of_getElem? hL)
      have hGr : 13 ≤ wr.heap.size := Nat.le_trans hG hbW.size
      have HONE : Hid (∀ w', Below wr.heap.size wr w' → RHeats w' w1.heap.size (some ⟨b2, off2 + k, none⟩) 1 [l]) := fun w' hb' => RHeats.one (HX.out w' (hb.trans (hb'.mono hb.size))) hL
      have hki : (k : Int) < (n : Int) := by omega
      have hk0 : (0 : Int) ≤ (k : Int) := by omega
      have hkt : ((k : Int)).toNat = k := by omega
      have hkc : (k : Int) < (c1 : Int) := by omega
      have hkn : k < c1 := by omega
      obtain ⟨E, hE⟩ : ∃ E, chkRuns [l] = E := ⟨_, rfl⟩
      by_cases h0 : E = 0
      · subst h0
        have hP := seedPlaces_ok l l.length c' A' B wr hZl (by omega) hxk hGr hE
        obtain ⟨m, hm⟩ : ∃ m, l.length = m := ⟨_, rfl⟩
        rw [hm] at hP hc hc2
        have HRC2 : Hid (∀ w', Below wr.heap.size wr w' → ∀ c, Calls Tryz.prog 37 #[.slice (some ⟨b2, off2 + k, none⟩) 1 c] w' (RetPost (.int .i64 0) w')) := fun w' hb' c => by
          have := r4CheckRunners_all [l] 1 c _ _ w' (HONE.out w' hb') (by decide) (fun q hq => by simp at hq; subst hq; exact ⟨by omega, hxk⟩)
          rwa [hE] at this
        have HX2 : Hid (∀ w', Below wr.heap.size wr w' → w'.cell? ⟨b2, off2 + k, none⟩ = some (.slice A2 m c2) ∧ Calls Tryz.prog 40 #[.slice A2 m c2] w' (fun e w'' => ∃ v, e = .returned v ∧ OwnZ w'' w'.heap.size v (l.map (plc l)) ∧ Below w'.heap.size w' w'')) := fun w' hb' => by
          obtain ⟨b9, off9, l9, A9, c9, e9, _, hL9, hc9, hZ9⟩ := (HX.out w' (hb.trans (hb'.mono hb.size))).at_ hlt
          cases e9
          cases hL9.symm.trans hL2
          rw [hm] at hc9 hZ9
          have e2 : w'.cell? ⟨b2, off2 + k, none⟩ = some (.slice A2 m c2) := (hb'.cell (p := ⟨b2, _, none⟩) (Nat.lt_of_lt_of_le hbl2 hb.size)).trans hc2
          rw [hc9] at e2
          cases e2
          exact ⟨hc9, r4Places_any l m c2 A2 _ w' hZ9 (by omega)⟩
        have hmm : (l.map (plc l)).length = m := by rw [List.length_map, hm]
        have HMM := Lib.hid hmm
        have hmi : m ≤ 162 := by omega
        unfold SPlPost at hP
        clear hL hL2 hZl hZ2 hE hxk hlm HONE hmm
        obtain ⟨Z, hZe⟩ : ∃ Z, l.map (plc l) = Z := ⟨_, rfl⟩
        rw [hZe] at hP HX2 HMM
        clear hm hZe
        as_aux_lemma =>
          go_wp2_with fail
          refine hP.mono ?_
          rintro e w6 ⟨g6, rfl, hI6, hb6⟩
          have hRC2 := HRC2.out _ hb6
          have HI6 := Lib.hid hI6
          clear hP HRC2 hI6
          go_wp2_with fail
          refine (hRC2 _).mono ?_
          rintro e w7 ⟨rfl, hb7⟩
          have hb67 := bstep hb6 hb7
          obtain ⟨hcx, hPl⟩ := HX2.out _ hb67
          have HB67 := Lib.hid hb67
          have HB7 := Lib.hid hb7
          clear hRC2 hb6 hb7 HX2 hb67
          go_wp2_with fail
          refine hPl.mono ?_
          rintro e w8 ⟨v8, rfl, hv8, hb8⟩
          obtain ⟨A8, c8, rfl, hI8⟩ := IntsZ.of_own hv8
          have hb78 := bstep HB7.out hb8
          have hLO := l4list_ok Z (some ⟨g6, 0, none⟩) A8 m m c8 w8 (by omega) (HI6.out.below hb78) (by rw [← HMM.out]; exact hI8)
          have hb68 := bstep HB67.out hb8
          rw [HMM.out]
          clear hPl hv8 hI8 hb78 hb8 hcx
          go_wp2_with fail
          refine hLO.mono ?_
          rintro e w9 ⟨rfl, hb9⟩
          have hb10 := hb.trans ((bstep hb68 hb9).mono hb.size)
          clear hLO hb68 hb9
          go_wp2
          go_roundw
          case rel => exact ⟨k + 1, by omega, by go_num, hb10⟩
          case measure => simp [RowKit.intOf]; omega
      · have heb : (E != 0) = true := by rw [bne_iff_ne]; exact h0
        have hez : (E == 0) = false := by rw [beq_eq_false_iff_ne]; exact h0
        have hP := seedPlaces_bad l l.length c' A' B E wr hZl (by omega) hxk hGr hE heb
        obtain ⟨m, hm⟩ : ∃ m, l.length = m := ⟨_, rfl⟩
        rw [hm] at hP hc hc2
        have HRC2 : Hid (∀ w', Below wr.heap.size wr w' → ∀ c, Calls Tryz.prog 37 #[.slice (some ⟨b2, off2 + k, none⟩) 1 c] w' (RetPost (.int .i64 E) w')) := fun w' hb' c => by
          have := r4CheckRunners_all [l] 1 c _ _ w' (HONE.out w' hb') (by decide) (fun q hq => by simp at hq; subst hq; exact ⟨by omega, hxk⟩)
          rwa [hE] at this
        have hLB := fun w => l4list_bad E heb w
        clear hL hL2 hZl hZ2 hE h0 hxk hlm hm HONE
        as_aux_lemma =>
          go_wp2_with fail
          refine hP.mono ?_
          rintro e w6 ⟨rfl, hb6⟩
          have hRC2 := HRC2.out _ hb6
          clear hP HRC2
          go_wp2_with fail
          refine (hRC2 _).mono ?_
          rintro e w7 ⟨rfl, hb7⟩
          have hb67 := bstep hb6 hb7
          clear hRC2 hb6 hb7
          go_wp2_with fail
          refine (hLB _).mono ?_
          rintro e w8 ⟨rfl, hb8⟩
          have hb10 := hb.trans ((bstep hb67 hb8).mono hb.size)
          clear hb67 hb8
          go_wp2
          go_roundw
          case rel => exact ⟨k + 1, by omega, by go_num, hb10⟩
          case measure => simp [RowKit.intOf]; omega
    · obtain rfl : k = n := by omega
      have hGr : 13 ≤ wr.heap.size := Nat.le_trans hG hbW.size
      have hZr := HM.out _ hbW
      obtain ⟨e2, he2⟩ : ∃ e2, fstN [bad, rngE p 0 160, rngE t 0 160] = e2 := ⟨_, rfl⟩
      have hfe : fstN [chkRuns LL, rngE p 0 160, rngE t 0 160] = e2 := by rw [HBAD.out]; exact he2
      have hF1 : ∀ g w, Es w g [bad, rngE p 0 160, rngE t 0 160] → Calls Tryz.prog 19 #[.slice (some ⟨g, 0, none⟩) (3 : Nat) (3 : Nat)] w (RetSame (.int .i64 e2) w) := fun g w h => by
        have := HFF.out g w (by rw [HBAD.out]; exact h)
        rwa [hfe] at this
      have o1 := HO1.out
      have o2 := HO2.out
      by_cases h0 : e2 = 0
      · subst h0
        have hb0 : bad = 0 := by
          rw [fstN] at he2
          by_cases q : bad = 0
          · exact q
          · rw [if_neg q] at he2; exact absurd he2 q
        have hc0 : chkRuns LL = 0 := by rw [HBAD.out, hb0]
        obtain ⟨hl16, hl160⟩ := chk_one hc0
        have hl12 : ∀ l ∈ LL, l.length ≤ 12 := fun l hl => by
          have := (HSH.out l hl).2
          have := hl160 l hl
          omega
        have hfl : LL.flatten.length ≤ 1000 := by
          have := flatten_le 12 LL hl12
          omega
        have hA := seedAdvance_ok LL k cap A B p t wr hZr (by omega) (fun l hl => ⟨by have := hl12 l hl; omega, HOK.out l hl⟩) hfl hGr hfe
        have HRA : Hid (∀ w', Below w1.heap.size w1 w' → Calls Tryz.prog 42 #[.slice A1 k c1, .int .i64 p, .int .i64 t] w' (RAdvPost LL p t w')) := fun w' hb' => r4Advance_any LL k c1 A1 _ p t w' (HX.out w' hb') (by omega) (fun l hl => by have := hl12 l hl; omega) hfl
        unfold RAdvPost at HRA
        rw [← tm_eq] at HRA
        have q1 : ((byPl LL p).map Run.name).length ≤ 300 := by
          rw [List.length_map]
          have := byPl_len LL p
          have := flatten_le 12 LL hl12
          omega
        have q2 : ((byTm LL p t).map Run.name).length ≤ 300 := by
          rw [List.length_map]
          have := byTm_len LL p t
          have := flatten_le 12 LL hl12
          omega
        unfold SAdvPost at hA
        generalize (byPl LL p).map Run.name = P at *
        generalize (byTm LL p t).map Run.name = T at *
        have HQ := Lib.hid (And.intro q1 q2)
        generalize rngE p 0 160 = r1 at *
        generalize rngE t 0 160 = r2 at *
        clear hZr he2 hfe hb0 hc0 hl16 hl160 hl12 hfl q1 q2
        as_aux_lemma =>
          go_wp2_with fail
          refine hA.mono ?_
          rintro e w6 ⟨u6, v6, rfl, hu6, hv6, hb6⟩
          obtain ⟨Au, cu, rfl, hTu⟩ := TextsZ.of_own hu6
          obtain ⟨Av, cv, rfl, hTv⟩ := TextsZ.of_own hv6
          have HTU := Lib.hid hTu
          have HTV := Lib.hid hTv
          have hb16 := hb.trans (hb6.mono hb.size)
          clear hA hu6 hv6 hTu hTv
          go_wp2_with fail
          refine (o1 _).mono ?_
          rintro e w' ⟨rfl, rfl⟩
          go_wp2_with fail
          refine (o2 _).mono ?_
          rintro e w' ⟨rfl, rfl⟩
          go_wp2_with fail
          refine (hF1 _ _ (es3 _ _ _ _ _)).mono ?_
          rintro e w' ⟨rfl, rfl⟩
          have hb67 : Below w6.heap.size w6 (w6.alloc (.cells #[.int .i64 bad, .int .i64 r1, .int .i64 r2] 3)) := balloc _ (Below.refl _ _)
          have hb17 : Below w1.heap.size w1 (w6.alloc (.cells #[.int .i64 bad, .int .i64 r1, .int .i64 r2] 3)) := balloc _ hb16
          generalize w6.alloc (.cells #[.int .i64 bad, .int .i64 r1, .int .i64 r2] 3) = w7 at *
          have hRA := HRA.out _ hb17
          clear hF1 o1 o2 HRA
          go_wp2_with fail
          refine hRA.mono ?_
          rintro e w8 ⟨u8, v8, rfl, hu8, hv8, hb8⟩
          obtain ⟨Bu, du, rfl, hSu⟩ := TextsZ.of_own hu8
          obtain ⟨Bv, dv, rfl, hSv⟩ := TextsZ.of_own hv8
          have hb68 := bstep hb67 hb8
          have HSV : Hid (∀ w', Below w8.heap.size w8 w' → Calls Tryz.prog 43 #[.slice Av T.length cv, .slice Bv T.length dv] w' (RetPost (.bool true) w')) := fun w' hb' => sameW_any T Av Bv T.length cv dv w' HQ.out.2 (HTV.out.below (bstep hb68 hb')) (hSv.below hb')
          have hSU := sameW_any P Au Bu P.length cu du w8 HQ.out.1 (HTU.out.below hb68) hSu
          have hb18 := bstep hb17 hb8
          clear hRA hu8 hv8 hb68 hb67 hb17 hb8 hSu hSv
          go_wp2_with fail
          refine hSU.mono ?_
          rintro e w9 ⟨rfl, hb9⟩
          have hSV := HSV.out _ hb9
          have hb19 := bstep hb18 hb9
          clear hSU HSV hb18 hb9
          go_wp2_with fail
          refine hSV.mono ?_
          rintro e w10 ⟨rfl, hb10⟩
          have hb1a := HB1.out.trans ((bstep hb19 hb10).mono hsz1)
          clear hSV hb19 hb10
          go_wp2
          go_ret
          exact ⟨rfl, hb1a⟩
      · have heb : (e2 != 0) = true := by rw [bne_iff_ne]; exact h0
        have hee : (e2 == e2) = true := by simp
        have hA := seedAdvance_bad LL k cap A B p t e2 wr hZr (by omega) (fun l hl => ⟨by have := (HSH.out l hl).1; omega, HOK.out l hl⟩) hGr hfe heb
        generalize rngE p 0 160 = r1 at *
        generalize rngE t 0 160 = r2 at *
        clear hZr he2 hfe h0
        as_aux_lemma =>
          go_wp2_with fail
          refine hA.mono ?_
          rintro e w6 ⟨rfl, hb6⟩
          have hb16 := bstep hb hb6
          clear hA hb6
          go_wp2_with fail
          refine (o1 _).mono ?_
          rintro e w' ⟨rfl, rfl⟩
          go_wp2_with fail
          refine (o2 _).mono ?_
          rintro e w' ⟨rfl, rfl⟩
          go_wp2_with fail
          refine (hF1 _ _ (es3 _ _ _ _ _)).mono ?_
          rintro e w' ⟨rfl, rfl⟩
          have hb17 : Below w1.heap.size w1 (w6.alloc (.cells #[.int .i64 bad, .int .i64 r1, .int .i64 r2] 3)) := balloc _ hb16
          have hb1a := HB1.out.trans (hb17.mono hsz1)
          clear hb17 hb16
          go_wp2
          go_ret
          exact ⟨rfl, hb1a⟩
theorem places_any (LL : List (List Run)) (n cap : Nat) (A : Option Addr) (B : Nat) (p t : Int) (w : World) (ht : Tabs w) (hZ : RHeats w B A n LL) (hn : n * 24 ≤ 140737488351232) (hs : ∀ l ∈ LL, l.length * 56 ≤ 140737488351232) (hok : ∀ l ∈ LL, ∀ x ∈ l, x.ok) :
    Calls Tryz.prog 5 #[.slice A n cap, .int .i64 p, .int .i64 t] w (Yes w) := by
  cases hx : shortH LL with
  | true => exact places_law LL n cap A B p t w ht hZ hx hok
  | false => exact places_exit LL n cap A B p t w ht hZ hn hs hx
end Go.Mk
