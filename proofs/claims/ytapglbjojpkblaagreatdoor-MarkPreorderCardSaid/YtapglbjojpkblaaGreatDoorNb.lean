/-
  Proved: the law MarkPreorder returns true and leaves all that was there, for a list of up to 12 marks without error and a key of a drawn order. Conditions: the tables that awake reads lie where the program lays them; the list lies where the slice says.
-/
import Derived.Test.YtapglbjojpkblaaGreatDoorNa
import Derived.OwnWalk
import Derived.Deep.DeepCutAuto
set_option linter.unusedVariables false
set_option linter.unusedSimpArgs false
open Go Go.Proofs Go.RowKit
set_option maxRecDepth 100000
namespace Go.Mk
theorem infoMark : (Tryz.prog.info? 32).map (fun i => (i.zero, i.size, i.bytes)) = some (some (.agg #[.string ⟨#[]⟩, .int .i64 0, .string ⟨#[]⟩]), 3, 40) := by kernel_rfl

set_option maxHeartbeats 4000000 in
theorem preorder_main (L : List M) (n cap : Nat) (A : Option Addr) (B key : Nat) (w : World) (ht : Tabs w) (hM : Marks w B A n L) (hsm : n ≤ 12) (y : ByteArray) (he : comK sNone L = (y, 0)) (h1 : 1 ≤ (key : Int)) (h2 : (key : Int) ≤ 2147483646) :
    Calls Tryz.prog 3 #[.slice A n cap, .int .i64 key] w (Yes w) := by
  have hn0 : (n : Int) ≤ 12 := by omega
  have hn1 : (0 : Int) ≤ (n : Int) := by omega
  have hg := ht.1
  obtain ⟨bt, hbt⟩ : ∃ bt, decide (y = sTime) = bt := ⟨_, rfl⟩
  have HALL : Hid (AllOf y L) := (comK_all L sNone y he).1
  have HBT : Hid (decide (y = sTime) = bt) := hbt
  have HM : Hid (∀ w', Below w.heap.size w w' → Marks w' B A n L) := fun w' hb => hM.below hb hM.2.1
  have Hlen : Hid (L.length = n) := hM.1
  have hC : ∀ w', Below w.heap.size w w' → Calls Tryz.prog 8 #[.slice A n cap] w' (RetPost (.int .i64 0) w') := fun w' hb => by
    have hK := refK_comK L sNone ⟨#[]⟩ (.inl ⟨rfl, by rw [ByteArray.toList_eq]; rfl⟩)
    rw [he] at hK
    have := refCheckMarks_any L n cap A B w' (hM.below hb hM.2.1) (by omega)
    rwa [hK] at this
  have hD : ∀ w', Calls Tryz.prog 9 #[.int .i64 key, .int .i64 n] w' (RetPost (.int .i64 0) w') := fun w' => refCheckDraw_ok key n w' h1 h2 (by omega)
  have hR : ∀ w', Below w.heap.size w w' → Calls Tryz.prog 10 #[.slice A n cap] w' (Ranked bt L n w') := fun w' hb => by
    rw [← hbt]
    exact Ranks_ok L n cap A B w' y he (hM.below hb hM.2.1) (Nat.le_trans hg hb.size) (by omega)
  have hO : ∀ w', Calls Tryz.prog 11 #[.int .i64 key, .int .i64 n] w' (Drawn2 key n w') := fun w' => refDraw_any key n w' h1 h2 (by omega)
  have HE : Hid (comK sNone L = (y, 0)) := he
  have hw15 : 15 ≤ w.heap.size := hg
  clear hM he hbt hg hsm h1 h2
  go_enter Tryz.func3, Tryz.ntmps3
  go_wp2_with fail
  refine (aw _ ht).mono ?_
  rintro e w1 ⟨rfl, hb1⟩
  clear ht
  go_wp2_with fail
  refine (hC _ hb1).mono ?_
  rintro e w2 ⟨rfl, hb2⟩
  replace hb2 := hb1.trans (hb2.mono hb1.size)
  clear hC hb1
  go_wp2_with fail
  refine (hD _).mono ?_
  rintro e w3 ⟨rfl, hb3⟩
  replace hb3 := hb2.trans (hb3.mono hb2.size)
  clear hD hb2
  go_wp2_with fail
  refine (hR _ hb3).mono ?_
  rintro e w4 ⟨gk, rfl, hrk, hgk, hb4⟩
  replace hb4 := hb3.trans (hb4.mono hb3.size)
  clear hR hb3
  go_wp2_with fail
  refine (hO _).mono ?_
  rintro e w5 ⟨go, rfl, hro, hgo, hb5⟩
  have hrk5 := hrk.below hb5 hrk.1 hb5.size
  replace hb5 := hb4.trans (hb5.mono hb4.size)
  clear hO hb4 hrk hgk hgo
  go_wp2
  obtain ⟨i0, hi0, hz0, hz1, hz2⟩ := info_parts infoMark
  go_loopw [8, 67] (fun t i wr => ∃ k : Nat, k ≤ n ∧ i = .int .i64 k ∧ wr.ownsRow w5.heap.size 32 3 t k (cellsM (turnL L ((Sh.order key n).take k))) ∧ Below w5.heap.size w5 wr) (fun _ i _ => n - (intOf i).toNat)
  case atStart => exact ⟨0, by omega, rfl, by simpa [turnL, cellsM] using World.ownsRow_nil _ _ _ _, Below.refl _ _⟩
  case round =>
    obtain ⟨k, hk, rfl, hown, hb⟩ := hrel
    have hbA := hb5.trans (hb.mono hb5.size)
    have hro' := hro.below hb hro.1 hb.size
    by_cases hlt : k < n
    · as_aux_lemma =>
        obtain ⟨v, hv⟩ : ∃ v, (Sh.order key n)[k]? = some v := ⟨_, List.getElem?_eq_getElem (by rw [Sh.order_length]; exact hlt)⟩
        obtain ⟨p0, _⟩ := hro'.2 k v hv
        have hvn : v < n := Sh.order_lt key n v (List.mem_of_getElem? hv)
        obtain ⟨b, off, s, x, r, rfl, hbl, hL, d0, d1, d2⟩ := (HM.out _ hbA).at_ hvn
        have hT := turnL_take L (Sh.order key n) k v (s, x, r) hv hL
        have HT := Lib.hid hT
        have hki : (k : Int) < (n : Int) := by omega
        have hvi : (v : Int) < (n : Int) := by omega
        have hbs := hb.size
        clear hT hv hL hro hrk5 hro' hbA hb5
        go_wp2_with (at_builtin; refine wpList_append_own _ rfl _ _ 22 rfl w5.heap.size 32 i0 (.agg #[.string ⟨#[]⟩, .int .i64 0, .string ⟨#[]⟩]) 3 40 Tryz.underlying22 hi0 hz0 hz1 hz2 rfl (by decide) _ _ _ rfl (hown.alloc _) ⟨wr.heap.size, 0, none⟩ 1 1 [.string s, .int .i64 x, .string r] rfl rfl ?c1 ?c2 ?c3 ?c4 ?c5 ?_)
        case c1 => intro j u hu; match j, hu with | 0, hu => (cases hu; simp [Addr.add]) | 1, hu => (cases hu; simp [Addr.add]) | 2, hu => (cases hu; simp [Addr.add])
        case c2 => intro u hu; simp at hu; rcases hu with rfl | rfl | rfl <;> rfl
        case c3 => unfold maxLen; omega
        case c4 => omega
        case c5 => simp; omega
        intro v' w6 hown' hgrow _
        have hb' := (hb.alloc hb.size (.cells #[.string s, .int .i64 x, .string r] 32)).grown hgrow (by simp; omega) (fun g hg => by
          rcases hown.2 with ⟨a, _⟩ | ⟨g', cap', cur, a, b', _⟩
          · subst a; simp [Value.ownBlock] at hg
          · subst a; simp [Value.ownBlock] at hg; omega)
        have hfin : w6.ownsRow w5.heap.size 32 3 v' (k + 1) (cellsM (turnL L ((Sh.order key n).take (k + 1)))) := by
          rw [HT.out, cellsM_append]
          exact hown'
        clear hown hown' hgrow hb
        go_wp2
        exact ⟨⟨k + 1, by omega, by go_num, hfin, hb'⟩, by simp [intOf]; omega⟩
    · have hkn : k = n := by omega
      rw [hkn, List.take_of_length_le (by rw [Sh.order_length]; omega)] at hown
      obtain ⟨A2, cap2, rfl, hM2⟩ := Marks.of_own hown
      have hperm : (turnL L (Sh.order key n)).Perm L := turnL_perm L _ (by rw [Hlen.out]; exact Sh.order_perm key n)
      have hRT : Calls Tryz.prog 10 #[.slice A2 n cap2] wr (Ranked bt (turnL L (Sh.order key n)) n wr) := by
        rw [← HBT.out]
        exact Ranks_ok (turnL L (Sh.order key n)) n cap2 A2 wr.heap.size wr y (comK_perm HE.out hperm) hM2 (Nat.le_trans hw15 hbA.size) (by omega)
      have hRP : rankM bt (turnL L (Sh.order key n)) = rankM bt L := rankM_perm bt hperm
      have HRP := Lib.hid hRP
      have hrk' := hrk5.below hb hrk5.1 hb.size
      have hkn2 : ¬ (k : Int) < (n : Int) := by omega
      clear hown hM2 hperm hRP hro hrk5 hb5 hb hlt hkn hi0 hz0 hz1 hz2
      go_wp2_with fail
      refine hRT.mono ?_
      rintro e w6 ⟨gt, rfl, hrt, hgt, hb6⟩
      have hro6 := hro'.below hb6 hro'.1 hb6.size
      have hrk6 := hrk'.below hb6 hrk'.1 hb6.size
      replace hb6 := hbA.trans (hb6.mono hbA.size)
      rw [HRP.out] at hrt
      clear hRT hbA hro' hrk' hgt HRP
      go_wp2
      have HRK : Hid (∀ w', Below w6.heap.size w6 w' → Row w' gk (L.map (rankM bt L))) := fun w' hb => hrk6.below hb hrk6.1 hb.size
      have HRO : Hid (∀ w', Below w6.heap.size w6 w' → Row w' go (Sh.order key n)) := fun w' hb => hro6.below hb hro6.1 hb.size
      have HRT : Hid (∀ w', Below w6.heap.size w6 w' → Row w' gt ((turnL L (Sh.order key n)).map (rankM bt L))) := fun w' hb => hrt.below hb hrt.1 hb.size
      have HM6 : Hid (∀ w', Below w6.heap.size w6 w' → Marks w' B A n L) := fun w' hb => HM.out _ (hb6.trans (hb.mono hb6.size))
      clear hro6 hrk6 hrt HM
      go_loopw [95] (fun i wx => ∃ k : Nat, k ≤ n ∧ i = .int .i64 k ∧ Below w6.heap.size w6 wx) (fun i _ => n - (intOf i).toNat)
      case atStart => exact ⟨0, by omega, rfl, Below.refl _ _⟩
      case round =>
        obtain ⟨q, hq, rfl, hbx⟩ := hrel
        by_cases hqn : q < n
        · as_aux_lemma =>
            obtain ⟨v, hv⟩ : ∃ v, (Sh.order key n)[q]? = some v := ⟨_, List.getElem?_eq_getElem (by rw [Sh.order_length]; exact hqn)⟩
            obtain ⟨p0, _⟩ := (HRO.out _ hbx).2 q v hv
            have hvn : v < n := Sh.order_lt key n v (List.mem_of_getElem? hv)
            obtain ⟨b, off, s, x, r, rfl, hbl, hL, d0, d1, d2⟩ := (HM6.out _ hbx).at_ hvn
            obtain ⟨z, hz⟩ : ∃ z, rankM bt L (s, x, r) = z := ⟨_, rfl⟩
            obtain ⟨p1, _⟩ := (HRT.out _ hbx).2 q z (by rw [List.getElem?_map, turnL_at L _ q v _ hv hL, ← hz]; rfl)
            obtain ⟨p2, _⟩ := (HRK.out _ hbx).2 v z (by rw [List.getElem?_map, hL, ← hz]; rfl)
            have hqi : (q : Int) < (n : Int) := by omega
            have hvi : (v : Int) < (n : Int) := by omega
            clear hv hL d0 d1 d2 hz
            have hq0 : (0 : Int) ≤ (q : Int) := by omega
            have hqt : ((q : Int)).toNat = q := by omega
            have hv0 : (0 : Int) ≤ (v : Int) := by omega
            have hvt : ((v : Int)).toNat = v := by omega
            go_wp2_with fail
            go_quiet (fail)
            go_wp2
            exact ⟨⟨q + 1, by omega, by go_num, below_drewN hbx _⟩, by simp [intOf]; omega⟩
        · have hqn2 : ¬ (q : Int) < (n : Int) := by omega
          have HRK2 : Hid (∀ w', Below wr.heap.size wr w' → Row w' gk (L.map (rankM bt L))) := fun w' hb => HRK.out _ (hbx.trans (hb.mono hbx.size))
          have HM2 : Hid (∀ w', Below wr.heap.size wr w' → Marks w' B A n L) := fun w' hb => HM6.out _ (hbx.trans (hb.mono hbx.size))
          have hb7 := hb6.trans (hbx.mono hb6.size)
          obtain ⟨w7, hw7⟩ : ∃ w7, w7 = wr := ⟨_, rfl⟩
          rw [← hw7] at HRK2 HM2 hb7 ⊢
          clear hbx hb6 HRK HRO HRT HM6 hw7 hqn
          have H15 : 15 ≤ w7.heap.size := Nat.le_trans hw15 hb7.size
          have HCM : Hid (∀ (m1 m2 : M) (w' : World), m1 ∈ L → m2 ∈ L → w7.heap.size ≤ w'.heap.size → Calls Tryz.prog 12 #[.agg #[.string m1.1, .int .i64 m1.2.1, .string m1.2.2], .agg #[.string m2.1, .int .i64 m2.2.1, .string m2.2.2]] w' (RetPost (.tuple #[.int .i64 (cm bt m1 m2), .int .i64 0]) w')) := fun m1 m2 w' h1 h2 hs => by
            have := Compare_any m1.1 m1.2.2 m2.1 m2.2.2 m1.2.1 m2.2.1 w' (by omega)
            rw [cmpM_all HALL.out (b := bt) (fun _ => HBT.out) h1 h2] at this
            exact this
          go_wp2
          go_loopw [112] (fun i wx => ∃ k : Nat, k ≤ n ∧ i = .int .i64 k ∧ Below w7.heap.size w7 wx) (fun i _ => n - (intOf i).toNat)
          case atStart => exact ⟨0, by omega, rfl, Below.refl _ _⟩
          case round =>
            obtain ⟨i, hi, rfl, hbi⟩ := hrel
            by_cases hin : i < n
            · obtain ⟨b, off, s1, x1, r1, rfl, hbl, hL1, _, _, _⟩ := (HM2.out _ hbi).at_ hin
              have HL1 := Lib.hid hL1
              have hii : (i : Int) < (n : Int) := by omega
              clear hL1
              go_wp2
              go_loopw [16, 117] (fun c j wx => ∃ q : Nat, q ≤ n ∧ j = .int .i64 q ∧ c = .int .i64 ((bet bt (s1, x1, r1) (L.take q) : Nat) : Int) ∧ Below w7.heap.size w7 wx) (fun _ j _ => n - (intOf j).toNat)
              case atStart => exact ⟨0, by omega, rfl, by simp [bet], hbi⟩
              case round =>
                obtain ⟨j, hj, rfl, rfl, hbj⟩ := hrel
                have hle := bet_le bt (s1, x1, r1) L j
                obtain ⟨z, hz⟩ : ∃ z, bet bt (s1, x1, r1) (L.take j) = z := ⟨_, rfl⟩
                rw [hz] at hle ⊢
                have HZ := Lib.hid hz
                clear hz hbi
                by_cases hjn : j < n
                · obtain ⟨d0, d1, d2⟩ := (HM2.out _ hbj).cells HL1.out
                  obtain ⟨b', off', s2, x2, r2, e1, _, hL2, p0, p1, p2⟩ := (HM2.out _ hbj).at_ hjn
                  obtain ⟨rfl, rfl⟩ : b = b' ∧ off = off' := by simpa using e1
                  have HL2 := Lib.hid hL2
                  obtain ⟨d, hd⟩ : ∃ d, cm bt (s2, x2, r2) (s1, x1, r1) = d := ⟨_, rfl⟩
                  have hc : cm bt (s1, x1, r1) (s2, x2, r2) = -d := by rw [cm_neg, hd]
                  have hr : d = -1 ∨ d = 0 ∨ d = 1 := by rw [← hd]; exact cm_range _ _ _
                  have hC1 : ∀ w', w7.heap.size ≤ w'.heap.size → Calls Tryz.prog 12 #[.agg #[.string s1, .int .i64 x1, .string r1], .agg #[.string s2, .int .i64 x2, .string r2]] w' (RetPost (.tuple #[.int .i64 (-d), .int .i64 0]) w') := fun w' hs => by
                    have := HCM.out (s1, x1, r1) (s2, x2, r2) w' (List.mem_of_getElem? HL1.out) (List.mem_of_getElem? hL2) hs
                    rwa [hc] at this
                  have hC2 : ∀ w', w7.heap.size ≤ w'.heap.size → Calls Tryz.prog 12 #[.agg #[.string s2, .int .i64 x2, .string r2], .agg #[.string s1, .int .i64 x1, .string r1]] w' (RetPost (.tuple #[.int .i64 d, .int .i64 0]) w') := fun w' hs => by
                    have := HCM.out (s2, x2, r2) (s1, x1, r1) w' (List.mem_of_getElem? hL2) (List.mem_of_getElem? HL1.out) hs
                    rwa [hd] at this
                  have HD := Lib.hid hd
                  have hji : (j : Int) < (n : Int) := by omega
                  have hsj := hbj.size
                  clear hL2 hc hd e1 hjn
                  go_wp2_with fail
                  have HS : Hid (∀ w', Below w7.heap.size w7 w' → w'.cell? ⟨b, off + i * 3, none⟩ = some (.string s1) ∧ w'.cell? ⟨b, off + i * 3 + 1, none⟩ = some (.int .i64 x1) ∧ w'.cell? ⟨b, off + i * 3 + 2, none⟩ = some (.string r1) ∧ w'.cell? ⟨b, off + j * 3, none⟩ = some (.string s2) ∧ w'.cell? ⟨b, off + j * 3 + 1, none⟩ = some (.int .i64 x2) ∧ w'.cell? ⟨b, off + j * 3 + 2, none⟩ = some (.string r2)) := fun w' hb => by
                    obtain ⟨q0, q1, q2⟩ := (HM2.out _ hb).cells HL1.out
                    obtain ⟨u0, u1, u2⟩ := (HM2.out _ hb).cells HL2.out
                    exact ⟨q0, q1, q2, u0, u1, u2⟩
                  go_region_held3 (fun w' => w'.cell? ⟨b, off + i * 3, none⟩ = some (.string s1) ∧ w'.cell? ⟨b, off + i * 3 + 1, none⟩ = some (.int .i64 x1) ∧ w'.cell? ⟨b, off + i * 3 + 2, none⟩ = some (.string r1) ∧ w'.cell? ⟨b, off + j * 3, none⟩ = some (.string s2) ∧ w'.cell? ⟨b, off + j * 3 + 1, none⟩ = some (.int .i64 x2) ∧ w'.cell? ⟨b, off + j * 3 + 2, none⟩ = some (.string r2)) (first | go_keep | exact HS.out _ (hbj.trans (hb8.mono hbj.size)) | exact HS.out _ (hbj.drew.trans (hb8.mono hbj.size))) ((go_at_call 12; (with_reducible refine (hC1 _ (by simp; omega)).mono ?_); rintro e w8 ⟨rfl, hb8⟩))
                  have hb9 : Below w7.heap.size w7 w8 := hbj.drew.trans (hb8.mono hbj.size)
                  obtain ⟨c0, c1, c2, c3, c4, c5⟩ := HS.out _ hb9
                  have hs9 := hb9.size
                  have hd1 : -1 ≤ d := by omega
                  have hd2 : d ≤ 1 := by omega
                  clear hb8 hbj d0 d1 d2 p0 p1 p2 hsj hC1 hr
                  go_wp2_with fail
                  go_region_held3 (fun w' => w'.cell? ⟨b, off + i * 3, none⟩ = some (.string s1) ∧ w'.cell? ⟨b, off + i * 3 + 1, none⟩ = some (.int .i64 x1) ∧ w'.cell? ⟨b, off + i * 3 + 2, none⟩ = some (.string r1) ∧ w'.cell? ⟨b, off + j * 3, none⟩ = some (.string s2) ∧ w'.cell? ⟨b, off + j * 3 + 1, none⟩ = some (.int .i64 x2) ∧ w'.cell? ⟨b, off + j * 3 + 2, none⟩ = some (.string r2)) (first | go_keep | exact HS.out _ (hb9.trans (hb10.mono hb9.size)) | exact HS.out _ (hb9.drew.trans (hb10.mono hb9.size))) ((go_at_call 12; (with_reducible refine (hC2 _ (by simp; omega)).mono ?_); rintro e w10 ⟨rfl, hb10⟩))
                  have hb11 : Below w7.heap.size w7 w10 := hb9.drew.trans (hb10.mono hb9.size)
                  clear hb10 hb9 c0 c1 c2 c3 c4 c5 hs9 hC2
                  go_wp2
                  go_loopw [164] (fun h wx => ∃ q : Nat, q ≤ n ∧ h = .int .i64 q ∧ Below w7.heap.size w7 wx) (fun h _ => n - (intOf h).toNat)
                  case atStart => exact ⟨0, by omega, rfl, hb11⟩
                  case round =>
                    obtain ⟨t, ht, rfl, hbt⟩ := hrel
                    clear hb11
                    by_cases htn : t < n
                    · as_aux_lemma =>
                        obtain ⟨b', off', s3, x3, r3, e1, _, hL3, _, _, _⟩ := (HM2.out _ hbt).at_ htn
                        obtain ⟨rfl, rfl⟩ : b = b' ∧ off = off' := by simpa using e1
                        have HL3 := Lib.hid hL3
                        obtain ⟨x, hx⟩ : ∃ x, cm bt (s2, x2, r2) (s3, x3, r3) = x := ⟨_, rfl⟩
                        obtain ⟨y3, hy⟩ : ∃ y3, cm bt (s1, x1, r1) (s3, x3, r3) = y3 := ⟨_, rfl⟩
                        have HTR : Hid (-d ≤ 0 → x ≤ 0 → y3 ≤ 0) := fun g1 g2 => by
                          have := cm_trans bt (s1, x1, r1) (s2, x2, r2) (s3, x3, r3) (by rw [cm_neg, HD.out]; exact g1) (by rw [hx]; exact g2)
                          rwa [hy] at this
                        have hC3 : ∀ w', w7.heap.size ≤ w'.heap.size → Calls Tryz.prog 12 #[.agg #[.string s2, .int .i64 x2, .string r2], .agg #[.string s3, .int .i64 x3, .string r3]] w' (RetPost (.tuple #[.int .i64 x, .int .i64 0]) w') := fun w' hs => by
                          have := HCM.out (s2, x2, r2) (s3, x3, r3) w' (List.mem_of_getElem? HL2.out) (List.mem_of_getElem? hL3) hs
                          rwa [hx] at this
                        have hC4 : ∀ w', w7.heap.size ≤ w'.heap.size → Calls Tryz.prog 12 #[.agg #[.string s1, .int .i64 x1, .string r1], .agg #[.string s3, .int .i64 x3, .string r3]] w' (RetPost (.tuple #[.int .i64 y3, .int .i64 0]) w') := fun w' hs => by
                          have := HCM.out (s1, x1, r1) (s3, x3, r3) w' (List.mem_of_getElem? HL1.out) (List.mem_of_getElem? hL3) hs
                          rwa [hy] at this
                        have HS2 : Hid (∀ w', Below w7.heap.size w7 w' → w'.cell? ⟨b, off + i * 3, none⟩ = some (.string s1) ∧ w'.cell? ⟨b, off + i * 3 + 1, none⟩ = some (.int .i64 x1) ∧ w'.cell? ⟨b, off + i * 3 + 2, none⟩ = some (.string r1) ∧ w'.cell? ⟨b, off + j * 3, none⟩ = some (.string s2) ∧ w'.cell? ⟨b, off + j * 3 + 1, none⟩ = some (.int .i64 x2) ∧ w'.cell? ⟨b, off + j * 3 + 2, none⟩ = some (.string r2) ∧ w'.cell? ⟨b, off + t * 3, none⟩ = some (.string s3) ∧ w'.cell? ⟨b, off + t * 3 + 1, none⟩ = some (.int .i64 x3) ∧ w'.cell? ⟨b, off + t * 3 + 2, none⟩ = some (.string r3)) := fun w' hb => by
                          obtain ⟨q0, q1, q2, u0, u1, u2⟩ := HS.out _ hb
                          obtain ⟨v0, v1, v2⟩ := (HM2.out _ hb).cells HL3.out
                          exact ⟨q0, q1, q2, u0, u1, u2, v0, v1, v2⟩
                        obtain ⟨c0, c1, c2, c3, c4, c5, c6, c7, c8⟩ := HS2.out _ hbt
                        have hti : (t : Int) < (n : Int) := by omega
                        have hst := hbt.size
                        clear hL3 e1 hx hy htn
                        go_wp2_with fail
                        go_region_held3 (fun w' => w'.cell? ⟨b, off + j * 3, none⟩ = some (.string s2) ∧ w'.cell? ⟨b, off + j * 3 + 1, none⟩ = some (.int .i64 x2) ∧ w'.cell? ⟨b, off + j * 3 + 2, none⟩ = some (.string r2) ∧ w'.cell? ⟨b, off + t * 3, none⟩ = some (.string s3) ∧ w'.cell? ⟨b, off + t * 3 + 1, none⟩ = some (.int .i64 x3) ∧ w'.cell? ⟨b, off + t * 3 + 2, none⟩ = some (.string r3)) (first | go_keep | (obtain ⟨q0, q1, q2, q3, q4, q5, q6, q7, q8⟩ := HS2.out _ (hbt.drew.trans (hb12.mono hbt.size)); exact ⟨q3, q4, q5, q6, q7, q8⟩)) ((go_at_call 12; (with_reducible refine (hC3 _ (by simp; omega)).mono ?_); rintro e w12 ⟨rfl, hb12⟩))
                        have hb13 : Below w7.heap.size w7 w12 := hbt.drew.trans (hb12.mono hbt.size)
                        clear hb12 hbt c0 c1 c2 c3 c4 c5 c6 c7 c8 hst hC3
                        obtain ⟨c0, c1, c2, c3, c4, c5, c6, c7, c8⟩ := HS2.out _ hb13
                        have hs13 := hb13.size
                        clear c3 c4 c5
                        go_wp2_with fail
                        go_region_held3 (fun w' => w'.cell? ⟨b, off + i * 3, none⟩ = some (.string s1) ∧ w'.cell? ⟨b, off + i * 3 + 1, none⟩ = some (.int .i64 x1) ∧ w'.cell? ⟨b, off + i * 3 + 2, none⟩ = some (.string r1) ∧ w'.cell? ⟨b, off + t * 3, none⟩ = some (.string s3) ∧ w'.cell? ⟨b, off + t * 3 + 1, none⟩ = some (.int .i64 x3) ∧ w'.cell? ⟨b, off + t * 3 + 2, none⟩ = some (.string r3)) (first | go_keep | (obtain ⟨q0, q1, q2, q3, q4, q5, q6, q7, q8⟩ := HS2.out _ (hb13.drew.trans (hb14.mono hb13.size)); exact ⟨q0, q1, q2, q6, q7, q8⟩)) ((go_at_call 12; (with_reducible refine (hC4 _ (by simp; omega)).mono ?_); rintro e w14 ⟨rfl, hb14⟩))
                        have hb15 : Below w7.heap.size w7 w14 := hb13.drew.trans (hb14.mono hb13.size)
                        clear hb14 hb13 c0 c1 c2 c6 c7 c8 hs13 hC4 HS2
                        by_cases g1 : -d ≤ 0
                        · by_cases g2 : x ≤ 0
                          · have g3 := HTR.out g1 g2
                            go_wp2
                            exact ⟨⟨t + 1, by omega, by go_num, hb15⟩, by simp [intOf]; omega⟩
                          · go_wp2
                            exact ⟨⟨t + 1, by omega, by go_num, hb15⟩, by simp [intOf]; omega⟩
                        · go_wp2
                          exact ⟨⟨t + 1, by omega, by go_num, hb15⟩, by simp [intOf]; omega⟩
                    · as_aux_lemma =>
                        have htn2 : ¬ (t : Int) < (n : Int) := by omega
                        obtain ⟨c0, c1, c2, c3, c4, c5⟩ := HS.out _ hbt
                        obtain ⟨ri, hri⟩ : ∃ q, rankM bt L (s1, x1, r1) = q := ⟨_, rfl⟩
                        obtain ⟨rj, hrj⟩ : ∃ q, rankM bt L (s2, x2, r2) = q := ⟨_, rfl⟩
                        obtain ⟨k1, _⟩ := (HRK2.out _ hbt).2 i ri (by rw [List.getElem?_map, HL1.out, ← hri]; rfl)
                        obtain ⟨k2, _⟩ := (HRK2.out _ hbt).2 j rj (by rw [List.getElem?_map, HL2.out, ← hrj]; rfl)
                        have HB0 : Hid (bet bt (s1, x1, r1) (L.take (j + 1)) = z + (if d < 0 then 1 else 0)) := by
                          show _ = _
                          rw [bet_take bt (s1, x1, r1) L j _ HL2.out, HZ.out, HD.out]
                        have HLT : Hid (s1 ≠ sNone → s2 ≠ sNone → (0 < d ↔ ri < rj)) := fun e1 e2 => by
                          have := rank_lt bt L (s1, x1, r1) (s2, x2, r2) (List.mem_of_getElem? HL1.out) (List.mem_of_getElem? HL2.out) e1 e2
                          rw [hri, hrj, cm_neg, HD.out] at this
                          rw [← this]
                          omega
                        have HDD : Hid (cm bt (s2, x2, r2) (s1, x1, r1) = d) := HD
                        clear hri hrj ht htn HS c1 c2 c4 c5
                        have hi0' : (0 : Int) ≤ (i : Int) := by omega
                        have hit' : ((i : Int)).toNat = i := by omega
                        have hj0' : (0 : Int) ≤ (j : Int) := by omega
                        have hjt' : ((j : Int)).toNat = j := by omega
                        cases gi : (s1.toList == [110, 111, 110, 101]) with
                        | true =>
                          have e1 : s1 = sNone := by rw [none_beq] at gi; simpa using gi
                          cases gj : (s2.toList == [110, 111, 110, 101]) with
                          | true => as_aux_lemma =>
                              have e2 : s2 = sNone := by rw [none_beq] at gj; simpa using gj
                              obtain rfl : d = 0 := by rw [← HDD.out]; simp [cm, e1, e2]
                              clear e1 e2
                              have HB : Hid (bet bt (s1, x1, r1) (L.take (j + 1)) = z) := by
                                show _ = _
                                have := HB0.out
                                simpa using this
                              clear hd1 hd2
                              go_wp2_with fail
                              go_quiet (fail)
                              go_wp2
                              exact ⟨⟨j + 1, by omega, by go_num, by rw [HB.out], below_drewN hbt _⟩, by simp [intOf]; omega⟩
                          | false => as_aux_lemma =>
                              have e2 : s2 ≠ sNone := by rw [none_beq] at gj; simpa using gj
                              obtain rfl : d = -1 := by rw [← HDD.out]; simp [cm, e1, e2]
                              clear e1 e2
                              have HB : Hid (bet bt (s1, x1, r1) (L.take (j + 1)) = z + 1) := by
                                show _ = _
                                have := HB0.out
                                simpa using this
                              clear hd1 hd2
                              go_wp2_with fail
                              go_quiet (fail)
                              go_wp2
                              exact ⟨⟨j + 1, by omega, by go_num, by rw [HB.out]; go_num, below_drewN hbt _⟩, by simp [intOf]; omega⟩
                        | false =>
                          have e1 : s1 ≠ sNone := by rw [none_beq] at gi; simpa using gi
                          cases gj : (s2.toList == [110, 111, 110, 101]) with
                          | true => as_aux_lemma =>
                              have e2 : s2 = sNone := by rw [none_beq] at gj; simpa using gj
                              obtain rfl : d = 1 := by rw [← HDD.out]; simp [cm, e1, e2]
                              clear e1 e2
                              have HB : Hid (bet bt (s1, x1, r1) (L.take (j + 1)) = z) := by
                                show _ = _
                                have := HB0.out
                                simpa using this
                              clear hd1 hd2
                              go_wp2_with fail
                              go_quiet (fail)
                              go_wp2
                              exact ⟨⟨j + 1, by omega, by go_num, by rw [HB.out], below_drewN hbt _⟩, by simp [intOf]; omega⟩
                          | false =>
                            have e2 : s2 ≠ sNone := by rw [none_beq] at gj; simpa using gj
                            have hlt := HLT.out e1 e2
                            clear e1 e2 HLT
                            rcases (show d = -1 ∨ d = 0 ∨ d = 1 by omega) with rfl | rfl | rfl
                            · as_aux_lemma =>
                                have hq : ¬ (ri : Int) < (rj : Int) := by omega
                                clear hlt
                                have HB : Hid (bet bt (s1, x1, r1) (L.take (j + 1)) = z + 1) := by
                                  show _ = _
                                  have := HB0.out
                                  simpa using this
                                clear hd1 hd2
                                go_wp2_with fail
                                go_quiet (fail)
                                go_wp2
                                exact ⟨⟨j + 1, by omega, by go_num, by rw [HB.out]; go_num, below_drewN hbt _⟩, by simp [intOf]; omega⟩
                            · as_aux_lemma =>
                                have hq : ¬ (ri : Int) < (rj : Int) := by omega
                                clear hlt
                                have HB : Hid (bet bt (s1, x1, r1) (L.take (j + 1)) = z) := by
                                  show _ = _
                                  have := HB0.out
                                  simpa using this
                                clear hd1 hd2
                                go_wp2_with fail
                                go_quiet (fail)
                                go_wp2
                                exact ⟨⟨j + 1, by omega, by go_num, by rw [HB.out], below_drewN hbt _⟩, by simp [intOf]; omega⟩
                            · as_aux_lemma =>
                                have hq : (ri : Int) < (rj : Int) := by omega
                                clear hlt
                                have HB : Hid (bet bt (s1, x1, r1) (L.take (j + 1)) = z) := by
                                  show _ = _
                                  have := HB0.out
                                  simpa using this
                                clear hd1 hd2
                                go_wp2_with fail
                                go_quiet (fail)
                                go_wp2
                                exact ⟨⟨j + 1, by omega, by go_num, by rw [HB.out], below_drewN hbt _⟩, by simp [intOf]; omega⟩
                · as_aux_lemma =>
                    have hjn2 : ¬ (j : Int) < (n : Int) := by omega
                    have hZ := HZ.out
                    rw [show j = n by omega, List.take_of_length_le (by rw [Hlen.out]; omega)] at hZ
                    have hz12 : (z : Int) ≤ 12 := by omega
                    obtain ⟨c0, _, _⟩ := (HM2.out _ hbj).cells HL1.out
                    have hi0' : (0 : Int) ≤ (i : Int) := by omega
                    have hit' : ((i : Int)).toNat = i := by omega
                    cases gi : (s1.toList == [110, 111, 110, 101]) with
                    | true => as_aux_lemma =>
                        have e1 : s1 = sNone := by rw [none_beq] at gi; simpa using gi
                        obtain ⟨k1, _⟩ := (HRK2.out _ hbj).2 i 0 (by rw [List.getElem?_map, HL1.out, ← rankM_none bt (s1, x1, r1) L e1]; rfl)
                        clear e1 hZ
                        go_wp2
                        exact ⟨⟨i + 1, by omega, by go_num, hbj⟩, by simp [intOf]; omega⟩
                    | false => as_aux_lemma =>
                        have e1 : s1 ≠ sNone := by rw [none_beq] at gi; simpa using gi
                        obtain ⟨k1, _⟩ := (HRK2.out _ hbj).2 i (1 + z) (by rw [List.getElem?_map, HL1.out, ← hZ, ← bet_rank bt (s1, x1, r1) L e1]; rfl)
                        rw [show ((1 + z : Nat) : Int) = (z : Int) + 1 by omega] at k1
                        clear e1 hZ
                        go_wp2
                        exact ⟨⟨i + 1, by omega, by go_num, hbj⟩, by simp [intOf]; omega⟩
            · go_wp2
              go_ret
              exact ⟨rfl, hb7.trans (hbi.mono hb7.size)⟩
end Go.Mk
