/-
  Proved: the first error of the teams of all rounds by the reference (CheckTeams) of a relay without an error is the one by package track. Conditions: the names and the teams lie where the slices say; at most 1,000 teams and names in a list, each name no longer than an int says.
-/
import Derived.Test.YtnknmplepgmfmaaGreatDoorXm
set_option linter.unusedVariables false
set_option linter.unusedSimpArgs false
open Go Go.Proofs Go.RowKit Go.Maps Go.Sort Go.WideMaps
set_option maxRecDepth 100000
namespace Go.Mk
theorem infoStr : (Tryz.prog.info? 9).map (fun i => (i.zero, i.size, i.bytes)) = some (some (.string ⟨#[]⟩), 1, 16) := by kernel_rfl
theorem OwnNames.next {w1 : World} {B : Nat} {v' : Value} {L : List ByteArray} {t : ByteArray} (h : w1.ownsRow B 9 1 v' (L.length + 1) (L.map Value.string ++ [Value.string t])) : OwnNames w1 B v' (L ++ [t]) := by
  unfold OwnNames
  rw [List.length_append, List.map_append]
  exact h
theorem TextsZ.of_own {w : World} {base : Nat} {v : Value} {L : List ByteArray} (h : OwnNames w base v L) : ∃ A c, v = .slice A L.length c ∧ TextsZ w A L.length L := by
  rcases h.2 with ⟨a, b⟩ | ⟨g, cap, cur, a, b, c, d, e1, f, hx⟩
  · exact ⟨none, 0, by rw [a, b], rfl, fun hn => absurd hn (by omega)⟩
  · refine ⟨_, cap, a, rfl, fun _ => ⟨g, 0, rfl, (Array.getElem?_eq_some_iff.1 c).1, fun j x hj => ?_⟩⟩
    have := World.ownsRow.cells h (g := g) (by rw [a]; rfl) j (.string x) (by simp [hj])
    rwa [show (⟨g, 0, none⟩ : Addr).add j = ⟨g, 0 + j, none⟩ from by unfold Addr.add; split <;> simp_all] at this
set_option maxHeartbeats 8000000 in
theorem r7CheckTeams_any (A : Option Addr) (n cap : Nat) (z b : Int) (AT : Option Addr) (nT cT : Nat) (LT : List (List ByteArray)) (AR : Option Addr) (nR cR : Nat) (R : List ByteArray) (w : World)
    (hT : TeamsB w w.heap.size AT nT LT) (hR : TextsZ w AR nR R) (hcR : nR ≤ cR) (hnT : nT ≤ 1000) (hnf : ∀ l ∈ LT, l.length ≤ 1000 ∧ ∀ x ∈ l, x.size ≤ maxLen) (hnR : nR ≤ 1000) (hRs : ∀ x ∈ R, x.size ≤ maxLen) :
    Calls Tryz.prog 28 #[.agg #[.slice A n cap, .int .i64 z, .int .i64 b], .slice AT nT cT, .slice AR nR cR] w
      (RetPost (.tuple #[.int .i64 ((teamsE 0 n LT R).1 : Nat), .int .i64 (teamsE 0 n LT R).2]) w) := by
  obtain ⟨i0, hi, hz0, hz1, hz2⟩ := info_parts infoStr
  have hnTi : (nT : Int) ≤ 1000 := by omega
  have hnRi : (nR : Int) ≤ 1000 := by omega
  have hb0 : Below w.heap.size w (w.alloc (.cells #[.slice A n cap, .int .i64 z, .int .i64 b] 26)) := balloc _ (Below.refl _ _)
  by_cases hT0 : nT = 0
  · subst hT0
    have hY : teamsE 0 n LT R = (0, 12) := by unfold teamsE; rw [if_neg (by decide), if_pos hT.1]
    rw [hY]
    clear hY hT hR hRs hnf
    go_enter Tryz.func28, Tryz.ntmps28
    go_wp2
    go_ret2
    exact ⟨rfl, hb0⟩
  have hT0i : ((nT : Int) == 0) = false := by simp; omega
  by_cases hT8 : 8 < nT
  · have hY : teamsE 0 n LT R = (0, 5) := by unfold teamsE; rw [if_neg (by decide), hT.1, if_neg hT0, if_pos hT8]
    have hT8i : (8 : Int) < (nT : Int) := by omega
    rw [hY]
    clear hY hT hR hRs hnf
    go_enter Tryz.func28, Tryz.ntmps28
    go_wp2
    go_ret2
    exact ⟨rfl, hb0⟩
  have hT8i : ¬ (8 : Int) < (nT : Int) := by omega
  by_cases hR16 : 16 < nR
  · have hY : teamsE 0 n LT R = (0, 5) := by unfold teamsE; rw [if_neg (by decide), hT.1, if_neg hT0, if_neg hT8, hR.1, if_pos hR16]
    have hR16i : (16 : Int) < (nR : Int) := by omega
    rw [hY]
    clear hY hT hR hRs hnf
    go_enter Tryz.func28, Tryz.ntmps28
    go_wp2
    go_ret2
    exact ⟨rfl, hb0⟩
  have hR16i : ¬ (16 : Int) < (nR : Int) := by omega
  have hN := r7names_any R nR cR AR _ (hR.below hb0) hnR hcR hRs
  by_cases hq : nmsE [] R = 0
  · have hY : teamsE 0 n LT R = tmsE 0 n (LT.headD []) R 0 [] LT := by unfold teamsE; rw [if_neg (by decide), hT.1, if_neg hT0, if_neg hT8, hR.1, if_neg hR16, if_neg (by simpa using hq)]
    rw [hY]
    rw [hq] at hN
    clear hY hq
    have hsz0 : (w.alloc (.cells #[.slice A n cap, .int .i64 z, .int .i64 b] 26)).heap.size = w.heap.size + 1 := by simp
    have d0 : (w.alloc (.cells #[.slice A n cap, .int .i64 z, .int .i64 b] 26)).cell? ⟨w.heap.size, 0, none⟩ = some (.slice A n cap) := by simp
    have d1 : (w.alloc (.cells #[.slice A n cap, .int .i64 z, .int .i64 b] 26)).cell? ⟨w.heap.size, 1, none⟩ = some (.int .i64 z) := by simp
    have d2 : (w.alloc (.cells #[.slice A n cap, .int .i64 z, .int .i64 b] 26)).cell? ⟨w.heap.size, 2, none⟩ = some (.int .i64 b) := by simp
    have HT := Lib.hid (hT.below hb0 (Nat.le_refl _))
    have HR := Lib.hid ((hR.toB).below hb0 (Nat.le_refl _))
    have Hlen := Lib.hid hT.1
    have HS := Lib.hid hnf
    have HB0 := Lib.hid hb0
    obtain ⟨F, hF⟩ : ∃ F, LT.headD [] = F := ⟨_, rfl⟩
    rw [hF]
    have HF : Hid (LT[0]? = some F) := Lib.hid (by
      cases hL : LT with
      | nil => rw [hL] at hT; have := hT.1; simp at this; omega
      | cons x l => rw [hL] at hF; simp at hF; simp [hF])
    obtain ⟨Y, hY⟩ : ∃ Y, tmsE 0 n F R 0 [] LT = Y := ⟨_, rfl⟩
    rw [hY]
    have HY : Hid (tmsE 0 n F R 0 [] (LT.drop 0) = Y) := Lib.hid (by rw [List.drop_zero]; exact hY)
    clear hT hR hRs hnf hF hY hb0
    go_enter Tryz.func28, Tryz.ntmps28
    go_wp2_with fail
    refine hN.mono ?_
    rintro e w4 ⟨rfl, hb4⟩
    obtain ⟨w1, hw1⟩ : ∃ w1, w.alloc (.cells #[.slice A n cap, .int .i64 z, .int .i64 b] 26) = w1 := ⟨_, rfl⟩
    rw [hw1] at hsz0 d0 d1 d2 HT HR HB0 hb4
    obtain ⟨g0, hg0⟩ : ∃ g0, w.heap.size = g0 := ⟨_, rfl⟩
    rw [hg0] at hsz0 d0 d1 d2 HT HR HB0
    rw [hsz0] at hb4
    have HC : Hid (∀ w', Below (g0 + 1) w4 w' → w'.cell? ⟨g0, 0, none⟩ = some (.slice A n cap) ∧ w'.cell? ⟨g0, 1, none⟩ = some (.int .i64 z) ∧ w'.cell? ⟨g0, 2, none⟩ = some (.int .i64 b) ∧ TeamsB w' g0 AT nT LT ∧ TextsB w' g0 AR nR R) := Lib.hid fun w' hb => by
      have hb1 := hb4.trans hb
      exact ⟨(hb1.cell (p := ⟨g0, 0, none⟩) (by show g0 < _; omega)).trans d0, (hb1.cell (p := ⟨g0, 1, none⟩) (by show g0 < _; omega)).trans d1, (hb1.cell (p := ⟨g0, 2, none⟩) (by show g0 < _; omega)).trans d2, HT.out.below hb1 (by omega), HR.out.below hb1 (by omega)⟩
    have HW : Hid (∀ w', Below (g0 + 1) w4 w' → Below w.heap.size w w') := Lib.hid fun w' hb => by rw [hg0]; exact HB0.out.trans ((hb4.trans hb).mono (by omega))
    have h14 := hb4.size
    have hg4 : g0 + 1 ≤ w4.heap.size := by omega
    have HHAS : Hid (∀ (L : List ByteArray) (s : ByteArray) (m c : Nat) (Al : Option Addr) (w' : World), TextsZ w' Al m L → m ≤ 100000 → Calls Tryz.prog 72 #[.slice Al m c, .string s] w' (RetSame (.bool (isIn L s)) w')) := Lib.hid fun L s m c Al w' h1 h2 => r7Has_any L s m c Al w' h1 h2
    clear hw1 d0 d1 d2 HT HR hN hb4 h14
    go_wp2
    try rw [hg0]
    go_loopw [9, 10] (fun v i wr => ∃ (k : Nat) (Q : List ByteArray), k ≤ nT ∧ i = .int .i64 k ∧ Hid (tmsE 0 n F R k Q (LT.drop k) = Y) ∧ OwnNames wr (g0 + 1) v Q ∧ Q.length ≤ 1000 * k ∧ Below (g0 + 1) w4 wr) (fun _ i _ => nT - (RowKit.intOf i).toNat)
    case atStart => exact ⟨0, [], by omega, rfl, HY, World.ownsRow_nil _ _ _ _, by simp, Below.refl _ _⟩
    case round =>
      obtain ⟨k, Q, hk, rfl, HK, hown, hQl, hb⟩ := hrel
      by_cases hlt : k < nT
      · obtain ⟨c0, c1, c2, hTw, hRw⟩ := HC.out _ hb
        obtain ⟨tb, toff, T, At, ct, hATe, htb, hTk, hTc, hTl, hTB⟩ := hTw.at_ hlt
        have hki : (k : Int) < (nT : Int) := by omega
        have hTs := HS.out T (List.mem_of_getElem? hTk)
        have hgr : g0 + 1 ≤ wr.heap.size := Nat.le_trans hg4 hb.size
        have HCT : Hid (∀ w', Below wr.heap.size wr w' → Calls Tryz.prog 24 #[.agg #[.slice A n cap, .int .i64 z, .int .i64 b], .slice At T.length ct] w' (RetPost (.int .i64 (teamE 0 n T)) w')) := Lib.hid fun w' hb' => r7CheckTeam_any [] n cap A z b T T.length ct At w' (hTB.toZ.below hb') hTs.1 hTl hTs.2
        have HCW : Hid (∀ w', Below wr.heap.size wr w' → w'.cell? ⟨g0, 0, none⟩ = some (.slice A n cap) ∧ w'.cell? ⟨g0, 1, none⟩ = some (.int .i64 z) ∧ w'.cell? ⟨g0, 2, none⟩ = some (.int .i64 b) ∧ w'.cell? ⟨tb, toff + k, none⟩ = some (.slice At T.length ct) ∧ Below wr.heap.size wr w') := Lib.hid fun w' hb' =>
          ⟨(hb'.cell (p := ⟨g0, 0, none⟩) (by show g0 < _; omega)).trans c0, (hb'.cell (p := ⟨g0, 1, none⟩) (by show g0 < _; omega)).trans c1, (hb'.cell (p := ⟨g0, 2, none⟩) (by show g0 < _; omega)).trans c2, (hb'.cell (p := ⟨tb, toff + k, none⟩) (by show tb < _; omega)).trans hTc, hb'⟩
        have hst := HK.out
        rw [tmsE_drop k hTk] at hst
        obtain ⟨ct2, hct2⟩ : ∃ x, teamE 0 n T = x := ⟨_, rfl⟩
        rw [hct2] at HCT hst
        have HOW := Lib.hid hown
        have HTk := Lib.hid hTk
        clear c0 c1 c2 hTw hRw hTc hTl hTB hTs hct2 HK hTk hown
        subst hATe
        go_wp2_with fail
        go_region_held3 (fun w' => w'.cell? ⟨g0, 0, none⟩ = some (.slice A n cap) ∧ w'.cell? ⟨g0, 1, none⟩ = some (.int .i64 z) ∧ w'.cell? ⟨g0, 2, none⟩ = some (.int .i64 b) ∧ w'.cell? ⟨tb, toff + k, none⟩ = some (.slice At T.length ct) ∧ Below wr.heap.size wr w') ((first | (exact HCW.out _ (Below.drew (Below.refl _ _))) | (assumption) | (exact HCW.out _ (bstep (Below.drew (Below.refl _ _)) hbw)))) ((first | (go_at_call 24; (refine (HCT.out _ (Below.drew (Below.refl _ _))).mono ?_); rintro e w5 ⟨rfl, hbw⟩)))
        all_goals
          rename_i hH
          have hb5 := hH.2.2.2.2
          clear hH hbw HCT HCW
          have HB5 := Lib.hid (hb.trans (hb5.mono hgr))
          have hgr5 : g0 + 1 ≤ w5.heap.size := Nat.le_trans hgr hb5.size
          have ho5 : OwnNames w5 (g0 + 1) _ Q := ownN HOW.out hb5
          have HO5 := Lib.hid ho5
          clear hb hb5 HOW ho5
          by_cases q : ct2 = 0
          · subst q
            rw [if_pos rfl] at hst
            obtain ⟨Z, hZ⟩ : ∃ Z, chgE F R Q T = Z := ⟨_, rfl⟩
            rw [hZ] at hst
            have HZ : Hid (chgE F R Q (T.drop 0) = Z) := Lib.hid (by rw [List.drop_zero]; exact hZ)
            have Hst := Lib.hid hst
            have hTs := HS.out T (List.mem_of_getElem? HTk.out)
            have HTS := Lib.hid hTs.2
            have hTl1 := hTs.1
            obtain ⟨nt, hnt⟩ : ∃ nt, T.length = nt := ⟨_, rfl⟩
            rw [hnt] at hTl1
            have Hnt := Lib.hid hnt
            have hnti : (nt : Int) ≤ 1000 := by omega
            obtain ⟨wy, hwy⟩ : ∃ wy : World, w5 = wy := ⟨_, rfl⟩
            rw [hwy] at HB5 hgr5 HO5 ⊢
            have HO5' := HO5.out
            clear hwy hst hZ hTs hnt
            go_wp2
            go_loopw [9, 11] (fun v i wr => ∃ (j : Nat) (P : List ByteArray), j ≤ nt ∧ i = .int .i64 j ∧ Hid (chgE F R P (T.drop j) = Z) ∧ OwnNames wr (g0 + 1) v P ∧ P.length ≤ 1000 * k + j ∧ Below (g0 + 1) wy wr) (fun _ i _ => nt - (RowKit.intOf i).toNat)
            case atStart => exact ⟨0, Q, by omega, rfl, HZ, HO5', by omega, Below.refl _ _⟩
            case round =>
              obtain ⟨j, P, hj, rfl, HK, hown, hPl, hb⟩ := hrel
              have hbT := HB5.out.trans hb
              obtain ⟨_, _, _, hTw, hRw⟩ := HC.out _ hbT
              obtain ⟨tb', toff', T', At', ct', e1, htb', hT', hTc', _, hTB'⟩ := hTw.at_ hlt
              cases e1
              obtain rfl : T' = T := Option.some.inj (hT'.symm.trans HTk.out)
              obtain ⟨tb', toff', F', Af', cf', e1, _, hF', hFc', _, hFB'⟩ := hTw.at_ (k := 0) (by omega)
              cases e1
              obtain rfl : F' = F := Option.some.inj (hF'.symm.trans HF.out)
              rw [Hnt.out] at hTc'
              have hgrr : g0 + 1 ≤ wr.heap.size := Nat.le_trans hgr5 hb.size
              have hnFl := (HS.out F' (List.mem_of_getElem? hF')).1
              have HOP := Lib.hid hown
              have HFB := Lib.hid hFB'.toZ
              have HRB := Lib.hid hRw.toZ
              have hTBZ := hTB'.toZ
              have hki0 : (0 : Int) < (nT : Int) := by omega
              rw [Nat.add_zero] at hFc'
              clear hTw hRw hT' hF' hFB' hTB' HO5' hown
              by_cases hjlt : j < nt
              · obtain ⟨b2, off2, x, rfl, hbl2, hx, hcx⟩ := hTBZ.at_ (by rw [Hnt.out]; exact hjlt)
                have hji : (j : Int) < (nt : Int) := by omega
                have hst2 := HK.out
                rw [chgE_drop hx] at hst2
                have hCF := HHAS.out F' x F'.length cf' Af' wr HFB.out (by omega)
                have hCR := HHAS.out R x nR cR AR wr HRB.out (by omega)
                clear hTBZ HK hx
                cases hf : isIn F' x with
                | true =>
                  rw [hf] at hst2 hCF
                  rw [if_pos rfl] at hst2
                  have Hst2 := Lib.hid hst2
                  clear hst2 hCR hf HY
                  as_aux_lemma =>
                    go_wp2_with fail
                    refine hCF.mono ?_
                    rintro e w' ⟨rfl, rfl⟩
                    go_wp2
                    go_roundw
                    case rel => exact ⟨j + 1, P, by omega, by go_num, Hst2, HOP.out, by omega, hb⟩
                    case measure => simp [RowKit.intOf]; omega
                | false =>
                  rw [hf] at hst2 hCF
                  rw [if_neg (by simp)] at hst2
                  cases hr : isIn R x with
                  | false =>
                    rw [hr] at hst2 hCR
                    rw [if_neg (by simp)] at hst2
                    have hY10 : Y = (k, 10) := by have h := Hst.out; rw [← hst2] at h; exact h.symm
                    have hbw := HW.out _ hbT
                    subst hY10
                    clear hst2 hf hr HY Hst
                    as_aux_lemma =>
                      go_wp2_with fail
                      refine hCF.mono ?_
                      rintro e w' ⟨rfl, rfl⟩
                      go_wp2_with fail
                      refine hCR.mono ?_
                      rintro e w' ⟨rfl, rfl⟩
                      go_wp2
                      go_ret2
                      exact ⟨rfl, hbw⟩
                  | true =>
                    rw [hr] at hst2 hCR
                    rw [if_pos rfl] at hst2
                    obtain ⟨Ao, co, rfl, hPZ⟩ := TextsZ.of_own HOP.out
                    have hCP := HHAS.out P x P.length co Ao wr hPZ (by omega)
                    cases hp : isIn P x with
                    | true =>
                      rw [hp] at hst2 hCP
                      rw [if_pos rfl] at hst2
                      have Hst2 := Lib.hid hst2
                      clear hst2 hf hr HY hp hPZ
                      as_aux_lemma =>
                        go_wp2_with fail
                        refine hCF.mono ?_
                        rintro e w' ⟨rfl, rfl⟩
                        go_wp2_with fail
                        refine hCR.mono ?_
                        rintro e w' ⟨rfl, rfl⟩
                        go_wp2_with fail
                        refine hCP.mono ?_
                        rintro e w' ⟨rfl, rfl⟩
                        go_wp2
                        go_roundw
                        case rel => exact ⟨j + 1, P, by omega, by go_num, Hst2, HOP.out, by omega, hb⟩
                        case measure => simp [RowKit.intOf]; omega
                    | false =>
                      rw [hp] at hst2 hCP
                      rw [if_neg (by simp)] at hst2
                      have Hst2 := Lib.hid hst2
                      have hown := HOP.out
                      clear hst2 hf hr HY hp hPZ
                      as_aux_lemma =>
                        go_wp2_with fail
                        refine hCF.mono ?_
                        rintro e w' ⟨rfl, rfl⟩
                        go_wp2_with fail
                        refine hCR.mono ?_
                        rintro e w' ⟨rfl, rfl⟩
                        go_wp2_with fail
                        refine hCP.mono ?_
                        rintro e w' ⟨rfl, rfl⟩
                        go_wp2_with (at_builtin; refine wpList_append_own _ rfl _ _ 54 rfl (g0 + 1) 9 i0 (.string ⟨#[]⟩) 1 16 Tryz.underlying54 hi hz0 hz1 hz2 rfl (by decide) _ _ _ rfl (World.ownsRow.alloc hown _) ⟨wr.heap.size, 0, none⟩ 1 1 [.string x] rfl rfl ?c1 ?c2 ?c3 ?c4 ?c5 ?_)
                        case c1 =>
                          intro j u hj
                          match j, hj with
                          | 0, hj => simp at hj; subst hj; simp [Addr.add]
                        case c2 => intro u hu; simp at hu; subst hu; rfl
                        case c3 => unfold maxLen; omega
                        case c4 => omega
                        case c5 => simp; omega
                        · intro v' w1 hown' hgrow _
                          have hb1 : Below (g0 + 1) wy w1 := (hb.alloc (Nat.le_trans hgr5 hb.size) _).grown hgrow (by simp; omega) (fun r hr => (World.ownsRow.lt hown r hr).1)
                          have ho1 : OwnNames w1 (g0 + 1) v' (P ++ [x]) := OwnNames.next (by simpa using hown')
                          clear hown' hgrow hown
                          go_wp2
                          go_roundw
                          case rel => exact ⟨j + 1, P ++ [x], by omega, by go_num, Hst2, ho1, by simp; omega, hb1⟩
                          case measure => simp [RowKit.intOf]; omega
              · have hjn : j = nt := by omega
                have h0 := HK.out
                rw [hjn, List.drop_of_length_le (by rw [Hnt.out]; omega), chgE] at h0
                obtain ⟨Ao, co, rfl, hPZ⟩ := TextsZ.of_own HOP.out
                have h2 := Hst.out
                rw [← h0] at h2
                clear hPZ h0 HK HFB HRB hTBZ HY Hst
                by_cases q2 : 2 < P.length
                · rw [if_pos q2] at h2
                  have hY18 : Y = (k, 18) := h2.symm
                  have hq2 : (2 : Int) < (P.length : Int) := by omega
                  have hbw := HW.out _ hbT
                  subst hY18
                  clear h2
                  go_wp2
                  go_ret2
                  exact ⟨rfl, hbw⟩
                · rw [if_neg q2, if_pos rfl] at h2
                  have HX := Lib.hid h2
                  have hq2 : ¬ (2 : Int) < (P.length : Int) := by omega
                  have hown := HOP.out
                  clear h2
                  go_wp2
                  go_roundw
                  case rel => exact ⟨k + 1, P, by omega, by go_num, HX, hown, by omega, hbT⟩
                  case measure => simp [RowKit.intOf]; omega
          · rw [if_neg q] at hst
            have hb' : (ct2 != 0) = true := by rw [bne_iff_ne]; exact q
            subst hst
            have hbw := HW.out _ HB5.out
            clear HY
            go_wp2
            go_ret2
            exact ⟨rfl, hbw⟩
      · have hkn : k = nT := by omega
        have h0 := HK.out
        rw [hkn, List.drop_of_length_le (by rw [Hlen.out]; omega), tmsE] at h0
        subst h0
        have hbw := HW.out _ hb
        clear HK
        go_wp2
        go_ret2
        exact ⟨rfl, hbw⟩
  · have hY : teamsE 0 n LT R = (0, nmsE [] R) := by unfold teamsE; rw [if_neg (by decide), hT.1, if_neg hT0, if_neg hT8, hR.1, if_neg hR16, if_pos hq]
    rw [hY]
    obtain ⟨e, he⟩ : ∃ e, nmsE [] R = e := ⟨_, rfl⟩
    rw [he] at hN hq ⊢
    have hb' : (e != 0) = true := by rw [bne_iff_ne]; exact hq
    clear hY hT hR hRs hnf hq he
    go_enter Tryz.func28, Tryz.ntmps28
    go_wp2_with fail
    refine hN.mono ?_
    rintro e w4 ⟨rfl, hb4⟩
    have hb5 := bstep hb0 hb4
    go_wp2
    go_ret2
    exact ⟨rfl, hb5⟩
end Go.Mk
