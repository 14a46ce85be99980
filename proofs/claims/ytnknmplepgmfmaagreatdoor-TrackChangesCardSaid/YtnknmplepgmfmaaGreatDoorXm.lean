/-
  Proved: the members of the teams of all rounds by package track (Members): the error of the teams, or their names, each once, sorted by their bytes. Conditions: the legs, the names and the teams lie where the slices say; at most 1,000 teams and names in a list, each name no longer than an int says.
-/
import Derived.Test.YtnknmplepgmfmaaGreatDoorXl
set_option linter.unusedVariables false
set_option linter.unusedSimpArgs false
open Go Go.Proofs Go.RowKit Go.Maps Go.Sort Go.WideMaps
set_option maxRecDepth 100000
namespace Go.Mk
theorem dst_len (P l : List ByteArray) : (dst P l).length ≤ P.length + l.length := by
  induction l generalizing P with
  | nil => simp [dst]
  | cons s l ih =>
    rw [dst]
    refine Nat.le_trans (ih _) ?_
    split <;> simp <;> omega
theorem flat_drop {LL : List (List ByteArray)} {k : Nat} {l : List ByteArray} (h : LL[k]? = some l) : (LL.drop k).flatten = l ++ (LL.drop (k + 1)).flatten := by
  obtain ⟨hk, e⟩ := List.getElem?_eq_some_iff.1 h
  rw [List.drop_eq_getElem_cons hk, e, List.flatten_cons]
theorem dst_step {Q l m : List ByteArray} {j : Nat} {s : ByteArray} (h : l[j]? = some s) : dst Q (l.drop j ++ m) = dst (if isIn Q s then Q else Q ++ [s]) (l.drop (j + 1) ++ m) := by
  obtain ⟨hk, e⟩ := List.getElem?_eq_some_iff.1 h
  rw [List.drop_eq_getElem_cons hk, e, List.cons_append, dst]
set_option maxHeartbeats 4000000 in
theorem trMembers_bad (A : Option Addr) (n cap : Nat) (z b : Int) (L : List Int) (AT : Option Addr) (nT cT : Nat) (LT : List (List ByteArray)) (AR : Option Addr) (nR cR : Nat) (R : List ByteArray) (w : World)
    (hL : IntsZ w A n L) (hT : TeamsB w w.heap.size AT nT LT) (hR : TextsZ w AR nR R) (hn : (n : Int) ≤ 9223372036854775807) (hc : n ≤ cap) (hcR : nR ≤ cR) (hnT : nT ≤ 1000) (hnf : ∀ l ∈ LT, l.length ≤ 1000 ∧ ∀ x ∈ l, x.size ≤ maxLen) (hnR : nR ≤ 1000) (hRs : ∀ x ∈ R, x.size ≤ maxLen)
    (hbad : (teamsE (relW L z b) n LT R).2 ≠ 0) :
    Calls Tryz.prog 27 #[.agg #[.slice A n cap, .int .i64 z, .int .i64 b], .slice AT nT cT, .slice AR nR cR] w (RetPost (.tuple #[.slice none 0 0, .int .i64 (teamsE (relW L z b) n LT R).2]) w) := by
  have hb0 : Below w.heap.size w (w.alloc (.cells #[.slice A n cap, .int .i64 z, .int .i64 b] 24)) := balloc _ (Below.refl _ _)
  have hC := trCheckTeams_any A n cap z b L AT nT cT LT AR nR cR R _ (hL.below hb0) ((hT.below hb0 (Nat.le_refl _)).wide hb0.size (Nat.le_refl _)) (hR.below hb0) hn hc hcR hnT hnf hnR hRs
  have HB := Lib.hid hb0
  generalize teamsE (relW L z b) n LT R = Y at *
  obtain ⟨y1, y2⟩ := Y
  simp only at hC hbad ⊢
  have hb' : (y2 != 0) = true := by rw [bne_iff_ne]; exact hbad
  clear hL hT hR hn hnf hRs hb0 hbad
  go_enter Tryz.func27, Tryz.ntmps27
  go_wp2_with fail
  refine hC.mono ?_
  rintro e w2 ⟨rfl, hb2⟩
  have hb3 := bstep HB.out hb2
  go_wp2
  go_ret2
  exact ⟨rfl, hb3⟩
set_option maxHeartbeats 4000000 in
theorem trMembers_ok (A : Option Addr) (n cap : Nat) (z b : Int) (L : List Int) (AT : Option Addr) (nT cT : Nat) (LT : List (List ByteArray)) (AR : Option Addr) (nR cR : Nat) (R : List ByteArray) (w : World)
    (hL : IntsZ w A n L) (hT : TeamsB w w.heap.size AT nT LT) (hR : TextsZ w AR nR R) (hn : (n : Int) ≤ 9223372036854775807) (hc : n ≤ cap) (hcR : nR ≤ cR) (hnT : nT ≤ 1000) (hnf : ∀ l ∈ LT, l.length ≤ 1000 ∧ ∀ x ∈ l, x.size ≤ maxLen) (hnR : nR ≤ 1000) (hRs : ∀ x ∈ R, x.size ≤ maxLen)
    (hfl : LT.flatten.length ≤ 100000) (hok : (teamsE (relW L z b) n LT R).2 = 0) :
    Calls Tryz.prog 27 #[.agg #[.slice A n cap, .int .i64 z, .int .i64 b], .slice AT nT cT, .slice AR nR cR] w (fun e w' => ∃ v, e = .returned (.tuple #[v, .int .i64 0]) ∧ OwnNames w' w.heap.size v (srtB (dst [] LT.flatten)) ∧ Below w.heap.size w w') := by
  have hmm := @run_makeMap Tryz.prog
  have hni : (nT : Int) ≤ 1000 := by omega
  have hb0 : Below w.heap.size w (w.alloc (.cells #[.slice A n cap, .int .i64 z, .int .i64 b] 24)) := balloc _ (Below.refl _ _)
  have hC := trCheckTeams_any A n cap z b L AT nT cT LT AR nR cR R _ (hL.below hb0) ((hT.below hb0 (Nat.le_refl _)).wide hb0.size (Nat.le_refl _)) (hR.below hb0) hn hc hcR hnT hnf hnR hRs
  have HB := Lib.hid hb0
  rw [hok] at hC
  obtain ⟨at_, hat⟩ : ∃ x : Nat, (teamsE (relW L z b) n LT R).1 = x := ⟨_, rfl⟩
  rw [hat] at hC
  have HT := Lib.hid hT
  have Hlen := Lib.hid hT.1
  have HS := Lib.hid hnf
  obtain ⟨M, hM⟩ : ∃ M, dst [] LT.flatten = M := ⟨_, rfl⟩
  rw [hM]
  have HMl : Hid (M.length ≤ 100000) := Lib.hid (by rw [← hM]; have := dst_len [] LT.flatten; rw [List.length_nil] at this; omega)
  have HY : Hid (dst [] (LT.drop 0).flatten = M) := Lib.hid (by rw [List.drop_zero]; exact hM)
  clear hL hT hR hn hnf hRs hb0 hok hat hM hfl
  go_enter Tryz.func27, Tryz.ntmps27
  go_wp2_with fail
  refine hC.mono ?_
  rintro e w1 ⟨rfl, hb2⟩
  have hb3 := bstep HB.out hb2
  have HB3 := Lib.hid hb3
  have HN0 := Lib.hid (NSet.made w1)
  clear hC hb2 hb3
  go_wp2
  obtain ⟨B, hB⟩ : ∃ B, w1.heap.size = B := ⟨_, rfl⟩
  obtain ⟨w2, hw2⟩ : ∃ w2, w1.alloc (.map #[] 0) = w2 := ⟨_, rfl⟩
  have HB12 : Hid (Below B w1 w2) := Lib.hid (by rw [← hw2, ← hB]; exact (Below.refl _ _).alloc (Nat.le_refl _) _)
  rw [hB, hw2] at HN0
  rw [hB, hw2]
  have HWB : Hid (w.heap.size ≤ B) := Lib.hid (by rw [← hB]; exact HB3.out.size)
  have HTr : Hid (∀ w', Below B w2 w' → TeamsB w' w.heap.size AT nT LT) := Lib.hid fun w' hb => ((HT.out.below HB3.out (Nat.le_refl _)).below HB12.out HWB.out).below hb HWB.out
  clear hw2
  go_loopw [28] (fun i wr => ∃ (k n' : Nat) (Q : List ByteArray), k ≤ nT ∧ n' ≤ 1000 * k ∧ i = .int .i64 k ∧ Hid (dst Q (LT.drop k).flatten = M) ∧ Hid (NSet wr B n' Q) ∧ Hid Q.Nodup ∧ Below B w2 wr) (fun i _ => nT - (RowKit.intOf i).toNat)
  case atStart => exact ⟨0, 0, [], by omega, by omega, rfl, HY, HN0, Lib.hid List.nodup_nil, Below.refl _ _⟩
  case round =>
    obtain ⟨k, n', Q, hk, hn', rfl, HK, HN, HD, hb⟩ := hrel
    by_cases hlt : k < nT
    · obtain ⟨tb, toff, T, At, ct, rfl, htb, hT, hTc, hTl, hTB⟩ := (HTr.out _ hb).at_ hlt
      have hki : (k : Int) < (nT : Int) := by omega
      have hTs := HS.out T (List.mem_of_getElem? hT)
      have hst := HK.out
      rw [flat_drop hT] at hst
      obtain ⟨X, hX⟩ : ∃ X, (LT.drop (k + 1)).flatten = X := ⟨_, rfl⟩
      rw [hX] at hst
      have HX := Lib.hid hX
      have Hst : Hid (dst Q (T.drop 0 ++ X) = M) := Lib.hid (by rw [List.drop_zero]; exact hst)
      have HTS := Lib.hid hTs.2
      have hTl1 := hTs.1
      have HTB := Lib.hid hTB
      obtain ⟨nt, hnt⟩ : ∃ nt, T.length = nt := ⟨_, rfl⟩
      rw [hnt] at hTc hTl1 HTB
      have Hnt := Lib.hid hnt
      have hnti : (nt : Int) ≤ 1000 := by omega
      obtain ⟨wy, hwy⟩ : ∃ wy : World, wr = wy := ⟨_, rfl⟩
      rw [hwy] at HN HTB hb hTc ⊢
      have HBY := Lib.hid hb
      clear hwy hst hX hTs hTB hTl HK hb hT hnt
      go_wp2
      go_loopw [34] (fun i wr => ∃ (j n2 : Nat) (Q : List ByteArray), j ≤ nt ∧ n2 ≤ n' + j ∧ i = .int .i64 j ∧ Hid (dst Q (T.drop j ++ X) = M) ∧ Hid (NSet wr B n2 Q) ∧ Hid Q.Nodup ∧ Below B wy wr) (fun i _ => nt - (RowKit.intOf i).toNat)
      case atStart => exact ⟨0, n', Q, by omega, by omega, rfl, Hst, HN, HD, Below.refl _ _⟩
      case round =>
        obtain ⟨j, n2, Q2, hj, hn2, rfl, HK, HN2, HD2, hb⟩ := hrel
        clear hTc
        by_cases hjlt : j < nt
        · obtain ⟨b2, off2, x, rfl, hbl2, hx, hcx⟩ := (HTB.out.below hb HWB.out).toZ.at_ hjlt
          have hji : (j : Int) < (nt : Int) := by omega
          have hst := HK.out
          rw [dst_step hx] at hst
          have Hst2 := Lib.hid hst
          have hxz := HTS.out x (List.mem_of_getElem? hx)
          have HD3 := Lib.hid (isIn_nodup (s := x) HD2.out)
          clear hst HK hx HTB
          obtain ⟨D, ho, hm, hsz, hD⟩ := HN2.out
          have HDD := Lib.hid hD
          have HZ := Lib.hid hsz
          clear hD hsz
          go_wp2_with (first
            | (at_mapUpdate; refine wpList_mapUpdate_own _ rfl _ _ _ 117 rfl 9 4 setKeyed Tryz.underlying117 (plainElem (H := Unit) Tryz.prog 4) B n2 _ rfl ho (by unfold maxLen; omega) _ _ _ rfl rfl (keyOf_string_mk Tryz.underlying9 hxz) _ [] (plainElem_bool Tryz.underlying4 true) ?_; intro w1 hown1 hgrow1)
            | go_in)
          go_roundw
          case rel => exact ⟨j + 1, n2 + 1, _, by omega, by omega, by go_num, Hst2, Lib.hid (NSet.put hm HZ.out HDD.out x hown1), HD3, hb.grown hgrow1 (Nat.le_of_lt HN2.out.lt) (fun j hj => by cases hj; exact Nat.le_refl _)⟩
          case measure => simp [RowKit.intOf]; omega
        · have hjn : j = nt := by omega
          have h0 := HK.out
          rw [hjn, List.drop_of_length_le (by rw [Hnt.out]; omega), List.nil_append, ← HX.out] at h0
          have Hst2 := Lib.hid h0
          have hb5 := HBY.out.trans hb
          clear h0 HK HTB
          go_wp2
          go_roundw
          case rel => exact ⟨k + 1, n2, Q2, by omega, by omega, by go_num, Hst2, HN2, HD2, hb5⟩
          case measure => simp [RowKit.intOf]; omega
    · have hkn : k = nT := by omega
      have h0 := HK.out
      rw [hkn, List.drop_of_length_le (by rw [Hlen.out]; omega), List.flatten_nil, dst] at h0
      subst h0
      have hS := trSortedKeys_any B n' Q wr HN.out HD.out HMl.out
      have HBw : Hid (Below w.heap.size w wr) := Lib.hid (HB3.out.trans ((HB12.out.trans hb).mono HWB.out))
      clear HK
      go_wp2_with fail
      refine hS.mono ?_
      rintro e w5 ⟨v, rfl, hown, hb5⟩
      have hb6 := bstep HBw.out hb5
      have hown2 : OwnNames w5 w.heap.size v (srtB Q) := ownsRow_base_a hown HBw.out.size
      clear hown hS hb5
      go_wp2
      go_ret2
      exact ⟨_, rfl, hown2, hb6⟩
end Go.Mk
