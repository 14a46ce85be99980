/-
  Proved: the first error of names by package track (namesError) and by its reference (names) is the same plain function. Conditions: the texts lie where the slice says; there are at most 1,000, each no longer than an int says.
-/
import Derived.Test.YtnknmplepgmfmaaGreatDoorXc
set_option linter.unusedVariables false
set_option linter.unusedSimpArgs false
open Go Go.Proofs Go.RowKit
set_option maxRecDepth 100000
namespace Go.Mk
def NamesF (g : Nat) : Value := .func (.func 104) #[] #[.pointer (some ⟨g, 0, none⟩)]
set_option maxHeartbeats 2000000 in
theorem trFirstStr_any (L : List ByteArray) (n cap g cap2 : Nat) (A : Option Addr) (w : World) (hc : w.cell? ⟨g, 0, none⟩ = some (.slice A n cap)) (hg : g < w.heap.size) (hZ : TextsZ w A n L) (hn : n ≤ 1000) (hcap : n ≤ cap) (hs : ∀ x ∈ L, x.size ≤ maxLen) :
    Calls Tryz.prog 103 #[.slice A n cap2, NamesF g] w (fun e w' => ∃ at_ : Int, e = .returned (.tuple #[.int .i64 at_, .int .i64 (nmsE [] L)]) ∧ Below w.heap.size w w') := by
  unfold NamesF
  have hni : (n : Int) ≤ 1000 := by omega
  have H := Lib.hid hZ
  have Hn := Lib.hid hZ.1
  have HS := Lib.hid hs
  have HG : Hid (∀ w', Below w.heap.size w w' → w'.cell? ⟨g, 0, none⟩ = some (.slice A n cap) ∧ g < w'.heap.size ∧ TextsZ w' A n L) := Lib.hid fun w' hb => ⟨(hb.cell (p := ⟨g, _, none⟩) hg).trans hc, Nat.lt_of_lt_of_le hg hb.size, hZ.below hb⟩
  obtain ⟨y, hy⟩ : ∃ y, nmsE [] L = y := ⟨_, rfl⟩
  rw [hy]
  have HY : Hid (nmsE (L.take 0) (L.drop 0) = y) := by rw [← hy]; rfl
  clear hZ hy hc hs
  go_enter Tryz.func103, Tryz.ntmps103
  go_wp2
  go_loopw [11] (fun i wr => ∃ k : Nat, k ≤ n ∧ i = .int .i64 k ∧ Hid (nmsE (L.take k) (L.drop k) = y) ∧ Below w.heap.size w wr) (fun i _ => n - (intOf i).toNat)
  case atStart => exact ⟨0, by omega, rfl, HY, Below.refl _ _⟩
  case round =>
    obtain ⟨k, hk, rfl, HK, hb⟩ := hrel
    by_cases hlt : k < n
    · obtain ⟨c1, c2, c3⟩ := HG.out _ hb
      have hZr := c3
      obtain ⟨b, off, x, rfl, hbl, hx, hcx⟩ := c3.at_ hlt
      have hst := nmsE_drop hx
      rw [HK.out] at hst
      have hki : (k : Int) < (n : Int) := by omega
      have hC := trNamesC_any L n cap k g _ x wr c1 c2 hZr hn hcap hlt (HS.out x (List.mem_of_getElem? hx))
      obtain ⟨z, hz⟩ : ∃ z, twE (L.take k) x = z := ⟨_, rfl⟩
      rw [hz] at hst hC
      clear hz hx c3 hZr c1 c2
      by_cases h0 : z = 0
      · subst h0
        rw [if_pos rfl] at hst
        have Hst : Hid (nmsE (L.take (k + 1)) (L.drop (k + 1)) = y) := hst.symm
        clear hst HK
        go_wp2_with fail
        refine hC.mono ?_
        rintro e w' ⟨rfl, hb2⟩
        have hb3 := bstep hb hb2
        go_wp2
        exact ⟨⟨k + 1, by omega, by go_num, Hst, hb3⟩, by simp [intOf]; omega⟩
      · rw [if_neg h0] at hst
        subst hst
        have hb' : (y != 0) = true := by rw [bne_iff_ne]; exact h0
        clear HK HY
        go_wp2_with fail
        refine hC.mono ?_
        rintro e w' ⟨rfl, hb2⟩
        have hb3 := bstep hb hb2
        go_wp2
        go_ret2
        exact ⟨_, rfl, hb3⟩
    · have hkn : k = n := by omega
      have h0 := HK.out
      rw [hkn, List.drop_of_length_le (by rw [Hn.out]; omega)] at h0
      have h0' : 0 = y := h0
      subst h0'
      go_wp2
      go_ret2
      exact ⟨_, rfl, hb⟩
set_option maxHeartbeats 2000000 in
theorem trNames_any (L : List ByteArray) (n cap : Nat) (A : Option Addr) (w : World) (hZ : TextsZ w A n L) (hn : n ≤ 1000) (hcap : n ≤ cap) (hs : ∀ x ∈ L, x.size ≤ maxLen) :
    Calls Tryz.prog 67 #[.slice A n cap] w (RetPost (.int .i64 (nmsE [] L)) w) := by
  have hb0 : Below w.heap.size w (w.alloc (.cells #[.slice A n cap] 54)) := balloc _ (Below.refl _ _)
  have hC := trFirstStr_any L n cap w.heap.size cap A (w.alloc (.cells #[.slice A n cap] 54)) (by simp) (by simp) (hZ.below hb0) hn hcap hs
  generalize nmsE [] L = y at *
  unfold NamesF at hC
  have HB := Lib.hid hb0
  clear hZ hs hb0
  go_enter Tryz.func67, Tryz.ntmps67
  go_wp2_with fail
  refine hC.mono ?_
  rintro e w' ⟨at_, rfl, hb⟩
  have hb2 := bstep HB.out hb
  go_wp2
  go_ret
  exact ⟨rfl, hb2⟩
set_option maxHeartbeats 4000000 in
theorem r7names_any (L : List ByteArray) (n cap : Nat) (A : Option Addr) (w : World) (hZ : TextsZ w A n L) (hn : n ≤ 1000) (hcap : n ≤ cap) (hs : ∀ x ∈ L, x.size ≤ maxLen) :
    Calls Tryz.prog 66 #[.slice A n cap] w (RetPost (.int .i64 (nmsE [] L)) w) := by
  have hni : (n : Int) ≤ 1000 := by omega
  have H := Lib.hid hZ
  have Hn := Lib.hid hZ.1
  have HS := Lib.hid hs
  obtain ⟨y, hy⟩ : ∃ y, nmsE [] L = y := ⟨_, rfl⟩
  rw [hy]
  have HY : Hid (nmsE (L.take 0) (L.drop 0) = y) := by rw [← hy]; rfl
  clear hZ hy hs
  go_enter Tryz.func66, Tryz.ntmps66
  go_wp2
  go_loopw [3] (fun i wr => ∃ k : Nat, k ≤ n ∧ i = .int .i64 k ∧ Hid (nmsE (L.take k) (L.drop k) = y) ∧ Below w.heap.size w wr) (fun i _ => n - (intOf i).toNat)
  case atStart => exact ⟨0, by omega, rfl, HY, Below.refl _ _⟩
  case round =>
    obtain ⟨k, hk, rfl, HK, hb⟩ := hrel
    by_cases hlt : k < n
    · have hZr := H.out.below hb
      obtain ⟨b, off, x, rfl, hbl, hx, hcx⟩ := hZr.at_ hlt
      have hst := nmsE_drop hx
      rw [HK.out] at hst
      have hki : (k : Int) < (n : Int) := by omega
      have hkc : (k : Int) ≤ (cap : Int) := by omega
      have hk0 : (0 : Int) ≤ (k : Int) := by omega
      have hkt : ((k : Int)).toNat = k := by omega
      have hN := fun w => refIsName_any x w (HS.out x (List.mem_of_getElem? hx))
      have HA : Hid (∀ w' c, Below wr.heap.size wr w' → Calls Tryz.prog 72 #[.slice (some ⟨b, off, none⟩) k c, .string x] w' (RetSame (.bool (isIn (L.take k) x)) w')) := Lib.hid fun w' c hb' => r7Has_any (L.take k) x k c _ w' ((hZr.below hb').take (Nat.le_of_lt hlt)) (by omega)
      have HCX : Hid (∀ w', Below wr.heap.size wr w' → w'.cell? ⟨b, off + k, none⟩ = some (.string x)) := Lib.hid fun w' hb' => (hb'.cell (p := ⟨b, _, none⟩) hbl).trans hcx
      unfold twE nmE at hst
      clear hx hZr
      cases hnb : isNm x with
      | false =>
        rw [hnb] at hst hN
        have hy8 : y = 8 := by rw [hst]; simp [fstN]
        subst hy8
        clear hst HK HY hnb HA HCX
        as_aux_lemma =>
          go_wp2_with fail
          refine (hN _).mono ?_
          rintro e w' ⟨rfl, rfl⟩
          go_wp2
          go_ret
          exact ⟨rfl, hb⟩
      | true =>
        rw [hnb] at hst hN
        cases hib : isIn (L.take k) x with
        | true =>
          rw [hib] at hst HA
          have hy9 : y = 9 := by rw [hst]; simp [fstN]
          subst hy9
          clear hst HK HY hnb hib
          as_aux_lemma =>
            go_wp2_with fail
            refine (hN _).mono ?_
            rintro e w' ⟨rfl, rfl⟩
            go_wp2_with fail
            go_region_held3 (fun w' => w'.cell? ⟨b, off + k, none⟩ = some (.string x) ∧ Below wr.heap.size wr w') ((first | (exact ⟨HCX.out _ (Below.drew (Below.refl _ _)), Below.drew (Below.refl _ _)⟩) | (refine ⟨by assumption, by assumption⟩))) ((first | (go_at_call 72; (refine (HA.out _ _ (by first | assumption | exact (And.right (by assumption)) | exact (Below.drew (Below.refl _ _)))).mono ?_); rintro e w' ⟨rfl, rfl⟩)))
            all_goals
              rename_i hH
              have hb3 := bstep hb hH.2
              clear hH
              go_wp2
              go_ret
              exact ⟨rfl, hb3⟩
        | false =>
          rw [hib] at hst HA
          have Hst : Hid (nmsE (L.take (k + 1)) (L.drop (k + 1)) = y) := Lib.hid (by rw [hst]; simp [fstN])
          clear hst HK HY hnb hib
          as_aux_lemma =>
            go_wp2_with fail
            refine (hN _).mono ?_
            rintro e w' ⟨rfl, rfl⟩
            go_wp2_with fail
            go_region_held3 (fun w' => w'.cell? ⟨b, off + k, none⟩ = some (.string x) ∧ Below wr.heap.size wr w') ((first | (exact ⟨HCX.out _ (Below.drew (Below.refl _ _)), Below.drew (Below.refl _ _)⟩) | (refine ⟨by assumption, by assumption⟩))) ((first | (go_at_call 72; (refine (HA.out _ _ (by first | assumption | exact (And.right (by assumption)) | exact (Below.drew (Below.refl _ _)))).mono ?_); rintro e w' ⟨rfl, rfl⟩)))
            all_goals
              rename_i hH
              have hb3 := bstep hb hH.2
              clear hH
              go_wp2
              exact ⟨⟨k + 1, by omega, by go_num, Hst, hb3⟩, by simp [intOf]; omega⟩
    · have hkn : k = n := by omega
      have h0 := HK.out
      rw [hkn, List.drop_of_length_le (by rw [Hn.out]; omega)] at h0
      have h0' : 0 = y := h0
      subst h0'
      go_wp2
      go_ret
      exact ⟨rfl, hb⟩
end Go.Mk
