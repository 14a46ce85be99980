/-
  Proved: CheckContest and CheckVertical of the reference of chapter 6 return the same plain functions as those
  Proved: the reference's rowNames and CheckRows return the same plain functions as those of package
-/
import Derived.Test.YthgkaojplomapaaGreatDoorFcb
import Derived.Test.YthgkaojplomapaaGreatDoorFrh
set_option maxHeartbeats 32000000
set_option linter.unusedVariables false
set_option linter.unusedSimpArgs false
open Go Go.Proofs Go.RowKit
set_option maxRecDepth 100000
section
namespace Go.Mk
theorem r6checkName_any (L : List ByteArray) (n c k : Nat) (A : Option Addr) (s : ByteArray) (w : World) (hZ : TextsZ w A n L) (hn : n ≤ 1000) (hk : L[k]? = some s) (hz : s.size ≤ maxLen) :
  Calls Tryz.prog 71 #[.slice A n c, .int .i64 k] w (RetPost (.int .i64 (twE (L.take k) s)) w) := by
 have hkn : k < n := by have := (List.getElem?_eq_some_iff.1 hk).1; rw [hZ.1] at this; exact this
 have hN := fun w => refIsName_any s w hz
 obtain ⟨b, off, x, rfl, hbl, hx, hcx⟩ := hZ.at_ hkn
 rw [hk] at hx
 obtain rfl : s = x := Option.some.inj hx
 have hni : (n : Int) ≤ 1000 := by omega
 have hki : (k : Int) < (n : Int) := by omega
 have hk0 : (0 : Int) ≤ (k : Int) := by omega
 have hkt : ((k : Int)).toNat = k := by omega
 obtain ⟨y, hy⟩ : ∃ y, twE (L.take k) s = y := ⟨_, rfl⟩
 rw [hy]
 unfold twE nmE at hy
 cases hnb : isNm s with
 | false =>
  rw [hnb] at hy hN
  have hy8 : y = 8 := by rw [← hy]; simp [fstN]
  subst hy8
  clear hy hZ hk hx hnb
  go_enter Tryz.func71, Tryz.ntmps71
  go_wp2_with fail
  refine (hN _).mono ?_
  rintro e w1 ⟨rfl, rfl⟩
  go_wp2
  go_ret
  exact ⟨rfl, Below.refl _ _⟩
 | true =>
  rw [hnb] at hy hN
  have HT : Hid (isIn (L.take k) s = true → y = 9) := Lib.hid fun h => by rw [← hy, h]; simp [fstN]
  have HF : Hid (isIn (L.take k) s = false → y = 0) := Lib.hid fun h => by rw [← hy, h]; simp [fstN]
  have HM : Hid (∀ w', Below w.heap.size w w' → TextsZ w' (some ⟨b, off, none⟩) n L ∧ w'.cell? ⟨b, off + k, none⟩ = some (.string s)) := Lib.hid fun w' hb => ⟨hZ.below hb, (hb.cell (p := ⟨b, _, none⟩) hbl).trans hcx⟩
  clear hy hZ hk hx hnb
  go_enter Tryz.func71, Tryz.ntmps71
  go_wp2_with fail
  refine (hN _).mono ?_
  rintro e w1 ⟨rfl, rfl⟩
  go_wp2
  go_loopw [5] (fun i wr => ∃ j : Nat, j ≤ k ∧ i = .int .i64 j ∧ Hid (isIn (L.take j) s = false) ∧ Below w.heap.size w wr) (fun i _ => k - (intOf i).toNat)
  case atStart => exact ⟨0, by omega, rfl, Lib.hid rfl, Below.refl _ _⟩
  case round =>
   obtain ⟨j, hj, rfl, HK, hb⟩ := hrel
   by_cases hlt : j < k
   ·obtain ⟨hZr, ck⟩ := HM.out _ hb
    obtain ⟨b', off', t, hA, _, hLj, cj⟩ := hZr.at_ (show j < n by omega)
    cases hA
    have hji : (j : Int) < (k : Int) := by omega
    have hjn : (j : Int) < (n : Int) := by omega
    have hj0 : (0 : Int) ≤ (j : Int) := by omega
    have hjt : ((j : Int)).toNat = j := by omega
    by_cases g : t = s
    ·have hin : isIn (L.take k) s = true := isIn_mem.2 (by rw [← g]; exact List.mem_of_getElem? (show (L.take k)[j]? = some t by rw [List.getElem?_take_of_lt hlt]; exact hLj))
     obtain rfl : y = 9 := HT.out hin
     have gb : (t.toList == s.toList) = true := by rw [g]; simp
     clear hLj g HK hin hZr
     go_wp2_with fail
     go_quiet (fail)
     go_wp2
     go_ret
     exact ⟨rfl, below_drewN hb _⟩
    ·have HK2 : Hid (isIn (L.take (j + 1)) s = false) := (show _ = _ by rw [isIn_take hLj, HK.out, decide_eq_false g]; rfl)
     have gb : (t.toList == s.toList) = false := tl_ne g
     clear hLj g HK hZr
     go_wp2_with fail
     go_quiet (fail)
     go_wp2
     exact ⟨⟨j + 1, by omega, by go_num, HK2, below_drewN hb _⟩, by simp [intOf]; omega⟩
   ·obtain rfl : j = k := by omega
    obtain rfl : y = 0 := HF.out HK.out
    go_wp2
    go_ret
    exact ⟨rfl, hb⟩
theorem r6CheckAthletes_any (L : List ByteArray) (n cap : Nat) (A : Option Addr) (w : World) (hZ : TextsZ w A n L) (hn : n ≤ 1000) (hs : ∀ x ∈ L, x.size ≤ maxLen) :
  Calls Tryz.prog 54 #[.slice A n cap] w (RetPost (.int .i64 (athE L)) w) := by
 have hni : (n : Int) ≤ 1000 := by omega
 by_cases h0 : n = 0
 ·have hy : athE L = 12 := by unfold athE; rw [hZ.1, if_pos h0]; rfl
  rw [hy]
  subst h0
  clear hZ hs hy
  go_enter Tryz.func54, Tryz.ntmps54
  go_wp2
  go_ret
  exact ⟨rfl, Below.refl _ _⟩
 ·by_cases h3 : 32 < n
  ·have hy : athE L = 5 := by unfold athE; rw [hZ.1, if_neg h0, if_pos h3]; rfl
   rw [hy]
   have hi : (32 : Int) < (n : Int) := by omega
   have hz0 : ((n : Int) == 0) = false := by rw [beq_eq_false_iff_ne]; omega
   clear hZ hs hy
   go_enter Tryz.func54, Tryz.ntmps54
   go_wp2
   go_ret
   exact ⟨rfl, Below.refl _ _⟩
  ·have hy : athE L = nmsE [] L := by unfold athE; rw [hZ.1, if_neg h0, if_neg h3]; simp only [fstN]; split <;> simp_all
   rw [hy]
   have hi : ¬ (32 : Int) < (n : Int) := by omega
   have hz0 : ((n : Int) == 0) = false := by rw [beq_eq_false_iff_ne]; omega
   have H := Lib.hid hZ
   have Hn := Lib.hid hZ.1
   have HS := Lib.hid hs
   clear hy
   obtain ⟨y, hy⟩ : ∃ y, nmsE [] L = y := ⟨_, rfl⟩
   rw [hy]
   have HY : Hid (nmsE (L.take 0) (L.drop 0) = y) := by rw [← hy]; rfl
   clear hZ hy hs
   go_enter Tryz.func54, Tryz.ntmps54
   go_wp2
   go_loopw [3] (fun i wr => ∃ k : Nat, k ≤ n ∧ i = .int .i64 k ∧ Hid (nmsE (L.take k) (L.drop k) = y) ∧ Below w.heap.size w wr) (fun i _ => n - (intOf i).toNat)
   case atStart => exact ⟨0, by omega, rfl, HY, Below.refl _ _⟩
   case round =>
    obtain ⟨k, hk, rfl, HK, hb⟩ := hrel
    by_cases hlt : k < n
    ·have hZr := H.out.below hb
     obtain ⟨b, off, x, rfl, hbl, hx, hcx⟩ := hZr.at_ hlt
     have hst := nmsE_drop hx
     rw [HK.out] at hst
     have hki : (k : Int) < (n : Int) := by omega
     have hC := r6checkName_any L n cap k _ x wr hZr hn hx (HS.out x (List.mem_of_getElem? hx))
     obtain ⟨z, hz⟩ : ∃ z, twE (L.take k) x = z := ⟨_, rfl⟩
     rw [hz] at hst hC
     clear hz hx hZr hcx
     by_cases h0 : z = 0
     ·subst h0
      rw [if_pos rfl] at hst
      have Hst : Hid (nmsE (L.take (k + 1)) (L.drop (k + 1)) = y) := hst.symm
      clear hst HK
      go_wp2_with fail
      refine hC.mono ?_
      rintro e w' ⟨rfl, hb2⟩
      have hb3 := bstep hb hb2
      go_wp2
      exact ⟨⟨k + 1, by omega, by go_num, Hst, hb3⟩, by simp [intOf]; omega⟩
     ·rw [if_neg h0] at hst
      subst hst
      have hb' : (y != 0) = true := by rw [bne_iff_ne]; exact h0
      clear HK HY
      go_wp2_with fail
      refine hC.mono ?_
      rintro e w' ⟨rfl, hb2⟩
      have hb3 := bstep hb hb2
      go_wp2
      go_ret
      exact ⟨rfl, hb3⟩
    ·have hkn : k = n := by omega
     have h0 := HK.out
     rw [hkn, List.drop_of_length_le (by rw [Hn.out]; omega)] at h0
     have h0' : 0 = y := h0
     subst h0'
     go_wp2
     go_ret
     exact ⟨rfl, hb⟩
def shNm (L : List ByteArray) : Bool := decide (L.length ≤ 35) && L.all fun s => decide (s.size ≤ 40)
theorem r6ShortNames_any (L : List ByteArray) (n cap : Nat) (A : Option Addr) (w : World) (hZ : TextsZ w A n L) (hn : (n : Int) ≤ 9223372036854775807) :
  Calls Tryz.prog 27 #[.slice A n cap] w (RetSame (.bool (shNm L)) w) := by
 by_cases h3 : 35 < n
 ·have hy : shNm L = false := by unfold shNm; rw [hZ.1, decide_eq_false (by omega)]; rfl
  rw [hy]
  have hi : (35 : Int) < (n : Int) := by omega
  clear hZ hy
  go_enter Tryz.func27, Tryz.ntmps27
  go_wp2
  go_ret
  exact ⟨rfl, rfl⟩
 ·have hy : shNm L = L.all fun s => decide (s.size ≤ 40) := by unfold shNm; rw [hZ.1, decide_eq_true (by omega)]; rfl
  rw [hy]
  have hi : ¬ (35 : Int) < (n : Int) := by omega
  have hni : (n : Int) ≤ 35 := by omega
  have H := Lib.hid hZ
  have Hn := Lib.hid hZ.1
  clear hy
  obtain ⟨y, hy⟩ : ∃ y, (L.all fun s => decide (s.size ≤ 40)) = y := ⟨_, rfl⟩
  rw [hy]
  have HY := Lib.hid hy
  clear hZ hy hn
  go_enter Tryz.func27, Tryz.ntmps27
  go_wp2
  go_loop [3] (fun i => ∃ k : Nat, k ≤ n ∧ i = .int .i64 k ∧ Hid (((L.take k).all fun s => decide (s.size ≤ 40)) = true)) (fun i => n - (intOf i).toNat)
  case atStart => exact ⟨0, by omega, rfl, Lib.hid rfl⟩
  case round =>
   obtain ⟨k, hk, rfl, HK⟩ := hrel
   by_cases hlt : k < n
   ·obtain ⟨b, off, x, rfl, hbl, hx, hcx⟩ := H.out.at_ hlt
    have hki : (k : Int) < (n : Int) := by omega
    have hk0 : (0 : Int) ≤ (k : Int) := by omega
    have hkt : ((k : Int)).toNat = k := by omega
    by_cases g : x.size ≤ 40
    ·have HK2 : Hid (((L.take (k + 1)).all fun s => decide (s.size ≤ 40)) = true) := (show _ = _ by rw [List.take_add_one, hx, Option.toList_some, List.all_append, HK.out]; simp [g])
     have gi : ¬ (40 : Int) < (x.size : Int) := by omega
     clear hx HK
     go_wp2
     exact ⟨⟨k + 1, by omega, by go_num, HK2⟩, by simp [intOf]; omega⟩
    ·have hf : false = y := by
      rw [← HY.out]
      symm
      rw [Bool.eq_false_iff]
      intro q
      exact g (of_decide_eq_true (List.all_eq_true.1 q x (List.mem_of_getElem? hx)))
     subst hf
     have gi : (40 : Int) < (x.size : Int) := by omega
     clear hx HK
     go_wp2
     go_ret
     exact ⟨rfl, rfl⟩
   ·have hkn : k = n := by omega
    have h0 := HK.out
    rw [hkn, List.take_of_length_le (by rw [Hn.out]; omega), HY.out] at h0
    subst h0
    go_wp2
    go_ret
    exact ⟨rfl, rfl⟩
end Go.Mk
end
section
namespace Go.Mk
end Go.Mk
end
