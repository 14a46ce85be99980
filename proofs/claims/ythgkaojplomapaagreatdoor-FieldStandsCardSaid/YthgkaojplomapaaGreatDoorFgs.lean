/-
  Proved: ShortCard of the reference as a plain function. Conditions: the texts lie where the slices say.
  Proved: CheckContest and CheckVertical of the reference of chapter 6 return the same plain functions as those
-/
import Derived.Test.YthgkaojplomapaaGreatDoorFcn
import Derived.Test.YthgkaojplomapaaGreatDoorFa
import Derived.Test.YthgkaojplomapaaGreatDoorFc
set_option maxHeartbeats 32000000
set_option linter.unusedVariables false
set_option linter.unusedSimpArgs false
open Go Go.Proofs Go.RowKit
set_option maxRecDepth 100000
section
namespace Go.Mk
def shC (s : ByteArray) (H O : List ByteArray) : Bool := decide (s.size ≤ 40) && (decide (H.length ≤ 30) && (decide (O.length ≤ 30) && ((H.all fun x => decide (x.size ≤ 10)) && O.all fun x => decide (x.size ≤ 10))))
theorem r6ShortCard_any (s : ByteArray) (H O : List ByteArray) (nh ch no co : Nat) (AH AO : Option Addr) (rt : Bool) (w : World) (hz : (s.size : Int) ≤ 9223372036854775807) (hZ : TextsZ w AH nh H) (hn : (nh : Int) ≤ 9223372036854775807) (hZ2 : TextsZ w AO no O) (hn2 : (no : Int) ≤ 9223372036854775807) :
  Calls Tryz.prog 28 #[.agg #[.string s, .slice AH nh ch, .slice AO no co, .bool rt]] w (RetPost (.bool (shC s H O)) w) := by
 obtain ⟨g, hg⟩ : ∃ g, w.heap.size = g := ⟨_, rfl⟩
 obtain ⟨w1, hw1⟩ : ∃ w1, w.alloc (.cells #[.string s, .slice AH nh ch, .slice AO no co, .bool rt] 66) = w1 := ⟨_, rfl⟩
 have hb1 : Below w.heap.size w w1 := by rw [← hw1]; exact balloc _ (Below.refl _ _)
 have c0 : w1.cell? ⟨g, 0, none⟩ = some (.string s) := by rw [← hw1, ← hg]; simp
 have c1 : w1.cell? ⟨g, 1, none⟩ = some (.slice AH nh ch) := by rw [← hw1, ← hg]; simp
 have c2 : w1.cell? ⟨g, 2, none⟩ = some (.slice AO no co) := by rw [← hw1, ← hg]; simp
 have HZ1 := Lib.hid (hZ.below hb1)
 have HZ2 := Lib.hid (hZ2.below hb1)
 have HB1 := Lib.hid hb1
 have HL1 : Hid (H.length = nh) := hZ.1
 have HL2 : Hid (O.length = no) := hZ2.1
 by_cases q : 40 < s.size ∨ 30 < nh ∨ 30 < no
 ·have hy : shC s H O = false := by
   unfold shC
   rw [hZ.1, hZ2.1]
   rcases q with q | q | q
   ·rw [decide_eq_false (p := s.size ≤ 40) (by omega)]; rfl
   ·rw [decide_eq_false (p := nh ≤ 30) (by omega)]; simp
   ·rw [decide_eq_false (p := no ≤ 30) (by omega)]; simp
  rw [hy]
  have hq : (40 : Int) < (s.size : Int) ∨ (¬ (40 : Int) < (s.size : Int) ∧ (30 : Int) < (nh : Int)) ∨ (¬ (40 : Int) < (s.size : Int) ∧ ¬ (30 : Int) < (nh : Int) ∧ (30 : Int) < (no : Int)) := by omega
  clear hZ hZ2 hb1 q hy
  rcases hq with q1 | ⟨q1, q2⟩ | ⟨q1, q2, q3⟩
  all_goals
   go_enter Tryz.func28, Tryz.ntmps28
   go_wp2
   go_ret
   exact ⟨rfl, HB1.out⟩
 ·have hy : shC s H O = ((H.all fun x => decide (x.size ≤ 10)) && O.all fun x => decide (x.size ≤ 10)) := by
   unfold shC
   rw [hZ.1, hZ2.1, decide_eq_true (p := s.size ≤ 40) (by omega), decide_eq_true (p := nh ≤ 30) (by omega), decide_eq_true (p := no ≤ 30) (by omega)]; rfl
  rw [hy]
  have q1 : ¬ (40 : Int) < (s.size : Int) := by omega
  have q2 : ¬ (30 : Int) < (nh : Int) := by omega
  have q3 : ¬ (30 : Int) < (no : Int) := by omega
  obtain ⟨y1, hy1⟩ : ∃ y, (H.all fun x => decide (x.size ≤ 10)) = y := ⟨_, rfl⟩
  obtain ⟨y2, hy2⟩ : ∃ y, (O.all fun x => decide (x.size ≤ 10)) = y := ⟨_, rfl⟩
  rw [hy1, hy2]
  have HY1 := Lib.hid hy1
  have HY2 := Lib.hid hy2
  clear hZ hZ2 hb1 q hy hy1 hy2
  go_enter Tryz.func28, Tryz.ntmps28
  go_wp2
  go_loop [3] (fun i => ∃ k : Nat, k ≤ nh ∧ i = .int .i64 k ∧ Hid (((H.take k).all fun s => decide (s.size ≤ 10)) = true)) (fun i => nh - (intOf i).toNat)
  case atStart => exact ⟨0, by omega, rfl, Lib.hid rfl⟩
  case round =>
   obtain ⟨k, hk, rfl, HK⟩ := hrel
   by_cases hlt : k < nh
   ·obtain ⟨b, off, x, rfl, hbl, hx, hcx⟩ := HZ1.out.at_ hlt
    have hki : (k : Int) < (nh : Int) := by omega
    have hk0 : (0 : Int) ≤ (k : Int) := by omega
    have hkt : ((k : Int)).toNat = k := by omega
    by_cases g : x.size ≤ 10
    ·have HK2 : Hid (((H.take (k + 1)).all fun s => decide (s.size ≤ 10)) = true) := (show _ = _ by rw [List.take_add_one, hx, Option.toList_some, List.all_append, HK.out]; simp [g])
     have gi : ¬ (10 : Int) < (x.size : Int) := by omega
     clear hx HK
     go_wp2
     exact ⟨⟨k + 1, by omega, by go_num, HK2⟩, by simp [intOf]; omega⟩
    ·have hf : false = y1 := by
      rw [← HY1.out]
      symm
      rw [Bool.eq_false_iff]
      intro q
      exact g (of_decide_eq_true (List.all_eq_true.1 q x (List.mem_of_getElem? hx)))
     subst hf
     have gi : (10 : Int) < (x.size : Int) := by omega
     clear hx HK
     go_wp2
     go_ret
     exact ⟨rfl, HB1.out⟩
   ·have hkn : k = nh := by omega
    have h0 := HK.out
    rw [hkn, List.take_of_length_le (by rw [HL1.out]; omega), HY1.out] at h0
    subst h0
    have hkf : ¬ (k : Int) < (nh : Int) := by omega
    go_wp2_with fail
    clear hkf hlt hk HK hkn
    go_loop [4] (fun i => ∃ k : Nat, k ≤ no ∧ i = .int .i64 k ∧ Hid (((O.take k).all fun s => decide (s.size ≤ 10)) = true)) (fun i => no - (intOf i).toNat)
    case atStart => exact ⟨0, by omega, rfl, Lib.hid rfl⟩
    case round =>
     obtain ⟨k, hk, rfl, HK⟩ := hrel
     by_cases hlt : k < no
     ·obtain ⟨b, off, x, rfl, hbl, hx, hcx⟩ := HZ2.out.at_ hlt
      have hki : (k : Int) < (no : Int) := by omega
      have hk0 : (0 : Int) ≤ (k : Int) := by omega
      have hkt : ((k : Int)).toNat = k := by omega
      by_cases g : x.size ≤ 10
      ·have HK2 : Hid (((O.take (k + 1)).all fun s => decide (s.size ≤ 10)) = true) := (show _ = _ by rw [List.take_add_one, hx, Option.toList_some, List.all_append, HK.out]; simp [g])
       have gi : ¬ (10 : Int) < (x.size : Int) := by omega
       clear hx HK
       go_wp2
       exact ⟨⟨k + 1, by omega, by go_num, HK2⟩, by simp [intOf]; omega⟩
      ·have hf : false = y2 := by
        rw [← HY2.out]
        symm
        rw [Bool.eq_false_iff]
        intro q
        exact g (of_decide_eq_true (List.all_eq_true.1 q x (List.mem_of_getElem? hx)))
       subst hf
       have gi : (10 : Int) < (x.size : Int) := by omega
       clear hx HK
       go_wp2
       go_ret
       exact ⟨rfl, HB1.out⟩
     ·have hkn : k = no := by omega
      have h0 := HK.out
      rw [hkn, List.take_of_length_le (by rw [HL2.out]; omega), HY2.out] at h0
      subst h0
      go_wp2
      go_ret
      exact ⟨rfl, HB1.out⟩
end Go.Mk
end
section
namespace Go.Mk
theorem rng_in {n lo hi : Int} (h : lo ≤ n ∧ n ≤ hi) : rngE n lo hi = 0 := by unfold rngE; rw [if_neg (by omega)]
theorem rng_out {n lo hi : Int} (h : n < lo ∨ hi < n) : rngE n lo hi = 3 := by unfold rngE; rw [if_pos h]
theorem ten_0 {n hi : Int} (h : 10 ≤ n ∧ n ≤ hi) (h0 : n % 10 = 0) : tenE n hi = 0 := by unfold tenE; rw [rng_in h, if_pos h0]; rfl
theorem ten_3 {n hi : Int} (h : n < 10 ∨ hi < n ∨ n % 10 ≠ 0) : tenE n hi = 3 := by
 unfold tenE
 by_cases q : n < 10 ∨ hi < n
 ·rw [rng_out q]; rfl
 ·rw [rng_in (n := n) (by omega), if_neg (by omega)]; rfl
theorem r6CheckVertical_any (L : List ByteArray) (n cap : Nat) (A : Option Addr) (G : List Int) (m cH : Nat) (AH : Option Addr) (s : Int) (w : World) (hZ : TextsZ w A n L) (hn : n ≤ 1000) (hs : ∀ x ∈ L, x.size ≤ maxLen) (hG : IntsZ w AH m G) (hm : m ≤ 1000) :
  Calls Tryz.prog 11 #[.agg #[.slice A n cap, .slice AH m cH, .int .i64 s]] w (RetPost (.int .i64 (verE L G s)) w) := by
 obtain ⟨w1, hw1⟩ : ∃ w1, w.alloc (.cells #[.slice A n cap, .slice AH m cH, .int .i64 s] 25) = w1 := ⟨_, rfl⟩
 have hb1 : Below w.heap.size w w1 := by rw [← hw1]; exact balloc _ (Below.refl _ _)
 have hs1 : w1.heap.size = w.heap.size + 1 := by rw [← hw1]; simp
 have c0 : w1.cell? ⟨w.heap.size, 0, none⟩ = some (.slice A n cap) := by rw [← hw1]; simp
 have c1 : w1.cell? ⟨w.heap.size, 1, none⟩ = some (.slice AH m cH) := by rw [← hw1]; simp
 have c2 : w1.cell? ⟨w.heap.size, 2, none⟩ = some (.int .i64 s) := by rw [← hw1]; simp
 have HX : Hid (∀ w', Below w1.heap.size w1 w' → w'.cell? ⟨w.heap.size, 1, none⟩ = some (.slice AH m cH) ∧ w'.cell? ⟨w.heap.size, 2, none⟩ = some (.int .i64 s) ∧ IntsZ w' AH m G) := Lib.hid fun w' hb => ⟨(hb.cell (p := ⟨w.heap.size, 1, none⟩) (by show w.heap.size < _; omega)).trans c1, (hb.cell (p := ⟨w.heap.size, 2, none⟩) (by show w.heap.size < _; omega)).trans c2, (hG.below hb1).below hb⟩
 have hA := r6CheckAthletes_any L n cap A w1 (hZ.below hb1) hn hs
 have HLN := Lib.hid hG.1
 have HB1 := Lib.hid hb1
 have hmi : (m : Int) ≤ 1000 := by omega
 obtain ⟨Y, hY⟩ : ∃ Y, verE L G s = Y := ⟨_, rfl⟩
 obtain ⟨a, ha⟩ : ∃ a, athE L = a := ⟨_, rfl⟩
 have HV : Hid (fstN [a, if m = 0 then 12 else 0, if 24 < m then 5 else hgtsE none G, tenE s 1000] = Y) := Lib.hid (by rw [← hY, ← ha]; unfold verE; rw [hG.1])
 rw [hY]
 rw [ha] at hA
 clear hY ha hZ hs hb1 c1 c2 hG
 go_enter Tryz.func11, Tryz.ntmps11
 go_wp2_with fail
 refine hA.mono ?_
 rintro e w2 ⟨rfl, hb2⟩
 clear hw1 c0
 obtain ⟨c1, c2, hG2⟩ := HX.out _ hb2
 have HG2 := Lib.hid hG2
 have hb3 := bstep HB1.out hb2
 clear hb2 hA hG2
 by_cases ha : a = 0
 ·subst ha
  by_cases h0 : m = 0
  ·have hv : 12 = Y := by have := HV.out; rw [if_pos h0] at this; exact this
   subst hv
   subst h0
   clear HV
   go_wp2
   go_ret
   exact ⟨rfl, hb3⟩
  ·have hz0 : ((m : Int) == 0) = false := by rw [beq_eq_false_iff_ne]; omega
   by_cases h24 : 24 < m
   ·have hi : (24 : Int) < (m : Int) := by omega
    have hv : 5 = Y := by have := HV.out; rw [if_neg h0, if_pos h24] at this; exact this
    subst hv
    clear HV
    go_wp2
    go_ret
    exact ⟨rfl, hb3⟩
   ·have hi : ¬ (24 : Int) < (m : Int) := by omega
    have hv : fstN [hgtsE none G, tenE s 1000] = Y := by have := HV.out; rw [if_neg h0, if_neg h24] at this; exact this
    obtain ⟨y, hy⟩ : ∃ y, hgtsE none G = y := ⟨_, rfl⟩
    rw [hy] at hv
    have HYr : Hid (y ≠ 0 → Y = y) := Lib.hid fun q => by rw [← hv, fstN, if_neg q]
    have HY0 : Hid (y = 0 → Y = tenE s 1000) := Lib.hid fun q => by rw [← hv, fstN, if_pos q, fstN, fstN]; split <;> simp_all
    have HY : Hid (hgtsE (prevI G 0) (G.drop 0) = y) := by rw [← hy]; rfl
    clear hv hy HV h0 h24
    go_wp2
    go_loop [4] (fun i => ∃ k : Nat, k ≤ m ∧ i = .int .i64 k ∧ Hid (hgtsE (prevI G k) (G.drop k) = y)) (fun i => m - (intOf i).toNat)
    case atStart => exact ⟨0, by omega, rfl, HY⟩
    case round =>
     obtain ⟨k, hk, rfl, HK⟩ := hrel
     by_cases hlt : k < m
     ·obtain ⟨b, off, x, rfl, hbl, hx, hcx⟩ := HG2.out.cellAt hlt
      have hst := hgtsE_drop hx
      rw [HK.out] at hst
      have hki : (k : Int) < (m : Int) := by omega
      have hk0 : (0 : Int) ≤ (k : Int) := by omega
      have hkt : ((k : Int)).toNat = k := by omega
      by_cases g1 : x < 10
      ·obtain rfl : y = 3 := by rw [hst, show hgtE (prevI G k) x = 3 by unfold hgtE; rw [ten_3 (.inl g1)]; rfl]; rfl
       obtain rfl : Y = 3 := HYr.out (by decide)
       clear hst hx HK HY
       go_wp2
       go_ret
       exact ⟨rfl, hb3⟩
      ·by_cases g2 : 999999 < x
       ·obtain rfl : y = 3 := by rw [hst, show hgtE (prevI G k) x = 3 by unfold hgtE; rw [ten_3 (.inr (.inl g2))]; rfl]; rfl
        obtain rfl : Y = 3 := HYr.out (by decide)
        clear hst hx HK HY
        go_wp2
        go_ret
        exact ⟨rfl, hb3⟩
       ·have hmod : Int.tmod x 10 = x % 10 := Int.tmod_eq_emod_of_nonneg (by omega)
        by_cases g3 : x % 10 = 0
        ·have t0 := ten_0 (n := x) (hi := 999999) (by omega) g3
         have g3' : Int.tmod x 10 = 0 := by rw [hmod]; exact g3
         by_cases hk1 : k = 0
         ·have hz : hgtE (prevI G k) x = 0 := by rw [hk1]; unfold hgtE; rw [t0]; rfl
          rw [if_pos hz] at hst
          have Hst : Hid (hgtsE (prevI G (k + 1)) (G.drop (k + 1)) = y) := hst.symm
          have hkd : decide ((0 : Int) < (k : Int)) = false := decide_eq_false (by omega)
          have hkN : ¬ 0 < k := by omega
          clear hst hx HK HY hz t0 hk1
          go_wp2
          exact ⟨⟨k + 1, by omega, by go_num, Hst⟩, by simp [intOf]; omega⟩
         ·obtain ⟨j, hj⟩ : ∃ j, k = j + 1 := ⟨k - 1, by omega⟩
          obtain ⟨b', off', q, hA', _, hq, hcq⟩ := HG2.out.cellAt (show j < m by omega)
          cases hA'
          have hkd : decide ((0 : Int) < (k : Int)) = true := decide_eq_true (by omega)
          have hkN : 0 < k := by omega
          have hj1 : (k : Int) - 1 = (j : Int) := by omega
          have hj0 : (0 : Int) ≤ (j : Int) := by omega
          have hjt : ((j : Int)).toNat = j := by omega
          have hjm : (j : Int) < (m : Int) := by omega
          have hwj : IntKind.i64.wrap (j : Int) = (j : Int) := IntWalk.i64_in _ (by omega)
          have hpv : prevI G k = some q := by rw [hj]; exact hq
          by_cases g4 : x ≤ q
          ·obtain rfl : y = 11 := by rw [hst, hpv, show hgtE (some q) x = 11 by unfold hgtE; rw [t0]; simp [fstN, g4]]; rfl
           obtain rfl : Y = 11 := HYr.out (by decide)
           clear hst hx HK HY t0 hpv hj hk1 hq
           go_wp2
           go_ret
           exact ⟨rfl, hb3⟩
          ·have hz : hgtE (prevI G k) x = 0 := by rw [hpv]; unfold hgtE; rw [t0]; simp [fstN, g4]
           rw [if_pos hz] at hst
           have Hst : Hid (hgtsE (prevI G (k + 1)) (G.drop (k + 1)) = y) := hst.symm
           clear hst hx HK HY hz t0 hpv hj hk1 hq
           go_wp2
           exact ⟨⟨k + 1, by omega, by go_num, Hst⟩, by simp [intOf]; omega⟩
        ·have g3' : (Int.tmod x 10 != 0) = true := by rw [hmod, bne_iff_ne]; exact g3
         obtain rfl : y = 3 := by rw [hst, show hgtE (prevI G k) x = 3 by unfold hgtE; rw [ten_3 (.inr (.inr g3))]; rfl]; rfl
         obtain rfl : Y = 3 := HYr.out (by decide)
         clear hst hx HK HY
         go_wp2
         go_ret
         exact ⟨rfl, hb3⟩
     ·have hkn : k = m := by omega
      have h0 := HK.out
      rw [hkn, List.drop_of_length_le (by rw [HLN.out]; omega), hgtsE] at h0
      have hki : ¬ (k : Int) < (m : Int) := by omega
      have hv := HY0.out h0.symm
      clear h0 HK HY hkn HYr HY0 hlt
      by_cases g1 : s < 10
      ·rw [ten_3 (.inl g1)] at hv
       subst hv
       go_wp2
       go_ret
       exact ⟨rfl, hb3⟩
      ·by_cases g2 : 1000 < s
       ·rw [ten_3 (.inr (.inl g2))] at hv
        subst hv
        go_wp2
        go_ret
        exact ⟨rfl, hb3⟩
       ·have hmod : Int.tmod s 10 = s % 10 := Int.tmod_eq_emod_of_nonneg (by omega)
        by_cases g3 : s % 10 = 0
        ·rw [ten_0 (by omega) g3] at hv
         subst hv
         have g3' : Int.tmod s 10 = 0 := by rw [hmod]; exact g3
         go_wp2
         go_ret
         exact ⟨rfl, hb3⟩
        ·have g3' : (Int.tmod s 10 != 0) = true := by rw [hmod, bne_iff_ne]; exact g3
         rw [ten_3 (.inr (.inr g3))] at hv
         subst hv
         go_wp2
         go_ret
         exact ⟨rfl, hb3⟩
 ·have hv : Y = a := by have := HV.out; rw [fstN, if_neg ha] at this; exact this.symm
  subst hv
  have hab : (Y != 0) = true := by rw [bne_iff_ne]; exact ha
  clear HV
  go_wp2
  go_ret
  exact ⟨rfl, hb3⟩
end Go.Mk
end
