/-
  Proved: SameWords and SameCard of the reference on cards that are the same; ShortCard as a plain function. Conditions: the texts lie where the slices say, at most 5,000 in a list for the sameness.
-/
import Derived.Test.YthpcmhcokblglaaGreatDoorFcs
set_option linter.unusedVariables false
set_option linter.unusedSimpArgs false
open Go Go.Proofs Go.RowKit
set_option maxRecDepth 100000
namespace Go.Mk
set_option maxHeartbeats 1000000 in
theorem sameW_any (L : List ByteArray) (A1 A2 : Option Addr) (n c1 c2 : Nat) (w : World) (hn : n ≤ 5000) (h1 : TextsZ w A1 n L) (h2 : TextsZ w A2 n L) :
    Calls Tryz.prog 34 #[.slice A1 n c1, .slice A2 n c2] w (RetPost (.bool true) w) := by
  have hn0 : (n : Int) ≤ 5000 := by omega
  have H1 := Lib.hid h1
  have H2 := Lib.hid h2
  clear h1 h2 hn
  go_enter Tryz.func34, Tryz.ntmps34
  go_wp2
  go_loopw [5] (fun i wr => ∃ k : Nat, k ≤ n ∧ i = .int .i64 k ∧ Below w.heap.size w wr) (fun i _ => n - (RowKit.intOf i).toNat)
  case atStart => exact ⟨0, by omega, rfl, Below.refl _ _⟩
  case round =>
    obtain ⟨k, hk, rfl, hb⟩ := hrel
    by_cases hlt : k < n
    · obtain ⟨p1, f1, x, rfl, _, q1, c1'⟩ := (H1.out.below hb).at_ hlt
      obtain ⟨p2, f2, x', rfl, _, q2, c2'⟩ := (H2.out.below hb).at_ hlt
      obtain rfl : x' = x := Option.some.inj (q2.symm.trans q1)
      have hki : (k : Int) < (n : Int) := by omega
      have hk0 : (0 : Int) ≤ (k : Int) := by omega
      have hkt : ((k : Int)).toNat = k := by omega
      have gb : (x'.toList == x'.toList) = true := by simp
      clear q1 q2 H1 H2
      go_wp2_with fail
      go_quiet (fail)
      go_wp2
      exact ⟨⟨k + 1, by omega, by go_num, below_drewN hb _⟩, by simp [RowKit.intOf]; omega⟩
    · go_wp2
      go_ret
      exact ⟨rfl, hb⟩
set_option maxHeartbeats 4000000 in
theorem r6SameCard_any (s : ByteArray) (H O : List ByteArray) (nh ch no co dh d2 : Nat) (AH AO BH BO : Option Addr) (rt : Bool) (w : World) (hZ : TextsZ w AH nh H) (hn : nh ≤ 5000) (hZ2 : TextsZ w AO no O) (hn2 : no ≤ 5000) (hY : TextsZ w BH nh H) (hY2 : TextsZ w BO no O) :
    Calls Tryz.prog 27 #[.agg #[.string s, .slice AH nh ch, .slice AO no co, .bool rt], .agg #[.string s, .slice BH nh dh, .slice BO no d2, .bool rt]] w (RetPost (.bool true) w) := by
  obtain ⟨g, hg⟩ : ∃ g, w.heap.size = g := ⟨_, rfl⟩
  obtain ⟨w1, hw1⟩ : ∃ w1, (w.alloc (.cells #[.string s, .slice AH nh ch, .slice AO no co, .bool rt] 54)).alloc (.cells #[.string s, .slice BH nh dh, .slice BO no d2, .bool rt] 54) = w1 := ⟨_, rfl⟩
  have hb1 : Below w.heap.size w w1 := by rw [← hw1]; exact balloc _ (balloc _ (Below.refl _ _))
  have hs1 : w1.heap.size = g + 1 + 1 := by rw [← hw1, ← hg]; simp
  have c0 : w1.cell? ⟨g, 0, none⟩ = some (.string s) := by rw [← hw1, ← hg]; simp
  have c1 : w1.cell? ⟨g, 1, none⟩ = some (.slice AH nh ch) := by rw [← hw1, ← hg]; simp
  have c2 : w1.cell? ⟨g, 2, none⟩ = some (.slice AO no co) := by rw [← hw1, ← hg]; simp
  have c3 : w1.cell? ⟨g, 3, none⟩ = some (.bool rt) := by rw [← hw1, ← hg]; simp
  have d0 : w1.cell? ⟨g + 1, 0, none⟩ = some (.string s) := by rw [← hw1, ← hg]; simp
  have d1 : w1.cell? ⟨g + 1, 1, none⟩ = some (.slice BH nh dh) := by rw [← hw1, ← hg]; simp
  have d2' : w1.cell? ⟨g + 1, 2, none⟩ = some (.slice BO no d2) := by rw [← hw1, ← hg]; simp
  have d3 : w1.cell? ⟨g + 1, 3, none⟩ = some (.bool rt) := by rw [← hw1, ← hg]; simp
  have hS1 := sameW_any H AH BH nh ch dh w1 hn (hZ.below hb1) (hY.below hb1)
  have hS2 : Hid (∀ w', Below w1.heap.size w1 w' → Calls Tryz.prog 34 #[.slice AO no co, .slice BO no d2] w' (RetPost (.bool true) w')) := Lib.hid fun w' hb => sameW_any O AO BO no co d2 w' hn2 ((hZ2.below hb1).below hb) ((hY2.below hb1).below hb)
  have HC : Hid (∀ w', Below w1.heap.size w1 w' → w'.cell? ⟨g, 2, none⟩ = some (.slice AO no co) ∧ w'.cell? ⟨g + 1, 2, none⟩ = some (.slice BO no d2)) := Lib.hid fun w' hb => ⟨(hb.cell (p := ⟨g, 2, none⟩) (by show g < _; omega)).trans c2, (hb.cell (p := ⟨g + 1, 2, none⟩) (by show g + 1 < _; omega)).trans d2'⟩
  have gb : (s.toList == s.toList) = true := by simp
  have HB1 := Lib.hid hb1
  clear hZ hZ2 hY hY2 hb1 c2 d2'
  cases rt
  all_goals
    go_enter Tryz.func27, Tryz.ntmps27
    go_wp2_with fail
    refine hS1.mono ?_
    rintro e w2 ⟨rfl, hb2⟩
    have HB2 := Lib.hid hb2
    obtain ⟨c2, d2'⟩ := HC.out _ hb2
    clear hb2
    go_wp2_with fail
    refine (hS2.out _ HB2.out).mono ?_
    rintro e w3 ⟨rfl, hb3⟩
    have hfin := bstep (bstep HB1.out HB2.out) hb3
    clear hb3
    go_wp2
    go_ret
    exact ⟨rfl, hfin⟩
/-- Is a card short? -/
def shC (s : ByteArray) (H O : List ByteArray) : Bool := decide (s.size ≤ 40) && (decide (H.length ≤ 30) && (decide (O.length ≤ 30) && ((H.all fun x => decide (x.size ≤ 10)) && O.all fun x => decide (x.size ≤ 10))))
theorem shC_all {s : ByteArray} {H O : List ByteArray} (h : shC s H O = true) : s.size ≤ 40 ∧ H.length ≤ 30 ∧ O.length ≤ 30 ∧ (∀ x ∈ H, x.size ≤ 10) ∧ ∀ x ∈ O, x.size ≤ 10 := by
  unfold shC at h
  simp only [Bool.and_eq_true, decide_eq_true_eq, List.all_eq_true] at h
  exact ⟨h.1, h.2.1, h.2.2.1, h.2.2.2.1, h.2.2.2.2⟩
set_option maxHeartbeats 8000000 in
theorem r6ShortCard_any (s : ByteArray) (H O : List ByteArray) (nh ch no co : Nat) (AH AO : Option Addr) (rt : Bool) (w : World) (hz : (s.size : Int) ≤ 9223372036854775807) (hZ : TextsZ w AH nh H) (hn : (nh : Int) ≤ 9223372036854775807) (hZ2 : TextsZ w AO no O) (hn2 : (no : Int) ≤ 9223372036854775807) :
    Calls Tryz.prog 20 #[.agg #[.string s, .slice AH nh ch, .slice AO no co, .bool rt]] w (RetPost (.bool (shC s H O)) w) := by
  obtain ⟨g, hg⟩ : ∃ g, w.heap.size = g := ⟨_, rfl⟩
  obtain ⟨w1, hw1⟩ : ∃ w1, w.alloc (.cells #[.string s, .slice AH nh ch, .slice AO no co, .bool rt] 54) = w1 := ⟨_, rfl⟩
  have hb1 : Below w.heap.size w w1 := by rw [← hw1]; exact balloc _ (Below.refl _ _)
  have c0 : w1.cell? ⟨g, 0, none⟩ = some (.string s) := by rw [← hw1, ← hg]; simp
  have c1 : w1.cell? ⟨g, 1, none⟩ = some (.slice AH nh ch) := by rw [← hw1, ← hg]; simp
  have c2 : w1.cell? ⟨g, 2, none⟩ = some (.slice AO no co) := by rw [← hw1, ← hg]; simp
  have HZ1 := Lib.hid (hZ.below hb1)
  have HZ2 := Lib.hid (hZ2.below hb1)
  have HB1 := Lib.hid hb1
  have HL1 : Hid (H.length = nh) := hZ.1
  have HL2 : Hid (O.length = no) := hZ2.1
  by_cases q : 40 < s.size ∨ 30 < nh ∨ 30 < no
  · have hy : shC s H O = false := by
      unfold shC
      rw [hZ.1, hZ2.1]
      rcases q with q | q | q
      · rw [decide_eq_false (p := s.size ≤ 40) (by omega)]; rfl
      · rw [decide_eq_false (p := nh ≤ 30) (by omega)]; simp
      · rw [decide_eq_false (p := no ≤ 30) (by omega)]; simp
    rw [hy]
    have hq : (40 : Int) < (s.size : Int) ∨ (¬ (40 : Int) < (s.size : Int) ∧ (30 : Int) < (nh : Int)) ∨ (¬ (40 : Int) < (s.size : Int) ∧ ¬ (30 : Int) < (nh : Int) ∧ (30 : Int) < (no : Int)) := by omega
    clear hZ hZ2 hb1 q hy
    rcases hq with q1 | ⟨q1, q2⟩ | ⟨q1, q2, q3⟩
    all_goals
      go_enter Tryz.func20, Tryz.ntmps20
      go_wp2
      go_ret
      exact ⟨rfl, HB1.out⟩
  · have hy : shC s H O = ((H.all fun x => decide (x.size ≤ 10)) && O.all fun x => decide (x.size ≤ 10)) := by
      unfold shC
      rw [hZ.1, hZ2.1, decide_eq_true (p := s.size ≤ 40) (by omega), decide_eq_true (p := nh ≤ 30) (by omega), decide_eq_true (p := no ≤ 30) (by omega)]; rfl
    rw [hy]
    have q1 : ¬ (40 : Int) < (s.size : Int) := by omega
    have q2 : ¬ (30 : Int) < (nh : Int) := by omega
    have q3 : ¬ (30 : Int) < (no : Int) := by omega
    obtain ⟨y1, hy1⟩ : ∃ y, (H.all fun x => decide (x.size ≤ 10)) = y := ⟨_, rfl⟩
    obtain ⟨y2, hy2⟩ : ∃ y, (O.all fun x => decide (x.size ≤ 10)) = y := ⟨_, rfl⟩
    rw [hy1, hy2]
    have HY1 := Lib.hid hy1
    have HY2 := Lib.hid hy2
    clear hZ hZ2 hb1 q hy hy1 hy2
    go_enter Tryz.func20, Tryz.ntmps20
    go_wp2
    go_loop [3] (fun i => ∃ k : Nat, k ≤ nh ∧ i = .int .i64 k ∧ Hid (((H.take k).all fun s => decide (s.size ≤ 10)) = true)) (fun i => nh - (intOf i).toNat)
    case atStart => exact ⟨0, by omega, rfl, Lib.hid rfl⟩
    case round =>
      obtain ⟨k, hk, rfl, HK⟩ := hrel
      by_cases hlt : k < nh
      · obtain ⟨b, off, x, rfl, hbl, hx, hcx⟩ := HZ1.out.at_ hlt
        have hki : (k : Int) < (nh : Int) := by omega
        have hk0 : (0 : Int) ≤ (k : Int) := by omega
        have hkt : ((k : Int)).toNat = k := by omega
        by_cases g : x.size ≤ 10
        · have HK2 : Hid (((H.take (k + 1)).all fun s => decide (s.size ≤ 10)) = true) := (show _ = _ by rw [List.take_add_one, hx, Option.toList_some, List.all_append, HK.out]; simp [g])
          have gi : ¬ (10 : Int) < (x.size : Int) := by omega
          clear hx HK
          go_wp2
          exact ⟨⟨k + 1, by omega, by go_num, HK2⟩, by simp [intOf]; omega⟩
        · have hf : false = y1 := by
            rw [← HY1.out]
            symm
            rw [Bool.eq_false_iff]
            intro q
            exact g (of_decide_eq_true (List.all_eq_true.1 q x (List.mem_of_getElem? hx)))
          subst hf
          have gi : (10 : Int) < (x.size : Int) := by omega
          clear hx HK
          go_wp2
          go_ret
          exact ⟨rfl, HB1.out⟩
      · have hkn : k = nh := by omega
        have h0 := HK.out
        rw [hkn, List.take_of_length_le (by rw [HL1.out]; omega), HY1.out] at h0
        subst h0
        have hkf : ¬ (k : Int) < (nh : Int) := by omega
        go_wp2_with fail
        clear hkf hlt hk HK hkn
        go_loop [4] (fun i => ∃ k : Nat, k ≤ no ∧ i = .int .i64 k ∧ Hid (((O.take k).all fun s => decide (s.size ≤ 10)) = true)) (fun i => no - (intOf i).toNat)
        case atStart => exact ⟨0, by omega, rfl, Lib.hid rfl⟩
        case round =>
          obtain ⟨k, hk, rfl, HK⟩ := hrel
          by_cases hlt : k < no
          · obtain ⟨b, off, x, rfl, hbl, hx, hcx⟩ := HZ2.out.at_ hlt
            have hki : (k : Int) < (no : Int) := by omega
            have hk0 : (0 : Int) ≤ (k : Int) := by omega
            have hkt : ((k : Int)).toNat = k := by omega
            by_cases g : x.size ≤ 10
            · have HK2 : Hid (((O.take (k + 1)).all fun s => decide (s.size ≤ 10)) = true) := (show _ = _ by rw [List.take_add_one, hx, Option.toList_some, List.all_append, HK.out]; simp [g])
              have gi : ¬ (10 : Int) < (x.size : Int) := by omega
              clear hx HK
              go_wp2
              exact ⟨⟨k + 1, by omega, by go_num, HK2⟩, by simp [intOf]; omega⟩
            · have hf : false = y2 := by
                rw [← HY2.out]
                symm
                rw [Bool.eq_false_iff]
                intro q
                exact g (of_decide_eq_true (List.all_eq_true.1 q x (List.mem_of_getElem? hx)))
              subst hf
              have gi : (10 : Int) < (x.size : Int) := by omega
              clear hx HK
              go_wp2
              go_ret
              exact ⟨rfl, HB1.out⟩
          · have hkn : k = no := by omega
            have h0 := HK.out
            rw [hkn, List.take_of_length_le (by rw [HL2.out]; omega), HY2.out] at h0
            subst h0
            go_wp2
            go_ret
            exact ⟨rfl, HB1.out⟩
end Go.Mk
