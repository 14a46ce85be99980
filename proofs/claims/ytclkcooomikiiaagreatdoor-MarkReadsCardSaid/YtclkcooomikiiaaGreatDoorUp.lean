/-
  Proved: the reference's reading gives back the mark whose text it reads, as plain functions; longer texts of the same time too. Conditions: the mark is valid.
  Proved: what the reference reads of a text that is made of digits, a point, colons and a letter. Conditions: the digits are so many.
  Proved: the reference reads from the text of a valid mark this mark, and of a time also from the longer texts; the texts are short and not empty. Condition: the mark is valid.
  Proved: the reference reads from the text of any valid mark this mark; the text is short and not empty; two marks have the same text only if they are the same. Condition: the marks are valid.
-/
import Derived.Test.YtclkcooomikiiaaGreatDoorUn
section
set_option linter.unusedVariables false
set_option linter.unusedSimpArgs false
open Go Go.Proofs Go.RowKit Go.Sort
set_option maxRecDepth 100000
namespace Go.Mk
theorem digB (d : Nat) (h : d < 10) : dgt (UInt8.ofNat (48 + d)) = true ∧ (UInt8.ofNat (48 + d)).toNat = 48 + d := by
  have : ∀ d, d < 10 → dgt (UInt8.ofNat (48 + d)) = true ∧ (UInt8.ofNat (48 + d)).toNat = 48 + d := by decide
  exact this d h
theorem padL_dig (k n : Nat) : ∀ b ∈ padL k n, dgt b = true := by
  induction k generalizing n with
  | zero => intro b hb; simp [padL] at hb
  | succ k ih =>
    intro b hb
    rw [padL] at hb
    rcases List.mem_append.1 hb with h | h
    · exact ih _ b h
    · rw [List.mem_singleton.1 h]; exact (digB _ (Nat.mod_lt _ (by decide))).1
theorem digL_snoc (l : List UInt8) (m : Nat) (r d : Nat) (hd : d < 10) (h : digL m l = r) : digL m (l ++ [UInt8.ofNat (48 + d)]) = 10 * r + d := by
  induction l generalizing m with
  | nil =>
    have h2 : (m : Int) = r := h
    have hb := (digB d hd).2
    rw [List.nil_append, digL, hb, if_neg (by omega), digL]
    omega
  | cons b l ih =>
    rw [digL] at h
    rw [List.cons_append, digL]
    by_cases hc : b.toNat < 48 ∨ 57 < b.toNat
    · rw [if_pos hc] at h; omega
    · rw [if_neg hc] at h ⊢
      have e : (10 * (m : Int) + ((b.toNat : Int) - 48)) = ((10 * m + (b.toNat - 48) : Nat) : Int) := by omega
      rw [e] at h ⊢
      exact ih _ h
theorem digL_pad (k n : Nat) (h : n < 10 ^ k) : digL 0 (padL k n) = n := by
  induction k generalizing n with
  | zero =>
    obtain rfl : n = 0 := by simpa using h
    rfl
  | succ k ih =>
    rw [padL]
    have := digL_snoc (padL k (n / 10)) 0 (n / 10) (n % 10) (Nat.mod_lt _ (by decide)) (ih (n / 10) (by rw [Nat.pow_succ] at h; omega))
    have e : ((0 : Nat) : Int) = 0 := rfl
    rw [e] at this
    rw [this]
    omega
/-- A text that is k digits of n. -/
theorem digits_pad (s : ByteArray) (k n : Nat) (hk1 : 1 ≤ k) (hk : k ≤ 9) (h : n < 10 ^ k) (hs : s.data.toList = padL k n) : digits s = n ∧ s.size = k := by
  have hz : s.size = k := by
    have := congrArg List.length hs
    rw [padL_length, Array.length_toList] at this
    exact this
  refine ⟨?_, hz⟩
  unfold digits
  rw [if_neg (by omega), hs, digL_pad k n h]
/-- A number without zeros ahead is so many digits of it. -/
theorem dec1_pad (n : Nat) (h9 : n ≤ 999999999) : ∃ k, 1 ≤ k ∧ k ≤ 9 ∧ n < 10 ^ k ∧ (dec n 1).data.toList = padL k n ∧ (∀ j, 1 ≤ j → n < 10 ^ j → k ≤ j) ∧ (1 < k → (padL k n).head? ≠ some 48) := by
  by_cases h0 : n = 0
  · subst h0
    exact ⟨1, by decide, by decide, by decide, dec_pad 1 0 (by decide) (by decide) (by decide), fun j hj _ => hj, fun h => absurd h (by decide)⟩
  · have key : ∀ k n : Nat, 0 < n → n < 10 ^ k → ∃ j, 1 ≤ j ∧ j ≤ k ∧ n < 10 ^ j ∧ 10 ^ (j - 1) ≤ n ∧ (padL j n).head? ≠ some 48 := by
      intro k
      induction k with
      | zero => intro n hn h; simp at h; omega
      | succ k ih =>
        intro n hn h
        by_cases h10 : n < 10
        · refine ⟨1, by decide, by omega, by omega, by show 1 ≤ n; omega, ?_⟩
          rw [padL, padL, List.nil_append, List.head?_cons]
          intro e
          have e2 := Option.some.inj e
          have := (digB (n % 10) (Nat.mod_lt _ (by decide))).2
          rw [e2] at this
          have h48 : (48 : UInt8).toNat = 48 := rfl
          omega
        · obtain ⟨j, h1, h2, h3, h4, h5⟩ := ih (n / 10) (by omega) (by rw [Nat.pow_succ] at h; omega)
          refine ⟨j + 1, by omega, by omega, by rw [Nat.pow_succ]; omega, ?_, ?_⟩
          · obtain ⟨i, rfl⟩ : ∃ i, j = i + 1 := ⟨j - 1, by omega⟩
            rw [Nat.add_sub_cancel] at h4 ⊢
            rw [Nat.pow_succ]; omega
          · rw [padL, List.head?_append]
            cases hp : padL j (n / 10) with
            | nil => have := congrArg List.length hp; rw [padL_length] at this; simp at this; omega
            | cons a l => rw [hp] at h5; simpa using h5
    obtain ⟨k, h1, h2, h3, h4, h5⟩ := key 9 n (by omega) (by omega)
    refine ⟨k, h1, h2, h3, ?_, fun j hj hn => ?_, fun _ => h5⟩
    · have hlen : (dgs n).length = k := by
        have e := padL_dgs k n h3
        have h6 : (dgs n).length ≤ k := by
          have := congrArg List.length e
          rw [padL_length, List.length_append] at this
          omega
        rcases Nat.lt_or_ge (dgs n).length k with hlt | hge
        · exfalso
          obtain ⟨c, hc⟩ : ∃ c, k - (dgs n).length = c + 1 := ⟨k - (dgs n).length - 1, by omega⟩
          rw [hc, List.replicate_succ] at e
          rw [← e] at h5
          exact h5 rfl
        · omega
      rw [dec_list n 1 h9 (by decide), hlen, show 1 - k = 0 from by omega, ← padL_dgs k n h3, hlen, Nat.sub_self]
    · rcases Nat.lt_or_ge j k with hlt | hge
      · exfalso
        have : 10 ^ j ≤ 10 ^ (k - 1) := Nat.pow_le_pow_right (by decide) (by omega)
        omega
      · exact hge
theorem front_dec1 (n : Nat) (h9 : n ≤ 999999999) : front (dec n 1) = n := by
  obtain ⟨k, h1, h2, h3, h4, _, h6⟩ := dec1_pad n h9
  obtain ⟨hd, hz⟩ := digits_pad _ k n h1 h2 h3 h4
  unfold front
  rw [if_neg, hd]
  rintro ⟨ha, hb⟩
  rw [h4] at hb
  exact h6 (by omega) hb
theorem dec1_size (n j : Nat) (h9 : n ≤ 999999999) (hj : 1 ≤ j) (h : n < 10 ^ j) : 1 ≤ (dec n 1).size ∧ (dec n 1).size ≤ j := by
  obtain ⟨k, h1, h2, h3, h4, h5, _⟩ := dec1_pad n h9
  obtain ⟨_, hz⟩ := digits_pad _ k n h1 h2 h3 h4
  have := h5 j hj h
  omega
theorem dec1_dig (n : Nat) (h9 : n ≤ 999999999) : ∀ b ∈ (dec n 1).data.toList, dgt b = true := by
  obtain ⟨k, _, _, _, h4, _⟩ := dec1_pad n h9
  rw [h4]
  exact padL_dig k n
theorem digits_deck (k n : Nat) (hk1 : 1 ≤ k) (hk : k ≤ 9) (h9 : n ≤ 999999999) (h : n < 10 ^ k) : digits (dec n k) = n ∧ (dec n k).size = k := digits_pad _ k n hk1 hk h (dec_pad k n hk h9 h)
theorem deck_dig (k n : Nat) (hk : k ≤ 9) (h9 : n ≤ 999999999) (h : n < 10 ^ k) : ∀ b ∈ (dec n k).data.toList, dgt b = true := by
  rw [dec_pad k n hk h9 h]
  exact padL_dig k n
end Go.Mk
end
section
set_option linter.unusedVariables false
set_option linter.unusedSimpArgs false
open Go Go.Proofs Go.RowKit Go.Sort
set_option maxRecDepth 100000
namespace Go.Mk
theorem dgt_ne (b c : UInt8) (hc : dgt c = false) (hb : dgt b = true) : b ≠ c := fun e => by rw [e, hc] at hb; cases hb
theorem dig_notin (l : List UInt8) (h : ∀ b ∈ l, dgt b = true) (c : UInt8) (hc : dgt c = false) : c ∉ l := fun e => dgt_ne c c hc (h c e) rfl
theorem not_reason (s : ByteArray) (b : UInt8) (l : List UInt8) (hs : s.data.toList = b :: l) (hb : dgt b = true) : isR s = false := by
  cases h : isR s with
  | false => rfl
  | true =>
    exfalso
    have hm := (isR_mem s).1 h
    have hh : s.data.toList.head? = some b := by rw [hs]; rfl
    unfold reasons at hm
    simp only [List.mem_cons, List.not_mem_nil, or_false] at hm
    rcases hm with rfl | rfl | rfl | rfl <;> (have e := Option.some.inj hh; rw [← e] at hb; exact absurd hb (by decide))
theorem lastL_append (l : List UInt8) (x : UInt8) (m : List UInt8) : ∃ y ∈ x :: m, lastL (l ++ x :: m) = y.toNat := by
  rcases List.eq_nil_or_concat (x :: m) with h | ⟨a, y, h⟩
  · cases h
  · rw [h, List.concat_eq_append]
    refine ⟨y, by simp, ?_⟩
    unfold lastL
    rw [← List.append_assoc]
    simp
theorem lastL_snoc (X : List UInt8) (b : UInt8) : lastL (X ++ [b]) = b.toNat := by unfold lastL; simp
theorem dgt_range (b : UInt8) (h : dgt b = true) : 48 ≤ b.toNat ∧ b.toNat ≤ 57 := by
  unfold dgt at h
  have := (Bool.and_eq_true _ _ ▸ h)
  exact ⟨of_decide_eq_true this.1, of_decide_eq_true this.2⟩
theorem split_two (c : UInt8) (s : ByteArray) (x y : List UInt8) (hs : s.data.toList = x ++ c :: y) (hx : c ∉ x) (hy : c ∉ y) : split c s = [mkB x, mkB y] := by
  unfold split
  rw [hs, splitGo_some c x y [] hx, splitGo_none c y [] hy]
  rfl
theorem split_one (c : UInt8) (x : List UInt8) (hx : c ∉ x) : split c (mkB x) = [mkB x] := by
  unfold split
  rw [mkB_list, splitGo_none c x [] hx]
  rfl
theorem split_2 (c : UInt8) (x y : List UInt8) (hx : c ∉ x) (hy : c ∉ y) : split c (mkB (x ++ c :: y)) = [mkB x, mkB y] := split_two c _ x y (mkB_list _) hx hy
theorem split_3 (c : UInt8) (x y z : List UInt8) (hx : c ∉ x) (hy : c ∉ y) (hz : c ∉ z) : split c (mkB (x ++ c :: (y ++ c :: z))) = [mkB x, mkB y, mkB z] := by
  unfold split
  rw [mkB_list, splitGo_some c x _ [] hx, splitGo_some c y z [] hy, splitGo_none c z [] hz]
  rfl
theorem size_list (s : ByteArray) : s.data.toList.length = s.size := Array.length_toList
/-- The text of a time. -/
theorem refP_time (W Fr : List UInt8) (s : ByteArray) (hs : s.data.toList = W ++ 46 :: Fr) (h24 : s.size ≤ 24) (b : UInt8) (l : List UInt8) (hW : W = b :: l) (hb : dgt b = true) (h46 : (46 : UInt8) ∉ W) (hF : ∀ x ∈ Fr, dgt x = true) (hF0 : Fr ≠ []) :
    refP s = timeOf (split 58 (mkB W)) (scaled (mkB Fr) 1 4) := by
  have hr : isR s = false := not_reason s b (l ++ 46 :: Fr) (by rw [hs, hW]; rfl) hb
  have hsz : s.size ≠ 0 := by have := congrArg List.length hs; rw [size_list, List.length_append] at this; simp at this; omega
  obtain ⟨x, m, rfl⟩ : ∃ x m, Fr = x :: m := by cases Fr with
    | nil => exact absurd rfl hF0
    | cons x m => exact ⟨x, m, rfl⟩
  obtain ⟨y, hy, hy2⟩ := lastL_append (W ++ [46]) x m
  have hl : lastB s = y.toNat := by unfold lastB; rw [hs, ← hy2]; congr 1; simp
  have hyd := dgt_range y (hF y hy)
  unfold refP
  rw [if_neg (by omega), hr, if_neg (by decide), if_neg hsz, if_neg (by omega), if_neg (by omega)]
  exact refTime_ok s _ _ (split_two 46 s W (x :: m) hs h46 (dig_notin _ hF 46 (by decide)))
/-- The text of a length. -/
theorem refP_length (W Fr : List UInt8) (s : ByteArray) (hs : s.data.toList = W ++ 46 :: Fr ++ [109]) (h24 : s.size ≤ 24) (b : UInt8) (l : List UInt8) (hW : W = b :: l) (hb : dgt b = true) (h46 : (46 : UInt8) ∉ W) (hF : ∀ x ∈ Fr, dgt x = true) :
    refP s = lenOf (front (mkB W)) (scaled (mkB Fr) 2 3) := by
  have hr : isR s = false := not_reason s b (l ++ 46 :: Fr ++ [109]) (by rw [hs, hW]; rfl) hb
  have hsz : s.size ≠ 0 := by have := congrArg List.length hs; rw [size_list, List.length_append] at this; simp at this; omega
  have hl : lastB s = 109 := by unfold lastB; rw [hs, lastL_snoc]; rfl
  have hc : (chop s).data.toList = W ++ 46 :: Fr := by rw [chop_list, hs, List.dropLast_concat]
  unfold refP
  rw [if_neg (by omega), hr, if_neg (by decide), if_neg hsz, hl, if_neg (by decide), if_pos rfl]
  exact refLen_ok _ _ _ (split_two 46 _ W Fr hc h46 (dig_notin _ hF 46 (by decide)))
/-- The text of points. -/
theorem refP_points (W : List UInt8) (s : ByteArray) (hs : s.data.toList = W ++ [112]) (h24 : s.size ≤ 24) (b : UInt8) (l : List UInt8) (hW : W = b :: l) (hb : dgt b = true) (hf : 0 ≤ front (mkB W)) :
    refP s = ranged sPoints (front (mkB W)) ⟨#[]⟩ := by
  have hr : isR s = false := not_reason s b (l ++ [112]) (by rw [hs, hW]; rfl) hb
  have hsz : s.size ≠ 0 := by have := congrArg List.length hs; rw [size_list, List.length_append] at this; simp at this; omega
  have hl : lastB s = 112 := by unfold lastB; rw [hs, lastL_snoc]; rfl
  have hc : chop s = mkB W := by rw [ba_of_list (chop_list s), hs, List.dropLast_concat]; rfl
  unfold refP
  rw [if_neg (by omega), hr, if_neg (by decide), if_neg hsz, hl, if_pos rfl, hc, if_neg (by omega)]
theorem fv_zero (f : ByteArray) : fv 0 f = front f := if_pos rfl
theorem fv_succ (k : Nat) (f : ByteArray) (hs : f.size = 2) : fv (k + 1) f = digits f := by unfold fv; rw [if_neg (by omega), if_pos hs]
theorem timeGo_cons (n i : Nat) (t : Int) (f : ByteArray) (l : List ByteArray) (a : Int) (hv : fv i f = a) (h0 : 0 ≤ a) (h1 : a ≤ 59 ∨ (i = 0 ∧ 3 ≤ n)) : timeGo n i t false (f :: l) = timeGo n (i + 1) (60 * t + a) false l := by
  rw [timeGo, hv, if_neg (by omega), Bool.false_or]
  rcases h1 with h | ⟨rfl, h⟩
  · rw [decide_eq_false (show ¬ 59 < a by omega), Bool.false_and]
  · rw [decide_eq_false (show ¬ n < 3 by omega), decide_eq_false (show ¬ 0 < 0 by omega), Bool.or_false, Bool.and_false]
theorem timeOf1 (x : ByteArray) (a r : Int) (hx : front x = a) (h0 : 0 ≤ a) (h1 : a ≤ 59) (hr : 0 ≤ r) : timeOf [x] r = ranged sTime (10000 * a + r) ⟨#[]⟩ := by
  unfold timeOf
  rw [if_neg (by simp; omega), timeGo_cons _ 0 _ _ _ a (by rw [fv_zero, hx]) h0 (.inl h1), timeGo]
  show ranged sTime (10000 * (60 * 0 + a) + r) ⟨#[]⟩ = _
  rw [show 10000 * (60 * 0 + a) + r = 10000 * a + r from by omega]
theorem timeOf2 (x y : ByteArray) (a b r : Int) (hx : front x = a) (h0 : 0 ≤ a) (h1 : a ≤ 59) (hy : y.size = 2) (hy2 : digits y = b) (h2 : 0 ≤ b) (h3 : b ≤ 59) (hr : 0 ≤ r) : timeOf [x, y] r = ranged sTime (10000 * (60 * a + b) + r) ⟨#[]⟩ := by
  unfold timeOf
  rw [if_neg (by simp; omega), timeGo_cons _ 0 _ _ _ a (by rw [fv_zero, hx]) h0 (.inl h1), timeGo_cons _ 1 _ _ _ b (by rw [fv_succ 0 y hy, hy2]) h2 (.inl h3), timeGo]
  show ranged sTime (10000 * (60 * (60 * 0 + a) + b) + r) ⟨#[]⟩ = _
  rw [show 10000 * (60 * (60 * 0 + a) + b) + r = 10000 * (60 * a + b) + r from by omega]
theorem timeOf3 (x y z : ByteArray) (a b c r : Int) (hx : front x = a) (h0 : 0 ≤ a) (hy : y.size = 2) (hy2 : digits y = b) (h2 : 0 ≤ b) (h3 : b ≤ 59) (hz : z.size = 2) (hz2 : digits z = c) (h4 : 0 ≤ c) (h5 : c ≤ 59) (hr : 0 ≤ r) :
    timeOf [x, y, z] r = ranged sTime (10000 * (60 * (60 * a + b) + c) + r) ⟨#[]⟩ := by
  unfold timeOf
  rw [if_neg (by simp; omega), timeGo_cons _ 0 _ _ _ a (by rw [fv_zero, hx]) h0 (.inr ⟨rfl, by simp⟩), timeGo_cons _ 1 _ _ _ b (by rw [fv_succ 0 y hy, hy2]) h2 (.inl h3), timeGo_cons _ 2 _ _ _ c (by rw [fv_succ 1 z hz, hz2]) h4 (.inl h5), timeGo]
  show ranged sTime (10000 * (60 * (60 * (60 * 0 + a) + b) + c) + r) ⟨#[]⟩ = _
  rw [show 10000 * (60 * (60 * (60 * 0 + a) + b) + c) + r = 10000 * (60 * (60 * a + b) + c) + r from by omega]
end Go.Mk
end
section
set_option linter.unusedVariables false
set_option linter.unusedSimpArgs false
open Go Go.Proofs Go.RowKit Go.Sort
set_option maxRecDepth 100000
namespace Go.Mk
theorem list_append (a b : ByteArray) : (a ++ b).data.toList = a.data.toList ++ b.data.toList := by rw [ByteArray.data_append, Array.toList_append]
theorem cons_of (s : ByteArray) (h : 1 ≤ s.size) (hd : ∀ b ∈ s.data.toList, dgt b = true) : ∃ b l, s.data.toList = b :: l ∧ dgt b = true := by
  cases hl : s.data.toList with
  | nil => have := size_list s; rw [hl] at this; simp at this; omega
  | cons b l => exact ⟨b, l, rfl, hd b (by rw [hl]; exact List.mem_cons_self ..)⟩
theorem scaled_ok2 (t : ByteArray) (lo hi n : Nat) (h1 : lo ≤ t.size) (h2 : t.size ≤ hi) (hd : digits t = n) : scaled t lo hi = (n : Int) * 10 ^ (hi - t.size) := by
  unfold scaled
  rw [if_neg (by rw [hd]; omega), hd]
/-- The digits behind the point of a time. -/
def fracT (v : Nat) : ByteArray := if v % 100 = 0 then dec (v % 10000 / 100) 2 else dec (v % 10000) 4
theorem fracT_fact (v : Nat) : (∀ b ∈ (fracT v).data.toList, dgt b = true) ∧ 2 ≤ (fracT v).size ∧ (fracT v).size ≤ 4 ∧ scaled (fracT v) 1 4 = ((v % 10000 : Nat) : Int) := by
  unfold fracT
  by_cases h : v % 100 = 0
  · rw [if_pos h]
    obtain ⟨h1, h2⟩ := digits_deck 2 (v % 10000 / 100) (by decide) (by decide) (by omega) (by omega)
    refine ⟨deck_dig 2 _ (by decide) (by omega) (by omega), by omega, by omega, ?_⟩
    rw [scaled_ok2 _ 1 4 _ (by omega) (by omega) h1, h2]
    show ((v % 10000 / 100 : Nat) : Int) * 100 = _
    omega
  · rw [if_neg h]
    obtain ⟨h1, h2⟩ := digits_deck 4 (v % 10000) (by decide) (by decide) (by omega) (by omega)
    refine ⟨deck_dig 4 _ (by decide) (by omega) (by omega), by omega, by omega, ?_⟩
    rw [scaled_ok2 _ 1 4 _ (by omega) (by omega) h1, h2]
    show ((v % 10000 : Nat) : Int) * 1 = _
    omega
theorem no58 (s : ByteArray) (h : ∀ b ∈ s.data.toList, dgt b = true) : (58 : UInt8) ∉ s.data.toList := dig_notin _ h 58 (by decide)
theorem no46 (s : ByteArray) (h : ∀ b ∈ s.data.toList, dgt b = true) : (46 : UInt8) ∉ s.data.toList := dig_notin _ h 46 (by decide)
/-- What lies ahead of the point of a time. -/
theorem whole_fact (v : Nat) (hv : v ≤ 863999999) : ∃ W b l, (wholeText v).data.toList = W ∧ W = b :: l ∧ dgt b = true ∧ (46 : UInt8) ∉ W ∧ W.length ≤ 8 ∧ ∀ r : Int, 0 ≤ r → timeOf (split 58 (mkB W)) r = ranged sTime (10000 * ((v / 10000 : Nat) : Int) + r) ⟨#[]⟩ := by
  unfold wholeText
  by_cases h1 : v / 10000 < 60
  · rw [if_pos h1]
    obtain ⟨s1, s2⟩ := dec1_size (v / 10000) 2 (by omega) (by decide) (by omega)
    have d1 := dec1_dig (v / 10000) (by omega)
    obtain ⟨b, l, e, hb⟩ := cons_of _ s1 d1
    refine ⟨_, b, l, rfl, e, hb, no46 _ d1, by rw [size_list]; omega, fun r hr => ?_⟩
    rw [split_one 58 _ (no58 _ d1), list_mkB]
    exact timeOf1 _ _ r (front_dec1 _ (by omega)) (by omega) (by omega) hr
  · rw [if_neg h1]
    by_cases h2 : v / 10000 < 3600
    · rw [if_pos h2]
      obtain ⟨s1, s2⟩ := dec1_size (v / 10000 / 60) 2 (by omega) (by decide) (by omega)
      have d1 := dec1_dig (v / 10000 / 60) (by omega)
      obtain ⟨b, l, e, hb⟩ := cons_of _ s1 d1
      obtain ⟨g1, g2⟩ := digits_deck 2 (v / 10000 % 60) (by decide) (by decide) (by omega) (by omega)
      have d2 := deck_dig 2 (v / 10000 % 60) (by decide) (by omega) (by omega)
      have hl : (dec (v / 10000 / 60) 1 ++ ⟨#[58]⟩ ++ dec (v / 10000 % 60) 2).data.toList = (dec (v / 10000 / 60) 1).data.toList ++ 58 :: (dec (v / 10000 % 60) 2).data.toList := by
        rw [list_append, list_append]; simp
      refine ⟨_, b, l ++ 58 :: (dec (v / 10000 % 60) 2).data.toList, hl, by rw [e]; rfl, hb, ?_, ?_, fun r hr => ?_⟩
      · intro hm
        rcases List.mem_append.1 hm with h | h
        · exact no46 _ d1 h
        · rcases List.mem_cons.1 h with h | h
          · cases h
          · exact no46 _ d2 h
      · rw [List.length_append, List.length_cons, size_list, size_list]; omega
      · rw [split_2 58 _ _ (no58 _ d1) (no58 _ d2), list_mkB, list_mkB]
        rw [timeOf2 _ _ _ _ r (front_dec1 _ (by omega)) (by omega) (by omega) g2 g1 (by omega) (by omega) hr]
        congr 1
        omega
    · rw [if_neg h2]
      obtain ⟨s1, s2⟩ := dec1_size (v / 10000 / 3600) 2 (by omega) (by decide) (by omega)
      have d1 := dec1_dig (v / 10000 / 3600) (by omega)
      obtain ⟨b, l, e, hb⟩ := cons_of _ s1 d1
      obtain ⟨g1, g2⟩ := digits_deck 2 (v / 10000 / 60 % 60) (by decide) (by decide) (by omega) (by omega)
      have d2 := deck_dig 2 (v / 10000 / 60 % 60) (by decide) (by omega) (by omega)
      obtain ⟨k1, k2⟩ := digits_deck 2 (v / 10000 % 60) (by decide) (by decide) (by omega) (by omega)
      have d3 := deck_dig 2 (v / 10000 % 60) (by decide) (by omega) (by omega)
      have hl : (dec (v / 10000 / 3600) 1 ++ ⟨#[58]⟩ ++ dec (v / 10000 / 60 % 60) 2 ++ ⟨#[58]⟩ ++ dec (v / 10000 % 60) 2).data.toList = (dec (v / 10000 / 3600) 1).data.toList ++ 58 :: ((dec (v / 10000 / 60 % 60) 2).data.toList ++ 58 :: (dec (v / 10000 % 60) 2).data.toList) := by
        rw [list_append, list_append, list_append, list_append]; simp
      refine ⟨_, b, l ++ 58 :: ((dec (v / 10000 / 60 % 60) 2).data.toList ++ 58 :: (dec (v / 10000 % 60) 2).data.toList), hl, by rw [e]; rfl, hb, ?_, ?_, fun r hr => ?_⟩
      · intro hm
        rcases List.mem_append.1 hm with h | h
        · exact no46 _ d1 h
        · rcases List.mem_cons.1 h with h | h
          · cases h
          · rcases List.mem_append.1 h with h | h
            · exact no46 _ d2 h
            · rcases List.mem_cons.1 h with h | h
              · cases h
              · exact no46 _ d3 h
      · rw [List.length_append, List.length_cons, List.length_append, List.length_cons, size_list, size_list, size_list]; omega
      · rw [split_3 58 _ _ _ (no58 _ d1) (no58 _ d2) (no58 _ d3), list_mkB, list_mkB, list_mkB]
        rw [timeOf3 _ _ _ _ _ _ r (front_dec1 _ (by omega)) (by omega) g2 g1 (by omega) (by omega) k2 k1 (by omega) (by omega) hr]
        congr 1
        omega
theorem ranged_time (v : Nat) (h1 : 1 ≤ v) (h2 : v ≤ 863999999) : ranged sTime v ⟨#[]⟩ = ⟨sTime, v, ⟨#[]⟩, 0⟩ := by
  unfold ranged
  rw [if_pos]
  unfold chk
  rw [if_neg sTN, if_pos rfl, if_pos (by rw [ByteArray.toList_eq]; rfl), if_neg (by omega)]
theorem timeText_list (v : Nat) : (timeText v).data.toList = (wholeText v).data.toList ++ 46 :: (fracT v).data.toList := by
  rw [timeText_eq, list_append, list_append]
  unfold fracT
  simp
theorem refP_timeText (v : Nat) (h1 : 1 ≤ v) (h2 : v ≤ 863999999) : refP (timeText v) = ⟨sTime, v, ⟨#[]⟩, 0⟩ ∧ 1 ≤ (timeText v).size ∧ (timeText v).size ≤ 13 := by
  obtain ⟨W, b, l, hW, hW2, hb, h46, hl, hT⟩ := whole_fact v h2
  obtain ⟨f1, f2, f3, f4⟩ := fracT_fact v
  have hs := timeText_list v
  rw [hW] at hs
  have hz := congrArg List.length hs
  rw [size_list, List.length_append, List.length_cons, size_list] at hz
  refine ⟨?_, by omega, by omega⟩
  rw [refP_time W _ _ hs (by omega) b l hW2 hb h46 f1 (by intro e; have := size_list (fracT v); rw [e] at this; simp at this; omega), list_mkB, f4, hT _ (by omega),
    show 10000 * ((v / 10000 : Nat) : Int) + ((v % 10000 : Nat) : Int) = (v : Int) from by omega]
  exact ranged_time v h1 h2
/-- Two zeros more behind a time. -/
theorem refP_longer (v : Nat) (h1 : 1 ≤ v) (h2 : v ≤ 863999999) (h0 : v % 100 = 0) : refP (timeText v ++ ⟨#[48, 48]⟩) = ⟨sTime, v, ⟨#[]⟩, 0⟩ := by
  obtain ⟨W, b, l, hW, hW2, hb, h46, hl, hT⟩ := whole_fact v h2
  have hf : (fracT v ++ ⟨#[48, 48]⟩).data.toList = padL 4 (v % 10000) := by
    rw [list_append]
    unfold fracT
    rw [if_pos h0, dec_pad 2 _ (by decide) (by omega) (by omega)]
    rw [show padL 4 (v % 10000) = padL 2 (v % 10000 / 10 / 10) ++ [UInt8.ofNat (48 + v % 10000 / 10 % 10)] ++ [UInt8.ofNat (48 + v % 10000 % 10)] from rfl]
    rw [show v % 10000 / 10 % 10 = 0 from by omega, show v % 10000 % 10 = 0 from by omega, show v % 10000 / 10 / 10 = v % 10000 / 100 from by omega]
    simp
  have hs : (timeText v ++ ⟨#[48, 48]⟩).data.toList = W ++ 46 :: (fracT v ++ ⟨#[48, 48]⟩).data.toList := by
    rw [list_append, timeText_list, hW, list_append]; simp
  obtain ⟨g1, g2⟩ := digits_pad _ 4 (v % 10000) (by decide) (by decide) (by omega) hf
  have hz := congrArg List.length hs
  rw [size_list, List.length_append, List.length_cons, size_list] at hz
  rw [refP_time W _ _ hs (by omega) b l hW2 hb h46 (by rw [hf]; exact padL_dig _ _) (by rw [hf]; intro e; have := congrArg List.length e; rw [padL_length] at this; cases this), list_mkB,
    scaled_ok2 _ 1 4 _ (by omega) (by omega) g1, g2, hT _ (by omega)]
  rw [show 10000 * ((v / 10000 : Nat) : Int) + ((v % 10000 : Nat) : Int) * 10 ^ (4 - 4) = (v : Int) from by omega]
  exact ranged_time v h1 h2
theorem dec1_two (n : Nat) (h1 : 10 ≤ n) (h2 : n < 100) : dec n 1 = dec n 2 := by
  obtain ⟨k, k1, k2, k3, k4, k5, _⟩ := dec1_pad n (by omega)
  have hk : k = 2 := by
    have := k5 2 (by decide) (by omega)
    rcases Nat.lt_or_ge k 2 with h | h
    · obtain rfl : k = 1 := by omega
      omega
    · omega
  subst hk
  rw [ba_of_list k4, ba_of_list (dec_pad 2 n (by decide) (by omega) (by omega))]
theorem whole_short (v : Nat) (h : v / 10000 < 60) : wholeText v = dec (v / 10000) 1 := if_pos h
/-- No minutes ahead of a time. -/
theorem refP_minutes (v : Nat) (h1 : 100000 ≤ v) (h2 : v < 600000) : refP (⟨#[48, 58]⟩ ++ timeText v) = ⟨sTime, v, ⟨#[]⟩, 0⟩ := by
  obtain ⟨f1, f2, f3, f4⟩ := fracT_fact v
  have hw := whole_short v (by omega)
  rw [dec1_two _ (by omega) (by omega)] at hw
  have d2 := deck_dig 2 (v / 10000) (by decide) (by omega) (by omega)
  obtain ⟨g1, g2⟩ := digits_deck 2 (v / 10000) (by decide) (by decide) (by omega) (by omega)
  have hs : (⟨#[48, 58]⟩ ++ timeText v).data.toList = ([48] ++ 58 :: (dec (v / 10000) 2).data.toList) ++ 46 :: (fracT v).data.toList := by
    rw [list_append, timeText_list, hw]; simp
  have hz := congrArg List.length hs
  simp only [List.length_append, List.length_cons, List.length_nil, size_list] at hz
  have n48 : (58 : UInt8) ∉ [(48 : UInt8)] := by decide
  rw [refP_time _ _ _ hs (by omega) 48 (58 :: (dec (v / 10000) 2).data.toList) rfl (by decide) (by
      intro hm
      rcases List.mem_append.1 hm with h | h
      · revert h; decide
      · rcases List.mem_cons.1 h with h | h
        · cases h
        · exact no46 _ d2 h) f1 (by intro e; have := size_list (fracT v); rw [e] at this; simp at this; omega), list_mkB, f4, split_2 58 _ _ n48 (no58 _ d2), list_mkB,
    timeOf2 _ _ 0 _ _ (by decide) (by omega) (by omega) g2 g1 (by omega) (by omega) (by omega)]
  rw [show 10000 * (60 * 0 + ((v / 10000 : Nat) : Int)) + ((v % 10000 : Nat) : Int) = (v : Int) from by omega]
  exact ranged_time v (by omega) (by omega)
/-- No hours and no minutes ahead of a time. -/
theorem refP_hours (v : Nat) (h1 : 100000 ≤ v) (h2 : v < 600000) : refP (⟨#[48, 58, 48, 48, 58]⟩ ++ timeText v) = ⟨sTime, v, ⟨#[]⟩, 0⟩ := by
  obtain ⟨f1, f2, f3, f4⟩ := fracT_fact v
  have hw := whole_short v (by omega)
  rw [dec1_two _ (by omega) (by omega)] at hw
  have d2 := deck_dig 2 (v / 10000) (by decide) (by omega) (by omega)
  obtain ⟨g1, g2⟩ := digits_deck 2 (v / 10000) (by decide) (by decide) (by omega) (by omega)
  have hs : (⟨#[48, 58, 48, 48, 58]⟩ ++ timeText v).data.toList = ([48] ++ 58 :: ([48, 48] ++ 58 :: (dec (v / 10000) 2).data.toList)) ++ 46 :: (fracT v).data.toList := by
    rw [list_append, timeText_list, hw]; simp
  have hz := congrArg List.length hs
  simp only [List.length_append, List.length_cons, List.length_nil, size_list] at hz
  have n48 : (58 : UInt8) ∉ [(48 : UInt8)] := by decide
  have n4848 : (58 : UInt8) ∉ [(48 : UInt8), 48] := by decide
  rw [refP_time _ _ _ hs (by omega) 48 (58 :: ([48, 48] ++ 58 :: (dec (v / 10000) 2).data.toList)) rfl (by decide) (by
      intro hm
      rcases List.mem_append.1 hm with h | h
      · revert h; decide
      · rcases List.mem_cons.1 h with h | h
        · cases h
        · rcases List.mem_append.1 h with h | h
          · revert h; decide
          · rcases List.mem_cons.1 h with h | h
            · cases h
            · exact no46 _ d2 h) f1 (by intro e; have := size_list (fracT v); rw [e] at this; simp at this; omega), list_mkB, f4, split_3 58 _ _ _ n48 n4848 (no58 _ d2), list_mkB,
    timeOf3 _ _ _ 0 0 _ _ (by decide) (by omega) (by decide) (by decide) (by omega) (by omega) g2 g1 (by omega) (by omega) (by omega)]
  rw [show 10000 * (60 * (60 * 0 + 0) + ((v / 10000 : Nat) : Int)) + ((v % 10000 : Nat) : Int) = (v : Int) from by omega]
  exact ranged_time v (by omega) (by omega)
end Go.Mk
end
section
set_option linter.unusedVariables false
set_option linter.unusedSimpArgs false
open Go Go.Proofs Go.RowKit Go.Sort
set_option maxRecDepth 100000
namespace Go.Mk
theorem empty_ba (r : ByteArray) (h : r.toList.isEmpty = true) : r = ⟨#[]⟩ := by
  rw [ByteArray.toList_eq] at h
  exact ba_of_list (List.isEmpty_iff.1 h)
theorem chk_empty (s r : ByteArray) (v : Int) (h0 : s ≠ sNone) (h : chk s v r = 0) : r = ⟨#[]⟩ := by
  unfold chk at h
  rw [if_neg h0] at h
  apply empty_ba
  cases he : r.toList.isEmpty with
  | true => rfl
  | false =>
    rw [he] at h
    split at h
    · exact absurd h (by simp)
    · split at h
      · exact absurd h (by simp)
      · split at h
        · exact absurd h (by simp)
        · exact absurd h (by simp)
/-- The digits behind the point of a length. -/
def fracL (v : Nat) : ByteArray := if v % 10 = 0 then dec (v % 1000 / 10) 2 else dec (v % 1000) 3
theorem fracL_fact (v : Nat) : (∀ b ∈ (fracL v).data.toList, dgt b = true) ∧ (fracL v).size ≤ 3 ∧ scaled (fracL v) 2 3 = ((v % 1000 : Nat) : Int) := by
  unfold fracL
  by_cases h : v % 10 = 0
  · rw [if_pos h]
    obtain ⟨h1, h2⟩ := digits_deck 2 (v % 1000 / 10) (by decide) (by decide) (by omega) (by omega)
    refine ⟨deck_dig 2 _ (by decide) (by omega) (by omega), by omega, ?_⟩
    rw [scaled_ok2 _ 2 3 _ (by omega) (by omega) h1, h2]
    show ((v % 1000 / 10 : Nat) : Int) * 10 = _
    omega
  · rw [if_neg h]
    obtain ⟨h1, h2⟩ := digits_deck 3 (v % 1000) (by decide) (by decide) (by omega) (by omega)
    refine ⟨deck_dig 3 _ (by decide) (by omega) (by omega), by omega, ?_⟩
    rw [scaled_ok2 _ 2 3 _ (by omega) (by omega) h1, h2]
    show ((v % 1000 : Nat) : Int) * 1 = _
    omega
theorem refP_lenText (v : Nat) (hv : v ≤ 999999) : refP (lenText v) = ⟨sLength, v, ⟨#[]⟩, 0⟩ ∧ 1 ≤ (lenText v).size ∧ (lenText v).size ≤ 16 := by
  obtain ⟨f1, f2, f3⟩ := fracL_fact v
  obtain ⟨s1, s2⟩ := dec1_size (v / 1000) 3 (by omega) (by decide) (by omega)
  have d1 := dec1_dig (v / 1000) (by omega)
  obtain ⟨b, l, e, hb⟩ := cons_of _ s1 d1
  have hs : (lenText v).data.toList = (dec (v / 1000) 1).data.toList ++ 46 :: (fracL v).data.toList ++ [109] := by
    unfold lenText fracL
    rw [list_append, list_append, list_append]; simp
  have hz := congrArg List.length hs
  simp only [List.length_append, List.length_cons, List.length_nil, size_list] at hz
  refine ⟨?_, by omega, by omega⟩
  rw [refP_length _ _ _ hs (by omega) b l e hb (no46 _ d1) f1, list_mkB, list_mkB, front_dec1 _ (by omega), f3]
  unfold lenOf
  rw [if_neg (by omega), show 1000 * ((v / 1000 : Nat) : Int) + ((v % 1000 : Nat) : Int) = (v : Int) from by omega]
  unfold ranged
  rw [if_pos]
  unfold chk
  rw [if_neg sLN, if_neg sLT, if_pos rfl, if_pos (by rw [ByteArray.toList_eq]; rfl), if_neg (by omega)]
theorem refP_pointText (v : Nat) (hv : v ≤ 99999) : refP (dec v 1 ++ ⟨#[112]⟩) = ⟨sPoints, v, ⟨#[]⟩, 0⟩ ∧ 1 ≤ (dec v 1 ++ ⟨#[112]⟩).size ∧ (dec v 1 ++ ⟨#[112]⟩).size ≤ 16 := by
  obtain ⟨s1, s2⟩ := dec1_size v 5 (by omega) (by decide) (by omega)
  have d1 := dec1_dig v (by omega)
  obtain ⟨b, l, e, hb⟩ := cons_of _ s1 d1
  have hs : (dec v 1 ++ ⟨#[112]⟩).data.toList = (dec v 1).data.toList ++ [112] := by rw [list_append]
  have hz := congrArg List.length hs
  simp only [List.length_append, List.length_cons, List.length_nil, size_list] at hz
  refine ⟨?_, by omega, by omega⟩
  have hf := front_dec1 v (by omega)
  rw [refP_points _ _ hs (by omega) b l e hb (by rw [list_mkB, hf]; omega), list_mkB, hf]
  unfold ranged
  rw [if_pos]
  unfold chk
  rw [if_neg sPN, if_neg sPT, if_neg sPL, if_pos rfl, if_pos (by rw [ByteArray.toList_eq]; rfl), if_neg (by omega)]
theorem reason_size (r : ByteArray) (h : isR r = true) : 1 ≤ r.size ∧ r.size ≤ 3 := by
  have hm := (isR_mem r).1 h
  unfold reasons at hm
  simp only [List.mem_cons, List.not_mem_nil, or_false] at hm
  rcases hm with rfl | rfl | rfl | rfl <;> decide
theorem read_text (s r : ByteArray) (v : Int) (h : chk s v r = 0) : refP (textOf s v r) = ⟨s, v, r, 0⟩ ∧ 1 ≤ (textOf s v r).size ∧ (textOf s v r).size ≤ 16 := by
  unfold textOf
  rcases chk_cases s r v h with ⟨h0, hv, hr⟩ | ⟨h0, h1, hv0, hv1⟩ | ⟨h0, h1, h2, hv0, hv1⟩ | ⟨h0, h1, h2, h3, hv0, hv1⟩
  · rw [if_pos h0, h0, hv]
    obtain ⟨z1, z2⟩ := reason_size r hr
    refine ⟨?_, z1, by omega⟩
    unfold refP
    rw [if_neg (by omega), hr, if_pos rfl]
  · have he := chk_empty s r v h0 h
    rw [if_neg h0, if_pos h1, h1, he]
    obtain ⟨e, z1, z2⟩ := refP_timeText v.toNat (by omega) (by omega)
    rw [show ((v.toNat : Nat) : Int) = v from by omega] at e
    exact ⟨e, z1, by omega⟩
  · have he := chk_empty s r v h0 h
    rw [if_neg h0, if_neg h1, if_pos h2, h2, he]
    obtain ⟨e, z1, z2⟩ := refP_lenText v.toNat (by omega)
    rw [show ((v.toNat : Nat) : Int) = v from by omega] at e
    exact ⟨e, z1, z2⟩
  · have he := chk_empty s r v h0 h
    rw [if_neg h0, if_neg h1, if_neg h2, h3, he]
    obtain ⟨e, z1, z2⟩ := refP_pointText v.toNat (by omega)
    rw [show ((v.toNat : Nat) : Int) = v from by omega] at e
    exact ⟨e, z1, z2⟩
theorem text_inj (s1 r1 s2 r2 : ByteArray) (v1 v2 : Int) (h1 : chk s1 v1 r1 = 0) (h2 : chk s2 v2 r2 = 0) : textOf s1 v1 r1 = textOf s2 v2 r2 ↔ s1 = s2 ∧ v1 = v2 ∧ r1 = r2 := by
  constructor
  · intro e
    have e1 := (read_text s1 r1 v1 h1).1
    rw [e, (read_text s2 r2 v2 h2).1] at e1
    injection e1 with a b c d
    exact ⟨a.symm, b.symm, c.symm⟩
  · rintro ⟨rfl, rfl, rfl⟩
    rfl
end Go.Mk
end
