/-
  Proved: the reference's place of a slash, value of digits, and test of digits, as plain functions. Conditions: the text is no longer than an int says; for the value it has at most 18 bytes, all of them digits.
  Proved: the digits of a number of up to nine digits are read as this number; the reference's quick reading of a rational number's text. Conditions: numerator and denominator have at most nine digits, the denominator is not 0.
-/
import Derived.Test.YtickjnahdeikfaaGreatDoorYl
section
set_option linter.unusedVariables false
set_option linter.unusedSimpArgs false
open Go Go.Proofs Go.RowKit
set_option maxRecDepth 100000
namespace Go.Mk
theorem dropAt (s : ByteArray) (k : Nat) (h : k < s.size) : s.data.toList.drop k = s[k] :: s.data.toList.drop (k + 1) := by
  have hk : k < s.data.toList.length := by rw [Array.length_toList]; exact h
  rw [List.drop_eq_getElem_cons hk]
  rfl
theorem dropEnd (s : ByteArray) (k : Nat) (h : s.size ≤ k) : s.data.toList.drop k = [] := List.drop_of_length_le (by rw [Array.length_toList]; exact h)
/-- The place of the first slash, or the length. -/
def slashL (l : List UInt8) : Nat := l.findIdx (· == 47)
set_option maxHeartbeats 1000000 in
theorem rfSlash_any (s : ByteArray) (hz : s.size ≤ maxLen) (w : World) : Calls Tryz.prog 109 #[.string s] w (RetSame (.int .i64 (slashL s.data.toList : Nat)) w) := by
  obtain ⟨r, hr⟩ : ∃ r, slashL s.data.toList = r := ⟨_, rfl⟩
  rw [hr]
  have HR : Hid (r = 0 + slashL (s.data.toList.drop 0)) := Lib.hid (by rw [List.drop_zero, hr, Nat.zero_add])
  have hm : (s.size : Int) ≤ 9223372036854775807 := by have : maxLen = 9223372036854775807 := rfl; omega
  clear hr hz
  go_enter Tryz.func109, Tryz.ntmps109
  go_wp2
  go_loop [3] (fun i => ∃ k : Nat, k ≤ s.size ∧ i = .int .i64 k ∧ Hid (r = k + slashL (s.data.toList.drop k))) (fun i => s.size - (intOf i).toNat)
  case atStart => exact ⟨0, by omega, rfl, HR⟩
  case round =>
    obtain ⟨k, hk, rfl, hX⟩ := hrel
    by_cases hlt : (k : Int) < s.size
    · have hs : slashL (s.data.toList.drop k) = if s[k] == 47 then 0 else slashL (s.data.toList.drop (k + 1)) + 1 := by
        rw [dropAt s k (by omega)]
        unfold slashL
        rw [List.findIdx_cons]
        cases s[k] == 47 <;> rfl
      by_cases hc : (s[k].toNat : Int) = 47
      · have h8 : (s[k] == 47) = true := by rw [beq_iff_eq]; apply UInt8.toNat_inj.1; show s[k].toNat = 47; omega
        have HX : Hid (r = k) := Lib.hid (by have := hX.out; rw [hs, if_pos h8] at this; exact this)
        clear hs hX h8
        go_wp2
        go_ret
        exact ⟨by rw [HX.out]; rfl, rfl⟩
      · have h8 : ¬ (s[k] == 47) = true := by
          rw [beq_iff_eq]; intro q; apply hc; rw [q]; rfl
        have HX : Hid (r = (k + 1 : Nat) + slashL (s.data.toList.drop (k + 1))) := Lib.hid (by have := hX.out; rw [hs, if_neg h8] at this; omega)
        clear hs hX h8
        go_wp2
        exact ⟨⟨k + 1, by omega, by go_num, HX⟩, by simp [intOf]; omega⟩
    · have hx := hX.out
      rw [dropEnd s k (by omega)] at hx
      have hks : k = s.size := by omega
      subst hks
      have HX : Hid (r = s.size) := Lib.hid (by simpa [slashL] using hx)
      clear hx hX
      go_wp2
      go_ret
      exact ⟨by rw [HX.out]; rfl, rfl⟩
def isD (l : List UInt8) : Prop := ∀ c ∈ l, 48 ≤ c.toNat ∧ c.toNat ≤ 57
/-- The number that digits say. -/
def valL (l : List UInt8) : Nat := l.foldl (fun a c => 10 * a + (c.toNat - 48)) 0
theorem valL_snoc (l : List UInt8) (c : UInt8) : valL (l ++ [c]) = 10 * valL l + (c.toNat - 48) := by unfold valL; rw [List.foldl_append]; rfl
theorem takeAt (s : ByteArray) (k : Nat) (h : k < s.size) : s.data.toList.take (k + 1) = s.data.toList.take k ++ [s[k]] := by
  have hk : k < s.data.toList.length := by rw [Array.length_toList]; exact h
  rw [List.take_add_one, List.getElem?_eq_getElem hk]
  rfl
theorem valL_lt : ∀ (k : Nat) (l : List UInt8), l.length = k → isD l → valL l < 10 ^ k
  | 0, l, hl, _ => by obtain rfl := List.length_eq_zero_iff.1 hl; simp [valL]
  | k + 1, l, hl, hd => by
    have hne : l ≠ [] := fun q => by rw [q] at hl; cases hl
    rw [← List.dropLast_concat_getLast hne, valL_snoc]
    have h1 := valL_lt k l.dropLast (by rw [List.length_dropLast, hl]; rfl) (fun c hc => hd c (List.dropLast_subset l hc))
    have h2 := hd _ (List.getLast_mem hne)
    rw [Nat.pow_succ]
    omega
set_option maxHeartbeats 1000000 in
theorem rfValue_any (s : ByteArray) (hz : s.size ≤ 18) (hd : isD s.data.toList) (w : World) : Calls Tryz.prog 112 #[.string s] w (RetSame (.int .i64 (valL s.data.toList : Nat)) w) := by
  obtain ⟨r, hr⟩ : ∃ r, valL s.data.toList = r := ⟨_, rfl⟩
  rw [hr]
  have HR := Lib.hid hr
  have HD := Lib.hid hd
  have hm : (s.size : Int) ≤ 18 := by omega
  clear hr hd
  go_enter Tryz.func112, Tryz.ntmps112
  go_wp2
  go_loop [3, 4] (fun v i => ∃ k : Nat, k ≤ s.size ∧ i = .int .i64 k ∧ ∃ a : Nat, v = .int .i64 a ∧ Hid (valL (s.data.toList.take k) = a)) (fun _ i => s.size - (intOf i).toNat)
  case atStart => exact ⟨0, by omega, rfl, 0, rfl, Lib.hid (by simp [valL])⟩
  case round =>
    obtain ⟨k, hk, rfl, a, rfl, hX⟩ := hrel
    by_cases hlt : (k : Int) < s.size
    · have hx := valL_snoc (s.data.toList.take k) s[k]
      rw [← takeAt s k (by omega), hX.out] at hx
      have hkl : k < s.data.toList.length := by rw [Array.length_toList]; show k < s.size; omega
      have hc := HD.out s[k] (List.getElem_mem hkl)
      have ha := valL_lt k (s.data.toList.take k) (by rw [List.length_take, Array.length_toList]; show min k s.size = k; omega) (fun c hc => HD.out c (List.mem_of_mem_take hc))
      rw [hX.out] at ha
      have ha2 : a < 10 ^ 17 := Nat.lt_of_lt_of_le ha (Nat.pow_le_pow_right (by decide) (by omega))
      have hw1 : IntKind.i64.wrap (10 * (a : Int)) = 10 * (a : Int) := IntWalk.i64_in _ (by omega)
      have hw2 : IntKind.i64.wrap (10 * (a : Int) + (s[k].toNat : Int)) = 10 * (a : Int) + (s[k].toNat : Int) := IntWalk.i64_in _ (by omega)
      have hw3 : IntKind.i64.wrap (10 * (a : Int) + (s[k].toNat : Int) - 48) = 10 * (a : Int) + (s[k].toNat : Int) - 48 := IntWalk.i64_in _ (by omega)
      have hw4 : IntKind.i64.wrap (s[k].toNat : Int) = (s[k].toNat : Int) := IntWalk.i64_in _ (by omega)
      have he : (10 * (a : Int) + (s[k].toNat : Int) - 48) = ((10 * a + (s[k].toNat - 48) : Nat) : Int) := by omega
      have HX := Lib.hid hx
      have HE := Lib.hid he
      clear hx hX ha he
      go_wp2
      exact ⟨⟨k + 1, by omega, by go_num, _, by rw [← HE.out], HX⟩, by simp [intOf]; omega⟩
    · have hx := hX.out
      rw [List.take_of_length_le (by rw [Array.length_toList]; show s.size ≤ k; omega)] at hx
      have HX : Hid (r = a) := Lib.hid (by rw [← HR.out, hx])
      clear hx hX
      go_wp2
      go_ret
      exact ⟨by rw [HX.out]; rfl, rfl⟩
set_option maxHeartbeats 1000000 in
theorem rfDigits_any (s : ByteArray) (hz : s.size ≤ maxLen) (hd : isD s.data.toList) (w : World) : Calls Tryz.prog 132 #[.string s] w (RetSame (.bool true) w) := by
  have HD := Lib.hid hd
  have hm : (s.size : Int) ≤ 9223372036854775807 := by have : maxLen = 9223372036854775807 := rfl; omega
  clear hz hd
  go_enter Tryz.func132, Tryz.ntmps132
  go_wp2
  go_loop [3] (fun i => ∃ k : Nat, k ≤ s.size ∧ i = .int .i64 k) (fun i => s.size - (intOf i).toNat)
  case atStart => exact ⟨0, by omega, rfl⟩
  case round =>
    obtain ⟨k, hk, rfl⟩ := hrel
    by_cases hlt : (k : Int) < s.size
    · have hkl : k < s.data.toList.length := by rw [Array.length_toList]; show k < s.size; omega
      have hc := HD.out s[k] (List.getElem_mem hkl)
      have h1 : ¬ (s[k].toNat : Int) < 48 := by omega
      have h2 : ¬ (57 : Int) < (s[k].toNat : Int) := by omega
      go_wp2
      exact ⟨⟨k + 1, by omega, by go_num⟩, by simp [intOf]; omega⟩
    · go_wp2
      go_ret
      exact ⟨rfl, rfl⟩
end Go.Mk
end
section
set_option linter.unusedVariables false
set_option linter.unusedSimpArgs false
open Go Go.Proofs Go.RowKit
set_option maxRecDepth 100000
namespace Go.Mk
theorem digL_eq (n : Nat) : (digT n).data.toList = if n = 0 then [48] else dgs n := by
  unfold digT dgs
  by_cases h : n = 0
  · rw [if_pos h, if_pos h]
  · rw [if_neg h, if_neg h, if_neg h]; simp [zT]
theorem dgt_val (m : Nat) (h : m < 10) : (UInt8.ofNat (48 + m)).toNat = 48 + m := by
  rw [UInt8.toNat_ofNat']; omega
theorem dgs_isD : ∀ (n : Nat), isD (dgs n) := by
  intro n
  induction n using Nat.strongRecOn with
  | _ n ih =>
    by_cases h : 0 < n
    · rw [dgs_step n h]
      intro c hc
      rcases List.mem_append.1 hc with hc | hc
      · exact ih (n / 10) (by omega) c hc
      · rw [List.mem_singleton] at hc
        subst hc
        rw [dgt_val _ (Nat.mod_lt _ (by decide))]
        omega
    · obtain rfl : n = 0 := by omega
      intro c hc
      simp [dgs] at hc
theorem dgs_val : ∀ (n : Nat), valL (dgs n) = n := by
  intro n
  induction n using Nat.strongRecOn with
  | _ n ih =>
    by_cases h : 0 < n
    · rw [dgs_step n h, valL_snoc, ih (n / 10) (by omega), dgt_val _ (Nat.mod_lt _ (by decide))]
      omega
    · obtain rfl : n = 0 := by omega
      rfl
theorem dgs_length : ∀ (k n : Nat), n < 10 ^ k → (dgs n).length ≤ k
  | 0, n, h => by obtain rfl : n = 0 := by simpa using h
                  simp [dgs]
  | k + 1, n, h => by
    by_cases h0 : 0 < n
    · rw [dgs_step n h0, List.length_append]
      have := dgs_length k (n / 10) (by rw [Nat.pow_succ] at h; omega)
      simp; omega
    · obtain rfl : n = 0 := by omega
      simp [dgs]
theorem digT_isD (n : Nat) : isD (digT n).data.toList := by
  rw [digL_eq]
  split
  · intro c hc; rw [List.mem_singleton] at hc; subst hc; decide
  · exact dgs_isD n
theorem digT_val (n : Nat) : valL (digT n).data.toList = n := by
  rw [digL_eq]
  split
  · rename_i h; rw [h]; rfl
  · exact dgs_val n
theorem digT_size2 (n : Nat) : (digT n).size = (digT n).data.toList.length := by rw [Array.length_toList]; rfl
theorem digT_pos (n : Nat) : 0 < (digT n).size := by
  rw [digT_size2, digL_eq]
  split
  · decide
  · rename_i h
    obtain ⟨c, l, e, _⟩ := dgs_head n (by omega)
    rw [e]; simp
theorem digT_le9 (n : Nat) (h : n ≤ 999999999) : (digT n).size ≤ 9 := by
  rw [digT_size2, digL_eq]
  split
  · decide
  · exact dgs_length 9 n (by omega)
theorem slash_isD {l : List UInt8} (h : isD l) : slashL l = l.length := by
  unfold slashL
  rw [List.findIdx_eq_length]
  intro c hc
  have := h c hc
  rw [beq_eq_false_iff_ne]
  intro q; subst q
  exact absurd this (by decide)
theorem slash_mid {l r : List UInt8} (h : isD l) : slashL (l ++ 47 :: r) = l.length := by
  induction l with
  | nil => rfl
  | cons c l ih =>
    have hc := h c (by simp)
    have h47 : (c == 47) = false := by
      rw [beq_eq_false_iff_ne]; intro q; subst q; exact absurd hc (by decide)
    unfold slashL at ih ⊢
    rw [List.cons_append, List.findIdx_cons, h47, ih (fun d hd => h d (by simp [hd]))]
    simp
theorem baExt {a b : ByteArray} (h : a.data.toList = b.data.toList) : a = b := by
  cases a; cases b; congr 1; exact Array.toList_inj.1 h
theorem headD (s : ByteArray) (h : 0 < s.size) (hd : ∃ c l, s.data.toList = c :: l ∧ 48 ≤ c.toNat) : (s[0].toNat : Int) ≠ 45 := by
  obtain ⟨c, l, e, hc⟩ := hd
  have := dropAt s 0 h
  rw [List.drop_zero, e] at this
  injection this with h1 _
  rw [← h1]
  omega
set_option maxHeartbeats 2000000 in
theorem quick_one (s : ByteArray) (N : Nat) (h0 : 0 < s.size) (h9 : s.size ≤ 9) (hm : (s[0].toNat : Int) ≠ 45) (hd : isD s.data.toList) (hv : valL s.data.toList = N) (w : World) :
    Calls Tryz.prog 74 #[.string s] w (RetSame (.tuple #[.int .i64 N, .int .i64 1, .bool true]) w) := by
  have hS : Calls Tryz.prog 109 #[.string s] w (RetSame (.int .i64 (s.size : Nat)) w) := by
    have := rfSlash_any s (by unfold maxLen; omega) w
    rw [slash_isD hd, Array.length_toList] at this
    exact this
  have hV := rfValue_any s (by omega) hd w
  rw [hv] at hV
  have hx : s.extract 0 s.size = s := by rw [ByteArray.extract_zero_size]
  have hi9 : (s.size : Int) ≤ 9 := by omega
  have hi0 : (0 : Int) < (s.size : Int) := by omega
  have hm' : ¬ (s[0].toNat : Int) = 45 := hm
  clear hd hv
  go_enter Tryz.func74, Tryz.ntmps74
  go_wp2_with fail
  refine hS.mono ?_
  rintro e w1 ⟨rfl, rfl⟩
  go_wp2_with fail
  refine hV.mono ?_
  rintro e w1 ⟨rfl, rfl⟩
  go_wp2
  go_ret3
  exact ⟨rfl, rfl⟩
set_option maxHeartbeats 2000000 in
theorem quick_two (s x y : ByteArray) (a N D : Nat) (h19 : s.size ≤ 19) (ha : a ≤ 9) (hlt : a < s.size) (hb : s.size ≤ a + 10) (h0 : 0 < a) (hm : (s[0].toNat : Int) ≠ 45) (hs : slashL s.data.toList = a)
    (hx : s.extract 0 a = x) (hy : s.extract (a + 1) s.size = y) (hx9 : x.size ≤ 18) (hy9 : y.size ≤ 18) (hxd : isD x.data.toList) (hyd : isD y.data.toList) (hvx : valL x.data.toList = N) (hvy : valL y.data.toList = D) (w : World) :
    Calls Tryz.prog 74 #[.string s] w (RetSame (.tuple #[.int .i64 N, .int .i64 D, .bool true]) w) := by
  have hS := rfSlash_any s (by unfold maxLen; omega) w
  rw [hs] at hS
  have hV := rfValue_any x hx9 hxd w
  rw [hvx] at hV
  have hU := rfValue_any y hy9 hyd w
  rw [hvy] at hU
  have hi1 : (s.size : Int) ≤ 19 := by omega
  have hi0 : (0 : Int) < (s.size : Int) := by omega
  have hia : (a : Int) ≤ 9 := by omega
  have hi2 : (a : Int) < (s.size : Int) := by omega
  have hi3 : (a : Int) ≤ (s.size : Int) := by omega
  have hi4 : (0 : Int) ≤ (a : Int) := by omega
  have hi5 : ((a : Int)).toNat = a := by omega
  have hi6 : (a : Int) + 1 ≤ (s.size : Int) := by omega
  have hi7 : (0 : Int) ≤ (a : Int) + 1 := by omega
  have hi8 : ((a : Int) + 1).toNat = a + 1 := by omega
  have hi9 : (s.size : Int) - (a : Int) ≤ 10 := by omega
  have hm' : ¬ (s[0].toNat : Int) = 45 := hm
  have hw1 : IntKind.i64.wrap ((s.size : Int) - (a : Int)) = (s.size : Int) - (a : Int) := IntWalk.i64_in _ (by omega)
  have hw2 : IntKind.i64.wrap ((a : Int) + 1) = (a : Int) + 1 := IntWalk.i64_in _ (by omega)
  clear hxd hyd hvx hvy hs
  go_enter Tryz.func74, Tryz.ntmps74
  go_wp2_with fail
  refine hS.mono ?_
  rintro e w1 ⟨rfl, rfl⟩
  go_wp2_with fail
  refine hV.mono ?_
  rintro e w1 ⟨rfl, rfl⟩
  go_wp2_with fail
  refine hU.mono ?_
  rintro e w1 ⟨rfl, rfl⟩
  go_wp2
  go_ret3
  exact ⟨rfl, rfl⟩
theorem rfQuick_any (N D : Nat) (hN : N ≤ 999999999) (hD : D ≤ 999999999) (w : World) :
    Calls Tryz.prog 74 #[.string (ratT N D)] w (RetSame (.tuple #[.int .i64 N, .int .i64 D, .bool true]) w) := by
  have hn1 := digT_pos N
  have hn9 := digT_le9 N hN
  have hd9 := digT_le9 D hD
  have hd1 := digT_pos D
  have hh : ∃ c l, (digT N).data.toList = c :: l ∧ 48 ≤ c.toNat := by
    have := digT_isD N
    cases e : (digT N).data.toList with
    | nil => rw [digT_size2, e] at hn1; simp at hn1
    | cons c l => exact ⟨c, l, rfl, (this c (by rw [e]; simp)).1⟩
  unfold ratT
  by_cases h1 : D = 1
  · rw [if_pos h1, h1]
    exact quick_one _ N hn1 hn9 (headD _ hn1 hh) (digT_isD N) (digT_val N) w
  · rw [if_neg h1]
    have hl : (digT N ++ (⟨#[47]⟩ ++ digT D)).data.toList = (digT N).data.toList ++ 47 :: (digT D).data.toList := by simp
    have hz : (digT N ++ (⟨#[47]⟩ ++ digT D)).size = (digT N).size + (1 + (digT D).size) := by rw [ByteArray.size_append, ByteArray.size_append]; rfl
    have hsN : (digT N).data.toList.length = (digT N).size := (digT_size2 N).symm
    have hsD : (digT D).data.toList.length = (digT D).size := (digT_size2 D).symm
    refine quick_two _ (digT N) (digT D) (digT N).size N D (by omega) hn9 (by omega) (by omega) hn1 (headD _ (by omega) ?_) ?_ ?_ ?_ (by omega) (by omega) (digT_isD N) (digT_isD D) (digT_val N) (digT_val D) w
    · obtain ⟨c, l, e, hc⟩ := hh
      exact ⟨c, l ++ 47 :: (digT D).data.toList, by rw [hl, e]; rfl, hc⟩
    · rw [hl, slash_mid (digT_isD N), hsN]
    · apply baExt
      rw [ByteArray.data_extract, Array.toList_extract, hl]
      simp only [List.extract_eq_take_drop, List.drop_zero, Nat.sub_zero]
      rw [← hsN, List.take_left]
    · apply baExt
      rw [ByteArray.data_extract, Array.toList_extract, hl]
      simp only [List.extract_eq_take_drop]
      rw [List.take_of_length_le (by simp [hz]; omega), show (digT N).data.toList ++ 47 :: (digT D).data.toList = ((digT N).data.toList ++ [47]) ++ (digT D).data.toList by simp]
      exact List.drop_left' (by simp [hsN])
end Go.Mk
end
