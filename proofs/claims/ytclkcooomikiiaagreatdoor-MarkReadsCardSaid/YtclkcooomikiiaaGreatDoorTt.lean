/-
  Proved: a number with zeros ahead is the list of its digits, and which of its last digits are zeros; the texts that the program prints are the reference's. No condition but that the numbers are below a bound.
-/
import Derived.Test.YtclkcooomikiiaaGreatDoorTi
import Derived.Test.YtclkcooomikiiaaGreatDoorTj
import Derived.Test.YtclkcooomikiiaaGreatDoorTp
import Derived.Test.YtclkcooomikiiaaGreatDoorTr
import Derived.Lib.TrimByte
set_option linter.unusedVariables false
set_option linter.unusedSimpArgs false
open Go Go.Proofs Go.RowKit
set_option maxRecDepth 100000
namespace Go.Mk
/-- The last k digits of n. -/
def padL : Nat → Nat → List UInt8
  | 0, _ => []
  | k + 1, n => padL k (n / 10) ++ [UInt8.ofNat (48 + n % 10)]
theorem padL_zero (k : Nat) : padL k 0 = List.replicate k 48 := by
  induction k with
  | zero => rfl
  | succ k ih =>
    rw [padL, Nat.zero_div, ih, List.replicate_succ']
    rfl
theorem padL_length (k n : Nat) : (padL k n).length = k := by
  induction k generalizing n with
  | zero => rfl
  | succ k ih => rw [padL, List.length_append, ih]; rfl
theorem padL_dgs (k n : Nat) (h : n < 10 ^ k) : List.replicate (k - (dgs n).length) 48 ++ dgs n = padL k n := by
  induction k generalizing n with
  | zero =>
    obtain rfl : n = 0 := by simpa using h
    rfl
  | succ k ih =>
    by_cases hn : 0 < n
    · rw [dgs_step n hn, padL, ← ih (n / 10) (by rw [Nat.pow_succ] at h; omega), List.length_append, ← List.append_assoc]
      rw [show k + 1 - ((dgs (n / 10)).length + [UInt8.ofNat (48 + n % 10)].length) = k - (dgs (n / 10)).length from by simp]
    · obtain rfl : n = 0 := by omega
      rw [padL_zero]
      simp [dgs]
theorem dec_pad (k n : Nat) (hk : k ≤ 9) (h9 : n ≤ 999999999) (h : n < 10 ^ k) : (dec n k).data.toList = padL k n := by
  rw [dec_list n k h9 hk, padL_dgs k n h]
theorem ba_of_list {a : ByteArray} {l : List UInt8} (h : a.data.toList = l) : a = ⟨l.toArray⟩ := by
  obtain ⟨x⟩ := a
  simp only at h
  rw [← h]
theorem deci_list (n : Nat) : (deci n).data.toList = Lib.decDigits n := by show (Lib.decDigits n).toArray.toList = _; simp
theorem deci_size (n : Nat) : (deci n).size = (Lib.decDigits n).length := by show (Lib.decDigits n).toArray.size = _; simp
theorem deci_dec (n : Nat) (h : n ≤ 999999999) : deci n = dec n 1 := by
  rw [ba_of_list (dec_one n h), Lib.itoa_nonneg]
  rfl
/-- A number with zeros ahead, as the program writes it. -/
theorem pad_text (k n : Nat) (hk1 : 1 ≤ k) (hk : k ≤ 9) (h9 : n ≤ 999999999) (h : n < 10 ^ k) : zeros (k - (deci n).size) ++ deci n = dec n k := by
  have e : (zeros (k - (deci n).size) ++ deci n).data.toList = padL k n := by
    rw [ByteArray.data_append, Array.toList_append, deci_list, deci_size, show (zeros (k - (Lib.decDigits n).length)).data.toList = List.replicate (k - (Lib.decDigits n).length) 48 from by simp [zeros]]
    by_cases hn : n = 0
    · subst hn
      rw [padL_zero, show Lib.decDigits 0 = [48] from by rw [Lib.decDigits]; rfl]
      obtain ⟨m, rfl⟩ : ∃ m, k = m + 1 := ⟨k - 1, by omega⟩
      rw [List.replicate_succ']
      rfl
    · rw [← padL_dgs k n h, show dgs n = Lib.decDigits n from if_neg hn]
  rw [ba_of_list e, ba_of_list (dec_pad k n hk h9 h)]
theorem ofNat_48 (d : Nat) (h : d < 10) : decide (UInt8.ofNat (48 + d) = 48) = decide (d = 0) := by
  have : ∀ d, d < 10 → decide (UInt8.ofNat (48 + d) = 48) = decide (d = 0) := by decide
  exact this d h
/-- The first two digits of a text. -/
def cut2 (s : ByteArray) : ByteArray := s.extract 0 2
/-- The digits behind the second. -/
def behind2 (s : ByteArray) : ByteArray := s.extract 2 s.size
theorem extract_list (s : ByteArray) (a b : Nat) : (s.extract a b).data.toList = (s.data.toList.drop a).take (b - a) := by
  rw [ByteArray.data_extract, Array.toList_extract]
theorem frac3 (n : Nat) (h : n < 1000) : (Lib.trimB (behind2 (dec n 3)).data.toList 48 = [] ↔ n % 10 = 0) ∧ (n % 10 = 0 → cut2 (dec n 3) = dec (n / 10) 2) ∧ (dec n 3).size = 3 := by
  have e := dec_pad 3 n (by decide) (by omega) (by omega)
  have hs : (dec n 3).size = 3 := by
    have := congrArg List.length e
    rw [padL_length, Array.length_toList] at this
    exact this
  refine ⟨?_, ?_, hs⟩
  · rw [behind2, extract_list, e, hs]
    simp only [padL, List.nil_append, List.append_assoc, List.cons_append, List.drop_succ_cons, List.drop_zero, List.take_succ_cons, List.take_nil]
    have := ofNat_48 (n % 10) (Nat.mod_lt _ (by decide))
    generalize UInt8.ofNat (48 + n % 10) = x at this
    have : x = 48 ↔ n % 10 = 0 := decide_eq_decide.1 this
    rw [← this]
    by_cases hx : x = 48 <;> simp [Lib.trimB, Lib.trimLeftB, Lib.trimRightB, List.dropWhile, hx]
  · intro h0
    have e2 := dec_pad 2 (n / 10) (by decide) (by omega) (by omega)
    rw [ba_of_list e2]
    apply ba_of_list
    rw [cut2, extract_list, e]
    simp [padL]
theorem frac4 (n : Nat) (h : n < 10000) : (Lib.trimB (behind2 (dec n 4)).data.toList 48 = [] ↔ n % 100 = 0) ∧ (n % 100 = 0 → cut2 (dec n 4) = dec (n / 100) 2) ∧ (dec n 4).size = 4 := by
  have e := dec_pad 4 n (by decide) (by omega) (by omega)
  have hs : (dec n 4).size = 4 := by
    have := congrArg List.length e
    rw [padL_length, Array.length_toList] at this
    exact this
  refine ⟨?_, ?_, hs⟩
  · rw [behind2, extract_list, e, hs]
    simp only [padL, List.nil_append, List.append_assoc, List.cons_append, List.drop_succ_cons, List.drop_zero, List.take_succ_cons, List.take_nil]
    have t1 := ofNat_48 (n % 10) (Nat.mod_lt _ (by decide))
    have t2 := ofNat_48 (n / 10 % 10) (Nat.mod_lt _ (by decide))
    generalize UInt8.ofNat (48 + n % 10) = x at t1
    generalize UInt8.ofNat (48 + n / 10 % 10) = y at t2
    have t1 : x = 48 ↔ n % 10 = 0 := decide_eq_decide.1 t1
    have t2 : y = 48 ↔ n / 10 % 10 = 0 := decide_eq_decide.1 t2
    have t3 : n % 100 = 0 ↔ x = 48 ∧ y = 48 := by rw [t1, t2]; omega
    rw [t3]
    have bx : (x == 48) = decide (x = 48) := rfl
    have bY : (y == 48) = decide (y = 48) := rfl
    by_cases hx : x = 48 <;> by_cases hy : y = 48 <;> simp [Lib.trimB, Lib.trimLeftB, Lib.trimRightB, List.dropWhile, bx, bY, hx, hy]
  · intro h0
    have e2 := dec_pad 2 (n / 100) (by decide) (by omega) (by omega)
    rw [ba_of_list e2]
    apply ba_of_list
    rw [cut2, extract_list, e]
    simp only [padL, List.nil_append, List.append_assoc, List.cons_append, List.drop_succ_cons, List.drop_zero, List.take_succ_cons, List.take_nil, List.take_zero, show 2 - 0 = 2 from rfl]
    rw [show n / 10 / 10 / 10 % 10 = n / 100 / 10 % 10 from by omega, show n / 10 / 10 % 10 = n / 100 % 10 from by omega]
end Go.Mk
