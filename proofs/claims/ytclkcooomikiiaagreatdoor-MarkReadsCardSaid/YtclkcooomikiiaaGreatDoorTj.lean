/-
  Proved: mark.isDigits and mark.isInteger tell what the plain functions say. No condition.
  Proved: the reference's decimal texts are the digits of the number behind zeros; with at least one digit it is the library's Itoa. No condition but that the number is below a bound.
-/
import Derived.Test.YtclkcooomikiiaaGreatDoorTg
import Derived.Lib.ItoaNum
section
set_option linter.unusedVariables false
set_option linter.unusedSimpArgs false
open Go Go.Proofs Go.RowKit
set_option maxRecDepth 100000
namespace Go.Mk
def dgt (b : UInt8) : Bool := decide (48 ≤ b.toNat) && decide (b.toNat ≤ 57)
def isDig (s : ByteArray) : Bool := s.data.toList.all dgt && decide (s.size ≠ 0)
theorem empty_size (s : ByteArray) : (!s.toList.isEmpty) = decide (s.size ≠ 0) := by
  rw [ByteArray.toList_eq]
  have : s.data.toList.length = s.size := Array.length_toList
  cases h : s.data.toList with
  | nil => rw [h] at this; simp at this; simp [← this]
  | cons a l => rw [h] at this; simp at this; simp [← this]
set_option maxHeartbeats 1000000 in
theorem isDigits_any (s : ByteArray) (hz : s.size ≤ maxLen) (w : World) : Calls Tryz.prog 140 #[.string s] w fun e w' => e = .returned (.bool (isDig s)) ∧ w' = w := by
  obtain ⟨r, hr⟩ : ∃ r, isDig s = r := ⟨_, rfl⟩
  rw [hr]
  have HR := Lib.hid hr
  have hm : (s.size : Int) ≤ 9223372036854775807 := by have : maxLen = 9223372036854775807 := rfl; omega
  clear hr hz
  go_enter Tryz.func140, Tryz.ntmps140
  go_wp2
  go_loop [6] (fun i => ∃ k : Nat, k ≤ s.size ∧ i = .int .i64 k ∧ Hid (r = ((s.data.toList.drop k).all dgt && decide (s.size ≠ 0)))) (fun i => s.size - (intOf i).toNat)
  case atStart => exact ⟨0, by omega, rfl, Lib.hid HR.out.symm⟩
  case round =>
    obtain ⟨k, hk, rfl, hX⟩ := hrel
    by_cases hlt : (k : Int) < s.size
    · have hx := hX.out
      rw [drop_at s k (by omega), List.all_cons] at hx
      by_cases hlow : (s[k].toNat : Int) < 48
      · have HX : Hid (r = false) := Lib.hid (by
          rw [hx, show dgt s[k] = false from by unfold dgt; rw [decide_eq_false (show ¬ 48 ≤ s[k].toNat by omega), Bool.false_and]]; rfl)
        clear hx hX
        go_wp2
        go_ret
        exact ⟨by rw [HX.out]; rfl, rfl⟩
      · by_cases hhi : (57 : Int) < s[k].toNat
        · have HX : Hid (r = false) := Lib.hid (by
            rw [hx, show dgt s[k] = false from by unfold dgt; rw [decide_eq_false (show ¬ s[k].toNat ≤ 57 by omega), Bool.and_false]]; rfl)
          clear hx hX
          go_wp2
          go_ret
          exact ⟨by rw [HX.out]; rfl, rfl⟩
        · have HX : Hid (r = ((s.data.toList.drop (k + 1)).all dgt && decide (s.size ≠ 0))) := Lib.hid (by
            rw [hx, show dgt s[k] = true from by unfold dgt; rw [decide_eq_true (by omega), decide_eq_true (by omega)]; rfl, Bool.true_and])
          clear hx hX
          go_wp2
          exact ⟨⟨k + 1, by omega, by go_num, HX⟩, by simp [intOf]; omega⟩
    · have hx := hX.out
      rw [drop_end s k (by omega), List.all_nil, Bool.true_and] at hx
      have HX := Lib.hid hx
      clear hx hX
      go_wp2
      go_ret
      exact ⟨by rw [HX.out, ← empty_size]; rfl, rfl⟩
def isInt (s : ByteArray) : Bool := isDig s && ((s.toList == [48]) || !(s.data.toList.head? == some 48))
set_option maxHeartbeats 1000000 in
theorem isInteger_any (s : ByteArray) (hz : s.size ≤ maxLen) (w : World) : Calls Tryz.prog 88 #[.string s] w fun e w' => e = .returned (.bool (isInt s)) ∧ w' = w := by
  have hD := isDigits_any s hz w
  unfold isInt
  cases hd : isDig s with
  | false =>
    rw [hd] at hD
    rw [Bool.false_and]
    clear hd
    go_enter Tryz.func88, Tryz.ntmps88
    go_wp2_with fail
    refine hD.mono ?_
    rintro e w2 ⟨rfl, rfl⟩
    go_wp2
    go_ret
    exact ⟨rfl, rfl⟩
  | true =>
    rw [hd] at hD
    rw [Bool.true_and]
    have hs : 0 < s.size := by
      unfold isDig at hd
      have := (Bool.and_eq_true _ _ ▸ hd).2
      have h2 := of_decide_eq_true this
      omega
    have hh := head_at s hs
    have hsi : 0 < (s.size : Int) := by omega
    cases h1 : (s.toList == [48]) with
    | true =>
      rw [Bool.true_or]
      clear hd hh
      go_enter Tryz.func88, Tryz.ntmps88
      go_wp2_with fail
      refine hD.mono ?_
      rintro e w2 ⟨rfl, rfl⟩
      go_wp2
      go_ret
      exact ⟨rfl, rfl⟩
    | false =>
      rw [Bool.false_or, hh]
      have hc : (some s[0] == some (48 : UInt8)) = ((s[0].toNat : Int) == 48) := by
        by_cases h : s[0] = 48
        · rw [h]; rfl
        · have h2 : ¬ ((s[0].toNat : Int) = 48) := fun e => h (UInt8.toNat_inj.1 (by show _ = 48; omega))
          rw [beq_eq_false_iff_ne.2 h2, beq_eq_false_iff_ne.2 (fun e => h (Option.some.inj e))]
      rw [hc]
      clear hd hh hc
      go_enter Tryz.func88, Tryz.ntmps88
      go_wp2_with fail
      refine hD.mono ?_
      rintro e w2 ⟨rfl, rfl⟩
      go_wp2
      go_ret
      exact ⟨rfl, rfl⟩
end Go.Mk
end
section
set_option linter.unusedVariables false
set_option linter.unusedSimpArgs false
open Go Go.Proofs Go.RowKit
set_option maxRecDepth 100000
namespace Go.Mk
/-- The digits of a number, none for 0. -/
def dgs (n : Nat) : List UInt8 := if n = 0 then [] else Lib.decDigits n
theorem dgs_step (n : Nat) (h : 0 < n) : dgs n = dgs (n / 10) ++ [UInt8.ofNat (48 + n % 10)] := by
  unfold dgs
  rw [if_neg (by omega), Lib.decDigits]
  by_cases h10 : n < 10
  · have : n / 10 = 0 := by omega
    simp [h10, this, Nat.mod_eq_of_lt h10]
  · have : n / 10 ≠ 0 := by omega
    simp [h10, this]
theorem decGo_list (least : Nat) (f n : Nat) (s : ByteArray) (h : n < 10 ^ f) (hl : least ≤ s.size + f) : (decGo f least n s).data.toList = List.replicate (least - s.size - (dgs n).length) 48 ++ dgs n ++ s.data.toList := by
  induction f generalizing n s with
  | zero =>
    obtain rfl : n = 0 := by simpa using h
    rw [decGo, show least - s.size = 0 from by omega]
    simp [dgs]
  | succ f ih =>
    rw [decGo]
    have hd : (dig1 (n % 10) ++ s).data.toList = UInt8.ofNat (48 + n % 10) :: s.data.toList := by
      rw [ByteArray.data_append, Array.toList_append, dig1_list _ (Nat.mod_lt _ (by decide))]
      rfl
    have hsz : (dig1 (n % 10) ++ s).size = s.size + 1 := by rw [ByteArray.size_append, dig1_size _ (Nat.mod_lt _ (by decide))]; omega
    by_cases hc : 0 < n ∨ s.size < least
    · rw [if_pos hc, ih (n / 10) _ (by rw [Nat.pow_succ] at h; omega) (by omega), hd, hsz]
      by_cases hn : 0 < n
      · rw [dgs_step n hn]
        simp
        omega
      · obtain rfl : n = 0 := by omega
        obtain ⟨m, hm⟩ : ∃ m, least - s.size = m + 1 := ⟨least - s.size - 1, by omega⟩
        rw [show least - (s.size + 1) = m from by omega, hm]
        simp [dgs, List.replicate_succ']
    · rw [if_neg hc]
      obtain rfl : n = 0 := by omega
      rw [show least - s.size = 0 from by omega]
      simp [dgs]
theorem dec_list (n least : Nat) (h : n ≤ 999999999) (hl : least ≤ 9) : (dec n least).data.toList = List.replicate (least - (dgs n).length) 48 ++ dgs n := by
  unfold dec
  have h0 : (⟨#[]⟩ : ByteArray).size = 0 := rfl
  rw [decGo_list least 40 n ⟨#[]⟩ (by omega) (by omega), h0]
  simp
theorem dec_one (n : Nat) (h : n ≤ 999999999) : (dec n 1).data.toList = Lib.itoa n := by
  rw [dec_list n 1 h (by decide)]
  unfold Lib.itoa
  rw [if_neg (by omega), Int.toNat_natCast]
  unfold dgs
  by_cases hn : n = 0
  · subst hn; rw [if_pos rfl, Lib.decDigits]; rfl
  · have : 1 ≤ (Lib.decDigits n).length := by rw [Lib.decDigits]; split <;> simp
    rw [if_neg hn, show 1 - (Lib.decDigits n).length = 0 from by omega]
    rfl
end Go.Mk
end
