/-
  Proved: the reference's digits, front and scaled return what the plain functions say. No condition.
  Proved: the reference's decimal returns the digits of a number, with zeros in front up to a length. Conditions: the number is not negative and below a bound.
-/
import Derived.Test.YtclkcooomikiiaaGreatDoorAwE
import Derived.Test.YtclkcooomikiiaaGreatDoorRow
import Derived.Lib.Hide
import Derived.LoopTactic
import Derived.Outline
import Derived.Laws.Strings2
section
set_option linter.unusedVariables false
set_option linter.unusedSimpArgs false
open Go Go.Proofs Go.RowKit
set_option maxRecDepth 100000
namespace Go.Mk
/-- The number of a list of digits behind n, or -1. -/
def digL (n : Int) : List UInt8 → Int
  | [] => n
  | b :: l => if b.toNat < 48 ∨ 57 < b.toNat then -1 else digL (10 * n + (b.toNat - 48 : Int)) l
def digits (s : ByteArray) : Int := if s.size = 0 ∨ 9 < s.size then -1 else digL 0 s.data.toList
theorem drop_at (s : ByteArray) (k : Nat) (h : k < s.size) : s.data.toList.drop k = s[k] :: s.data.toList.drop (k + 1) := by
  have hk : k < s.data.toList.length := by rw [Array.length_toList]; exact h
  rw [List.drop_eq_getElem_cons hk]
  rfl
theorem drop_end (s : ByteArray) (k : Nat) (h : s.size ≤ k) : s.data.toList.drop k = [] := List.drop_eq_nil_of_le (by rw [Array.length_toList]; exact h)
set_option maxHeartbeats 1000000 in
theorem refDigits_any (s : ByteArray) (w : World) (hz : s.size ≤ maxLen) : Calls Tryz.prog 40 #[.string s] w fun e w' => e = .returned (.int .i64 (digits s)) ∧ w' = w := by
  go_enter Tryz.func40, Tryz.ntmps40
  by_cases h0 : s.size = 0
  · rw [show digits s = -1 from if_pos (.inl h0)]
    have e0 : ((s.size : Int) == 0) = true := by rw [h0]; rfl
    go_wp2
    all_goals first | (go_ret; exact ⟨rfl, rfl⟩) | (exfalso; omega)
  · have e0 : ((s.size : Int) == 0) = false := by rw [beq_eq_false_iff_ne]; omega
    by_cases h9 : 9 < (s.size : Int)
    · rw [show digits s = -1 from if_pos (.inr (by omega))]
      go_wp2
      go_ret
      exact ⟨rfl, rfl⟩
    · rw [show digits s = digL 0 s.data.toList from if_neg (by omega)]
      obtain ⟨r, hr⟩ : ∃ r, digL 0 s.data.toList = r := ⟨_, rfl⟩
      rw [hr]
      have HR := Lib.hid hr
      clear hr
      go_wp2
      clear e0
      go_loop [3, 4] (fun n i => ∃ k : Nat, k ≤ s.size ∧ i = .int .i64 k ∧ ∃ m : Nat, n = .int .i64 m ∧ m < 10 ^ k ∧ Hid (r = digL m (s.data.toList.drop k))) (fun _ i => s.size - (intOf i).toNat)
      case atStart => exact ⟨0, by omega, rfl, 0, rfl, by decide, Lib.hid HR.out.symm⟩
      case round =>
        obtain ⟨k, hk, rfl, m, rfl, m1, hD⟩ := hrel
        by_cases hlt : (k : Int) < s.size
        · have hdr := drop_at s k (by omega)
          have hx := hD.out
          rw [hdr] at hx
          obtain ⟨c, hc⟩ : ∃ c : Nat, s[k].toNat = c := ⟨_, rfl⟩
          have hm : (m : Int) ≤ 99999999 := by
            have : 10 ^ k ≤ 10 ^ 8 := Nat.pow_le_pow_right (by decide) (by omega)
            omega
          clear hD hdr
          by_cases hlow : (s[k].toNat : Int) < 48
          · have HX : Hid (r = -1) := Lib.hid (by rw [hx, digL, if_pos (.inl (by omega))])
            clear hx
            go_wp2
            go_ret
            exact ⟨by rw [HX.out]; rfl, rfl⟩
          · by_cases hhi : (57 : Int) < s[k].toNat
            · have HX : Hid (r = -1) := Lib.hid (by rw [hx, digL, if_pos (.inr (by omega))])
              clear hx
              go_wp2
              go_ret
              exact ⟨by rw [HX.out]; rfl, rfl⟩
            · rw [digL, if_neg (by omega), hc] at hx
              have HX := Lib.hid hx
              clear hx
              go_wp2
              refine ⟨⟨k + 1, by omega, by go_num, 10 * m + (c - 48), ?_, ?_, ?_⟩, by simp [intOf]; omega⟩
              · congr 1; omega
              · rw [Nat.pow_succ]; omega
              · refine Lib.hid ?_
                rw [HX.out]
                congr 1
                omega
        · have hx := hD.out
          rw [drop_end s k (by omega), digL] at hx
          have HX := Lib.hid hx
          clear hx hD
          go_wp2
          go_ret
          exact ⟨by rw [HX.out]; rfl, rfl⟩
theorem head_at (s : ByteArray) (h : 0 < s.size) : s.data.toList.head? = some s[0] := by
  have := drop_at s 0 h
  rw [List.drop_zero] at this
  rw [this]
  rfl
def front (s : ByteArray) : Int := if 1 < s.size ∧ s.data.toList.head? = some 48 then -1 else digits s
set_option maxHeartbeats 1000000 in
theorem refFront_any (s : ByteArray) (w : World) (hz : s.size ≤ maxLen) : Calls Tryz.prog 36 #[.string s] w fun e w' => e = .returned (.int .i64 (front s)) ∧ w' = w := by
  have hD := refDigits_any s w hz
  obtain ⟨r, hr⟩ : ∃ r, front s = r := ⟨_, rfl⟩
  rw [hr]
  by_cases h1 : 1 < (s.size : Int)
  · have hh := head_at s (by omega)
    by_cases h2 : ((s[0].toNat : Int) == 48) = true
    · have hx : Hid (r = -1) := Lib.hid (by
        rw [← hr]
        refine if_pos ⟨by omega, ?_⟩
        rw [hh]
        congr 1
        refine UInt8.toNat_inj.1 ?_
        have := eq_of_beq h2
        show _ = 48
        omega)
      clear hh hr hD
      go_enter Tryz.func36, Tryz.ntmps36
      go_wp2
      go_ret
      exact ⟨by rw [hx.out]; rfl, rfl⟩
    · replace h2 : ((s[0].toNat : Int) == 48) = false := by simpa using h2
      have hx : Hid (digits s = r) := Lib.hid (by
        rw [← hr]
        refine (if_neg fun h => ?_).symm
        rw [hh] at h
        have : s[0] = 48 := Option.some.inj h.2
        rw [this] at h2
        cases h2)
      rw [hx.out] at hD
      clear hh hr
      go_enter Tryz.func36, Tryz.ntmps36
      go_wp2_with fail
      refine hD.mono ?_
      rintro e w2 ⟨rfl, rfl⟩
      go_wp2
      go_ret
      exact ⟨rfl, rfl⟩
  · have hx : Hid (digits s = r) := Lib.hid (by
      rw [← hr]
      exact (if_neg fun h => by omega).symm)
    rw [hx.out] at hD
    clear hr
    go_enter Tryz.func36, Tryz.ntmps36
    go_wp2_with fail
    refine hD.mono ?_
    rintro e w2 ⟨rfl, rfl⟩
    go_wp2
    go_ret
    exact ⟨rfl, rfl⟩
theorem digL_range (l : List UInt8) (k m : Nat) (h : m < 10 ^ k) : digL m l = -1 ∨ ∃ r : Nat, digL m l = r ∧ r < 10 ^ (k + l.length) := by
  induction l generalizing k m with
  | nil => exact .inr ⟨m, rfl, h⟩
  | cons b l ih =>
    rw [digL]
    split
    · exact .inl rfl
    · rename_i hb
      have e : (10 * (m : Int) + ((b.toNat : Int) - 48)) = ((10 * m + (b.toNat - 48) : Nat) : Int) := by omega
      rw [e]
      have := ih (k + 1) (10 * m + (b.toNat - 48)) (by rw [Nat.pow_succ]; omega)
      rwa [show k + 1 + l.length = k + (b :: l).length from by simp; omega] at this
theorem digits_range (s : ByteArray) : digits s = -1 ∨ ∃ r : Nat, digits s = r ∧ r < 10 ^ s.size := by
  unfold digits
  split
  · exact .inl rfl
  · have := digL_range s.data.toList 0 0 (by decide)
    rwa [Nat.zero_add, Array.length_toList] at this
def scaled (s : ByteArray) (lo hi : Nat) : Int := if s.size < lo ∨ hi < s.size ∨ digits s < 0 then -1 else digits s * 10 ^ (hi - s.size)
set_option maxHeartbeats 1000000 in
theorem refScaled_any (s : ByteArray) (lo hi : Nat) (hh : hi ≤ 9) (hl : lo ≤ hi) (w : World) (hz : s.size ≤ maxLen) : Calls Tryz.prog 39 #[.string s, .int .i64 lo, .int .i64 hi] w fun e w' => e = .returned (.int .i64 (scaled s lo hi)) ∧ w' = w := by
  have hD := refDigits_any s w hz
  have hR := digits_range s
  obtain ⟨r, hr⟩ : ∃ r, scaled s lo hi = r := ⟨_, rfl⟩
  rw [hr]
  have hm : (s.size : Int) ≤ 9223372036854775807 := by have : maxLen = 9223372036854775807 := rfl; omega
  obtain ⟨d, hd⟩ : ∃ d, digits s = d := ⟨_, rfl⟩
  rw [hd] at hD hR
  unfold scaled at hr
  rw [hd] at hr
  by_cases hbad : s.size < lo ∨ hi < s.size ∨ d < 0
  · rw [if_pos hbad] at hr
    have HR : Hid (r = -1) := Lib.hid hr.symm
    have hdd : -1 ≤ d ∧ (d < 0 ∨ 0 ≤ d) := by rcases hR with h | ⟨q, h, _⟩ <;> omega
    clear hr hR hd
    go_enter Tryz.func39, Tryz.ntmps39
    go_wp2_with fail
    refine hD.mono ?_
    rintro e w2 ⟨rfl, rfl⟩
    clear hD
    by_cases h1 : (s.size : Int) < lo
    · go_wp2
      go_ret
      exact ⟨by rw [HR.out]; rfl, rfl⟩
    · by_cases h2 : (hi : Int) < s.size
      · go_wp2
        go_ret
        exact ⟨by rw [HR.out]; rfl, rfl⟩
      · have h3 : d < 0 := by omega
        go_wp2
        go_ret
        exact ⟨by rw [HR.out]; rfl, rfl⟩
  · rw [if_neg hbad] at hr
    obtain ⟨q, rfl, hq⟩ : ∃ q : Nat, d = q ∧ q < 10 ^ s.size := by
      rcases hR with h | h
      · omega
      · exact h
    have HR := Lib.hid hr
    have h1 : (lo : Int) ≤ s.size := by omega
    have h2 : (s.size : Int) ≤ hi := by omega
    have h3 : 0 ≤ (q : Int) := by omega
    have HQ := Lib.hid hq
    clear hr hR hd hbad hq
    go_enter Tryz.func39, Tryz.ntmps39
    go_wp2_with fail
    refine hD.mono ?_
    rintro e w2 ⟨rfl, rfl⟩
    clear hD
    go_wp2
    go_loop [7, 8] (fun n i => ∃ k : Nat, k ≤ hi ∧ i = .int .i64 k ∧ ∃ m : Nat, n = .int .i64 m ∧ m < 10 ^ k ∧ Hid (r = m * 10 ^ (hi - k))) (fun _ i => hi - (intOf i).toNat)
    case atStart => exact ⟨s.size, by omega, rfl, q, rfl, HQ.out, Lib.hid HR.out.symm⟩
    case round =>
      obtain ⟨k, hk, rfl, m, rfl, m1, hX⟩ := hrel
      by_cases hlt : (k : Int) < hi
      · have hmm : (m : Int) ≤ 999999999 := by
          have : 10 ^ k ≤ 10 ^ 9 := Nat.pow_le_pow_right (by decide) (by omega)
          omega
        go_wp2
        refine ⟨⟨k + 1, by omega, by go_num, 10 * m, ?_, ?_, ?_⟩, by simp [intOf]; omega⟩
        · congr 1
        · rw [Nat.pow_succ]; omega
        · refine Lib.hid ?_
          rw [hX.out, show hi - k = (hi - (k + 1)) + 1 from by omega, Int.pow_succ]
          push_cast
          rw [Int.mul_comm (10 ^ (hi - (k + 1))) 10, ← Int.mul_assoc, Int.mul_comm (m : Int) 10]
      · have hx := hX.out
        rw [show hi - k = 0 from by omega, Int.pow_zero, Int.mul_one] at hx
        have HX := Lib.hid hx
        clear hx hX
        go_wp2
        go_ret
        exact ⟨by rw [HX.out]; rfl, rfl⟩
end Go.Mk
end
section
set_option linter.unusedVariables false
set_option linter.unusedSimpArgs false
open Go Go.Proofs Go.RowKit
set_option maxRecDepth 100000
namespace Go.Mk
def ten : ByteArray := ⟨#[48, 49, 50, 51, 52, 53, 54, 55, 56, 57]⟩
/-- One digit as a text. -/
def dig1 (d : Nat) : ByteArray := ten.extract d (d + 1)
theorem dig1_list (d : Nat) (h : d < 10) : (dig1 d).data.toList = [UInt8.ofNat (48 + d)] := by
  have : ∀ d, d < 10 → (dig1 d).data.toList = [UInt8.ofNat (48 + d)] := by decide
  exact this d h
theorem dig1_size (d : Nat) (h : d < 10) : (dig1 d).size = 1 := by
  have : ∀ d, d < 10 → (dig1 d).size = 1 := by decide
  exact this d h
theorem slice_dig (m : Nat) (w : World) : (Instr.slice 9 (.string ten) (some (.int .i64 ((m : Int) % 10))) (some (.int .i64 ((m : Int) % 10 + 1))) none).run Tryz.prog w = .ok (.string (dig1 (m % 10))) w := by
  rw [run_slice_string _ _ _ _ _ _ _ Tryz.underlying9 (by omega) (by omega) (by show _ ≤ ((10 : Nat) : Int); omega)]
  congr 2
/-- The digits of n ahead of s, at least so many. -/
def decGo : Nat → Nat → Nat → ByteArray → ByteArray
  | 0, _, _, s => s
  | f + 1, least, n, s => if 0 < n ∨ s.size < least then decGo f least (n / 10) (dig1 (n % 10) ++ s) else s
def dec (n least : Nat) : ByteArray := decGo 40 least n ⟨#[]⟩
def strSize : Value → Nat
  | .string t => t.size
  | _ => 0
set_option maxHeartbeats 1000000 in
theorem refDecimal_any (n least : Nat) (h : n ≤ 999999999) (hl : least ≤ 9) (w : World) : Calls Tryz.prog 31 #[.int .i64 n, .int .i64 least] w fun e w' => e = .returned (.string (dec n least)) ∧ w' = w := by
  obtain ⟨r, hr⟩ : ∃ r, dec n least = r := ⟨_, rfl⟩
  rw [hr]
  have HR := Lib.hid hr
  clear hr
  have HS : Hid (∀ (m : Nat) (w : World), (Instr.slice 9 (.string ten) (some (.int .i64 ((m : Int) % 10))) (some (.int .i64 ((m : Int) % 10 + 1))) none).run Tryz.prog w = .ok (.string (dig1 (m % 10))) w) := slice_dig
  go_enter Tryz.func31, Tryz.ntmps31
  go_wp2
  go_loop [0, 5] (fun x s => ∃ (j m : Nat) (t : ByteArray), x = .int .i64 m ∧ s = .string t ∧ t.size = j ∧ j ≤ 9 ∧ m * 10 ^ j ≤ 999999999 ∧ Hid (r = decGo (40 - j) least m t)) (fun _ s => 20 - strSize s)
  case atStart => exact ⟨0, n, ⟨#[]⟩, rfl, rfl, rfl, by decide, by omega, Lib.hid HR.out.symm⟩
  case round =>
    obtain ⟨j, m, t, rfl, rfl, ht, hj, hm, hX⟩ := hrel
    have hmm : m ≤ 999999999 := Nat.le_trans (Nat.le_mul_of_pos_right _ (Nat.pow_pos (by decide))) hm
    have hts : (t.size : Int) ≤ 9 := by omega
    have hx := hX.out
    rw [show 40 - j = (39 - j) + 1 from by omega, decGo] at hx
    by_cases h0 : 0 < (m : Int) ∨ (t.size : Int) < least
    · rw [if_pos (by omega)] at hx
      have hsl := HS.out m
      have HX := Lib.hid hx
      have hds := dig1_size (m % 10) (Nat.mod_lt _ (by decide))
      have hj9 : j < 9 := by
        rcases h0 with h0 | h0
        · refine Classical.byContradiction fun hc => ?_
          obtain rfl : j = 9 := by omega
          omega
        · omega
      clear hx hX
      obtain ⟨d, hd⟩ : ∃ d, dig1 (m % 10) = d := ⟨_, rfl⟩
      rw [hd] at hds
      simp only [hd] at hsl
      unfold ten at hsl
      have hg : Hid (∃ j' m' t', Value.int IntKind.i64 ((m : Int) / 10) = Value.int IntKind.i64 (m' : Nat) ∧ Value.string (d ++ t) = Value.string t' ∧ t'.size = j' ∧ j' ≤ 9 ∧ m' * 10 ^ j' ≤ 999999999 ∧ Hid (r = decGo (40 - j') least m' t')) := by
        refine Lib.hid ⟨j + 1, m / 10, d ++ t, by rw [Int.natCast_ediv]; rfl, rfl, by rw [ByteArray.size_append]; omega, by omega, ?_, ?_⟩
        · refine Nat.le_trans ?_ hm
          rw [Nat.pow_succ, Nat.mul_comm (10 ^ j) 10, ← Nat.mul_assoc]
          exact Nat.mul_le_mul_right _ (by omega)
        · refine Lib.hid ?_
          rw [HX.out, hd, show 40 - (j + 1) = 39 - j from by omega]
      have hmeas : Hid (20 - strSize (Value.string (d ++ t)) < 20 - strSize (Value.string t)) := Lib.hid (by
        show 20 - (d ++ t).size < 20 - t.size
        rw [ByteArray.size_append]
        omega)
      by_cases h00 : 0 < (m : Int)
      · clear h0
        go_wp2
        exact ⟨hg.out, hmeas.out⟩
      · have h01 : (t.size : Int) < least := by omega
        obtain rfl : m = 0 := by omega
        subst hd
        clear h0
        go_wp2
        exact ⟨hg.out, hmeas.out⟩
    · rw [if_neg (by omega)] at hx
      have HX := Lib.hid hx
      have h1 : ¬ 0 < (m : Int) := fun h => h0 (.inl h)
      have h2 : ¬ (t.size : Int) < least := fun h => h0 (.inr h)
      clear hx hX h0
      go_wp2
      go_ret
      exact ⟨by rw [HX.out]; rfl, rfl⟩
end Go.Mk
end
