/-
  Proved: the reference's decimal returns the digits of a number, and its Of the text of a fraction in lowest terms: the program's own texts. Conditions: the numbers are not negative and have at most 9 digits; the second one is not 0.
-/
import Derived.Test.YtickjnahdeikfaaGreatDoorNl
import Derived.Laws.Strings2
set_option linter.unusedVariables false
set_option linter.unusedSimpArgs false
open Go Go.Proofs Go.RowKit
set_option maxRecDepth 100000
namespace Go.Mk
def ten : ByteArray := ⟨#[48, 49, 50, 51, 52, 53, 54, 55, 56, 57]⟩
/-- One digit as a text. -/
def dig1 (d : Nat) : ByteArray := ten.extract d (d + 1)
theorem dig1_list (d : Nat) (h : d < 10) : (dig1 d).data.toList = [UInt8.ofNat (48 + d)] := by
  have : ∀ d, d < 10 → (dig1 d).data.toList = [UInt8.ofNat (48 + d)] := by decide
  exact this d h
theorem dig1_size (d : Nat) (h : d < 10) : (dig1 d).size = 1 := by
  have : ∀ d, d < 10 → (dig1 d).size = 1 := by decide
  exact this d h
theorem slice_dig (m : Nat) (w : World) : (Instr.slice 9 (.string ten) (some (.int .i64 ((m : Int) % 10))) (some (.int .i64 ((m : Int) % 10 + 1))) none).run Tryz.prog w = .ok (.string (dig1 (m % 10))) w := by
  rw [run_slice_string _ _ _ _ _ _ _ Tryz.underlying9 (by omega) (by omega) (by show _ ≤ ((10 : Nat) : Int); omega)]
  congr 2
/-- The digits of n ahead of s, at least so many. -/
def decGo : Nat → Nat → Nat → ByteArray → ByteArray
  | 0, _, _, s => s
  | f + 1, least, n, s => if 0 < n ∨ s.size < least then decGo f least (n / 10) (dig1 (n % 10) ++ s) else s
def dec (n least : Nat) : ByteArray := decGo 40 least n ⟨#[]⟩
def strSize : Value → Nat
  | .string t => t.size
  | _ => 0
set_option maxHeartbeats 1000000 in
theorem refDecimal_any (n least : Nat) (h : n ≤ 999999999) (hl : least ≤ 9) (w : World) : Calls Tryz.prog 101 #[.int .i64 n, .int .i64 least] w fun e w' => e = .returned (.string (dec n least)) ∧ w' = w := by
  obtain ⟨r, hr⟩ : ∃ r, dec n least = r := ⟨_, rfl⟩
  rw [hr]
  have HR := Lib.hid hr
  clear hr
  have HS : Hid (∀ (m : Nat) (w : World), (Instr.slice 9 (.string ten) (some (.int .i64 ((m : Int) % 10))) (some (.int .i64 ((m : Int) % 10 + 1))) none).run Tryz.prog w = .ok (.string (dig1 (m % 10))) w) := slice_dig
  go_enter Tryz.func101, Tryz.ntmps101
  go_wp2
  go_loop [0, 5] (fun x s => ∃ (j m : Nat) (t : ByteArray), x = .int .i64 m ∧ s = .string t ∧ t.size = j ∧ j ≤ 9 ∧ m * 10 ^ j ≤ 999999999 ∧ Hid (r = decGo (40 - j) least m t)) (fun _ s => 20 - strSize s)
  case atStart => exact ⟨0, n, ⟨#[]⟩, rfl, rfl, rfl, by decide, by omega, Lib.hid HR.out.symm⟩
  case round =>
    obtain ⟨j, m, t, rfl, rfl, ht, hj, hm, hX⟩ := hrel
    have hmm : m ≤ 999999999 := Nat.le_trans (Nat.le_mul_of_pos_right _ (Nat.pow_pos (by decide))) hm
    have hts : (t.size : Int) ≤ 9 := by omega
    have hx := hX.out
    rw [show 40 - j = (39 - j) + 1 from by omega, decGo] at hx
    by_cases h0 : 0 < (m : Int) ∨ (t.size : Int) < least
    · rw [if_pos (by omega)] at hx
      have hsl := HS.out m
      have HX := Lib.hid hx
      have hds := dig1_size (m % 10) (Nat.mod_lt _ (by decide))
      have hj9 : j < 9 := by
        rcases h0 with h0 | h0
        · refine Classical.byContradiction fun hc => ?_
          obtain rfl : j = 9 := by omega
          omega
        · omega
      clear hx hX
      obtain ⟨d, hd⟩ : ∃ d, dig1 (m % 10) = d := ⟨_, rfl⟩
      rw [hd] at hds
      simp only [hd] at hsl
      unfold ten at hsl
      have hg : Hid (∃ j' m' t', Value.int IntKind.i64 ((m : Int) / 10) = Value.int IntKind.i64 (m' : Nat) ∧ Value.string (d ++ t) = Value.string t' ∧ t'.size = j' ∧ j' ≤ 9 ∧ m' * 10 ^ j' ≤ 999999999 ∧ Hid (r = decGo (40 - j') least m' t')) := by
        refine Lib.hid ⟨j + 1, m / 10, d ++ t, by rw [Int.natCast_ediv]; rfl, rfl, by rw [ByteArray.size_append]; omega, by omega, ?_, ?_⟩
        · refine Nat.le_trans ?_ hm
          rw [Nat.pow_succ, Nat.mul_comm (10 ^ j) 10, ← Nat.mul_assoc]
          exact Nat.mul_le_mul_right _ (by omega)
        · refine Lib.hid ?_
          rw [HX.out, hd, show 40 - (j + 1) = 39 - j from by omega]
      have hmeas : Hid (20 - strSize (Value.string (d ++ t)) < 20 - strSize (Value.string t)) := Lib.hid (by
        show 20 - (d ++ t).size < 20 - t.size
        rw [ByteArray.size_append]
        omega)
      by_cases h00 : 0 < (m : Int)
      · clear h0
        go_wp2
        exact ⟨hg.out, hmeas.out⟩
      · have h01 : (t.size : Int) < least := by omega
        obtain rfl : m = 0 := by omega
        subst hd
        clear h0
        go_wp2
        exact ⟨hg.out, hmeas.out⟩
    · rw [if_neg (by omega)] at hx
      have HX := Lib.hid hx
      have h1 : ¬ 0 < (m : Int) := fun h => h0 (.inl h)
      have h2 : ¬ (t.size : Int) < least := fun h => h0 (.inr h)
      clear hx hX h0
      go_wp2
      go_ret
      exact ⟨by rw [HX.out]; rfl, rfl⟩
theorem decGo_list (least : Nat) (f n : Nat) (s : ByteArray) (h : n < 10 ^ f) (hl : least ≤ s.size + f) : (decGo f least n s).data.toList = List.replicate (least - s.size - (dgs n).length) 48 ++ dgs n ++ s.data.toList := by
  induction f generalizing n s with
  | zero =>
    obtain rfl : n = 0 := by simpa using h
    rw [decGo, show least - s.size = 0 from by omega]
    simp [dgs]
  | succ f ih =>
    rw [decGo]
    have hd : (dig1 (n % 10) ++ s).data.toList = UInt8.ofNat (48 + n % 10) :: s.data.toList := by
      rw [ByteArray.data_append, Array.toList_append, dig1_list _ (Nat.mod_lt _ (by decide))]
      rfl
    have hsz : (dig1 (n % 10) ++ s).size = s.size + 1 := by rw [ByteArray.size_append, dig1_size _ (Nat.mod_lt _ (by decide))]; omega
    by_cases hc : 0 < n ∨ s.size < least
    · rw [if_pos hc, ih (n / 10) _ (by rw [Nat.pow_succ] at h; omega) (by omega), hd, hsz]
      by_cases hn : 0 < n
      · rw [dgs_step n hn]
        simp
        omega
      · obtain rfl : n = 0 := by omega
        obtain ⟨m, hm⟩ : ∃ m, least - s.size = m + 1 := ⟨least - s.size - 1, by omega⟩
        rw [show least - (s.size + 1) = m from by omega, hm]
        simp [dgs, List.replicate_succ']
    · rw [if_neg hc]
      obtain rfl : n = 0 := by omega
      rw [show least - s.size = 0 from by omega]
      simp [dgs]
theorem dec_list (n least : Nat) (h : n ≤ 999999999) (hl : least ≤ 9) : (dec n least).data.toList = List.replicate (least - (dgs n).length) 48 ++ dgs n := by
  unfold dec
  have h0 : (⟨#[]⟩ : ByteArray).size = 0 := rfl
  rw [decGo_list least 40 n ⟨#[]⟩ (by omega) (by omega), h0]
  simp
theorem dec_digT (n : Nat) (h : n ≤ 999999999) : dec n 1 = digT n := by
  have e : ∀ (a b : ByteArray), a.data.toList = b.data.toList → a = b := by
    intro a b h; cases a; cases b; congr 1; exact Array.toList_inj.1 h
  apply e
  rw [dec_list n 1 h (by decide)]
  unfold dgs digT
  by_cases hn : n = 0
  · subst hn; rfl
  · have : 1 ≤ (Lib.decDigits n).length := by rw [Lib.decDigits]; split <;> simp
    rw [if_neg hn, if_neg hn, show 1 - (Lib.decDigits n).length = 0 from by omega]
    simp [zT]
theorem rfDec_any (n : Nat) (h : n ≤ 999999999) (w : World) : Calls Tryz.prog 101 #[.int .i64 n, .int .i64 1] w (RetSame (.string (digT n)) w) := by
  refine (refDecimal_any n 1 h (by omega) w).mono ?_
  rintro e w' ⟨rfl, rfl⟩
  exact ⟨by rw [dec_digT n h], rfl⟩
theorem digT_size9 (n : Nat) (h : n ≤ 999999999) : ((digT n).size : Int) ≤ 20 := by have := digT_size n (by omega); omega
set_option maxHeartbeats 4000000 in
theorem rfOf_any (N D : Nat) (w : World) (hN : N ≤ 999999999) (hD0 : 0 < D) (hD : D ≤ 999999999) :
    Calls Tryz.prog 65 #[.int .i64 (N : Int), .int .i64 (D : Int)] w (RetPost (.string (ratT (N / Nat.gcd D N) (D / Nat.gcd D N))) w) := by
  have hG := fun w => rfGcd_any N D (by omega) (by omega) w
  have g0 : 0 < Nat.gcd D N := Nat.gcd_pos_of_pos_left _ hD0
  have g1 : Nat.gcd D N ≤ D := Nat.gcd_le_left _ hD0
  have hQ0 : 0 < D / Nat.gcd D N := Nat.div_pos g1 g0
  have hP := fun w => rfDec_any (N / Nat.gcd D N) (Nat.le_trans (Nat.div_le_self _ _) hN) w
  have hQ := fun w => rfDec_any (D / Nat.gcd D N) (Nat.le_trans (Nat.div_le_self _ _) hD) w
  have sP := digT_size9 (N / Nat.gcd D N) (Nat.le_trans (Nat.div_le_self _ _) hN)
  have sQ := digT_size9 (D / Nat.gcd D N) (Nat.le_trans (Nat.div_le_self _ _) hD)
  have bP : N / Nat.gcd D N ≤ 999999999 := Nat.le_trans (Nat.div_le_self _ _) hN
  have bQ : D / Nat.gcd D N ≤ 999999999 := Nat.le_trans (Nat.div_le_self _ _) hD
  have hy : ratT (N / Nat.gcd D N) (D / Nat.gcd D N) = if D / Nat.gcd D N = 1 then digT (N / Nat.gcd D N) else digT (N / Nat.gcd D N) ++ (⟨#[47]⟩ ++ digT (D / Nat.gcd D N)) := rfl
  have eP : (N : Int) / ((Nat.gcd D N : Nat) : Int) = ((N / Nat.gcd D N : Nat) : Int) := (Int.natCast_ediv _ _).symm
  have eQ : (D : Int) / ((Nat.gcd D N : Nat) : Int) = ((D / Nat.gcd D N : Nat) : Int) := (Int.natCast_ediv _ _).symm
  generalize N / Nat.gcd D N = P at *
  generalize D / Nat.gcd D N = Q at *
  generalize Nat.gcd D N = G at *
  have hGn : ((G : Int) == 0) = false := by rw [beq_eq_false_iff_ne]; omega
  have hGp : (0 : Int) < (G : Int) := by omega
  have hNi : (N : Int) ≤ 999999999 := by omega
  have hDi : (D : Int) ≤ 999999999 := by omega
  have hDp : (0 : Int) < (D : Int) := by omega
  have hPi : (P : Int) ≤ 999999999 := by omega
  have hQi : (Q : Int) ≤ 999999999 := by omega
  have hQp : (0 : Int) < (Q : Int) := by omega
  have hN0 : (0 : Int) ≤ (N : Int) := by omega
  have hP0 : (0 : Int) ≤ (P : Int) := by omega
  have m1 : max (N : Int) (-(N : Int)) = (N : Int) := by omega
  have m2 : max (P : Int) (-(P : Int)) = (P : Int) := by omega
  have HY := Lib.hid hy
  clear hy hN hD hD0 g0 g1 hQ0 bP bQ
  go_enter Tryz.func65, Tryz.ntmps65
  go_wp2_with fail
  refine (hG _).mono ?_
  rintro e w1 ⟨rfl, b1⟩
  go_wp2_with fail
  go_quiet (fail)
  go_wp2_with fail
  refine (hP _).mono ?_
  rintro e w2 ⟨rfl, rfl⟩
  have bw := below_drewN b1 nq
  have hE : ∀ X : ByteArray, (⟨#[]⟩ : ByteArray) ++ X = X := by
    intro X
    have e : ∀ (a b : ByteArray), a.data.toList = b.data.toList → a = b := by
      intro a b h; cases a; cases b; congr 1; exact Array.toList_inj.1 h
    apply e
    simp
  have hA : ∀ X Y Z : ByteArray, X ++ Y ++ Z = X ++ (Y ++ Z) := fun X Y Z => ByteArray.append_assoc
  by_cases h1 : Q = 1
  · have h2 : ¬ (1 : Int) < (Q : Int) := by omega
    have hy := HY.out
    rw [if_pos h1] at hy
    have HY2 := Lib.hid hy
    generalize digT P = X at *
    clear hy HY h1
    go_wp2
    go_ret
    exact ⟨by rw [HY2.out]; rfl, bw⟩
  · have h2 : (1 : Int) < (Q : Int) := by omega
    have hy := HY.out
    rw [if_neg h1] at hy
    have HY2 := Lib.hid hy
    generalize digT P = X at *
    generalize digT Q = Y at *
    clear hy HY h1
    go_wp2_with fail
    refine (hQ _).mono ?_
    rintro e w2 ⟨rfl, rfl⟩
    go_wp2
    go_ret
    exact ⟨by rw [HY2.out]; rfl, bw⟩
end Go.Mk
