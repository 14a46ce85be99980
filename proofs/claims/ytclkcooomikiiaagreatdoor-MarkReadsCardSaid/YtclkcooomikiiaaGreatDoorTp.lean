/-
  Proved: mark.parseDigits returns the digits behind a point as a number of so many digits, as the reference's scaled, or 0 and false. Conditions: at most 9 digits are asked for.
  Proved: mark.parseDigits returns the digits behind a point as a number of so many digits, as the reference's scaled, or 0 and false. Conditions: at most 9 digits are asked for.
-/
import Derived.Test.YtclkcooomikiiaaGreatDoorTm
import Derived.Test.YtclkcooomikiiaaGreatDoorTj
import Derived.Shelf.Strings.Repeat
section
set_option linter.unusedVariables false
set_option linter.unusedSimpArgs false
open Go Go.Proofs Go.RowKit
set_option maxRecDepth 100000
namespace Go.Mk
theorem repX : Builder.Extra Tryz.prog Tryz.repeat_ren := {
  sizeBuilder := by kernel_rfl
  liesBuilder := by kernel_rfl
  t5 := Tryz.underlying5
  a5 := Tryz.isAgg5
  z5 := Tryz.sizeOf5
  v5 := Tryz.zeroValue5
  infoByte := by kernel_rfl
  cellsByte := by kernel_rfl
  sizeByte := by kernel_rfl
  neB5 := by decide }
theorem repeatL_one (c : Nat) : Lib.repeatL [48] c = List.replicate c 48 := by
  induction c with
  | zero => rfl
  | succ c ih => rw [Lib.repeatL, ih]; rfl
/-- c zeros as a text. -/
def zeros (c : Nat) : ByteArray := ⟨(List.replicate c 48).toArray⟩
theorem zeros_size (c : Nat) : (zeros c).size = c := by
  show (List.replicate c (48 : UInt8)).toArray.size = c
  simp
theorem Repeat_any (c : Nat) (hc : c ≤ 9) (w : World) : Calls Tryz.prog 107 #[.string ⟨#[48]⟩, .int .i64 c] w (RetPost (.string (zeros c)) w) := by
  refine (Any.strings_Repeat Tryz.repeat repX ⟨#[48]⟩ c w (by omega) (by show 1 * c ≤ _; omega)).mono ?_
  rintro e w' ⟨rfl, hb⟩
  refine ⟨?_, hb⟩
  show Ending.returned (.string ⟨(Lib.repeatL [48] c).toArray⟩) = _
  rw [repeatL_one]
  rfl
theorem decFrom_zeros (l : List UInt8) (c m r : Nat) (h : Lib.decFrom m l = some r) : Lib.decFrom m (l ++ List.replicate c 48) = some (r * 10 ^ c) := by
  induction l generalizing m with
  | nil =>
    obtain rfl : m = r := by simpa [Lib.decFrom] using h
    rw [List.nil_append]
    clear h
    induction c generalizing m with
    | zero => simp [Lib.decFrom]
    | succ c ih =>
      rw [List.replicate_succ, Lib.decFrom, show Lib.digitVal 48 = some 0 from rfl]
      show Lib.decFrom (m * 10 + 0) _ = _
      rw [ih, Nat.pow_succ, Nat.add_zero, Nat.mul_assoc, Nat.mul_comm 10]
  | cons b l ih =>
    rw [List.cons_append, Lib.decFrom]
    rw [Lib.decFrom] at h
    cases hd : Lib.digitVal b with
    | none => rw [hd] at h; cases h
    | some d => rw [hd] at h; exact ih _ h
end Go.Mk
end
section
set_option linter.unusedVariables false
set_option linter.unusedSimpArgs false
open Go Go.Proofs Go.RowKit
set_option maxRecDepth 100000
namespace Go.Mk
theorem scaled_ok (s : ByteArray) (lo hi : Nat) (hh : hi ≤ 9) (hd : isDig s = true) (h1 : lo ≤ s.size) (h2 : s.size ≤ hi) : ∃ r : Nat, scaled s lo hi = r ∧ Lib.atoi (s ++ zeros (hi - s.size)).data.toList = some (r : Int) := by
  have hl : s.data.toList.length = s.size := Array.length_toList
  rcases digits_is s with ⟨_, _, r, h3, _⟩ | ⟨h, _⟩
  · refine ⟨r * 10 ^ (hi - s.size), ?_, ?_⟩
    · unfold scaled
      rw [h3, if_neg (by omega)]
      push_cast
      rfl
    · unfold isDig at hd
      have ha : s.data.toList.all dgt = true := (Bool.and_eq_true _ _ ▸ hd).1
      have hs : s.size ≠ 0 := of_decide_eq_true (Bool.and_eq_true _ _ ▸ hd).2
      have hdig : Lib.decFrom 0 s.data.toList = some r := by
        rcases digL_all s.data.toList 0 with ⟨_, q, e1, e2⟩ | ⟨e1, _⟩
        · unfold digits at h3
          rw [if_neg (by omega)] at h3
          have : q = r := by have := e2.symm.trans h3; omega
          rw [e1, this]
        · rw [e1] at ha; cases ha
      rw [ByteArray.data_append, Array.toList_append, show (zeros (hi - s.size)).data.toList = List.replicate (hi - s.size) 48 from by simp [zeros]]
      rw [atoi_digits _ (by rw [List.all_append, ha, Bool.true_and]; simp [dgt]) (fun e => by
        have := (List.append_eq_nil_iff.1 e).1
        rw [this] at hl
        exact hs hl.symm), decFrom_zeros _ _ _ _ hdig]
      rfl
  · rcases h with h | h
    · rw [hd] at h; cases h
    · omega
theorem scaled_bad (s : ByteArray) (lo hi : Nat) (h : isDig s = false ∨ s.size < lo ∨ hi < s.size) : scaled s lo hi = -1 := by
  unfold scaled
  by_cases hb : s.size < lo ∨ hi < s.size
  · rw [if_pos (by omega)]
  · rcases h with h | h | h
    · rcases digits_is s with ⟨hd, _⟩ | ⟨_, h2⟩
      · rw [h] at hd; cases hd
      · rw [h2, if_pos (by omega)]
    · exact absurd (.inl h) hb
    · exact absurd (.inr h) hb
set_option maxHeartbeats 1000000 in
theorem parseDigits_any (s : ByteArray) (lo hi : Nat) (hh : hi ≤ 9) (hl : lo ≤ hi) (hz : s.size ≤ maxLen) (w : World) : Calls Tryz.prog 122 #[.string s, .int .i64 lo, .int .i64 hi] w (RetPost (.tuple #[.int .i64 (if scaled s lo hi < 0 then 0 else scaled s lo hi), .bool (decide (0 ≤ scaled s lo hi))]) w) := by
  have hI := isDigits_any s hz w
  have hm : (s.size : Int) ≤ 9223372036854775807 := by have : maxLen = 9223372036854775807 := rfl; omega
  by_cases hok : isDig s = true ∧ lo ≤ s.size ∧ s.size ≤ hi
  · obtain ⟨hd, h1, h2⟩ := hok
    obtain ⟨r, hr, ha⟩ := scaled_ok s lo hi hh hd h1 h2
    rw [hr, if_neg (by omega), decide_eq_true (by omega)]
    rw [hd] at hI
    have hR : ∀ w, Calls Tryz.prog 107 #[.string ⟨#[48]⟩, .int .i64 ((hi : Int) - (s.size : Int))] w (RetPost (.string (zeros (hi - s.size))) w) := fun w => by
      have := Repeat_any (hi - s.size) (by omega) w
      rwa [show ((hi - s.size : Nat) : Int) = (hi : Int) - (s.size : Int) from by omega] at this
    have hzs := zeros_size (hi - s.size)
    have hA := fun w => Atoi_ok (s ++ zeros (hi - s.size)) r (by rw [ByteArray.size_append]; omega) ha w
    have g1 : (lo : Int) ≤ s.size := by omega
    have g2 : (s.size : Int) ≤ hi := by omega
    have g3 : (hi : Int) ≤ 9 := by omega
    have g4 : ((zeros (hi - s.size)).size : Int) ≤ 9 := by omega
    generalize zeros (hi - s.size) = z at hR hA g4
    clear hd hr ha hzs h1 h2 hz
    go_enter Tryz.func122, Tryz.ntmps122
    go_wp2_with fail
    refine hI.mono ?_
    rintro e w2 ⟨rfl, rfl⟩
    go_wp2_with fail
    refine (hR _).mono ?_
    rintro e w3 ⟨rfl, hb3⟩
    clear hR
    go_wp2_with fail
    refine (hA _).mono ?_
    rintro e w4 ⟨rfl, hb4⟩
    replace hb4 := hb3.trans (hb4.mono hb3.size)
    go_wp2
    go_region
    go_wp2
    go_ret2
    exact ⟨rfl, hb4.drew⟩
  · have hsb := scaled_bad s lo hi (by
      cases hd : isDig s with
      | false => exact .inl rfl
      | true => right; have : ¬ (lo ≤ s.size ∧ s.size ≤ hi) := fun h => hok ⟨hd, h.1, h.2⟩; omega)
    rw [hsb, if_pos (by decide), decide_eq_false (by decide)]
    cases hd : isDig s with
    | false =>
      rw [hd] at hI
      clear hok hsb
      go_enter Tryz.func122, Tryz.ntmps122
      go_wp2_with fail
      refine hI.mono ?_
      rintro e w2 ⟨rfl, rfl⟩
      go_wp2
      go_ret2
      exact ⟨rfl, Below.refl _ _⟩
    | true =>
      rw [hd] at hI
      have hor : (s.size : Int) < lo ∨ (lo : Int) ≤ s.size ∧ (hi : Int) < s.size := by
        have : ¬ (lo ≤ s.size ∧ s.size ≤ hi) := fun h => hok ⟨hd, h.1, h.2⟩
        omega
      clear hok hsb hd
      rcases hor with g | ⟨g, g'⟩
      · go_enter Tryz.func122, Tryz.ntmps122
        go_wp2_with fail
        refine hI.mono ?_
        rintro e w2 ⟨rfl, rfl⟩
        go_wp2
        go_ret2
        exact ⟨rfl, Below.refl _ _⟩
      · go_enter Tryz.func122, Tryz.ntmps122
        go_wp2_with fail
        refine hI.mono ?_
        rintro e w2 ⟨rfl, rfl⟩
        go_wp2
        go_ret2
        exact ⟨rfl, Below.refl _ _⟩
end Go.Mk
end
