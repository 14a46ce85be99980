/-
  Proved: mark.padded and mark.fractionDigits return the reference's texts. Conditions: the numbers have no more digits than are asked for; the heap holds the program's tables.
-/
import Derived.Test.YtclkcooomikiiaaGreatDoorTr
import Derived.Test.YtclkcooomikiiaaGreatDoorTt
import Derived.Shelf.Strings.Trim
set_option linter.unusedVariables false
set_option linter.unusedSimpArgs false
open Go Go.Proofs Go.RowKit
set_option maxRecDepth 100000
namespace Go.Mk
set_option maxHeartbeats 1000000 in
theorem padded_any (u k : Nat) (hk1 : 1 ≤ k) (hk : k ≤ 9) (h9 : u ≤ 999999999) (h : u < 10 ^ k) (w : World) (hG : Gd w) : Calls Tryz.prog 120 #[.int .u64 u, .int .i64 k] w (RetPost (.string (dec u k)) w) := by
  have hF := FormatUint_any u (by omega) w hG
  have hp := pad_text k u hk1 hk h9 h
  have hds : (dec u k).size = k := by
    have := congrArg List.length (dec_pad k u hk h9 h)
    rw [padL_length, Array.length_toList] at this
    exact this
  have hle : (deci u).size ≤ k := by
    have := congrArg ByteArray.size hp
    rw [ByteArray.size_append, zeros_size, hds] at this
    omega
  have hR : ∀ w, Calls Tryz.prog 107 #[.string ⟨#[48]⟩, .int .i64 (max 0 ((k : Int) - ((deci u).size : Int)))] w (RetPost (.string (zeros (k - (deci u).size))) w) := fun w => by
    have := Repeat_any (k - (deci u).size) (by omega) w
    rwa [show ((k - (deci u).size : Nat) : Int) = max 0 ((k : Int) - ((deci u).size : Int)) from by omega] at this
  have hzs : ((zeros (k - (deci u).size)).size : Int) ≤ 9 := by rw [zeros_size]; omega
  have hle9 : ((deci u).size : Int) ≤ 9 := by omega
  have hk9 : (k : Int) ≤ 9 := by omega
  have Hp := Lib.hid hp
  generalize zeros (k - (deci u).size) = z at hR hzs Hp
  generalize deci u = s at *
  clear hp hds hle h9 h hG
  go_enter Tryz.func120, Tryz.ntmps120
  go_wp2_with fail
  refine hF.mono ?_
  rintro e w' ⟨rfl, hb⟩
  clear hF
  go_wp2_with fail
  refine (hR _).mono ?_
  rintro e w3 ⟨rfl, hb3⟩
  go_wp2
  go_ret
  exact ⟨by rw [Hp.out]; rfl, hb.trans (hb3.mono hb.size)⟩
theorem Trim_any (s : ByteArray) (hz : s.size ≤ 9) (w : World) : Calls Tryz.prog 179 #[.string s, .string ⟨#[48]⟩] w (RetPost (.string ⟨(Lib.trimB s.data.toList 48).toArray⟩) w) := by
  refine (Any.strings_Trim_one Tryz.trim s 48 (by decide) w (by omega)).mono ?_
  rintro e w' ⟨rfl, rfl | rfl⟩
  · exact ⟨rfl, Below.refl _ _⟩
  · exact ⟨rfl, (Below.refl _ _).drew⟩
theorem isEmpty_of (l : List UInt8) (b : Bool) (h : l = [] ↔ b = true) : (⟨l.toArray⟩ : ByteArray).toList.isEmpty = b := by
  rw [ByteArray.toList_eq]
  show l.toArray.toList.isEmpty = b
  rw [List.toList_toArray]
  cases l with
  | nil => rw [h.1 rfl]; rfl
  | cons a l => cases b with
    | true => exact absurd (h.2 rfl) (by simp)
    | false => rfl
set_option maxHeartbeats 1000000 in
theorem fraction_any (u k : Nat) (hk1 : 2 ≤ k) (hk : k ≤ 9) (h9 : u ≤ 999999999) (h : u < 10 ^ k) (t : ByteArray) (ht : dec u k = t) (hz : t.size = k) (b : Bool) (hb : Lib.trimB (behind2 t).data.toList 48 = [] ↔ b = true) (w : World) (hG : Gd w) :
    Calls Tryz.prog 121 #[.int .i64 u, .int .i64 k, .int .i64 2] w (RetPost (.string (if b then cut2 t else t)) w) := by
  have hP := padded_any u k (by omega) hk h9 h w hG
  rw [ht] at hP
  have hsl1 : ∀ W, (Instr.slice 9 (.string t) (some (.int .i64 2)) none none).run Tryz.prog W = .ok (.string (behind2 t)) W := fun W => by
    rw [run_slice_string_l W 9 t Tryz.underlying9 .i64 2 (by decide) (by omega)]
    rfl
  have hsl2 : ∀ W, (Instr.slice 9 (.string t) none (some (.int .i64 2)) none).run Tryz.prog W = .ok (.string (cut2 t)) W := fun W => by
    rw [run_slice_string_h W 9 t Tryz.underlying9 .i64 2 (by decide) (by omega)]
    rfl
  have hbz : (behind2 t).size ≤ 9 := by unfold behind2; rw [ByteArray.size_extract]; omega
  have hT := fun w => Trim_any (behind2 t) hbz w
  have he := isEmpty_of _ b hb
  generalize (⟨(Lib.trimB (behind2 t).data.toList 48).toArray⟩ : ByteArray) = q at hT he
  generalize behind2 t = s2 at *
  generalize cut2 t = s1 at *
  have hu0 : 0 ≤ (u : Int) := by omega
  have hu1 : (u : Int) ≤ 999999999 := by omega
  clear hb ht hG h h9 hbz
  cases b with
  | true =>
    rw [if_pos rfl]
    go_enter Tryz.func121, Tryz.ntmps121
    go_wp2_with fail
    refine hP.mono ?_
    rintro e w' ⟨rfl, hb⟩
    clear hP
    go_wp2_with fail
    refine (hT _).mono ?_
    rintro e w3 ⟨rfl, hb3⟩
    go_wp2
    go_ret
    exact ⟨rfl, hb.trans (hb3.mono hb.size)⟩
  | false =>
    rw [if_neg (by decide)]
    go_enter Tryz.func121, Tryz.ntmps121
    go_wp2_with fail
    refine hP.mono ?_
    rintro e w' ⟨rfl, hb⟩
    clear hP
    go_wp2_with fail
    refine (hT _).mono ?_
    rintro e w3 ⟨rfl, hb3⟩
    go_wp2
    go_ret
    exact ⟨rfl, hb.trans (hb3.mono hb.size)⟩
theorem fraction3 (v : Nat) (w : World) (hG : Gd w) : Calls Tryz.prog 121 #[.int .i64 (v % 1000 : Nat), .int .i64 3, .int .i64 2] w (RetPost (.string (if v % 10 = 0 then dec (v % 1000 / 10) 2 else dec (v % 1000) 3)) w) := by
  obtain ⟨h1, h2, h3⟩ := frac3 (v % 1000) (Nat.mod_lt _ (by decide))
  rw [show v % 1000 % 10 = v % 10 from by omega] at h1 h2
  have := fraction_any (v % 1000) 3 (by decide) (by decide) (by omega) (by omega) _ rfl h3 (decide (v % 10 = 0)) (by rw [h1, decide_eq_true_eq]) w hG
  by_cases h : v % 10 = 0
  · rw [if_pos (decide_eq_true h), h2 h] at this
    rw [if_pos h]; exact this
  · rw [if_neg (by simp [h])] at this
    rw [if_neg h]; exact this
theorem fraction4 (v : Nat) (w : World) (hG : Gd w) : Calls Tryz.prog 121 #[.int .i64 (v % 10000 : Nat), .int .i64 4, .int .i64 2] w (RetPost (.string (if v % 100 = 0 then dec (v % 10000 / 100) 2 else dec (v % 10000) 4)) w) := by
  obtain ⟨h1, h2, h3⟩ := frac4 (v % 10000) (Nat.mod_lt _ (by decide))
  rw [show v % 10000 % 100 = v % 100 from by omega] at h1 h2
  have := fraction_any (v % 10000) 4 (by decide) (by decide) (by omega) (by omega) _ rfl h3 (decide (v % 100 = 0)) (by rw [h1, decide_eq_true_eq]) w hG
  by_cases h : v % 100 = 0
  · rw [if_pos (decide_eq_true h), h2 h] at this
    rw [if_pos h]; exact this
  · rw [if_neg (by simp [h])] at this
    rw [if_neg h]; exact this
end Go.Mk
