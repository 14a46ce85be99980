/-
  Proved: small facts on the last byte of a text and on what the reference reads, as plain functions. No condition.
  Proved: the reference's Parse of a text that is too long, a reason, empty, or that ends in p. Condition: the text has at most 60 bytes.
-/
import Derived.Test.YtclkcooomikiiaaGreatDoorUa
import Derived.Test.YtclkcooomikiiaaGreatDoorTn
section
set_option linter.unusedVariables false
set_option linter.unusedSimpArgs false
open Go Go.Proofs Go.RowKit Go.Sort
set_option maxRecDepth 100000
namespace Go.Mk
/-- The text but its last byte. -/
def chop (s : ByteArray) : ByteArray := s.extract 0 (s.size - 1)
/-- The last byte as an integer, 0 of none. -/
def lastL (l : List UInt8) : Int := match l.getLast? with | some b => b.toNat | none => 0
def lastB (s : ByteArray) : Int := lastL s.data.toList
theorem index_last (s : ByteArray) (h : 0 < s.size) (W : World) : (Instr.index 9 (.string s) (.int .i64 ((s.size : Int) - 1))).run Tryz.prog W = .ok (.int .u8 (lastB s)) W := by
  rw [run_index_string _ _ _ _ _ Tryz.underlying9, dif_pos (by omega)]
  congr 2
  unfold lastB lastL
  have hl : s.data.toList.length = s.size := Array.length_toList
  rw [List.getLast?_eq_getElem?, List.getElem?_eq_getElem (by omega)]
  simp only
  congr 2
  show s.data[((s.size : Int) - 1).toNat]'_ = _
  simp only [show ((s.size : Int) - 1).toNat = s.data.toList.length - 1 from by omega, Array.getElem_toList]
theorem slice_chop (s : ByteArray) (h : 0 < s.size) (W : World) : (Instr.slice 9 (.string s) none (some (.int .i64 ((s.size : Int) - 1))) none).run Tryz.prog W = .ok (.string (chop s)) W := by
  rw [run_slice_string_h W 9 s Tryz.underlying9 .i64 _ (by omega) (by omega)]
  rw [show ((s.size : Int) - 1).toNat = s.size - 1 from by omega]
  rfl
theorem chop_list (s : ByteArray) : (chop s).data.toList = s.data.toList.dropLast := by
  unfold chop
  rw [extract_list, List.drop_zero, List.dropLast_eq_take, show s.data.toList.length = s.size from Array.length_toList, Nat.sub_zero]
theorem chop_size (s : ByteArray) : (chop s).size ≤ s.size := by
  have := congrArg List.length (chop_list s)
  rw [Array.length_toList, List.length_dropLast, Array.length_toList] at this
  show (chop s).data.size ≤ s.data.size
  omega
theorem suffix_last (l : List UInt8) (b : UInt8) (hb : b ≠ 0) : [b].isSuffixOf l = decide (lastL l = b.toNat) := by
  have hb0 : (b.toNat : Int) ≠ 0 := fun e => hb (UInt8.toNat_inj.1 (by show b.toNat = 0; omega))
  rcases List.eq_nil_or_concat l with rfl | ⟨l, x, rfl⟩
  · rw [show lastL [] = 0 from rfl, decide_eq_false (fun e => hb0 e.symm)]
    rfl
  · have e : lastL (l.concat x) = x.toNat := by unfold lastL; rw [List.concat_eq_append]; simp
    have hx : (x.toNat : Int) = b.toNat ↔ b = x := ⟨fun e => UInt8.toNat_inj.1 (by omega), fun e => by rw [e]⟩
    rw [e, List.concat_eq_append, Bool.eq_iff_iff, decide_eq_true_eq, hx, List.isSuffixOf_iff_suffix]
    constructor
    · rintro ⟨t, ht⟩
      have := List.append_inj' ht rfl
      exact List.singleton_inj.1 this.2
    · rintro rfl
      exact ⟨l, rfl⟩
theorem endsIn_last (s : ByteArray) (b : UInt8) (hb : b ≠ 0) : endsIn s b = decide (lastB s = b.toNat) := suffix_last _ b hb
theorem trim1_chop (s : ByteArray) (b : UInt8) (h : endsIn s b = true) : trim1 s b = chop s := by
  rw [ba_of_list (chop_list s)]
  unfold trim1 Lib.trimSuffix
  unfold endsIn at h
  rw [h]
  simp [List.dropLast_eq_take]
/-- What stands at a place between colons, or -1. -/
def fv (i : Nat) (f : ByteArray) : Int := if i = 0 then front f else if f.size = 2 then digits f else -1
def timeGo (n i : Nat) (t : Int) (wd : Bool) : List ByteArray → Option (Int × Bool)
  | [] => some (t, wd)
  | f :: l => if fv i f < 0 then none else timeGo n (i + 1) (60 * t + fv i f) (wd || (decide (59 < fv i f) && (decide (0 < i) || decide (n < 3)))) l
def timeEnd (r : Int) : Option (Int × Bool) → ME
  | none => ME.bad 25
  | some (t, wd) => if wd then ME.bad 3 else ranged sTime (10000 * t + r) ⟨#[]⟩
def timeOf (F : List ByteArray) (r : Int) : ME := if 3 < F.length ∨ r < 0 then ME.bad 25 else timeEnd r (timeGo F.length 0 0 false F)
def lenOf (a b : Int) : ME := if a < 0 ∨ b < 0 then ME.bad 25 else ranged sLength (1000 * a + b) ⟨#[]⟩
def refLen (t : ByteArray) : ME := match split 46 t with
  | [x, y] => lenOf (front x) (scaled y 2 3)
  | _ => ME.bad 25
def refTime (t : ByteArray) : ME := match split 46 t with
  | [x, y] => timeOf (split 58 x) (scaled y 1 4)
  | _ => ME.bad 25
def refP (s : ByteArray) : ME :=
  if 24 < s.size then ME.bad 26
  else if isR s then ⟨sNone, 0, s, 0⟩
  else if s.size = 0 then ME.bad 25
  else if lastB s = 112 then (if front (chop s) < 0 then ME.bad 25 else ranged sPoints (front (chop s)) ⟨#[]⟩)
  else if lastB s = 109 then refLen (chop s)
  else refTime s
end Go.Mk
end
section
set_option linter.unusedVariables false
set_option linter.unusedSimpArgs false
open Go Go.Proofs Go.RowKit Go.Sort
set_option maxRecDepth 100000
namespace Go.Mk
set_option maxHeartbeats 1000000 in
theorem refParse_long (s : ByteArray) (hz : (s.size : Int) ≤ 60) (h1 : (24 : Int) < s.size) (w : World) : Calls Tryz.prog 11 #[.string s] w (RetPost (ME.out (ME.bad 26)) w) := by
  go_enter Tryz.func11, Tryz.ntmps11
  go_wp2
  exact bodyPost_ret (v := .tuple #[.agg #[.string ⟨#[]⟩, .int .i64 0, .string ⟨#[]⟩], .int .i64 26]) (by simp [results, Tryz.results11, go_sem]) rfl ⟨rfl, ((Below.refl w.heap.size w).alloc (Nat.le_refl _) _).alloc (by simp) _⟩
set_option maxHeartbeats 1000000 in
theorem refParse_reason (s : ByteArray) (hz : (s.size : Int) ≤ 60) (h1 : ¬ (24 : Int) < s.size) (h2 : isR s = true) (w : World) : Calls Tryz.prog 11 #[.string s] w (RetPost (ME.out ⟨sNone, 0, s, 0⟩) w) := by
  have hI := refIsReason_any s
  rw [h2] at hI
  clear h2
  go_enter Tryz.func11, Tryz.ntmps11
  go_wp2_with fail
  refine (hI _).mono ?_
  rintro e w2 ⟨rfl, rfl⟩
  go_wp2
  exact bodyPost_ret (v := .tuple #[.agg #[.string ⟨#[110, 111, 110, 101]⟩, .int .i64 0, .string s], .int .i64 0]) (by simp [results, Tryz.results11, go_sem]) rfl ⟨rfl, ((Below.refl w.heap.size w).alloc (Nat.le_refl _) _).alloc (by simp) _⟩
set_option maxHeartbeats 1000000 in
theorem refParse_empty (s : ByteArray) (h1 : (s.size : Int) = 0) (h2 : isR s = false) (w : World) : Calls Tryz.prog 11 #[.string s] w (RetPost (ME.out (ME.bad 25)) w) := by
  have hI := refIsReason_any s
  rw [h2] at hI
  have h3 : ((s.size : Int) == 0) = true := by rw [beq_iff_eq]; exact h1
  have h4 : ¬ (24 : Int) < s.size := by omega
  have h5 : (s.size : Int) ≤ 60 := by omega
  clear h2 h1
  go_enter Tryz.func11, Tryz.ntmps11
  go_wp2_with fail
  refine (hI _).mono ?_
  rintro e w2 ⟨rfl, rfl⟩
  go_wp2
  exact bodyPost_ret (v := .tuple #[.agg #[.string ⟨#[]⟩, .int .i64 0, .string ⟨#[]⟩], .int .i64 25]) (by simp [results, Tryz.results11, go_sem]) rfl ⟨rfl, ((Below.refl w.heap.size w).alloc (Nat.le_refl _) _).alloc (by simp) _⟩
end Go.Mk
end
