/-
  Proved: mark.printPoints and mark.printLength return the reference's texts. Conditions: the values are in their ranges; the heap holds the program's tables.
  Proved: mark.printTime returns the reference's text. Conditions: the value is in its range; the heap holds the program's tables.
-/
import Derived.Test.YtclkcooomikiiaaGreatDoorTu
import Derived.Lib.QuietBelow
import Derived.Shelf.RegionOpenPlain
section
set_option linter.unusedVariables false
set_option linter.unusedSimpArgs false
open Go Go.Proofs Go.RowKit Go.Sort
set_option maxRecDepth 100000
namespace Go.Mk
theorem wrap64 (x : Int) (h0 : 0 ≤ x) (h1 : x ≤ 9223372036854775807) : IntKind.i64.wrap x = x := by
  rw [IntKind.wrap_i64]; omega
theorem ItoaAt (x : Int) (n : Nat) (hx : x = n) (hn : n ≤ 999999999) (w : World) (hG : Gd w) : Calls Tryz.prog 119 #[.int .i64 x] w (RetPost (.string (dec n 1)) w) := by
  subst hx
  rw [← deci_dec n hn]
  exact Itoa_any n (by omega) w hG
theorem paddedAt (x : Int) (n : Nat) (hx : x = n) (hn : n < 100) (w : World) (hG : Gd w) : Calls Tryz.prog 120 #[.int .u64 x, .int .i64 2] w (RetPost (.string (dec n 2)) w) := by
  subst hx
  exact padded_any n 2 (by decide) (by decide) (by omega) (by omega) w hG
theorem fraction3At (x : Int) (v : Nat) (hx : x = (v % 1000 : Nat)) (w : World) (hG : Gd w) : Calls Tryz.prog 121 #[.int .i64 x, .int .i64 3, .int .i64 2] w (RetPost (.string (if v % 10 = 0 then dec (v % 1000 / 10) 2 else dec (v % 1000) 3)) w) := by
  subst hx
  exact fraction3 v w hG
theorem fraction4At (x : Int) (v : Nat) (hx : x = (v % 10000 : Nat)) (w : World) (hG : Gd w) : Calls Tryz.prog 121 #[.int .i64 x, .int .i64 4, .int .i64 2] w (RetPost (.string (if v % 100 = 0 then dec (v % 10000 / 100) 2 else dec (v % 10000) 4)) w) := by
  subst hx
  exact fraction4 v w hG
/-- A contract that ends in Below, met in a world of the class. -/
theorem inClass {f : FuncId} {args : Array Value} {v : Value} {w0 : World} (h : ∀ W, Below w0.heap.size w0 W → Calls Tryz.prog f args W (RetPost v W)) (d : Nat) (os : Array Obj) :
    Calls Tryz.prog f args (grow (redrawn w0 d) os) fun e w'' => e = .returned v ∧ ∃ p : Regrown, w'' = grow (redrawn w0 p.d) p.os := Calls.regrown_of (h _ (below_regrown w0 d os))
set_option maxHeartbeats 1000000 in
theorem printPoints_any (s r : ByteArray) (v : Nat) (hv : v ≤ 99999) (w : World) (hG : Gd w) : Calls Tryz.prog 75 #[.agg #[.string s, .int .i64 v, .string r]] w (RetPost (.string (dec v 1 ++ ⟨#[112]⟩)) w) := by
  have hI := ItoaAt v v rfl (by omega) (w.alloc (.cells #[.string s, .int .i64 v, .string r] 23)) (hG.below ((Below.refl _ _).alloc (Nat.le_refl _) _) (Nat.le_refl _))
  have hz := dec_size v 1
  generalize dec v 1 = t at *
  go_enter Tryz.func75, Tryz.ntmps75
  go_wp2_with fail
  refine hI.mono ?_
  rintro e w' ⟨rfl, hb⟩
  have hbw : Below w.heap.size w w' := ((Below.refl w.heap.size w).alloc (Nat.le_refl _) _).trans (hb.mono (by simp))
  clear hI hb
  go_wp2
  go_ret
  exact ⟨rfl, hbw⟩
set_option maxHeartbeats 4000000 in
theorem printLength_any (s r : ByteArray) (v : Nat) (hv : v ≤ 999999) (w : World) (hG : Gd w) : Calls Tryz.prog 73 #[.agg #[.string s, .int .i64 v, .string r]] w (RetPost (.string (lenText v)) w) := by
  unfold lenText
  have hG1 : ∀ W, Below (w.alloc (.cells #[.string s, .int .i64 v, .string r] 23)).heap.size (w.alloc (.cells #[.string s, .int .i64 v, .string r] 23)) W → Gd W := fun W hb => (hG.below ((Below.refl _ _).alloc (Nat.le_refl _) _) (Nat.le_refl _)).below hb (Nat.le_refl _)
  have cI := inClass fun W hb => ItoaAt ((v : Int) / 1000) (v / 1000) (by omega) (by omega) W (hG1 W hb)
  have cF := inClass fun W hb => fraction3At ((v : Int) % 1000) v (by omega) W (hG1 W hb)
  have hz := dec_size (v / 1000) 1
  have hz2 : (((if v % 10 = 0 then dec (v % 1000 / 10) 2 else dec (v % 1000) 3) : ByteArray).size : Int) ≤ 40 := by split <;> exact dec_size _ _
  generalize dec (v / 1000) 1 = t at *
  generalize (if v % 10 = 0 then dec (v % 1000 / 10) 2 else dec (v % 1000) 3) = u at *
  have k1 := cell_regrown (show (w.alloc (.cells #[.string s, .int .i64 v, .string r] 23)).cell? ⟨w.heap.size, 1, none⟩ = some (.int .i64 v) by simp)
  have hv0 : 0 ≤ (v : Int) := by omega
  have hv1 : (v : Int) ≤ 999999 := by omega
  have n1 : ¬ 9223372036854775807 < t.size + 1 := by omega
  have n2 : ¬ 9223372036854775807 < t.size + 1 + u.size := by omega
  have n3 : ¬ 9223372036854775807 < t.size + 1 + u.size + 1 := by omega
  have hw1 : IntKind.i64.wrap ((v : Int) / 1000) = (v : Int) / 1000 := wrap64 _ (by omega) (by omega)
  have hw2 : IntKind.i64.wrap ((v : Int) % 1000) = (v : Int) % 1000 := wrap64 _ (by omega) (by omega)
  have hbw := (Below.refl w.heap.size w).alloc (Nat.le_refl _) (.cells #[.string s, .int .i64 v, .string r] 23)
  have hsz : w.heap.size ≤ (w.alloc (.cells #[.string s, .int .i64 v, .string r] 23)).heap.size := by simp
  clear hG1 hG
  go_enter Tryz.func73, Tryz.ntmps73
  go_wp2
  generalize (w.alloc (.cells #[.string s, .int .i64 v, .string r] 23)) = w1 at *
  refine wp_region_quiet_below (by kernel_rfl) (by kernel_rfl) ?_
  repeat (quiet_step (first | (go_at_call 119; exact cI _ _) | (go_at_call 121; exact cF _ _)))
  refine wpQuiet_nil ?_
  intro _ hw'
  obtain ⟨⟨dq, osq⟩, hw''⟩ := hw'
  subst hw''
  go_wp2
  go_ret
  exact ⟨rfl, hbw.trans ((below_regrown w1 dq osq).mono hsz)⟩
end Go.Mk
end
section
set_option linter.unusedVariables false
set_option linter.unusedSimpArgs false
open Go Go.Proofs Go.RowKit Go.Sort
set_option maxRecDepth 100000
namespace Go.Mk
theorem app_assoc (a b c : ByteArray) : a ++ b ++ c = a ++ (b ++ c) := by
  have : (a ++ b ++ c).data.toList = (a ++ (b ++ c)).data.toList := by simp [ByteArray.data_append]
  rw [ba_of_list this]
/-- What lies ahead of the point of a time. -/
def wholeText (v : Nat) : ByteArray :=
  if v / 10000 < 60 then dec (v / 10000) 1
  else if v / 10000 < 3600 then dec (v / 10000 / 60) 1 ++ ⟨#[58]⟩ ++ dec (v / 10000 % 60) 2
  else dec (v / 10000 / 3600) 1 ++ ⟨#[58]⟩ ++ dec (v / 10000 / 60 % 60) 2 ++ ⟨#[58]⟩ ++ dec (v / 10000 % 60) 2
theorem timeText_eq (v : Nat) : timeText v = wholeText v ++ ⟨#[46]⟩ ++ (if v % 100 = 0 then dec (v % 10000 / 100) 2 else dec (v % 10000) 4) := by
  unfold timeText wholeText restText
  split
  · rw [app_assoc]
  · split <;> simp only [app_assoc]
set_option maxHeartbeats 4000000 in
theorem printTime_any (s r : ByteArray) (v : Nat) (hv : v ≤ 863999999) (w : World) (hG : Gd w) : Calls Tryz.prog 69 #[.agg #[.string s, .int .i64 v, .string r]] w (RetPost (.string (timeText v)) w) := by
  rw [timeText_eq]
  have hb1 := (Below.refl w.heap.size w).alloc (Nat.le_refl _) (.cells #[.string s, .int .i64 v, .string r] 23)
  have HG : Hid (∀ W, Below w.heap.size w W → Gd W) := Lib.hid fun W hb => hG.below hb (Nat.le_refl _)
  have HC : Hid (∀ W, Below (w.heap.size + 1) (w.alloc (.cells #[.string s, .int .i64 v, .string r] 23)) W → W.cell? ⟨w.heap.size, 1, none⟩ = some (.int .i64 v)) := Lib.hid fun W hb => by rw [hb.cell (p := ⟨w.heap.size, 1, none⟩) (by simp)]; simp
  have hF := fun W (hb : Below w.heap.size w W) => fraction4At ((v : Int) % 10000) v (by omega) W (HG.out W hb)
  have hv0 : 0 ≤ (v : Int) := by omega
  have hv1 : (v : Int) ≤ 863999999 := by omega
  have hz2 : (((if v % 100 = 0 then dec (v % 10000 / 100) 2 else dec (v % 10000) 4) : ByteArray).size : Int) ≤ 40 := by split <;> exact dec_size _ _
  generalize (if v % 100 = 0 then dec (v % 10000 / 100) 2 else dec (v % 10000) 4) = u at *
  have hA := fun W (hb : Below w.heap.size w W) => ItoaAt ((v : Int) / 10000) (v / 10000) (by omega) (by omega) W (HG.out W hb)
  have hB := fun W (hb : Below w.heap.size w W) => ItoaAt ((v : Int) / 10000 / 60) (v / 10000 / 60) (by omega) (by omega) W (HG.out W hb)
  have hD := fun W (hb : Below w.heap.size w W) => ItoaAt ((v : Int) / 10000 / 3600) (v / 10000 / 3600) (by omega) (by omega) W (HG.out W hb)
  have hS := fun W (hb : Below w.heap.size w W) => paddedAt ((v : Int) / 10000 % 60) (v / 10000 % 60) (by omega) (by omega) W (HG.out W hb)
  have hM := fun W (hb : Below w.heap.size w W) => paddedAt ((v : Int) / 10000 / 60 % 60) (v / 10000 / 60 % 60) (by omega) (by omega) W (HG.out W hb)
  have zA := dec_size (v / 10000) 1
  have zB := dec_size (v / 10000 / 60) 1
  have zC := dec_size (v / 10000 / 3600) 1
  have zS := dec_size (v / 10000 % 60) 2
  have zM := dec_size (v / 10000 / 60 % 60) 2
  unfold wholeText
  generalize dec (v / 10000) 1 = tA at *
  generalize dec (v / 10000 / 60) 1 = tB at *
  generalize dec (v / 10000 / 3600) 1 = tC at *
  generalize dec (v / 10000 % 60) 2 = tS at *
  generalize dec (v / 10000 / 60 % 60) 2 = tM at *
  by_cases r1 : (v : Int) / 10000 < 60
  · rw [if_pos (show v / 10000 < 60 by omega)]
    have e1 : ((v : Int) / 10000 / 60 == 0) = true := by rw [beq_iff_eq]; omega
    clear hB hD hS hM zB zC zS zM hG
    as_aux_lemma =>
      go_enter Tryz.func69, Tryz.ntmps69
      go_wp2_with fail
      refine (hA _ hb1).mono ?_
      rintro e w2 ⟨rfl, hb2⟩
      have c2 := HC.out _ (hb2.mono (by simp))
      replace hb2 := hb1.trans (hb2.mono (by simp))
      clear hA
      go_wp2_with fail
      refine (hF _ hb2).mono ?_
      rintro e w3 ⟨rfl, hb3⟩
      replace hb3 := hb2.trans (hb3.mono hb2.size)
      clear hF
      go_wp2
      go_ret
      exact ⟨rfl, hb3⟩
  · rw [if_neg (show ¬ v / 10000 < 60 by omega)]
    have e1 : ((v : Int) / 10000 / 60 == 0) = false := by rw [beq_eq_false_iff_ne]; omega
    by_cases r2 : (v : Int) / 10000 < 3600
    · rw [if_pos (show v / 10000 < 3600 by omega)]
      have e2 : ((v : Int) / 10000 / 3600 == 0) = true := by rw [beq_iff_eq]; omega
      clear hA hD hM zA zC zM hG
      as_aux_lemma =>
        go_enter Tryz.func69, Tryz.ntmps69
        go_wp2_with fail
        refine (hB _ hb1).mono ?_
        rintro e w2 ⟨rfl, hb2⟩
        have hc2 := (Below.refl (w.heap.size + 1) _).trans (hb2.mono (B' := w.heap.size + 1) (by simp))
        replace hb2 := hb1.trans (hb2.mono (by simp))
        clear hB
        go_wp2_with fail
        refine (hS _ hb2).mono ?_
        rintro e w3 ⟨rfl, hb3⟩
        have c3 := HC.out _ (hc2.trans (hb3.mono (by have := hc2.size; simp at this; omega)))
        replace hb3 := hb2.trans (hb3.mono hb2.size)
        clear hS
        go_wp2_with fail
        refine (hF _ hb3).mono ?_
        rintro e w4 ⟨rfl, hb4⟩
        replace hb4 := hb3.trans (hb4.mono hb3.size)
        clear hF
        go_wp2
        go_ret
        exact ⟨rfl, hb4⟩
    · rw [if_neg (show ¬ v / 10000 < 3600 by omega)]
      have e2 : ((v : Int) / 10000 / 3600 == 0) = false := by rw [beq_eq_false_iff_ne]; omega
      clear hA hB zA zB hG
      as_aux_lemma =>
        go_enter Tryz.func69, Tryz.ntmps69
        go_wp2_with fail
        refine (hD _ hb1).mono ?_
        rintro e w2 ⟨rfl, hb2⟩
        have hc2 := (Below.refl (w.heap.size + 1) _).trans (hb2.mono (B' := w.heap.size + 1) (by simp))
        replace hb2 := hb1.trans (hb2.mono (by simp))
        clear hD
        go_wp2_with fail
        refine (hM _ hb2).mono ?_
        rintro e w3 ⟨rfl, hb3⟩
        have hc3 := hc2.trans (hb3.mono (B' := w.heap.size + 1) (by have := hc2.size; simp at this; omega))
        replace hb3 := hb2.trans (hb3.mono hb2.size)
        clear hM
        go_wp2_with fail
        refine (hS _ hb3).mono ?_
        rintro e w4 ⟨rfl, hb4⟩
        have c4 := HC.out _ (hc3.trans (hb4.mono (by have := hc3.size; simp at this; omega)))
        replace hb4 := hb3.trans (hb4.mono hb3.size)
        clear hS
        go_wp2_with fail
        refine (hF _ hb4).mono ?_
        rintro e w5 ⟨rfl, hb5⟩
        replace hb5 := hb4.trans (hb5.mono hb4.size)
        clear hF
        go_wp2
        go_ret
        exact ⟨rfl, hb5⟩
end Go.Mk
end
