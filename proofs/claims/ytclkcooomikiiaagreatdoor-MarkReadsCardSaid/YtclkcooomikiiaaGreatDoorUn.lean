/-
  Proved: the law MarkTexts returns true and leaves all that was there, for any mark and any text. Conditions: the tables that awake reads and the library's tables lie where the program lays them; the texts are no longer than an int says.
  Proved: a world that lays the listed variables holds what the library's functions on texts want. Condition: the variables read as the program lays them.
-/
import Derived.Test.YtclkcooomikiiaaGreatDoorUm
import Derived.Test.YtclkcooomikiiaaGreatDoorLw
import Derived.Test.YtclkcooomikiiaaGreatDoorTb
section
set_option linter.unusedVariables false
set_option linter.unusedSimpArgs false
open Go Go.Proofs Go.RowKit Go.Sort
set_option maxRecDepth 100000
namespace Go.Mk
set_option maxHeartbeats 2000000 in
theorem texts_exit1 (s r t : ByteArray) (v : Int) (w : World) (ht : Tabs w) (hB : ∀ w, Calls Tryz.prog 6 #[.agg #[.string s, .int .i64 v, .string r]] w (RetPost (.bool false) w)) :
    Calls Tryz.prog 3 #[.agg #[.string s, .int .i64 v, .string r], .string t] w (Yes w) := by
  have hb0 := (Below.refl w.heap.size w).alloc (Nat.le_refl _) (.cells #[.string s, .int .i64 v, .string r] 23)
  have HX : Hid (∀ W, Below (w.heap.size + 1) (w.alloc (.cells #[.string s, .int .i64 v, .string r] 23)) W → Box W w.heap.size s v r) := Lib.hid fun W hb => (Box.new w s v r).below hb (by omega)
  have hA := fun W (hb : Below w.heap.size w W) => aw W (ht.grow hb)
  clear ht
  go_enter Tryz.func3, Tryz.ntmps3
  go_wp2_with fail
  refine (hA _ hb0).mono ?_
  rintro e w1 ⟨rfl, hb1⟩
  obtain ⟨a0, a1, a2⟩ := HX.out _ (hb1.mono (by simp))
  replace hb1 := hb0.trans (hb1.mono (by simp))
  go_wp2_with fail
  refine (hB _).mono ?_
  rintro e w2 ⟨rfl, hb2⟩
  replace hb2 := hb1.trans (hb2.mono hb1.size)
  clear a0 a1 a2 hB
  go_wp2_with fail
  refine (hA _ hb2).mono ?_
  rintro e w3 ⟨rfl, hb3⟩
  go_wp2
  go_ret
  exact ⟨rfl, hb2.trans (hb3.mono hb2.size)⟩
set_option maxHeartbeats 2000000 in
theorem texts_exit2 (s r t : ByteArray) (v : Int) (w : World) (ht : Tabs w) (hz : t.size ≤ maxLen) (h60 : 60 < (t.size : Int)) (hB : ∀ w, Calls Tryz.prog 6 #[.agg #[.string s, .int .i64 v, .string r]] w (RetPost (.bool true) w)) :
    Calls Tryz.prog 3 #[.agg #[.string s, .int .i64 v, .string r], .string t] w (Yes w) := by
  have hb0 := (Below.refl w.heap.size w).alloc (Nat.le_refl _) (.cells #[.string s, .int .i64 v, .string r] 23)
  have HX : Hid (∀ W, Below (w.heap.size + 1) (w.alloc (.cells #[.string s, .int .i64 v, .string r] 23)) W → Box W w.heap.size s v r) := Lib.hid fun W hb => (Box.new w s v r).below hb (by omega)
  have hA := fun W (hb : Below w.heap.size w W) => aw W (ht.grow hb)
  have hm : (t.size : Int) ≤ 9223372036854775807 := by have : maxLen = 9223372036854775807 := rfl; omega
  clear ht hz
  go_enter Tryz.func3, Tryz.ntmps3
  go_wp2_with fail
  refine (hA _ hb0).mono ?_
  rintro e w1 ⟨rfl, hb1⟩
  obtain ⟨a0, a1, a2⟩ := HX.out _ (hb1.mono (by simp))
  replace hb1 := hb0.trans (hb1.mono (by simp))
  go_wp2_with fail
  refine (hB _).mono ?_
  rintro e w2 ⟨rfl, hb2⟩
  replace hb2 := hb1.trans (hb2.mono hb1.size)
  clear a0 a1 a2 hB
  go_wp2_with fail
  refine (hA _ hb2).mono ?_
  rintro e w3 ⟨rfl, hb3⟩
  go_wp2
  go_ret
  exact ⟨rfl, hb2.trans (hb3.mono hb2.size)⟩
set_option maxHeartbeats 4000000 in
theorem texts_walk (s r t p os or_ : ByteArray) (v ck ov oe : Int) (w : World) (ht : Tabs w) (hG : Gd w) (h60 : (t.size : Int) ≤ 60) (hp : (p.size : Int) ≤ 200)
    (hB : ∀ w, Calls Tryz.prog 6 #[.agg #[.string s, .int .i64 v, .string r]] w (RetPost (.bool true) w))
    (hP : ∀ w, Gd w → Calls Tryz.prog 7 #[.agg #[.string s, .int .i64 v, .string r]] w (RetPost (.tuple #[.string p, .int .i64 ck]) w))
    (hC : ∀ w, Calls Tryz.prog 8 #[.agg #[.string s, .int .i64 v, .string r]] w (RetPost (.int .i64 ck) w))
    (hR : (ck = 0 ∧ ∀ w, Calls Tryz.prog 9 #[.agg #[.string s, .int .i64 v, .string r]] w (RetPost (.string p) w)) ∨ (ck ≠ 0 ∧ p = ⟨#[]⟩))
    (hQ : ∀ w, Gd w → Calls Tryz.prog 10 #[.string t] w (RetPost (.tuple #[.agg #[.string os, .int .i64 ov, .string or_], .int .i64 oe]) w))
    (hS : ∀ w, Calls Tryz.prog 11 #[.string t] w (RetPost (.tuple #[.agg #[.string os, .int .i64 ov, .string or_], .int .i64 oe]) w)) :
    Calls Tryz.prog 3 #[.agg #[.string s, .int .i64 v, .string r], .string t] w (Yes w) := by
  have hb0 := (Below.refl w.heap.size w).alloc (Nat.le_refl _) (.cells #[.string s, .int .i64 v, .string r] 23)
  have HX : Hid (∀ W, Below (w.heap.size + 1) (w.alloc (.cells #[.string s, .int .i64 v, .string r] 23)) W → Box W w.heap.size s v r) := Lib.hid fun W hb => (Box.new w s v r).below hb (by omega)
  have hA := fun W (hb : Below w.heap.size w W) => aw W (ht.grow hb)
  have HG : Hid (∀ W, Below w.heap.size w W → Gd W) := Lib.hid fun W hb => hG.below hb (Nat.le_refl _)
  clear ht hG
  rcases hR with ⟨h0, hR⟩ | ⟨h0, h1⟩
  · subst h0
    as_aux_lemma =>
      go_enter Tryz.func3, Tryz.ntmps3
      go_wp2_with fail
      refine (hA _ hb0).mono ?_
      rintro e w1 ⟨rfl, hn⟩
      have hc1 := (Below.refl (w.heap.size + 1) _).trans (hn.mono (B' := w.heap.size + 1) (by simp))
      obtain ⟨a0, a1, a2⟩ := HX.out _ hc1
      clear hn
      go_wp2_with fail
      refine (hB _).mono ?_
      rintro e w2 ⟨rfl, hn⟩
      have hc2 := hc1.trans (hn.mono (B' := w.heap.size + 1) (by have := hc1.size; simp at this; omega))
      obtain ⟨b0, b1, b2⟩ := HX.out _ hc2
      have hG2 := HG.out _ (hb0.trans (hc2.mono (by omega)))
      clear hn a0 a1 a2 hc1 hB hA
      go_wp2_with fail
      refine (hP _ hG2).mono ?_
      rintro e w3 ⟨rfl, hn⟩
      have hc3 := hc2.trans (hn.mono (B' := w.heap.size + 1) (by have := hc2.size; simp at this; omega))
      obtain ⟨a0, a1, a2⟩ := HX.out _ hc3
      clear hn b0 b1 b2 hc2 hP hG2
      go_wp2_with fail
      refine (hC _).mono ?_
      rintro e w4 ⟨rfl, hn⟩
      have hc4 := hc3.trans (hn.mono (B' := w.heap.size + 1) (by have := hc3.size; simp at this; omega))
      obtain ⟨b0, b1, b2⟩ := HX.out _ hc4
      clear hn a0 a1 a2 hc3 hC
      go_wp2_with fail
      refine (hR _).mono ?_
      rintro e w5 ⟨rfl, hn⟩
      have hc5 := hc4.trans (hn.mono (B' := w.heap.size + 1) (by have := hc4.size; simp at this; omega))
      clear hn b0 b1 b2 hc4 hR
      have hGk := HG.out _ (hb0.trans (hc5.mono (by omega)))
      go_wp2_with fail
      refine (hQ _ hGk).mono ?_
      rintro e w6 ⟨rfl, hn⟩
      have hc6 := (hc5.trans (hn.mono (B' := w.heap.size + 1) (by have := hc5.size; simp at this; omega))).alloc (by have := hc5.size; have := hn.size; simp at *; omega) (.cells #[.string os, .int .i64 ov, .string or_] 23)
      have hz6 : w.heap.size + 1 ≤ w6.heap.size := by have := hc5.size; have := hn.size; simp at *; omega
      clear hn hc5 hQ hGk
      go_wp2_with fail
      refine (hS _).mono ?_
      rintro e w7 ⟨rfl, hn⟩
      obtain ⟨m0, m1, m2⟩ : Box w7 w6.heap.size os ov or_ := (Box.new w6 os ov or_).below hn (by simp)
      have hc7 := hc6.trans (hn.mono (B' := w.heap.size + 1) (by simp; omega))
      have hz7 : w6.heap.size + 1 ≤ w7.heap.size := by have := hn.size; simpa using this
      have hbw := (hb0.trans (hc7.mono (by omega))).alloc (by omega) (.cells #[.string os, .int .i64 ov, .string or_] 23)
      obtain ⟨n0, n1, n2⟩ : Box (w7.alloc (.cells #[.string os, .int .i64 ov, .string or_] 23)) w6.heap.size os ov or_ := Box.below ⟨m0, m1, m2⟩ ((Below.refl (w6.heap.size + 1) _).alloc (by omega) _) (by omega)
      obtain ⟨l0, l1, l2⟩ := Box.new w7 os ov or_
      clear hn hc6 hc7 hS HX HG
      go_wp2
      go_ret
      exact ⟨rfl, hbw⟩
  · subst h1
    have hckb : (ck == 0) = false := beq_eq_false_iff_ne.2 h0
    as_aux_lemma =>
      go_enter Tryz.func3, Tryz.ntmps3
      go_wp2_with fail
      refine (hA _ hb0).mono ?_
      rintro e w1 ⟨rfl, hn⟩
      have hc1 := (Below.refl (w.heap.size + 1) _).trans (hn.mono (B' := w.heap.size + 1) (by simp))
      obtain ⟨a0, a1, a2⟩ := HX.out _ hc1
      clear hn
      go_wp2_with fail
      refine (hB _).mono ?_
      rintro e w2 ⟨rfl, hn⟩
      have hc2 := hc1.trans (hn.mono (B' := w.heap.size + 1) (by have := hc1.size; simp at this; omega))
      obtain ⟨b0, b1, b2⟩ := HX.out _ hc2
      have hG2 := HG.out _ (hb0.trans (hc2.mono (by omega)))
      clear hn a0 a1 a2 hc1 hB hA
      go_wp2_with fail
      refine (hP _ hG2).mono ?_
      rintro e w3 ⟨rfl, hn⟩
      have hc3 := hc2.trans (hn.mono (B' := w.heap.size + 1) (by have := hc2.size; simp at this; omega))
      obtain ⟨a0, a1, a2⟩ := HX.out _ hc3
      clear hn b0 b1 b2 hc2 hP hG2
      go_wp2_with fail
      refine (hC _).mono ?_
      rintro e w4 ⟨rfl, hn⟩
      have hc4 := hc3.trans (hn.mono (B' := w.heap.size + 1) (by have := hc3.size; simp at this; omega))
      obtain ⟨b0, b1, b2⟩ := HX.out _ hc4
      clear hn a0 a1 a2 hc3 hC
      have hGk := HG.out _ (hb0.trans (hc4.mono (by omega)))
      go_wp2_with fail
      refine (hQ _ hGk).mono ?_
      rintro e w6 ⟨rfl, hn⟩
      have hc6 := (hc4.trans (hn.mono (B' := w.heap.size + 1) (by have := hc4.size; simp at this; omega))).alloc (by have := hc4.size; have := hn.size; simp at *; omega) (.cells #[.string os, .int .i64 ov, .string or_] 23)
      have hz6 : w.heap.size + 1 ≤ w6.heap.size := by have := hc4.size; have := hn.size; simp at *; omega
      clear hn hc4 hQ hGk
      go_wp2_with fail
      refine (hS _).mono ?_
      rintro e w7 ⟨rfl, hn⟩
      obtain ⟨m0, m1, m2⟩ : Box w7 w6.heap.size os ov or_ := (Box.new w6 os ov or_).below hn (by simp)
      have hc7 := hc6.trans (hn.mono (B' := w.heap.size + 1) (by simp; omega))
      have hz7 : w6.heap.size + 1 ≤ w7.heap.size := by have := hn.size; simpa using this
      have hbw := (hb0.trans (hc7.mono (by omega))).alloc (by omega) (.cells #[.string os, .int .i64 ov, .string or_] 23)
      obtain ⟨n0, n1, n2⟩ : Box (w7.alloc (.cells #[.string os, .int .i64 ov, .string or_] 23)) w6.heap.size os ov or_ := Box.below ⟨m0, m1, m2⟩ ((Below.refl (w6.heap.size + 1) _).alloc (by omega) _) (by omega)
      obtain ⟨l0, l1, l2⟩ := Box.new w7 os ov or_
      clear hn hc6 hc7 hS HX HG
      go_wp2
      go_ret
      exact ⟨rfl, hbw⟩
theorem one_size (b : UInt8) : (⟨#[b]⟩ : ByteArray).size = 1 := rfl
theorem printT_size (s r : ByteArray) (v : Int) (hr : (r.size : Int) ≤ 40) : ((printT s v r).size : Int) ≤ 200 := by
  unfold printT
  split
  · unfold textOf
    split
    · omega
    · split
      · rw [timeText_eq]
        have h1 : ((if v.toNat % 100 = 0 then dec (v.toNat % 10000 / 100) 2 else dec (v.toNat % 10000) 4).size : Int) ≤ 40 := by split <;> exact dec_size _ _
        have h2 : ((wholeText v.toNat).size : Int) ≤ 122 := by
          unfold wholeText
          split
          · have := dec_size (v.toNat / 10000) 1; omega
          · split
            · have := dec_size (v.toNat / 10000 / 60) 1
              have := dec_size (v.toNat / 10000 % 60) 2
              simp only [ByteArray.size_append, one_size]
              omega
            · have := dec_size (v.toNat / 10000 / 3600) 1
              have := dec_size (v.toNat / 10000 / 60 % 60) 2
              have := dec_size (v.toNat / 10000 % 60) 2
              simp only [ByteArray.size_append, one_size]
              omega
        rw [ByteArray.size_append, ByteArray.size_append, one_size]
        omega
      · split
        · unfold lenText
          have h1 : ((if v.toNat % 10 = 0 then dec (v.toNat % 1000 / 10) 2 else dec (v.toNat % 1000) 3).size : Int) ≤ 40 := by split <;> exact dec_size _ _
          have := dec_size (v.toNat / 1000) 1
          rw [ByteArray.size_append, ByteArray.size_append, ByteArray.size_append, one_size, one_size]
          omega
        · have := dec_size v.toNat 1
          rw [ByteArray.size_append, one_size]
          omega
  · have : (⟨#[]⟩ : ByteArray).size = 0 := rfl
    omega
theorem texts_any (s r t : ByteArray) (v : Int) (w : World) (ht : Tabs w) (hG : Gd w) (z1 : s.size ≤ maxLen) (z2 : r.size ≤ maxLen) (z3 : t.size ≤ maxLen) :
    Calls Tryz.prog 3 #[.agg #[.string s, .int .i64 v, .string r], .string t] w (Yes w) := by
  have hB := fun w => Brief_any s r v w z1 z2
  cases hb : brief s r with
  | false => rw [hb] at hB; exact texts_exit1 s r t v w ht hB
  | true =>
    rw [hb] at hB
    by_cases h60 : 60 < (t.size : Int)
    · exact texts_exit2 s r t v w ht z3 h60 hB
    · have hr : (r.size : Int) ≤ 40 := by
        unfold brief at hb
        exact of_decide_eq_true (Bool.and_eq_true _ _ ▸ hb).2
      obtain ⟨⟨os, ov, or_, oe⟩, ho⟩ : ∃ m, refP t = m := ⟨_, rfl⟩
      refine texts_walk s r t (printT s v r) os or_ v (chk s v r) ov oe w ht hG (by omega) (printT_size s r v hr) hB (fun w hG => Print_any s r v w hG) (fun w => refCheckMark_any s r v w) ?_ (fun w hG => ?_) (fun w => ?_)
      · by_cases h : chk s v r = 0
        · exact .inl ⟨h, fun w => refPrint_any s r v h w⟩
        · exact .inr ⟨h, if_neg h⟩
      · have := Parse_any t (by omega) w hG
        rw [ho] at this
        exact this
      · have := refParse_any t (by omega) w
        rw [ho] at this
        exact this
end Go.Mk
end
section
namespace Go.Proofs.YtclkcooomikiiaaGreatDoor
open Go.ChangeShapes Go.WideShapes Go.ChangeAt Go.RowKit
set_option linter.unusedVariables false
theorem gd_of {W : World} (hL : laidMetH Tryz.prog laidL W) (hs : W.ShapedOpen Tryz.prog) : Mk.Gd W := by
  have hT := tabs_of hL hs
  rw [MakeChecks.laidMetH_plain _ _ _ (by kernel_rfl)] at hL
  have h1 := tabIs_of_reads gTen tTen Tryz.underlying284 Tryz.underlying112 cU64 cTen (zs := (List.range 20).map fun i => ((10 ^ i : Nat) : Int)) (Lib.laidMet.reads hL (.tail _ (.tail _ (.head _))))
  exact ⟨hT.1, h1, Tryz.cut.s1_3 W hs⟩
end Go.Proofs.YtclkcooomikiiaaGreatDoor
end
