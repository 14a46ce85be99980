/-
  Proved: the law MarkReads asks awake alone where a mark is not valid or too long. Conditions: the tables that awake reads and the library's tables lie where the program lays them.
  Proved: the law MarkReads returns true for two valid marks, the first of which is no time. Conditions: the tables that awake reads and the library's tables lie where the program lays them.
  Proved: the law MarkReads returns true for two valid marks, the first of which is a time. Conditions: the tables that awake reads and the library's tables lie where the program lays them.
  Proved: the law MarkReads returns true and leaves all that was there, for any two marks. Conditions: the tables that awake reads and the library's tables lie where the program lays them; the texts are no longer than an int says.
-/
import Derived.Test.YtclkcooomikiiaaGreatDoorUp
import Derived.Test.YtclkcooomikiiaaGreatDoorLw
section
set_option linter.unusedVariables false
set_option linter.unusedSimpArgs false
open Go Go.Proofs Go.RowKit Go.Sort
set_option maxRecDepth 100000
namespace Go.Mk
set_option maxHeartbeats 2000000 in
theorem reads_exit1 (s1 r1 s2 r2 : ByteArray) (v1 v2 : Int) (w : World) (ht : Tabs w) (hB1 : ∀ w, Calls Tryz.prog 6 #[.agg #[.string s1, .int .i64 v1, .string r1]] w (RetPost (.bool false) w)) :
    Calls Tryz.prog 4 #[.agg #[.string s1, .int .i64 v1, .string r1], .agg #[.string s2, .int .i64 v2, .string r2]] w (Yes w) := by
  have hbA := (Below.refl w.heap.size w).alloc (Nat.le_refl _) (.cells #[.string s1, .int .i64 v1, .string r1] 23)
  have hb0 := hbA.alloc hbA.size (.cells #[.string s2, .int .i64 v2, .string r2] 23)
  have HX : Hid (∀ W, Below (w.heap.size + 2) ((w.alloc (.cells #[.string s1, .int .i64 v1, .string r1] 23)).alloc (.cells #[.string s2, .int .i64 v2, .string r2] 23)) W → Box W w.heap.size s1 v1 r1 ∧ Box W (w.heap.size + 1) s2 v2 r2) := Lib.hid fun W hb => ⟨((Box.new w s1 v1 r1).below ((Below.refl (w.heap.size + 1) _).alloc (by simp) _) (by omega)).below hb (by omega), (Box.new' _ _ s2 v2 r2 (by simp)).below hb (by omega)⟩
  have hA := fun W (hb : Below w.heap.size w W) => aw W (ht.grow hb)
  clear hbA ht
  go_enter Tryz.func4, Tryz.ntmps4
  go_wp2_with fail
  refine (hA _ hb0).mono ?_
  rintro e w1 ⟨rfl, hn⟩
  have hc1 := (Below.refl (w.heap.size + 2) _).trans (hn.mono (B' := w.heap.size + 2) (by simp))
  have hbw1 := hb0.trans (hc1.mono (by omega))
  obtain ⟨⟨a10, a11, a12⟩, b10, b11, b12⟩ := HX.out _ hc1
  clear hn
  go_wp2_with fail
  refine (hB1 _).mono ?_
  rintro e w2 ⟨rfl, hn⟩
  have hc2 := hc1.trans (hn.mono (B' := w.heap.size + 2) (by have := hc1.size; simp at this; omega))
  have hbw2 := hb0.trans (hc2.mono (by omega))
  obtain ⟨⟨a20, a21, a22⟩, b20, b21, b22⟩ := HX.out _ hc2
  clear hn a10 a11 a12 b10 b11 b12 hc1 hbw1
  go_wp2_with fail
  refine (hA _ hbw2).mono ?_
  rintro e wz ⟨rfl, hz⟩
  go_wp2
  go_ret
  exact ⟨rfl, hbw2.trans (hz.mono hbw2.size)⟩
set_option maxHeartbeats 2000000 in
theorem reads_exit2 (s1 r1 s2 r2 : ByteArray) (v1 v2 : Int) (w : World) (ht : Tabs w) (hB1 : ∀ w, Calls Tryz.prog 6 #[.agg #[.string s1, .int .i64 v1, .string r1]] w (RetPost (.bool true) w)) (hB2 : ∀ w, Calls Tryz.prog 6 #[.agg #[.string s2, .int .i64 v2, .string r2]] w (RetPost (.bool false) w)) :
    Calls Tryz.prog 4 #[.agg #[.string s1, .int .i64 v1, .string r1], .agg #[.string s2, .int .i64 v2, .string r2]] w (Yes w) := by
  have hbA := (Below.refl w.heap.size w).alloc (Nat.le_refl _) (.cells #[.string s1, .int .i64 v1, .string r1] 23)
  have hb0 := hbA.alloc hbA.size (.cells #[.string s2, .int .i64 v2, .string r2] 23)
  have HX : Hid (∀ W, Below (w.heap.size + 2) ((w.alloc (.cells #[.string s1, .int .i64 v1, .string r1] 23)).alloc (.cells #[.string s2, .int .i64 v2, .string r2] 23)) W → Box W w.heap.size s1 v1 r1 ∧ Box W (w.heap.size + 1) s2 v2 r2) := Lib.hid fun W hb => ⟨((Box.new w s1 v1 r1).below ((Below.refl (w.heap.size + 1) _).alloc (by simp) _) (by omega)).below hb (by omega), (Box.new' _ _ s2 v2 r2 (by simp)).below hb (by omega)⟩
  have hA := fun W (hb : Below w.heap.size w W) => aw W (ht.grow hb)
  clear hbA ht
  go_enter Tryz.func4, Tryz.ntmps4
  go_wp2_with fail
  refine (hA _ hb0).mono ?_
  rintro e w1 ⟨rfl, hn⟩
  have hc1 := (Below.refl (w.heap.size + 2) _).trans (hn.mono (B' := w.heap.size + 2) (by simp))
  have hbw1 := hb0.trans (hc1.mono (by omega))
  obtain ⟨⟨a10, a11, a12⟩, b10, b11, b12⟩ := HX.out _ hc1
  clear hn
  go_wp2_with fail
  refine (hB1 _).mono ?_
  rintro e w2 ⟨rfl, hn⟩
  have hc2 := hc1.trans (hn.mono (B' := w.heap.size + 2) (by have := hc1.size; simp at this; omega))
  have hbw2 := hb0.trans (hc2.mono (by omega))
  obtain ⟨⟨a20, a21, a22⟩, b20, b21, b22⟩ := HX.out _ hc2
  clear hn a10 a11 a12 b10 b11 b12 hc1 hbw1
  go_wp2_with fail
  refine (hB2 _).mono ?_
  rintro e w3 ⟨rfl, hn⟩
  have hc3 := hc2.trans (hn.mono (B' := w.heap.size + 2) (by have := hc2.size; simp at this; omega))
  have hbw3 := hb0.trans (hc3.mono (by omega))
  obtain ⟨⟨a30, a31, a32⟩, b30, b31, b32⟩ := HX.out _ hc3
  clear hn a20 a21 a22 b20 b21 b22 hc2 hbw2
  go_wp2_with fail
  refine (hA _ hbw3).mono ?_
  rintro e wz ⟨rfl, hz⟩
  go_wp2
  go_ret
  exact ⟨rfl, hbw3.trans (hz.mono hbw3.size)⟩
set_option maxHeartbeats 2000000 in
theorem reads_exit3 (s1 r1 s2 r2 : ByteArray) (v1 v2 : Int) (w : World) (ht : Tabs w) (c : Int) (hcn : c ≠ 0) (hB1 : ∀ w, Calls Tryz.prog 6 #[.agg #[.string s1, .int .i64 v1, .string r1]] w (RetPost (.bool true) w)) (hB2 : ∀ w, Calls Tryz.prog 6 #[.agg #[.string s2, .int .i64 v2, .string r2]] w (RetPost (.bool true) w)) (hC1 : ∀ w, Calls Tryz.prog 8 #[.agg #[.string s1, .int .i64 v1, .string r1]] w (RetPost (.int .i64 c) w)) :
    Calls Tryz.prog 4 #[.agg #[.string s1, .int .i64 v1, .string r1], .agg #[.string s2, .int .i64 v2, .string r2]] w (Yes w) := by
  have hbA := (Below.refl w.heap.size w).alloc (Nat.le_refl _) (.cells #[.string s1, .int .i64 v1, .string r1] 23)
  have hb0 := hbA.alloc hbA.size (.cells #[.string s2, .int .i64 v2, .string r2] 23)
  have HX : Hid (∀ W, Below (w.heap.size + 2) ((w.alloc (.cells #[.string s1, .int .i64 v1, .string r1] 23)).alloc (.cells #[.string s2, .int .i64 v2, .string r2] 23)) W → Box W w.heap.size s1 v1 r1 ∧ Box W (w.heap.size + 1) s2 v2 r2) := Lib.hid fun W hb => ⟨((Box.new w s1 v1 r1).below ((Below.refl (w.heap.size + 1) _).alloc (by simp) _) (by omega)).below hb (by omega), (Box.new' _ _ s2 v2 r2 (by simp)).below hb (by omega)⟩
  have hA := fun W (hb : Below w.heap.size w W) => aw W (ht.grow hb)
  clear hbA ht
  have hcb : (c != 0) = true := by rw [bne_iff_ne]; exact hcn
  go_enter Tryz.func4, Tryz.ntmps4
  go_wp2_with fail
  refine (hA _ hb0).mono ?_
  rintro e w1 ⟨rfl, hn⟩
  have hc1 := (Below.refl (w.heap.size + 2) _).trans (hn.mono (B' := w.heap.size + 2) (by simp))
  have hbw1 := hb0.trans (hc1.mono (by omega))
  obtain ⟨⟨a10, a11, a12⟩, b10, b11, b12⟩ := HX.out _ hc1
  clear hn
  go_wp2_with fail
  refine (hB1 _).mono ?_
  rintro e w2 ⟨rfl, hn⟩
  have hc2 := hc1.trans (hn.mono (B' := w.heap.size + 2) (by have := hc1.size; simp at this; omega))
  have hbw2 := hb0.trans (hc2.mono (by omega))
  obtain ⟨⟨a20, a21, a22⟩, b20, b21, b22⟩ := HX.out _ hc2
  clear hn a10 a11 a12 b10 b11 b12 hc1 hbw1
  go_wp2_with fail
  refine (hB2 _).mono ?_
  rintro e w3 ⟨rfl, hn⟩
  have hc3 := hc2.trans (hn.mono (B' := w.heap.size + 2) (by have := hc2.size; simp at this; omega))
  have hbw3 := hb0.trans (hc3.mono (by omega))
  obtain ⟨⟨a30, a31, a32⟩, b30, b31, b32⟩ := HX.out _ hc3
  clear hn a20 a21 a22 b20 b21 b22 hc2 hbw2
  go_wp2_with fail
  refine (hC1 _).mono ?_
  rintro e w4 ⟨rfl, hn⟩
  have hc4 := hc3.trans (hn.mono (B' := w.heap.size + 2) (by have := hc3.size; simp at this; omega))
  have hbw4 := hb0.trans (hc4.mono (by omega))
  obtain ⟨⟨a40, a41, a42⟩, b40, b41, b42⟩ := HX.out _ hc4
  clear hn a30 a31 a32 b30 b31 b32 hc3 hbw3
  go_wp2_with fail
  refine (hA _ hbw4).mono ?_
  rintro e wz ⟨rfl, hz⟩
  go_wp2
  go_ret
  exact ⟨rfl, hbw4.trans (hz.mono hbw4.size)⟩
set_option maxHeartbeats 2000000 in
theorem reads_exit4 (s1 r1 s2 r2 : ByteArray) (v1 v2 : Int) (w : World) (ht : Tabs w) (c : Int) (hcn : c ≠ 0) (hB1 : ∀ w, Calls Tryz.prog 6 #[.agg #[.string s1, .int .i64 v1, .string r1]] w (RetPost (.bool true) w)) (hB2 : ∀ w, Calls Tryz.prog 6 #[.agg #[.string s2, .int .i64 v2, .string r2]] w (RetPost (.bool true) w)) (hC1 : ∀ w, Calls Tryz.prog 8 #[.agg #[.string s1, .int .i64 v1, .string r1]] w (RetPost (.int .i64 0) w)) (hC2 : ∀ w, Calls Tryz.prog 8 #[.agg #[.string s2, .int .i64 v2, .string r2]] w (RetPost (.int .i64 c) w)) :
    Calls Tryz.prog 4 #[.agg #[.string s1, .int .i64 v1, .string r1], .agg #[.string s2, .int .i64 v2, .string r2]] w (Yes w) := by
  have hbA := (Below.refl w.heap.size w).alloc (Nat.le_refl _) (.cells #[.string s1, .int .i64 v1, .string r1] 23)
  have hb0 := hbA.alloc hbA.size (.cells #[.string s2, .int .i64 v2, .string r2] 23)
  have HX : Hid (∀ W, Below (w.heap.size + 2) ((w.alloc (.cells #[.string s1, .int .i64 v1, .string r1] 23)).alloc (.cells #[.string s2, .int .i64 v2, .string r2] 23)) W → Box W w.heap.size s1 v1 r1 ∧ Box W (w.heap.size + 1) s2 v2 r2) := Lib.hid fun W hb => ⟨((Box.new w s1 v1 r1).below ((Below.refl (w.heap.size + 1) _).alloc (by simp) _) (by omega)).below hb (by omega), (Box.new' _ _ s2 v2 r2 (by simp)).below hb (by omega)⟩
  have hA := fun W (hb : Below w.heap.size w W) => aw W (ht.grow hb)
  clear hbA ht
  have hcb : (c != 0) = true := by rw [bne_iff_ne]; exact hcn
  go_enter Tryz.func4, Tryz.ntmps4
  go_wp2_with fail
  refine (hA _ hb0).mono ?_
  rintro e w1 ⟨rfl, hn⟩
  have hc1 := (Below.refl (w.heap.size + 2) _).trans (hn.mono (B' := w.heap.size + 2) (by simp))
  have hbw1 := hb0.trans (hc1.mono (by omega))
  obtain ⟨⟨a10, a11, a12⟩, b10, b11, b12⟩ := HX.out _ hc1
  clear hn
  go_wp2_with fail
  refine (hB1 _).mono ?_
  rintro e w2 ⟨rfl, hn⟩
  have hc2 := hc1.trans (hn.mono (B' := w.heap.size + 2) (by have := hc1.size; simp at this; omega))
  have hbw2 := hb0.trans (hc2.mono (by omega))
  obtain ⟨⟨a20, a21, a22⟩, b20, b21, b22⟩ := HX.out _ hc2
  clear hn a10 a11 a12 b10 b11 b12 hc1 hbw1
  go_wp2_with fail
  refine (hB2 _).mono ?_
  rintro e w3 ⟨rfl, hn⟩
  have hc3 := hc2.trans (hn.mono (B' := w.heap.size + 2) (by have := hc2.size; simp at this; omega))
  have hbw3 := hb0.trans (hc3.mono (by omega))
  obtain ⟨⟨a30, a31, a32⟩, b30, b31, b32⟩ := HX.out _ hc3
  clear hn a20 a21 a22 b20 b21 b22 hc2 hbw2
  go_wp2_with fail
  refine (hC1 _).mono ?_
  rintro e w4 ⟨rfl, hn⟩
  have hc4 := hc3.trans (hn.mono (B' := w.heap.size + 2) (by have := hc3.size; simp at this; omega))
  have hbw4 := hb0.trans (hc4.mono (by omega))
  obtain ⟨⟨a40, a41, a42⟩, b40, b41, b42⟩ := HX.out _ hc4
  clear hn a30 a31 a32 b30 b31 b32 hc3 hbw3
  go_wp2_with fail
  refine (hC2 _).mono ?_
  rintro e w5 ⟨rfl, hn⟩
  have hc5 := hc4.trans (hn.mono (B' := w.heap.size + 2) (by have := hc4.size; simp at this; omega))
  have hbw5 := hb0.trans (hc5.mono (by omega))
  obtain ⟨⟨a50, a51, a52⟩, b50, b51, b52⟩ := HX.out _ hc5
  clear hn a40 a41 a42 b40 b41 b42 hc4 hbw4
  go_wp2_with fail
  refine (hA _ hbw5).mono ?_
  rintro e wz ⟨rfl, hz⟩
  go_wp2
  go_ret
  exact ⟨rfl, hbw5.trans (hz.mono hbw5.size)⟩
end Go.Mk
end
section
set_option linter.unusedVariables false
set_option linter.unusedSimpArgs false
open Go Go.Proofs Go.RowKit Go.Sort
set_option maxRecDepth 100000
namespace Go.Mk
open Instr in
theorem equal_mark (s1 s2 r1 r2 : ByteArray) (v1 v2 : Int) (W : World) : (Op.equalIn 10000 23 (.agg #[.string s1, .int .i64 v1, .string r1]) (.agg #[.string s2, .int .i64 v2, .string r2])).run Tryz.prog W = .ok (decide (s1 = s2 ∧ v1 = v2 ∧ r1 = r2)) W := by
  have h1 : (s1.toList == s2.toList) = decide (s1 = s2) := by
    by_cases h : s1 = s2
    · subst h; simp
    · rw [tl_ne h, decide_eq_false h]
  have h3 : (r1.toList == r2.toList) = decide (r1 = r2) := by
    by_cases h : r1 = r2
    · subst h; simp
    · rw [tl_ne h, decide_eq_false h]
  have h2 : (v1 == v2) = decide (v1 = v2) := by
    by_cases h : v1 = v2
    · subst h; simp
    · rw [beq_eq_false_iff_ne.2 h, decide_eq_false h]
  by_cases e1 : s1 = s2
  · by_cases e2 : v1 = v2
    · by_cases e3 : r1 = r2
      · simp [go_sem, h1, h2, h3, e1, e2, e3]
      · simp [go_sem, h1, h2, h3, e1, e2, e3]
    · simp [go_sem, h1, h2, h3, e1, e2]
  · simp [go_sem, h1, h2, h3, e1]
set_option maxHeartbeats 4000000 in
theorem reads_kind (s1 r1 s2 r2 : ByteArray) (v1 v2 : Int) (w : World) (ht : Tabs w) (hG : Gd w) (p q : ByteArray) (hB1 : ∀ w, Calls Tryz.prog 6 #[.agg #[.string s1, .int .i64 v1, .string r1]] w (RetPost (.bool true) w)) (hB2 : ∀ w, Calls Tryz.prog 6 #[.agg #[.string s2, .int .i64 v2, .string r2]] w (RetPost (.bool true) w)) (hC1 : ∀ w, Calls Tryz.prog 8 #[.agg #[.string s1, .int .i64 v1, .string r1]] w (RetPost (.int .i64 0) w)) (hC2 : ∀ w, Calls Tryz.prog 8 #[.agg #[.string s2, .int .i64 v2, .string r2]] w (RetPost (.int .i64 0) w))
    (hP : ∀ w, Gd w → Calls Tryz.prog 7 #[.agg #[.string s1, .int .i64 v1, .string r1]] w (RetPost (.tuple #[.string p, .int .i64 0]) w)) (hQ : ∀ w, Gd w → Calls Tryz.prog 7 #[.agg #[.string s2, .int .i64 v2, .string r2]] w (RetPost (.tuple #[.string q, .int .i64 0]) w))
    (hR : ∀ w, Gd w → Calls Tryz.prog 10 #[.string p] w (RetPost (.tuple #[.agg #[.string s1, .int .i64 v1, .string r1], .int .i64 0]) w)) (z1 : 1 ≤ (p.size : Int)) (z2 : (p.size : Int) ≤ 16)
    (bb : Bool) (hbb : (p.toList == q.toList) = bb) (hE : ∀ W, (Op.equalIn 10000 23 (.agg #[.string s1, .int .i64 v1, .string r1]) (.agg #[.string s2, .int .i64 v2, .string r2])).run Tryz.prog W = .ok bb W) (hk : (s1.toList == [116, 105, 109, 101]) = false) :
    Calls Tryz.prog 4 #[.agg #[.string s1, .int .i64 v1, .string r1], .agg #[.string s2, .int .i64 v2, .string r2]] w (Yes w) := by
  have hbA := (Below.refl w.heap.size w).alloc (Nat.le_refl _) (.cells #[.string s1, .int .i64 v1, .string r1] 23)
  have hb0 := hbA.alloc hbA.size (.cells #[.string s2, .int .i64 v2, .string r2] 23)
  have HX : Hid (∀ W, Below (w.heap.size + 2) ((w.alloc (.cells #[.string s1, .int .i64 v1, .string r1] 23)).alloc (.cells #[.string s2, .int .i64 v2, .string r2] 23)) W → Box W w.heap.size s1 v1 r1 ∧ Box W (w.heap.size + 1) s2 v2 r2) := Lib.hid fun W hb => ⟨((Box.new w s1 v1 r1).below ((Below.refl (w.heap.size + 1) _).alloc (by simp) _) (by omega)).below hb (by omega), (Box.new' _ _ s2 v2 r2 (by simp)).below hb (by omega)⟩
  have hA := fun W (hb : Below w.heap.size w W) => aw W (ht.grow hb)
  clear hbA ht
  have hz0 : ((p.size : Int) == 0) = false := by rw [beq_eq_false_iff_ne]; omega
  have hpe : ¬ p = ByteArray.empty := fun e => by rw [e] at z1; exact absurd z1 (by decide)
  have z2' : ¬ (16 : Int) < p.size := by omega
  have HG : Hid (∀ W, Below w.heap.size w W → Gd W) := Lib.hid fun W hb => hG.below hb (Nat.le_refl _)
  clear hG
  go_enter Tryz.func4, Tryz.ntmps4
  go_wp2_with fail
  refine (hA _ hb0).mono ?_
  rintro e w1 ⟨rfl, hn⟩
  have hc1 := (Below.refl (w.heap.size + 2) _).trans (hn.mono (B' := w.heap.size + 2) (by simp))
  have hbw1 := hb0.trans (hc1.mono (by omega))
  obtain ⟨⟨a10, a11, a12⟩, b10, b11, b12⟩ := HX.out _ hc1
  clear hn
  go_wp2_with fail
  refine (hB1 _).mono ?_
  rintro e w2 ⟨rfl, hn⟩
  have hc2 := hc1.trans (hn.mono (B' := w.heap.size + 2) (by have := hc1.size; simp at this; omega))
  have hbw2 := hb0.trans (hc2.mono (by omega))
  obtain ⟨⟨a20, a21, a22⟩, b20, b21, b22⟩ := HX.out _ hc2
  clear hn a10 a11 a12 b10 b11 b12 hc1 hbw1
  go_wp2_with fail
  refine (hB2 _).mono ?_
  rintro e w3 ⟨rfl, hn⟩
  have hc3 := hc2.trans (hn.mono (B' := w.heap.size + 2) (by have := hc2.size; simp at this; omega))
  have hbw3 := hb0.trans (hc3.mono (by omega))
  obtain ⟨⟨a30, a31, a32⟩, b30, b31, b32⟩ := HX.out _ hc3
  clear hn a20 a21 a22 b20 b21 b22 hc2 hbw2
  go_wp2_with fail
  refine (hC1 _).mono ?_
  rintro e w4 ⟨rfl, hn⟩
  have hc4 := hc3.trans (hn.mono (B' := w.heap.size + 2) (by have := hc3.size; simp at this; omega))
  have hbw4 := hb0.trans (hc4.mono (by omega))
  obtain ⟨⟨a40, a41, a42⟩, b40, b41, b42⟩ := HX.out _ hc4
  clear hn a30 a31 a32 b30 b31 b32 hc3 hbw3
  go_wp2_with fail
  refine (hC2 _).mono ?_
  rintro e w5 ⟨rfl, hn⟩
  have hc5 := hc4.trans (hn.mono (B' := w.heap.size + 2) (by have := hc4.size; simp at this; omega))
  have hbw5 := hb0.trans (hc5.mono (by omega))
  obtain ⟨⟨a50, a51, a52⟩, b50, b51, b52⟩ := HX.out _ hc5
  clear hn a40 a41 a42 b40 b41 b42 hc4 hbw4
  go_wp2_with fail
  refine (hP _ (HG.out _ hbw5)).mono ?_
  rintro e w6 ⟨rfl, hn⟩
  have hc6 := hc5.trans (hn.mono (B' := w.heap.size + 2) (by have := hc5.size; simp at this; omega))
  have hbw6 := hb0.trans (hc6.mono (by omega))
  obtain ⟨⟨a60, a61, a62⟩, b60, b61, b62⟩ := HX.out _ hc6
  clear hn a50 a51 a52 b50 b51 b52 hc5 hbw5
  go_wp2_with fail
  refine (hQ _ (HG.out _ hbw6)).mono ?_
  rintro e w7 ⟨rfl, hn⟩
  have hc7 := hc6.trans (hn.mono (B' := w.heap.size + 2) (by have := hc6.size; simp at this; omega))
  have hbw7 := hb0.trans (hc7.mono (by omega))
  obtain ⟨⟨a70, a71, a72⟩, b70, b71, b72⟩ := HX.out _ hc7
  clear hn a60 a61 a62 b60 b61 b62 hc6 hbw6
  go_wp2_with fail
  refine (hR _ (HG.out _ hbw7)).mono ?_
  rintro e w8 ⟨rfl, hn⟩
  have hc8 := (hc7.trans (hn.mono (B' := w.heap.size + 2) (by have := hc7.size; simp at this; omega))).alloc (by have := hc7.size; have := hn.size; simp at *; omega) (.cells #[.string s1, .int .i64 v1, .string r1] 23)
  have hbw8 := hb0.trans (hc8.mono (by omega))
  obtain ⟨⟨a80, a81, a82⟩, b80, b81, b82⟩ := HX.out _ hc8
  obtain ⟨m0, m1, m2⟩ := Box.new w8 s1 v1 r1
  clear hn a70 a71 a72 b70 b71 b72 hc7 hbw7
  go_wp2
  go_ret
  exact ⟨rfl, hbw8⟩
end Go.Mk
end
section
set_option linter.unusedVariables false
set_option linter.unusedSimpArgs false
open Go Go.Proofs Go.RowKit Go.Sort
set_option maxRecDepth 100000
namespace Go.Mk
set_option maxHeartbeats 4000000 in
theorem reads_ge0 (s1 r1 s2 r2 : ByteArray) (v1 v2 : Int) (w : World) (ht : Tabs w) (hG : Gd w) (p q : ByteArray) (hB1 : ∀ w, Calls Tryz.prog 6 #[.agg #[.string s1, .int .i64 v1, .string r1]] w (RetPost (.bool true) w)) (hB2 : ∀ w, Calls Tryz.prog 6 #[.agg #[.string s2, .int .i64 v2, .string r2]] w (RetPost (.bool true) w)) (hC1 : ∀ w, Calls Tryz.prog 8 #[.agg #[.string s1, .int .i64 v1, .string r1]] w (RetPost (.int .i64 0) w)) (hC2 : ∀ w, Calls Tryz.prog 8 #[.agg #[.string s2, .int .i64 v2, .string r2]] w (RetPost (.int .i64 0) w))
    (hP : ∀ w, Gd w → Calls Tryz.prog 7 #[.agg #[.string s1, .int .i64 v1, .string r1]] w (RetPost (.tuple #[.string p, .int .i64 0]) w)) (hQ : ∀ w, Gd w → Calls Tryz.prog 7 #[.agg #[.string s2, .int .i64 v2, .string r2]] w (RetPost (.tuple #[.string q, .int .i64 0]) w))
    (hR : ∀ w, Gd w → Calls Tryz.prog 10 #[.string p] w (RetPost (.tuple #[.agg #[.string s1, .int .i64 v1, .string r1], .int .i64 0]) w)) (z1 : 1 ≤ (p.size : Int)) (z2 : (p.size : Int) ≤ 16)
    (bb : Bool) (hbb : (p.toList == q.toList) = bb) (hE : ∀ W, (Op.equalIn 10000 23 (.agg #[.string s1, .int .i64 v1, .string r1]) (.agg #[.string s2, .int .i64 v2, .string r2])).run Tryz.prog W = .ok bb W) (hk : (s1.toList == [116, 105, 109, 101]) = true) (hv0 : 1 ≤ v1) (hv1 : v1 ≤ 863999999) (h100 : (v1 % 100 == 0) = false) (hr : 600000 ≤ v1) :
    Calls Tryz.prog 4 #[.agg #[.string s1, .int .i64 v1, .string r1], .agg #[.string s2, .int .i64 v2, .string r2]] w (Yes w) := by
  have hbA := (Below.refl w.heap.size w).alloc (Nat.le_refl _) (.cells #[.string s1, .int .i64 v1, .string r1] 23)
  have hb0 := hbA.alloc hbA.size (.cells #[.string s2, .int .i64 v2, .string r2] 23)
  have HX : Hid (∀ W, Below (w.heap.size + 2) ((w.alloc (.cells #[.string s1, .int .i64 v1, .string r1] 23)).alloc (.cells #[.string s2, .int .i64 v2, .string r2] 23)) W → Box W w.heap.size s1 v1 r1 ∧ Box W (w.heap.size + 1) s2 v2 r2) := Lib.hid fun W hb => ⟨((Box.new w s1 v1 r1).below ((Below.refl (w.heap.size + 1) _).alloc (by simp) _) (by omega)).below hb (by omega), (Box.new' _ _ s2 v2 r2 (by simp)).below hb (by omega)⟩
  have hA := fun W (hb : Below w.heap.size w W) => aw W (ht.grow hb)
  clear hbA ht
  have hz0 : ((p.size : Int) == 0) = false := by rw [beq_eq_false_iff_ne]; omega
  have hpe : ¬ p = ByteArray.empty := fun e => by rw [e] at z1; exact absurd z1 (by decide)
  have z2' : ¬ (16 : Int) < p.size := by omega
  have HG : Hid (∀ W, Below w.heap.size w W → Gd W) := Lib.hid fun W hb => hG.below hb (Nat.le_refl _)
  clear hG
  go_enter Tryz.func4, Tryz.ntmps4
  go_wp2_with fail
  refine (hA _ hb0).mono ?_
  rintro e w1 ⟨rfl, hn⟩
  have hc1 := (Below.refl (w.heap.size + 2) _).trans (hn.mono (B' := w.heap.size + 2) (by simp))
  have hbw1 := hb0.trans (hc1.mono (by omega))
  obtain ⟨⟨a10, a11, a12⟩, b10, b11, b12⟩ := HX.out _ hc1
  clear hn
  go_wp2_with fail
  refine (hB1 _).mono ?_
  rintro e w2 ⟨rfl, hn⟩
  have hc2 := hc1.trans (hn.mono (B' := w.heap.size + 2) (by have := hc1.size; simp at this; omega))
  have hbw2 := hb0.trans (hc2.mono (by omega))
  obtain ⟨⟨a20, a21, a22⟩, b20, b21, b22⟩ := HX.out _ hc2
  clear hn a10 a11 a12 b10 b11 b12 hc1 hbw1
  go_wp2_with fail
  refine (hB2 _).mono ?_
  rintro e w3 ⟨rfl, hn⟩
  have hc3 := hc2.trans (hn.mono (B' := w.heap.size + 2) (by have := hc2.size; simp at this; omega))
  have hbw3 := hb0.trans (hc3.mono (by omega))
  obtain ⟨⟨a30, a31, a32⟩, b30, b31, b32⟩ := HX.out _ hc3
  clear hn a20 a21 a22 b20 b21 b22 hc2 hbw2
  go_wp2_with fail
  refine (hC1 _).mono ?_
  rintro e w4 ⟨rfl, hn⟩
  have hc4 := hc3.trans (hn.mono (B' := w.heap.size + 2) (by have := hc3.size; simp at this; omega))
  have hbw4 := hb0.trans (hc4.mono (by omega))
  obtain ⟨⟨a40, a41, a42⟩, b40, b41, b42⟩ := HX.out _ hc4
  clear hn a30 a31 a32 b30 b31 b32 hc3 hbw3
  go_wp2_with fail
  refine (hC2 _).mono ?_
  rintro e w5 ⟨rfl, hn⟩
  have hc5 := hc4.trans (hn.mono (B' := w.heap.size + 2) (by have := hc4.size; simp at this; omega))
  have hbw5 := hb0.trans (hc5.mono (by omega))
  obtain ⟨⟨a50, a51, a52⟩, b50, b51, b52⟩ := HX.out _ hc5
  clear hn a40 a41 a42 b40 b41 b42 hc4 hbw4
  go_wp2_with fail
  refine (hP _ (HG.out _ hbw5)).mono ?_
  rintro e w6 ⟨rfl, hn⟩
  have hc6 := hc5.trans (hn.mono (B' := w.heap.size + 2) (by have := hc5.size; simp at this; omega))
  have hbw6 := hb0.trans (hc6.mono (by omega))
  obtain ⟨⟨a60, a61, a62⟩, b60, b61, b62⟩ := HX.out _ hc6
  clear hn a50 a51 a52 b50 b51 b52 hc5 hbw5
  go_wp2_with fail
  refine (hQ _ (HG.out _ hbw6)).mono ?_
  rintro e w7 ⟨rfl, hn⟩
  have hc7 := hc6.trans (hn.mono (B' := w.heap.size + 2) (by have := hc6.size; simp at this; omega))
  have hbw7 := hb0.trans (hc7.mono (by omega))
  obtain ⟨⟨a70, a71, a72⟩, b70, b71, b72⟩ := HX.out _ hc7
  clear hn a60 a61 a62 b60 b61 b62 hc6 hbw6
  go_wp2_with fail
  refine (hR _ (HG.out _ hbw7)).mono ?_
  rintro e w8 ⟨rfl, hn⟩
  have hc8 := (hc7.trans (hn.mono (B' := w.heap.size + 2) (by have := hc7.size; simp at this; omega))).alloc (by have := hc7.size; have := hn.size; simp at *; omega) (.cells #[.string s1, .int .i64 v1, .string r1] 23)
  have hbw8 := hb0.trans (hc8.mono (by omega))
  obtain ⟨⟨a80, a81, a82⟩, b80, b81, b82⟩ := HX.out _ hc8
  obtain ⟨m0, m1, m2⟩ := Box.new w8 s1 v1 r1
  clear hn a70 a71 a72 b70 b71 b72 hc7 hbw7
  go_wp2
  go_ret
  exact ⟨rfl, hbw8⟩
set_option maxHeartbeats 4000000 in
theorem reads_lt0 (s1 r1 s2 r2 : ByteArray) (v1 v2 : Int) (w : World) (ht : Tabs w) (hG : Gd w) (p q : ByteArray) (hB1 : ∀ w, Calls Tryz.prog 6 #[.agg #[.string s1, .int .i64 v1, .string r1]] w (RetPost (.bool true) w)) (hB2 : ∀ w, Calls Tryz.prog 6 #[.agg #[.string s2, .int .i64 v2, .string r2]] w (RetPost (.bool true) w)) (hC1 : ∀ w, Calls Tryz.prog 8 #[.agg #[.string s1, .int .i64 v1, .string r1]] w (RetPost (.int .i64 0) w)) (hC2 : ∀ w, Calls Tryz.prog 8 #[.agg #[.string s2, .int .i64 v2, .string r2]] w (RetPost (.int .i64 0) w))
    (hP : ∀ w, Gd w → Calls Tryz.prog 7 #[.agg #[.string s1, .int .i64 v1, .string r1]] w (RetPost (.tuple #[.string p, .int .i64 0]) w)) (hQ : ∀ w, Gd w → Calls Tryz.prog 7 #[.agg #[.string s2, .int .i64 v2, .string r2]] w (RetPost (.tuple #[.string q, .int .i64 0]) w))
    (hR : ∀ w, Gd w → Calls Tryz.prog 10 #[.string p] w (RetPost (.tuple #[.agg #[.string s1, .int .i64 v1, .string r1], .int .i64 0]) w)) (z1 : 1 ≤ (p.size : Int)) (z2 : (p.size : Int) ≤ 16)
    (bb : Bool) (hbb : (p.toList == q.toList) = bb) (hE : ∀ W, (Op.equalIn 10000 23 (.agg #[.string s1, .int .i64 v1, .string r1]) (.agg #[.string s2, .int .i64 v2, .string r2])).run Tryz.prog W = .ok bb W) (hk : (s1.toList == [116, 105, 109, 101]) = true) (hv0 : 1 ≤ v1) (hv1 : v1 ≤ 863999999) (h100 : (v1 % 100 == 0) = false) (hr : v1 < 100000) :
    Calls Tryz.prog 4 #[.agg #[.string s1, .int .i64 v1, .string r1], .agg #[.string s2, .int .i64 v2, .string r2]] w (Yes w) := by
  have hbA := (Below.refl w.heap.size w).alloc (Nat.le_refl _) (.cells #[.string s1, .int .i64 v1, .string r1] 23)
  have hb0 := hbA.alloc hbA.size (.cells #[.string s2, .int .i64 v2, .string r2] 23)
  have HX : Hid (∀ W, Below (w.heap.size + 2) ((w.alloc (.cells #[.string s1, .int .i64 v1, .string r1] 23)).alloc (.cells #[.string s2, .int .i64 v2, .string r2] 23)) W → Box W w.heap.size s1 v1 r1 ∧ Box W (w.heap.size + 1) s2 v2 r2) := Lib.hid fun W hb => ⟨((Box.new w s1 v1 r1).below ((Below.refl (w.heap.size + 1) _).alloc (by simp) _) (by omega)).below hb (by omega), (Box.new' _ _ s2 v2 r2 (by simp)).below hb (by omega)⟩
  have hA := fun W (hb : Below w.heap.size w W) => aw W (ht.grow hb)
  clear hbA ht
  have hz0 : ((p.size : Int) == 0) = false := by rw [beq_eq_false_iff_ne]; omega
  have hpe : ¬ p = ByteArray.empty := fun e => by rw [e] at z1; exact absurd z1 (by decide)
  have z2' : ¬ (16 : Int) < p.size := by omega
  have HG : Hid (∀ W, Below w.heap.size w W → Gd W) := Lib.hid fun W hb => hG.below hb (Nat.le_refl _)
  clear hG
  go_enter Tryz.func4, Tryz.ntmps4
  go_wp2_with fail
  refine (hA _ hb0).mono ?_
  rintro e w1 ⟨rfl, hn⟩
  have hc1 := (Below.refl (w.heap.size + 2) _).trans (hn.mono (B' := w.heap.size + 2) (by simp))
  have hbw1 := hb0.trans (hc1.mono (by omega))
  obtain ⟨⟨a10, a11, a12⟩, b10, b11, b12⟩ := HX.out _ hc1
  clear hn
  go_wp2_with fail
  refine (hB1 _).mono ?_
  rintro e w2 ⟨rfl, hn⟩
  have hc2 := hc1.trans (hn.mono (B' := w.heap.size + 2) (by have := hc1.size; simp at this; omega))
  have hbw2 := hb0.trans (hc2.mono (by omega))
  obtain ⟨⟨a20, a21, a22⟩, b20, b21, b22⟩ := HX.out _ hc2
  clear hn a10 a11 a12 b10 b11 b12 hc1 hbw1
  go_wp2_with fail
  refine (hB2 _).mono ?_
  rintro e w3 ⟨rfl, hn⟩
  have hc3 := hc2.trans (hn.mono (B' := w.heap.size + 2) (by have := hc2.size; simp at this; omega))
  have hbw3 := hb0.trans (hc3.mono (by omega))
  obtain ⟨⟨a30, a31, a32⟩, b30, b31, b32⟩ := HX.out _ hc3
  clear hn a20 a21 a22 b20 b21 b22 hc2 hbw2
  go_wp2_with fail
  refine (hC1 _).mono ?_
  rintro e w4 ⟨rfl, hn⟩
  have hc4 := hc3.trans (hn.mono (B' := w.heap.size + 2) (by have := hc3.size; simp at this; omega))
  have hbw4 := hb0.trans (hc4.mono (by omega))
  obtain ⟨⟨a40, a41, a42⟩, b40, b41, b42⟩ := HX.out _ hc4
  clear hn a30 a31 a32 b30 b31 b32 hc3 hbw3
  go_wp2_with fail
  refine (hC2 _).mono ?_
  rintro e w5 ⟨rfl, hn⟩
  have hc5 := hc4.trans (hn.mono (B' := w.heap.size + 2) (by have := hc4.size; simp at this; omega))
  have hbw5 := hb0.trans (hc5.mono (by omega))
  obtain ⟨⟨a50, a51, a52⟩, b50, b51, b52⟩ := HX.out _ hc5
  clear hn a40 a41 a42 b40 b41 b42 hc4 hbw4
  go_wp2_with fail
  refine (hP _ (HG.out _ hbw5)).mono ?_
  rintro e w6 ⟨rfl, hn⟩
  have hc6 := hc5.trans (hn.mono (B' := w.heap.size + 2) (by have := hc5.size; simp at this; omega))
  have hbw6 := hb0.trans (hc6.mono (by omega))
  obtain ⟨⟨a60, a61, a62⟩, b60, b61, b62⟩ := HX.out _ hc6
  clear hn a50 a51 a52 b50 b51 b52 hc5 hbw5
  go_wp2_with fail
  refine (hQ _ (HG.out _ hbw6)).mono ?_
  rintro e w7 ⟨rfl, hn⟩
  have hc7 := hc6.trans (hn.mono (B' := w.heap.size + 2) (by have := hc6.size; simp at this; omega))
  have hbw7 := hb0.trans (hc7.mono (by omega))
  obtain ⟨⟨a70, a71, a72⟩, b70, b71, b72⟩ := HX.out _ hc7
  clear hn a60 a61 a62 b60 b61 b62 hc6 hbw6
  go_wp2_with fail
  refine (hR _ (HG.out _ hbw7)).mono ?_
  rintro e w8 ⟨rfl, hn⟩
  have hc8 := (hc7.trans (hn.mono (B' := w.heap.size + 2) (by have := hc7.size; simp at this; omega))).alloc (by have := hc7.size; have := hn.size; simp at *; omega) (.cells #[.string s1, .int .i64 v1, .string r1] 23)
  have hbw8 := hb0.trans (hc8.mono (by omega))
  obtain ⟨⟨a80, a81, a82⟩, b80, b81, b82⟩ := HX.out _ hc8
  obtain ⟨m0, m1, m2⟩ := Box.new w8 s1 v1 r1
  clear hn a70 a71 a72 b70 b71 b72 hc7 hbw7
  go_wp2
  go_ret
  exact ⟨rfl, hbw8⟩
set_option maxHeartbeats 4000000 in
theorem reads_mid0 (s1 r1 s2 r2 : ByteArray) (v1 v2 : Int) (w : World) (ht : Tabs w) (hG : Gd w) (p q : ByteArray) (hB1 : ∀ w, Calls Tryz.prog 6 #[.agg #[.string s1, .int .i64 v1, .string r1]] w (RetPost (.bool true) w)) (hB2 : ∀ w, Calls Tryz.prog 6 #[.agg #[.string s2, .int .i64 v2, .string r2]] w (RetPost (.bool true) w)) (hC1 : ∀ w, Calls Tryz.prog 8 #[.agg #[.string s1, .int .i64 v1, .string r1]] w (RetPost (.int .i64 0) w)) (hC2 : ∀ w, Calls Tryz.prog 8 #[.agg #[.string s2, .int .i64 v2, .string r2]] w (RetPost (.int .i64 0) w))
    (hP : ∀ w, Gd w → Calls Tryz.prog 7 #[.agg #[.string s1, .int .i64 v1, .string r1]] w (RetPost (.tuple #[.string p, .int .i64 0]) w)) (hQ : ∀ w, Gd w → Calls Tryz.prog 7 #[.agg #[.string s2, .int .i64 v2, .string r2]] w (RetPost (.tuple #[.string q, .int .i64 0]) w))
    (hR : ∀ w, Gd w → Calls Tryz.prog 10 #[.string p] w (RetPost (.tuple #[.agg #[.string s1, .int .i64 v1, .string r1], .int .i64 0]) w)) (z1 : 1 ≤ (p.size : Int)) (z2 : (p.size : Int) ≤ 16)
    (bb : Bool) (hbb : (p.toList == q.toList) = bb) (hE : ∀ W, (Op.equalIn 10000 23 (.agg #[.string s1, .int .i64 v1, .string r1]) (.agg #[.string s2, .int .i64 v2, .string r2])).run Tryz.prog W = .ok bb W) (hk : (s1.toList == [116, 105, 109, 101]) = true) (hv0 : 1 ≤ v1) (hv1 : v1 ≤ 863999999) (h100 : (v1 % 100 == 0) = false)
    (hr : 100000 ≤ v1) (hr2 : v1 < 600000) (hM : ∀ w, Gd w → Calls Tryz.prog 10 #[.string (⟨#[48, 58]⟩ ++ p)] w (RetPost (.tuple #[.agg #[.string s1, .int .i64 v1, .string r1], .int .i64 0]) w))
    (hH : ∀ w, Gd w → Calls Tryz.prog 10 #[.string (⟨#[48, 58, 48, 48, 58]⟩ ++ p)] w (RetPost (.tuple #[.agg #[.string s1, .int .i64 v1, .string r1], .int .i64 0]) w)) :
    Calls Tryz.prog 4 #[.agg #[.string s1, .int .i64 v1, .string r1], .agg #[.string s2, .int .i64 v2, .string r2]] w (Yes w) := by
  have hbA := (Below.refl w.heap.size w).alloc (Nat.le_refl _) (.cells #[.string s1, .int .i64 v1, .string r1] 23)
  have hb0 := hbA.alloc hbA.size (.cells #[.string s2, .int .i64 v2, .string r2] 23)
  have HX : Hid (∀ W, Below (w.heap.size + 2) ((w.alloc (.cells #[.string s1, .int .i64 v1, .string r1] 23)).alloc (.cells #[.string s2, .int .i64 v2, .string r2] 23)) W → Box W w.heap.size s1 v1 r1 ∧ Box W (w.heap.size + 1) s2 v2 r2) := Lib.hid fun W hb => ⟨((Box.new w s1 v1 r1).below ((Below.refl (w.heap.size + 1) _).alloc (by simp) _) (by omega)).below hb (by omega), (Box.new' _ _ s2 v2 r2 (by simp)).below hb (by omega)⟩
  have hA := fun W (hb : Below w.heap.size w W) => aw W (ht.grow hb)
  clear hbA ht
  have hz0 : ((p.size : Int) == 0) = false := by rw [beq_eq_false_iff_ne]; omega
  have hpe : ¬ p = ByteArray.empty := fun e => by rw [e] at z1; exact absurd z1 (by decide)
  have z2' : ¬ (16 : Int) < p.size := by omega
  have HG : Hid (∀ W, Below w.heap.size w W → Gd W) := Lib.hid fun W hb => hG.below hb (Nat.le_refl _)
  clear hG
  go_enter Tryz.func4, Tryz.ntmps4
  go_wp2_with fail
  refine (hA _ hb0).mono ?_
  rintro e w1 ⟨rfl, hn⟩
  have hc1 := (Below.refl (w.heap.size + 2) _).trans (hn.mono (B' := w.heap.size + 2) (by simp))
  have hbw1 := hb0.trans (hc1.mono (by omega))
  obtain ⟨⟨a10, a11, a12⟩, b10, b11, b12⟩ := HX.out _ hc1
  clear hn
  go_wp2_with fail
  refine (hB1 _).mono ?_
  rintro e w2 ⟨rfl, hn⟩
  have hc2 := hc1.trans (hn.mono (B' := w.heap.size + 2) (by have := hc1.size; simp at this; omega))
  have hbw2 := hb0.trans (hc2.mono (by omega))
  obtain ⟨⟨a20, a21, a22⟩, b20, b21, b22⟩ := HX.out _ hc2
  clear hn a10 a11 a12 b10 b11 b12 hc1 hbw1
  go_wp2_with fail
  refine (hB2 _).mono ?_
  rintro e w3 ⟨rfl, hn⟩
  have hc3 := hc2.trans (hn.mono (B' := w.heap.size + 2) (by have := hc2.size; simp at this; omega))
  have hbw3 := hb0.trans (hc3.mono (by omega))
  obtain ⟨⟨a30, a31, a32⟩, b30, b31, b32⟩ := HX.out _ hc3
  clear hn a20 a21 a22 b20 b21 b22 hc2 hbw2
  go_wp2_with fail
  refine (hC1 _).mono ?_
  rintro e w4 ⟨rfl, hn⟩
  have hc4 := hc3.trans (hn.mono (B' := w.heap.size + 2) (by have := hc3.size; simp at this; omega))
  have hbw4 := hb0.trans (hc4.mono (by omega))
  obtain ⟨⟨a40, a41, a42⟩, b40, b41, b42⟩ := HX.out _ hc4
  clear hn a30 a31 a32 b30 b31 b32 hc3 hbw3
  go_wp2_with fail
  refine (hC2 _).mono ?_
  rintro e w5 ⟨rfl, hn⟩
  have hc5 := hc4.trans (hn.mono (B' := w.heap.size + 2) (by have := hc4.size; simp at this; omega))
  have hbw5 := hb0.trans (hc5.mono (by omega))
  obtain ⟨⟨a50, a51, a52⟩, b50, b51, b52⟩ := HX.out _ hc5
  clear hn a40 a41 a42 b40 b41 b42 hc4 hbw4
  go_wp2_with fail
  refine (hP _ (HG.out _ hbw5)).mono ?_
  rintro e w6 ⟨rfl, hn⟩
  have hc6 := hc5.trans (hn.mono (B' := w.heap.size + 2) (by have := hc5.size; simp at this; omega))
  have hbw6 := hb0.trans (hc6.mono (by omega))
  obtain ⟨⟨a60, a61, a62⟩, b60, b61, b62⟩ := HX.out _ hc6
  clear hn a50 a51 a52 b50 b51 b52 hc5 hbw5
  go_wp2_with fail
  refine (hQ _ (HG.out _ hbw6)).mono ?_
  rintro e w7 ⟨rfl, hn⟩
  have hc7 := hc6.trans (hn.mono (B' := w.heap.size + 2) (by have := hc6.size; simp at this; omega))
  have hbw7 := hb0.trans (hc7.mono (by omega))
  obtain ⟨⟨a70, a71, a72⟩, b70, b71, b72⟩ := HX.out _ hc7
  clear hn a60 a61 a62 b60 b61 b62 hc6 hbw6
  go_wp2_with fail
  refine (hR _ (HG.out _ hbw7)).mono ?_
  rintro e w8 ⟨rfl, hn⟩
  have hc8 := (hc7.trans (hn.mono (B' := w.heap.size + 2) (by have := hc7.size; simp at this; omega))).alloc (by have := hc7.size; have := hn.size; simp at *; omega) (.cells #[.string s1, .int .i64 v1, .string r1] 23)
  have hbw8 := hb0.trans (hc8.mono (by omega))
  obtain ⟨⟨a80, a81, a82⟩, b80, b81, b82⟩ := HX.out _ hc8
  obtain ⟨m0, m1, m2⟩ := Box.new w8 s1 v1 r1
  clear hn a70 a71 a72 b70 b71 b72 hc7 hbw7
  go_wp2_with fail
  refine (hM _ (HG.out _ hbw8)).mono ?_
  rintro e w10 ⟨rfl, hn⟩
  have hs10 : w.heap.size + 2 ≤ w10.heap.size := by have := hc8.size; have := hn.size; simp at *; omega
  have hc10 := (hc8.trans (hn.mono (B' := w.heap.size + 2) (by have := hc8.size; simp at *; omega))).alloc hs10 (.cells #[.string s1, .int .i64 v1, .string r1] 23)
  have hbw10 := hb0.trans (hc10.mono (by omega))
  obtain ⟨⟨a100, a101, a102⟩, b100, b101, b102⟩ := HX.out _ hc10
  obtain ⟨m100, m101, m102⟩ := Box.new w10 s1 v1 r1
  clear hn a80 a81 a82 b80 b81 b82 hc8 hbw8 m0 m1 m2
  go_wp2_with fail
  refine (hH _ (HG.out _ hbw10)).mono ?_
  rintro e w11 ⟨rfl, hn⟩
  have hs11 : w.heap.size + 2 ≤ w11.heap.size := by have := hc10.size; have := hn.size; simp at *; omega
  have hc11 := (hc10.trans (hn.mono (B' := w.heap.size + 2) (by have := hc10.size; simp at *; omega))).alloc hs11 (.cells #[.string s1, .int .i64 v1, .string r1] 23)
  have hbw11 := hb0.trans (hc11.mono (by omega))
  obtain ⟨⟨a110, a111, a112⟩, b110, b111, b112⟩ := HX.out _ hc11
  obtain ⟨m110, m111, m112⟩ := Box.new w11 s1 v1 r1
  have hz11 : w10.heap.size + 1 ≤ w11.heap.size := by have := hn.size; simpa using this
  obtain ⟨k0, k1, k2⟩ : Box (w11.alloc (.cells #[.string s1, .int .i64 v1, .string r1] 23)) w10.heap.size s1 v1 r1 := ((Box.new w10 s1 v1 r1).below hn (by simp)).below ((Below.refl (w10.heap.size + 1) _).alloc hz11 _) (by omega)
  clear hn a100 a101 a102 b100 b101 b102 hc10 hbw10 m100 m101 m102
  go_wp2
  go_ret
  exact ⟨rfl, hbw11⟩
set_option maxHeartbeats 4000000 in
theorem reads_ge1 (s1 r1 s2 r2 : ByteArray) (v1 v2 : Int) (w : World) (ht : Tabs w) (hG : Gd w) (p q : ByteArray) (hB1 : ∀ w, Calls Tryz.prog 6 #[.agg #[.string s1, .int .i64 v1, .string r1]] w (RetPost (.bool true) w)) (hB2 : ∀ w, Calls Tryz.prog 6 #[.agg #[.string s2, .int .i64 v2, .string r2]] w (RetPost (.bool true) w)) (hC1 : ∀ w, Calls Tryz.prog 8 #[.agg #[.string s1, .int .i64 v1, .string r1]] w (RetPost (.int .i64 0) w)) (hC2 : ∀ w, Calls Tryz.prog 8 #[.agg #[.string s2, .int .i64 v2, .string r2]] w (RetPost (.int .i64 0) w))
    (hP : ∀ w, Gd w → Calls Tryz.prog 7 #[.agg #[.string s1, .int .i64 v1, .string r1]] w (RetPost (.tuple #[.string p, .int .i64 0]) w)) (hQ : ∀ w, Gd w → Calls Tryz.prog 7 #[.agg #[.string s2, .int .i64 v2, .string r2]] w (RetPost (.tuple #[.string q, .int .i64 0]) w))
    (hR : ∀ w, Gd w → Calls Tryz.prog 10 #[.string p] w (RetPost (.tuple #[.agg #[.string s1, .int .i64 v1, .string r1], .int .i64 0]) w)) (z1 : 1 ≤ (p.size : Int)) (z2 : (p.size : Int) ≤ 16)
    (bb : Bool) (hbb : (p.toList == q.toList) = bb) (hE : ∀ W, (Op.equalIn 10000 23 (.agg #[.string s1, .int .i64 v1, .string r1]) (.agg #[.string s2, .int .i64 v2, .string r2])).run Tryz.prog W = .ok bb W) (hk : (s1.toList == [116, 105, 109, 101]) = true) (hv0 : 1 ≤ v1) (hv1 : v1 ≤ 863999999) (h100 : (v1 % 100 == 0) = true)
    (hL : ∀ w, Gd w → Calls Tryz.prog 10 #[.string (p ++ ⟨#[48, 48]⟩)] w (RetPost (.tuple #[.agg #[.string s1, .int .i64 v1, .string r1], .int .i64 0]) w)) (hr : 600000 ≤ v1) :
    Calls Tryz.prog 4 #[.agg #[.string s1, .int .i64 v1, .string r1], .agg #[.string s2, .int .i64 v2, .string r2]] w (Yes w) := by
  have hbA := (Below.refl w.heap.size w).alloc (Nat.le_refl _) (.cells #[.string s1, .int .i64 v1, .string r1] 23)
  have hb0 := hbA.alloc hbA.size (.cells #[.string s2, .int .i64 v2, .string r2] 23)
  have HX : Hid (∀ W, Below (w.heap.size + 2) ((w.alloc (.cells #[.string s1, .int .i64 v1, .string r1] 23)).alloc (.cells #[.string s2, .int .i64 v2, .string r2] 23)) W → Box W w.heap.size s1 v1 r1 ∧ Box W (w.heap.size + 1) s2 v2 r2) := Lib.hid fun W hb => ⟨((Box.new w s1 v1 r1).below ((Below.refl (w.heap.size + 1) _).alloc (by simp) _) (by omega)).below hb (by omega), (Box.new' _ _ s2 v2 r2 (by simp)).below hb (by omega)⟩
  have hA := fun W (hb : Below w.heap.size w W) => aw W (ht.grow hb)
  clear hbA ht
  have hz0 : ((p.size : Int) == 0) = false := by rw [beq_eq_false_iff_ne]; omega
  have hpe : ¬ p = ByteArray.empty := fun e => by rw [e] at z1; exact absurd z1 (by decide)
  have z2' : ¬ (16 : Int) < p.size := by omega
  have HG : Hid (∀ W, Below w.heap.size w W → Gd W) := Lib.hid fun W hb => hG.below hb (Nat.le_refl _)
  clear hG
  go_enter Tryz.func4, Tryz.ntmps4
  go_wp2_with fail
  refine (hA _ hb0).mono ?_
  rintro e w1 ⟨rfl, hn⟩
  have hc1 := (Below.refl (w.heap.size + 2) _).trans (hn.mono (B' := w.heap.size + 2) (by simp))
  have hbw1 := hb0.trans (hc1.mono (by omega))
  obtain ⟨⟨a10, a11, a12⟩, b10, b11, b12⟩ := HX.out _ hc1
  clear hn
  go_wp2_with fail
  refine (hB1 _).mono ?_
  rintro e w2 ⟨rfl, hn⟩
  have hc2 := hc1.trans (hn.mono (B' := w.heap.size + 2) (by have := hc1.size; simp at this; omega))
  have hbw2 := hb0.trans (hc2.mono (by omega))
  obtain ⟨⟨a20, a21, a22⟩, b20, b21, b22⟩ := HX.out _ hc2
  clear hn a10 a11 a12 b10 b11 b12 hc1 hbw1
  go_wp2_with fail
  refine (hB2 _).mono ?_
  rintro e w3 ⟨rfl, hn⟩
  have hc3 := hc2.trans (hn.mono (B' := w.heap.size + 2) (by have := hc2.size; simp at this; omega))
  have hbw3 := hb0.trans (hc3.mono (by omega))
  obtain ⟨⟨a30, a31, a32⟩, b30, b31, b32⟩ := HX.out _ hc3
  clear hn a20 a21 a22 b20 b21 b22 hc2 hbw2
  go_wp2_with fail
  refine (hC1 _).mono ?_
  rintro e w4 ⟨rfl, hn⟩
  have hc4 := hc3.trans (hn.mono (B' := w.heap.size + 2) (by have := hc3.size; simp at this; omega))
  have hbw4 := hb0.trans (hc4.mono (by omega))
  obtain ⟨⟨a40, a41, a42⟩, b40, b41, b42⟩ := HX.out _ hc4
  clear hn a30 a31 a32 b30 b31 b32 hc3 hbw3
  go_wp2_with fail
  refine (hC2 _).mono ?_
  rintro e w5 ⟨rfl, hn⟩
  have hc5 := hc4.trans (hn.mono (B' := w.heap.size + 2) (by have := hc4.size; simp at this; omega))
  have hbw5 := hb0.trans (hc5.mono (by omega))
  obtain ⟨⟨a50, a51, a52⟩, b50, b51, b52⟩ := HX.out _ hc5
  clear hn a40 a41 a42 b40 b41 b42 hc4 hbw4
  go_wp2_with fail
  refine (hP _ (HG.out _ hbw5)).mono ?_
  rintro e w6 ⟨rfl, hn⟩
  have hc6 := hc5.trans (hn.mono (B' := w.heap.size + 2) (by have := hc5.size; simp at this; omega))
  have hbw6 := hb0.trans (hc6.mono (by omega))
  obtain ⟨⟨a60, a61, a62⟩, b60, b61, b62⟩ := HX.out _ hc6
  clear hn a50 a51 a52 b50 b51 b52 hc5 hbw5
  go_wp2_with fail
  refine (hQ _ (HG.out _ hbw6)).mono ?_
  rintro e w7 ⟨rfl, hn⟩
  have hc7 := hc6.trans (hn.mono (B' := w.heap.size + 2) (by have := hc6.size; simp at this; omega))
  have hbw7 := hb0.trans (hc7.mono (by omega))
  obtain ⟨⟨a70, a71, a72⟩, b70, b71, b72⟩ := HX.out _ hc7
  clear hn a60 a61 a62 b60 b61 b62 hc6 hbw6
  go_wp2_with fail
  refine (hR _ (HG.out _ hbw7)).mono ?_
  rintro e w8 ⟨rfl, hn⟩
  have hc8 := (hc7.trans (hn.mono (B' := w.heap.size + 2) (by have := hc7.size; simp at this; omega))).alloc (by have := hc7.size; have := hn.size; simp at *; omega) (.cells #[.string s1, .int .i64 v1, .string r1] 23)
  have hbw8 := hb0.trans (hc8.mono (by omega))
  obtain ⟨⟨a80, a81, a82⟩, b80, b81, b82⟩ := HX.out _ hc8
  obtain ⟨m0, m1, m2⟩ := Box.new w8 s1 v1 r1
  clear hn a70 a71 a72 b70 b71 b72 hc7 hbw7
  go_wp2_with fail
  refine (hL _ (HG.out _ hbw8)).mono ?_
  rintro e w9 ⟨rfl, hn⟩
  have hs9 : w.heap.size + 2 ≤ w9.heap.size := by have := hc8.size; have := hn.size; simp at *; omega
  have hc9 := (hc8.trans (hn.mono (B' := w.heap.size + 2) (by have := hc8.size; simp at *; omega))).alloc hs9 (.cells #[.string s1, .int .i64 v1, .string r1] 23)
  have hbw9 := hb0.trans (hc9.mono (by omega))
  obtain ⟨⟨a90, a91, a92⟩, b90, b91, b92⟩ := HX.out _ hc9
  obtain ⟨m90, m91, m92⟩ := Box.new w9 s1 v1 r1
  clear hn a80 a81 a82 b80 b81 b82 hc8 hbw8 m0 m1 m2
  go_wp2
  go_ret
  exact ⟨rfl, hbw9⟩
set_option maxHeartbeats 4000000 in
theorem reads_lt1 (s1 r1 s2 r2 : ByteArray) (v1 v2 : Int) (w : World) (ht : Tabs w) (hG : Gd w) (p q : ByteArray) (hB1 : ∀ w, Calls Tryz.prog 6 #[.agg #[.string s1, .int .i64 v1, .string r1]] w (RetPost (.bool true) w)) (hB2 : ∀ w, Calls Tryz.prog 6 #[.agg #[.string s2, .int .i64 v2, .string r2]] w (RetPost (.bool true) w)) (hC1 : ∀ w, Calls Tryz.prog 8 #[.agg #[.string s1, .int .i64 v1, .string r1]] w (RetPost (.int .i64 0) w)) (hC2 : ∀ w, Calls Tryz.prog 8 #[.agg #[.string s2, .int .i64 v2, .string r2]] w (RetPost (.int .i64 0) w))
    (hP : ∀ w, Gd w → Calls Tryz.prog 7 #[.agg #[.string s1, .int .i64 v1, .string r1]] w (RetPost (.tuple #[.string p, .int .i64 0]) w)) (hQ : ∀ w, Gd w → Calls Tryz.prog 7 #[.agg #[.string s2, .int .i64 v2, .string r2]] w (RetPost (.tuple #[.string q, .int .i64 0]) w))
    (hR : ∀ w, Gd w → Calls Tryz.prog 10 #[.string p] w (RetPost (.tuple #[.agg #[.string s1, .int .i64 v1, .string r1], .int .i64 0]) w)) (z1 : 1 ≤ (p.size : Int)) (z2 : (p.size : Int) ≤ 16)
    (bb : Bool) (hbb : (p.toList == q.toList) = bb) (hE : ∀ W, (Op.equalIn 10000 23 (.agg #[.string s1, .int .i64 v1, .string r1]) (.agg #[.string s2, .int .i64 v2, .string r2])).run Tryz.prog W = .ok bb W) (hk : (s1.toList == [116, 105, 109, 101]) = true) (hv0 : 1 ≤ v1) (hv1 : v1 ≤ 863999999) (h100 : (v1 % 100 == 0) = true)
    (hL : ∀ w, Gd w → Calls Tryz.prog 10 #[.string (p ++ ⟨#[48, 48]⟩)] w (RetPost (.tuple #[.agg #[.string s1, .int .i64 v1, .string r1], .int .i64 0]) w)) (hr : v1 < 100000) :
    Calls Tryz.prog 4 #[.agg #[.string s1, .int .i64 v1, .string r1], .agg #[.string s2, .int .i64 v2, .string r2]] w (Yes w) := by
  have hbA := (Below.refl w.heap.size w).alloc (Nat.le_refl _) (.cells #[.string s1, .int .i64 v1, .string r1] 23)
  have hb0 := hbA.alloc hbA.size (.cells #[.string s2, .int .i64 v2, .string r2] 23)
  have HX : Hid (∀ W, Below (w.heap.size + 2) ((w.alloc (.cells #[.string s1, .int .i64 v1, .string r1] 23)).alloc (.cells #[.string s2, .int .i64 v2, .string r2] 23)) W → Box W w.heap.size s1 v1 r1 ∧ Box W (w.heap.size + 1) s2 v2 r2) := Lib.hid fun W hb => ⟨((Box.new w s1 v1 r1).below ((Below.refl (w.heap.size + 1) _).alloc (by simp) _) (by omega)).below hb (by omega), (Box.new' _ _ s2 v2 r2 (by simp)).below hb (by omega)⟩
  have hA := fun W (hb : Below w.heap.size w W) => aw W (ht.grow hb)
  clear hbA ht
  have hz0 : ((p.size : Int) == 0) = false := by rw [beq_eq_false_iff_ne]; omega
  have hpe : ¬ p = ByteArray.empty := fun e => by rw [e] at z1; exact absurd z1 (by decide)
  have z2' : ¬ (16 : Int) < p.size := by omega
  have HG : Hid (∀ W, Below w.heap.size w W → Gd W) := Lib.hid fun W hb => hG.below hb (Nat.le_refl _)
  clear hG
  go_enter Tryz.func4, Tryz.ntmps4
  go_wp2_with fail
  refine (hA _ hb0).mono ?_
  rintro e w1 ⟨rfl, hn⟩
  have hc1 := (Below.refl (w.heap.size + 2) _).trans (hn.mono (B' := w.heap.size + 2) (by simp))
  have hbw1 := hb0.trans (hc1.mono (by omega))
  obtain ⟨⟨a10, a11, a12⟩, b10, b11, b12⟩ := HX.out _ hc1
  clear hn
  go_wp2_with fail
  refine (hB1 _).mono ?_
  rintro e w2 ⟨rfl, hn⟩
  have hc2 := hc1.trans (hn.mono (B' := w.heap.size + 2) (by have := hc1.size; simp at this; omega))
  have hbw2 := hb0.trans (hc2.mono (by omega))
  obtain ⟨⟨a20, a21, a22⟩, b20, b21, b22⟩ := HX.out _ hc2
  clear hn a10 a11 a12 b10 b11 b12 hc1 hbw1
  go_wp2_with fail
  refine (hB2 _).mono ?_
  rintro e w3 ⟨rfl, hn⟩
  have hc3 := hc2.trans (hn.mono (B' := w.heap.size + 2) (by have := hc2.size; simp at this; omega))
  have hbw3 := hb0.trans (hc3.mono (by omega))
  obtain ⟨⟨a30, a31, a32⟩, b30, b31, b32⟩ := HX.out _ hc3
  clear hn a20 a21 a22 b20 b21 b22 hc2 hbw2
  go_wp2_with fail
  refine (hC1 _).mono ?_
  rintro e w4 ⟨rfl, hn⟩
  have hc4 := hc3.trans (hn.mono (B' := w.heap.size + 2) (by have := hc3.size; simp at this; omega))
  have hbw4 := hb0.trans (hc4.mono (by omega))
  obtain ⟨⟨a40, a41, a42⟩, b40, b41, b42⟩ := HX.out _ hc4
  clear hn a30 a31 a32 b30 b31 b32 hc3 hbw3
  go_wp2_with fail
  refine (hC2 _).mono ?_
  rintro e w5 ⟨rfl, hn⟩
  have hc5 := hc4.trans (hn.mono (B' := w.heap.size + 2) (by have := hc4.size; simp at this; omega))
  have hbw5 := hb0.trans (hc5.mono (by omega))
  obtain ⟨⟨a50, a51, a52⟩, b50, b51, b52⟩ := HX.out _ hc5
  clear hn a40 a41 a42 b40 b41 b42 hc4 hbw4
  go_wp2_with fail
  refine (hP _ (HG.out _ hbw5)).mono ?_
  rintro e w6 ⟨rfl, hn⟩
  have hc6 := hc5.trans (hn.mono (B' := w.heap.size + 2) (by have := hc5.size; simp at this; omega))
  have hbw6 := hb0.trans (hc6.mono (by omega))
  obtain ⟨⟨a60, a61, a62⟩, b60, b61, b62⟩ := HX.out _ hc6
  clear hn a50 a51 a52 b50 b51 b52 hc5 hbw5
  go_wp2_with fail
  refine (hQ _ (HG.out _ hbw6)).mono ?_
  rintro e w7 ⟨rfl, hn⟩
  have hc7 := hc6.trans (hn.mono (B' := w.heap.size + 2) (by have := hc6.size; simp at this; omega))
  have hbw7 := hb0.trans (hc7.mono (by omega))
  obtain ⟨⟨a70, a71, a72⟩, b70, b71, b72⟩ := HX.out _ hc7
  clear hn a60 a61 a62 b60 b61 b62 hc6 hbw6
  go_wp2_with fail
  refine (hR _ (HG.out _ hbw7)).mono ?_
  rintro e w8 ⟨rfl, hn⟩
  have hc8 := (hc7.trans (hn.mono (B' := w.heap.size + 2) (by have := hc7.size; simp at this; omega))).alloc (by have := hc7.size; have := hn.size; simp at *; omega) (.cells #[.string s1, .int .i64 v1, .string r1] 23)
  have hbw8 := hb0.trans (hc8.mono (by omega))
  obtain ⟨⟨a80, a81, a82⟩, b80, b81, b82⟩ := HX.out _ hc8
  obtain ⟨m0, m1, m2⟩ := Box.new w8 s1 v1 r1
  clear hn a70 a71 a72 b70 b71 b72 hc7 hbw7
  go_wp2_with fail
  refine (hL _ (HG.out _ hbw8)).mono ?_
  rintro e w9 ⟨rfl, hn⟩
  have hs9 : w.heap.size + 2 ≤ w9.heap.size := by have := hc8.size; have := hn.size; simp at *; omega
  have hc9 := (hc8.trans (hn.mono (B' := w.heap.size + 2) (by have := hc8.size; simp at *; omega))).alloc hs9 (.cells #[.string s1, .int .i64 v1, .string r1] 23)
  have hbw9 := hb0.trans (hc9.mono (by omega))
  obtain ⟨⟨a90, a91, a92⟩, b90, b91, b92⟩ := HX.out _ hc9
  obtain ⟨m90, m91, m92⟩ := Box.new w9 s1 v1 r1
  clear hn a80 a81 a82 b80 b81 b82 hc8 hbw8 m0 m1 m2
  go_wp2
  go_ret
  exact ⟨rfl, hbw9⟩
set_option maxHeartbeats 4000000 in
theorem reads_mid1 (s1 r1 s2 r2 : ByteArray) (v1 v2 : Int) (w : World) (ht : Tabs w) (hG : Gd w) (p q : ByteArray) (hB1 : ∀ w, Calls Tryz.prog 6 #[.agg #[.string s1, .int .i64 v1, .string r1]] w (RetPost (.bool true) w)) (hB2 : ∀ w, Calls Tryz.prog 6 #[.agg #[.string s2, .int .i64 v2, .string r2]] w (RetPost (.bool true) w)) (hC1 : ∀ w, Calls Tryz.prog 8 #[.agg #[.string s1, .int .i64 v1, .string r1]] w (RetPost (.int .i64 0) w)) (hC2 : ∀ w, Calls Tryz.prog 8 #[.agg #[.string s2, .int .i64 v2, .string r2]] w (RetPost (.int .i64 0) w))
    (hP : ∀ w, Gd w → Calls Tryz.prog 7 #[.agg #[.string s1, .int .i64 v1, .string r1]] w (RetPost (.tuple #[.string p, .int .i64 0]) w)) (hQ : ∀ w, Gd w → Calls Tryz.prog 7 #[.agg #[.string s2, .int .i64 v2, .string r2]] w (RetPost (.tuple #[.string q, .int .i64 0]) w))
    (hR : ∀ w, Gd w → Calls Tryz.prog 10 #[.string p] w (RetPost (.tuple #[.agg #[.string s1, .int .i64 v1, .string r1], .int .i64 0]) w)) (z1 : 1 ≤ (p.size : Int)) (z2 : (p.size : Int) ≤ 16)
    (bb : Bool) (hbb : (p.toList == q.toList) = bb) (hE : ∀ W, (Op.equalIn 10000 23 (.agg #[.string s1, .int .i64 v1, .string r1]) (.agg #[.string s2, .int .i64 v2, .string r2])).run Tryz.prog W = .ok bb W) (hk : (s1.toList == [116, 105, 109, 101]) = true) (hv0 : 1 ≤ v1) (hv1 : v1 ≤ 863999999) (h100 : (v1 % 100 == 0) = true)
    (hL : ∀ w, Gd w → Calls Tryz.prog 10 #[.string (p ++ ⟨#[48, 48]⟩)] w (RetPost (.tuple #[.agg #[.string s1, .int .i64 v1, .string r1], .int .i64 0]) w))
    (hr : 100000 ≤ v1) (hr2 : v1 < 600000) (hM : ∀ w, Gd w → Calls Tryz.prog 10 #[.string (⟨#[48, 58]⟩ ++ p)] w (RetPost (.tuple #[.agg #[.string s1, .int .i64 v1, .string r1], .int .i64 0]) w))
    (hH : ∀ w, Gd w → Calls Tryz.prog 10 #[.string (⟨#[48, 58, 48, 48, 58]⟩ ++ p)] w (RetPost (.tuple #[.agg #[.string s1, .int .i64 v1, .string r1], .int .i64 0]) w)) :
    Calls Tryz.prog 4 #[.agg #[.string s1, .int .i64 v1, .string r1], .agg #[.string s2, .int .i64 v2, .string r2]] w (Yes w) := by
  have hbA := (Below.refl w.heap.size w).alloc (Nat.le_refl _) (.cells #[.string s1, .int .i64 v1, .string r1] 23)
  have hb0 := hbA.alloc hbA.size (.cells #[.string s2, .int .i64 v2, .string r2] 23)
  have HX : Hid (∀ W, Below (w.heap.size + 2) ((w.alloc (.cells #[.string s1, .int .i64 v1, .string r1] 23)).alloc (.cells #[.string s2, .int .i64 v2, .string r2] 23)) W → Box W w.heap.size s1 v1 r1 ∧ Box W (w.heap.size + 1) s2 v2 r2) := Lib.hid fun W hb => ⟨((Box.new w s1 v1 r1).below ((Below.refl (w.heap.size + 1) _).alloc (by simp) _) (by omega)).below hb (by omega), (Box.new' _ _ s2 v2 r2 (by simp)).below hb (by omega)⟩
  have hA := fun W (hb : Below w.heap.size w W) => aw W (ht.grow hb)
  clear hbA ht
  have hz0 : ((p.size : Int) == 0) = false := by rw [beq_eq_false_iff_ne]; omega
  have hpe : ¬ p = ByteArray.empty := fun e => by rw [e] at z1; exact absurd z1 (by decide)
  have z2' : ¬ (16 : Int) < p.size := by omega
  have HG : Hid (∀ W, Below w.heap.size w W → Gd W) := Lib.hid fun W hb => hG.below hb (Nat.le_refl _)
  clear hG
  go_enter Tryz.func4, Tryz.ntmps4
  go_wp2_with fail
  refine (hA _ hb0).mono ?_
  rintro e w1 ⟨rfl, hn⟩
  have hc1 := (Below.refl (w.heap.size + 2) _).trans (hn.mono (B' := w.heap.size + 2) (by simp))
  have hbw1 := hb0.trans (hc1.mono (by omega))
  obtain ⟨⟨a10, a11, a12⟩, b10, b11, b12⟩ := HX.out _ hc1
  clear hn
  go_wp2_with fail
  refine (hB1 _).mono ?_
  rintro e w2 ⟨rfl, hn⟩
  have hc2 := hc1.trans (hn.mono (B' := w.heap.size + 2) (by have := hc1.size; simp at this; omega))
  have hbw2 := hb0.trans (hc2.mono (by omega))
  obtain ⟨⟨a20, a21, a22⟩, b20, b21, b22⟩ := HX.out _ hc2
  clear hn a10 a11 a12 b10 b11 b12 hc1 hbw1
  go_wp2_with fail
  refine (hB2 _).mono ?_
  rintro e w3 ⟨rfl, hn⟩
  have hc3 := hc2.trans (hn.mono (B' := w.heap.size + 2) (by have := hc2.size; simp at this; omega))
  have hbw3 := hb0.trans (hc3.mono (by omega))
  obtain ⟨⟨a30, a31, a32⟩, b30, b31, b32⟩ := HX.out _ hc3
  clear hn a20 a21 a22 b20 b21 b22 hc2 hbw2
  go_wp2_with fail
  refine (hC1 _).mono ?_
  rintro e w4 ⟨rfl, hn⟩
  have hc4 := hc3.trans (hn.mono (B' := w.heap.size + 2) (by have := hc3.size; simp at this; omega))
  have hbw4 := hb0.trans (hc4.mono (by omega))
  obtain ⟨⟨a40, a41, a42⟩, b40, b41, b42⟩ := HX.out _ hc4
  clear hn a30 a31 a32 b30 b31 b32 hc3 hbw3
  go_wp2_with fail
  refine (hC2 _).mono ?_
  rintro e w5 ⟨rfl, hn⟩
  have hc5 := hc4.trans (hn.mono (B' := w.heap.size + 2) (by have := hc4.size; simp at this; omega))
  have hbw5 := hb0.trans (hc5.mono (by omega))
  obtain ⟨⟨a50, a51, a52⟩, b50, b51, b52⟩ := HX.out _ hc5
  clear hn a40 a41 a42 b40 b41 b42 hc4 hbw4
  go_wp2_with fail
  refine (hP _ (HG.out _ hbw5)).mono ?_
  rintro e w6 ⟨rfl, hn⟩
  have hc6 := hc5.trans (hn.mono (B' := w.heap.size + 2) (by have := hc5.size; simp at this; omega))
  have hbw6 := hb0.trans (hc6.mono (by omega))
  obtain ⟨⟨a60, a61, a62⟩, b60, b61, b62⟩ := HX.out _ hc6
  clear hn a50 a51 a52 b50 b51 b52 hc5 hbw5
  go_wp2_with fail
  refine (hQ _ (HG.out _ hbw6)).mono ?_
  rintro e w7 ⟨rfl, hn⟩
  have hc7 := hc6.trans (hn.mono (B' := w.heap.size + 2) (by have := hc6.size; simp at this; omega))
  have hbw7 := hb0.trans (hc7.mono (by omega))
  obtain ⟨⟨a70, a71, a72⟩, b70, b71, b72⟩ := HX.out _ hc7
  clear hn a60 a61 a62 b60 b61 b62 hc6 hbw6
  go_wp2_with fail
  refine (hR _ (HG.out _ hbw7)).mono ?_
  rintro e w8 ⟨rfl, hn⟩
  have hc8 := (hc7.trans (hn.mono (B' := w.heap.size + 2) (by have := hc7.size; simp at this; omega))).alloc (by have := hc7.size; have := hn.size; simp at *; omega) (.cells #[.string s1, .int .i64 v1, .string r1] 23)
  have hbw8 := hb0.trans (hc8.mono (by omega))
  obtain ⟨⟨a80, a81, a82⟩, b80, b81, b82⟩ := HX.out _ hc8
  obtain ⟨m0, m1, m2⟩ := Box.new w8 s1 v1 r1
  clear hn a70 a71 a72 b70 b71 b72 hc7 hbw7
  go_wp2_with fail
  refine (hL _ (HG.out _ hbw8)).mono ?_
  rintro e w9 ⟨rfl, hn⟩
  have hs9 : w.heap.size + 2 ≤ w9.heap.size := by have := hc8.size; have := hn.size; simp at *; omega
  have hc9 := (hc8.trans (hn.mono (B' := w.heap.size + 2) (by have := hc8.size; simp at *; omega))).alloc hs9 (.cells #[.string s1, .int .i64 v1, .string r1] 23)
  have hbw9 := hb0.trans (hc9.mono (by omega))
  obtain ⟨⟨a90, a91, a92⟩, b90, b91, b92⟩ := HX.out _ hc9
  obtain ⟨m90, m91, m92⟩ := Box.new w9 s1 v1 r1
  clear hn a80 a81 a82 b80 b81 b82 hc8 hbw8 m0 m1 m2
  go_wp2_with fail
  refine (hM _ (HG.out _ hbw9)).mono ?_
  rintro e w10 ⟨rfl, hn⟩
  have hs10 : w.heap.size + 2 ≤ w10.heap.size := by have := hc9.size; have := hn.size; simp at *; omega
  have hc10 := (hc9.trans (hn.mono (B' := w.heap.size + 2) (by have := hc9.size; simp at *; omega))).alloc hs10 (.cells #[.string s1, .int .i64 v1, .string r1] 23)
  have hbw10 := hb0.trans (hc10.mono (by omega))
  obtain ⟨⟨a100, a101, a102⟩, b100, b101, b102⟩ := HX.out _ hc10
  obtain ⟨m100, m101, m102⟩ := Box.new w10 s1 v1 r1
  clear hn a90 a91 a92 b90 b91 b92 hc9 hbw9 m90 m91 m92
  go_wp2_with fail
  refine (hH _ (HG.out _ hbw10)).mono ?_
  rintro e w11 ⟨rfl, hn⟩
  have hs11 : w.heap.size + 2 ≤ w11.heap.size := by have := hc10.size; have := hn.size; simp at *; omega
  have hc11 := (hc10.trans (hn.mono (B' := w.heap.size + 2) (by have := hc10.size; simp at *; omega))).alloc hs11 (.cells #[.string s1, .int .i64 v1, .string r1] 23)
  have hbw11 := hb0.trans (hc11.mono (by omega))
  obtain ⟨⟨a110, a111, a112⟩, b110, b111, b112⟩ := HX.out _ hc11
  obtain ⟨m110, m111, m112⟩ := Box.new w11 s1 v1 r1
  have hz11 : w10.heap.size + 1 ≤ w11.heap.size := by have := hn.size; simpa using this
  obtain ⟨k0, k1, k2⟩ : Box (w11.alloc (.cells #[.string s1, .int .i64 v1, .string r1] 23)) w10.heap.size s1 v1 r1 := ((Box.new w10 s1 v1 r1).below hn (by simp)).below ((Below.refl (w10.heap.size + 1) _).alloc hz11 _) (by omega)
  clear hn a100 a101 a102 b100 b101 b102 hc10 hbw10 m100 m101 m102
  go_wp2
  go_ret
  exact ⟨rfl, hbw11⟩
end Go.Mk
end
section
set_option linter.unusedVariables false
set_option linter.unusedSimpArgs false
open Go Go.Proofs Go.RowKit Go.Sort
set_option maxRecDepth 100000
namespace Go.Mk
theorem parse_text (s r t : ByteArray) (v : Int) (hz : t.size ≤ 60) (h : refP t = ⟨s, v, r, 0⟩) (w : World) (hG : Gd w) : Calls Tryz.prog 10 #[.string t] w (RetPost (.tuple #[.agg #[.string s, .int .i64 v, .string r], .int .i64 0]) w) := by
  have := Parse_any t hz w hG
  rw [h] at this
  exact this
theorem app_size (a b : ByteArray) : (a ++ b).size = a.size + b.size := ByteArray.size_append
theorem reads_any (s1 r1 s2 r2 : ByteArray) (v1 v2 : Int) (w : World) (ht : Tabs w) (hG : Gd w) (z1 : s1.size ≤ maxLen) (z2 : r1.size ≤ maxLen) (z3 : s2.size ≤ maxLen) (z4 : r2.size ≤ maxLen) :
    Calls Tryz.prog 4 #[.agg #[.string s1, .int .i64 v1, .string r1], .agg #[.string s2, .int .i64 v2, .string r2]] w (Yes w) := by
  have hB1 := fun w => Brief_any s1 r1 v1 w z1 z2
  have hB2 := fun w => Brief_any s2 r2 v2 w z3 z4
  have hC1 := refCheckMark_any s1 r1 v1
  have hC2 := refCheckMark_any s2 r2 v2
  cases x1 : brief s1 r1 with
  | false => rw [x1] at hB1; exact reads_exit1 s1 r1 s2 r2 v1 v2 w ht hB1
  | true =>
  rw [x1] at hB1
  cases x2 : brief s2 r2 with
  | false => rw [x2] at hB2; exact reads_exit2 s1 r1 s2 r2 v1 v2 w ht hB1 hB2
  | true =>
  rw [x2] at hB2
  by_cases h1 : chk s1 v1 r1 = 0
  case neg => exact reads_exit3 s1 r1 s2 r2 v1 v2 w ht _ h1 hB1 hB2 hC1
  rw [h1] at hC1
  by_cases h2 : chk s2 v2 r2 = 0
  case neg => exact reads_exit4 s1 r1 s2 r2 v1 v2 w ht _ h2 hB1 hB2 hC1 hC2
  rw [h2] at hC2
  obtain ⟨e1, y1, y2⟩ := read_text s1 r1 v1 h1
  have hP : ∀ w, Gd w → Calls Tryz.prog 7 #[.agg #[.string s1, .int .i64 v1, .string r1]] w (RetPost (.tuple #[.string (textOf s1 v1 r1), .int .i64 0]) w) := fun w hG => by
    have := Print_any s1 r1 v1 w hG
    rwa [show printT s1 v1 r1 = textOf s1 v1 r1 from if_pos h1, h1] at this
  have hQ : ∀ w, Gd w → Calls Tryz.prog 7 #[.agg #[.string s2, .int .i64 v2, .string r2]] w (RetPost (.tuple #[.string (textOf s2 v2 r2), .int .i64 0]) w) := fun w hG => by
    have := Print_any s2 r2 v2 w hG
    rwa [show printT s2 v2 r2 = textOf s2 v2 r2 from if_pos h2, h2] at this
  have hR := fun w hG => parse_text s1 r1 (textOf s1 v1 r1) v1 (by omega) e1 w hG
  have hbb : ((textOf s1 v1 r1).toList == (textOf s2 v2 r2).toList) = decide (s1 = s2 ∧ v1 = v2 ∧ r1 = r2) := by
    have hi := text_inj s1 r1 s2 r2 v1 v2 h1 h2
    by_cases he : textOf s1 v1 r1 = textOf s2 v2 r2
    · rw [he, decide_eq_true (hi.1 he)]; simp
    · rw [tl_ne he, decide_eq_false (fun h => he (hi.2 h))]
  have hE := equal_mark s1 s2 r1 r2 v1 v2
  by_cases hk : s1 = sTime
  case neg => exact reads_kind s1 r1 s2 r2 v1 v2 w ht hG _ _ hB1 hB2 hC1 hC2 hP hQ hR (by omega) (by omega) _ hbb hE (by rw [time_beq]; exact decide_eq_false hk)
  have hkb : (s1.toList == [116, 105, 109, 101]) = true := by rw [time_beq]; exact decide_eq_true hk
  have hn : s1 ≠ sNone := by rw [hk]; decide
  have hv : 1 ≤ v1 ∧ v1 ≤ 863999999 := by
    rcases chk_cases s1 r1 v1 h1 with ⟨h0, _⟩ | ⟨_, _, a, b⟩ | ⟨_, h, _⟩ | ⟨_, h, _⟩
    · exact absurd h0 hn
    · exact ⟨a, b⟩
    · exact absurd hk h
    · exact absurd hk h
  have hr0 := chk_empty s1 r1 v1 hn h1
  have hT : textOf s1 v1 r1 = timeText v1.toNat := by unfold textOf; rw [if_neg hn, if_pos hk]
  have hvn : ((v1.toNat : Nat) : Int) = v1 := by omega
  have o2 : (⟨#[48, 48]⟩ : ByteArray).size = 2 := rfl
  have o3 : (⟨#[48, 58]⟩ : ByteArray).size = 2 := rfl
  have o4 : (⟨#[48, 58, 48, 48, 58]⟩ : ByteArray).size = 5 := rfl
  have hL : v1.toNat % 100 = 0 → ∀ w, Gd w → Calls Tryz.prog 10 #[.string (textOf s1 v1 r1 ++ ⟨#[48, 48]⟩)] w (RetPost (.tuple #[.agg #[.string s1, .int .i64 v1, .string r1], .int .i64 0]) w) := fun h w hG => by
    refine parse_text s1 r1 _ v1 (by rw [app_size, o2]; omega) ?_ w hG
    have := refP_longer v1.toNat (by omega) (by omega) h
    rw [hvn] at this
    rw [hT, this, hk, hr0]
  have hM : 100000 ≤ v1 → v1 < 600000 → ∀ w, Gd w → Calls Tryz.prog 10 #[.string (⟨#[48, 58]⟩ ++ textOf s1 v1 r1)] w (RetPost (.tuple #[.agg #[.string s1, .int .i64 v1, .string r1], .int .i64 0]) w) := fun g1 g2 w hG => by
    refine parse_text s1 r1 _ v1 (by rw [app_size, o3]; omega) ?_ w hG
    have := refP_minutes v1.toNat (by omega) (by omega)
    rw [hvn] at this
    rw [hT, this, hk, hr0]
  have hH : 100000 ≤ v1 → v1 < 600000 → ∀ w, Gd w → Calls Tryz.prog 10 #[.string (⟨#[48, 58, 48, 48, 58]⟩ ++ textOf s1 v1 r1)] w (RetPost (.tuple #[.agg #[.string s1, .int .i64 v1, .string r1], .int .i64 0]) w) := fun g1 g2 w hG => by
    refine parse_text s1 r1 _ v1 (by rw [app_size, o4]; omega) ?_ w hG
    have := refP_hours v1.toNat (by omega) (by omega)
    rw [hvn] at this
    rw [hT, this, hk, hr0]
  by_cases h100 : v1.toNat % 100 = 0
  · have hb : (v1 % 100 == 0) = true := by rw [beq_iff_eq]; omega
    by_cases g1 : 600000 ≤ v1
    · exact reads_ge1 s1 r1 s2 r2 v1 v2 w ht hG _ _ hB1 hB2 hC1 hC2 hP hQ hR (by omega) (by omega) _ hbb hE hkb hv.1 hv.2 hb (hL h100) g1
    · by_cases g2 : v1 < 100000
      · exact reads_lt1 s1 r1 s2 r2 v1 v2 w ht hG _ _ hB1 hB2 hC1 hC2 hP hQ hR (by omega) (by omega) _ hbb hE hkb hv.1 hv.2 hb (hL h100) g2
      · exact reads_mid1 s1 r1 s2 r2 v1 v2 w ht hG _ _ hB1 hB2 hC1 hC2 hP hQ hR (by omega) (by omega) _ hbb hE hkb hv.1 hv.2 hb (hL h100) (by omega) (by omega) (hM (by omega) (by omega)) (hH (by omega) (by omega))
  · have hb : (v1 % 100 == 0) = false := by rw [beq_eq_false_iff_ne]; omega
    by_cases g1 : 600000 ≤ v1
    · exact reads_ge0 s1 r1 s2 r2 v1 v2 w ht hG _ _ hB1 hB2 hC1 hC2 hP hQ hR (by omega) (by omega) _ hbb hE hkb hv.1 hv.2 hb g1
    · by_cases g2 : v1 < 100000
      · exact reads_lt0 s1 r1 s2 r2 v1 v2 w ht hG _ _ hB1 hB2 hC1 hC2 hP hQ hR (by omega) (by omega) _ hbb hE hkb hv.1 hv.2 hb g2
      · exact reads_mid0 s1 r1 s2 r2 v1 v2 w ht hG _ _ hB1 hB2 hC1 hC2 hP hQ hR (by omega) (by omega) _ hbb hE hkb hv.1 hv.2 hb (by omega) (by omega) (hM (by omega) (by omega)) (hH (by omega) (by omega))
end Go.Mk
end
