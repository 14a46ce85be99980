/-
  Proved: mark.Compare of two marks without an error. Condition: the heap holds the program's variables.
  Proved: mark.Compare of two marks of one kind. Condition: the heap holds the program's variables.
-/
import Derived.Test.YtccgahkoekcefaaGreatDoorCp
section
set_option linter.unusedVariables false
set_option linter.unusedSimpArgs false
open Go Go.Proofs Go.RowKit
set_option maxRecDepth 100000
namespace Go.Mk
set_option maxHeartbeats 1000000 in
theorem Compare_second (s1 r1 s2 r2 : ByteArray) (v1 v2 : Int) (w : World) (hg : 13 ≤ w.heap.size) (he : fst2 (chk s1 v1 r1) (chk s2 v2 r2) = 0) (h1 : (s1.toList == s2.toList) = false) (h2 : (s2.toList == [110, 111, 110, 101]) = true) :
    Calls Tryz.prog 56 #[.agg #[.string s1, .int .i64 v1, .string r1], .agg #[.string s2, .int .i64 v2, .string r2]] w (RetPost (.tuple #[.int .i64 (-1), .int .i64 0]) w) := by
  go_enter Tryz.func56, Tryz.ntmps56
  go_wp2_with fail
  refine (kinds_any _ (by simp; omega)).mono ?_
  rintro e w1 ⟨B, rfl, hB, hK, hb1⟩
  have hX1 : Box w1 w.heap.size s1 v1 r1 := (Box.new w s1 v1 r1).below (((Below.refl _ _).alloc (Nat.le_refl _) _).trans (hb1.mono (by simp))) (by simp)
  have hX2 : Box w1 (w.heap.size + 1) s2 v2 r2 := (Box.new' _ _ s2 v2 r2 (by simp)).below hb1 (by simp)
  have hz1 : w.heap.size + 1 < w1.heap.size := by have := hb1.size; simp at this; omega
  have hbw : Below w.heap.size w w1 := (((Below.refl w.heap.size w).alloc (Nat.le_refl _) _).alloc (by simp) _).trans (hb1.mono (by simp; omega))
  have HK : Hid (∀ w', Below w1.heap.size w1 w' → Kinds w' B) := fun w' h => hK.grow h
  have HB : Hid (Below w.heap.size w w1) := hbw
  clear hb1 hK hbw hB
  obtain ⟨n1, hn1⟩ : ∃ n, chk s1 v1 r1 = n := ⟨_, rfl⟩
  obtain ⟨n2, hn2⟩ : ∃ n, chk s2 v2 r2 = n := ⟨_, rfl⟩
  have hcA : ∀ w, Below w1.heap.size w1 w → Calls Tryz.prog 92 #[.map (some B), .agg #[.string s1, .int .i64 v1, .string r1]] w (CkPost n1 w) := fun w h => by rw [← hn1]; exact checkMark_any s1 r1 v1 B w (HK.out w h)
  have hcB : ∀ w, Below w1.heap.size w1 w → Calls Tryz.prog 92 #[.map (some B), .agg #[.string s2, .int .i64 v2, .string r2]] w (CkPost n2 w) := fun w h => by rw [← hn2]; exact checkMark_any s2 r2 v2 B w (HK.out w h)
  rw [hn1, hn2] at he
  clear hn1 hn2
  have hb0 : Below w1.heap.size w1 w1 := Below.refl _ _
  obtain ⟨a0, a1, a2⟩ := hX1
  obtain ⟨b0, b1, b2⟩ := hX2
  have HX1 : Hid (Box w1 w.heap.size s1 v1 r1) := ⟨a0, a1, a2⟩
  have HX2 : Hid (Box w1 (w.heap.size + 1) s2 v2 r2) := ⟨b0, b1, b2⟩
  go_wp2_with fail
  go_region_with (first | (go_at_call 92; refine (hcA _ (by first | exact hb0 | exact hb0.drew)).mono ?_; rintro e wa ⟨rfl, hba⟩; have hb0 := (show Below w1.heap.size w1 wa from (by first | exact hb0.trans (hba.mono hb0.size) | exact hb0.drew.trans (hba.mono hb0.size))); obtain ⟨a0a, a1a, a2a⟩ := HX1.out.below hb0 (by omega); obtain ⟨b0a, b1a, b2a⟩ := HX2.out.below hb0 (by omega); clear hba hcA) | (go_at_call 92; refine (hcB _ (by first | exact hb0 | exact hb0.drew)).mono ?_; rintro e wb ⟨rfl, hbb⟩; have hb0 := (show Below w1.heap.size w1 wb from (by first | exact hb0.trans (hbb.mono hb0.size) | exact hb0.drew.trans (hbb.mono hb0.size))); obtain ⟨a0b, a1b, a2b⟩ := HX1.out.below hb0 (by omega); obtain ⟨b0b, b1b, b2b⟩ := HX2.out.below hb0 (by omega); clear hbb hcB) | (go_at_call 91; refine (first_any n1 n2 _ _ (by simp) (by simp)).mono ?_; rintro e wc ⟨rfl, hbc⟩; have hb0 := (show Below w1.heap.size w1 wc from (hb0.alloc hb0.size _).trans (hbc.mono (by simp; have := hb0.size; omega))); obtain ⟨a0c, a1c, a2c⟩ := HX1.out.below hb0 (by omega); obtain ⟨b0c, b1c, b2c⟩ := HX2.out.below hb0 (by omega); clear hbc))
  all_goals
    have hbW : Below w.heap.size w wc := HB.out.trans (hb0.mono HB.out.size)
    have hK2 : Kinds wc B := HK.out wc hb0
    have hgo := hb0.size
    clear a0 a1 a2 b0 b1 b2 HX1 HX2 HB HK hb0 a0a a1a a2a b0a b1a b2a a0b a1b a2b b0b b1b b2b
    go_wp2
    go_ret2
    exact ⟨rfl, hbW⟩

set_option maxHeartbeats 1000000 in
theorem Compare_first (s1 r1 s2 r2 : ByteArray) (v1 v2 : Int) (w : World) (hg : 13 ≤ w.heap.size) (he : fst2 (chk s1 v1 r1) (chk s2 v2 r2) = 0) (h1 : (s1.toList == s2.toList) = false) (h2 : (s2.toList == [110, 111, 110, 101]) = false) (h3 : (s1.toList == [110, 111, 110, 101]) = true) :
    Calls Tryz.prog 56 #[.agg #[.string s1, .int .i64 v1, .string r1], .agg #[.string s2, .int .i64 v2, .string r2]] w (RetPost (.tuple #[.int .i64 1, .int .i64 0]) w) := by
  go_enter Tryz.func56, Tryz.ntmps56
  go_wp2_with fail
  refine (kinds_any _ (by simp; omega)).mono ?_
  rintro e w1 ⟨B, rfl, hB, hK, hb1⟩
  have hX1 : Box w1 w.heap.size s1 v1 r1 := (Box.new w s1 v1 r1).below (((Below.refl _ _).alloc (Nat.le_refl _) _).trans (hb1.mono (by simp))) (by simp)
  have hX2 : Box w1 (w.heap.size + 1) s2 v2 r2 := (Box.new' _ _ s2 v2 r2 (by simp)).below hb1 (by simp)
  have hz1 : w.heap.size + 1 < w1.heap.size := by have := hb1.size; simp at this; omega
  have hbw : Below w.heap.size w w1 := (((Below.refl w.heap.size w).alloc (Nat.le_refl _) _).alloc (by simp) _).trans (hb1.mono (by simp; omega))
  have HK : Hid (∀ w', Below w1.heap.size w1 w' → Kinds w' B) := fun w' h => hK.grow h
  have HB : Hid (Below w.heap.size w w1) := hbw
  clear hb1 hK hbw hB
  obtain ⟨n1, hn1⟩ : ∃ n, chk s1 v1 r1 = n := ⟨_, rfl⟩
  obtain ⟨n2, hn2⟩ : ∃ n, chk s2 v2 r2 = n := ⟨_, rfl⟩
  have hcA : ∀ w, Below w1.heap.size w1 w → Calls Tryz.prog 92 #[.map (some B), .agg #[.string s1, .int .i64 v1, .string r1]] w (CkPost n1 w) := fun w h => by rw [← hn1]; exact checkMark_any s1 r1 v1 B w (HK.out w h)
  have hcB : ∀ w, Below w1.heap.size w1 w → Calls Tryz.prog 92 #[.map (some B), .agg #[.string s2, .int .i64 v2, .string r2]] w (CkPost n2 w) := fun w h => by rw [← hn2]; exact checkMark_any s2 r2 v2 B w (HK.out w h)
  rw [hn1, hn2] at he
  clear hn1 hn2
  have hb0 : Below w1.heap.size w1 w1 := Below.refl _ _
  obtain ⟨a0, a1, a2⟩ := hX1
  obtain ⟨b0, b1, b2⟩ := hX2
  have HX1 : Hid (Box w1 w.heap.size s1 v1 r1) := ⟨a0, a1, a2⟩
  have HX2 : Hid (Box w1 (w.heap.size + 1) s2 v2 r2) := ⟨b0, b1, b2⟩
  go_wp2_with fail
  go_region_with (first | (go_at_call 92; refine (hcA _ (by first | exact hb0 | exact hb0.drew)).mono ?_; rintro e wa ⟨rfl, hba⟩; have hb0 := (show Below w1.heap.size w1 wa from (by first | exact hb0.trans (hba.mono hb0.size) | exact hb0.drew.trans (hba.mono hb0.size))); obtain ⟨a0a, a1a, a2a⟩ := HX1.out.below hb0 (by omega); obtain ⟨b0a, b1a, b2a⟩ := HX2.out.below hb0 (by omega); clear hba hcA) | (go_at_call 92; refine (hcB _ (by first | exact hb0 | exact hb0.drew)).mono ?_; rintro e wb ⟨rfl, hbb⟩; have hb0 := (show Below w1.heap.size w1 wb from (by first | exact hb0.trans (hbb.mono hb0.size) | exact hb0.drew.trans (hbb.mono hb0.size))); obtain ⟨a0b, a1b, a2b⟩ := HX1.out.below hb0 (by omega); obtain ⟨b0b, b1b, b2b⟩ := HX2.out.below hb0 (by omega); clear hbb hcB) | (go_at_call 91; refine (first_any n1 n2 _ _ (by simp) (by simp)).mono ?_; rintro e wc ⟨rfl, hbc⟩; have hb0 := (show Below w1.heap.size w1 wc from (hb0.alloc hb0.size _).trans (hbc.mono (by simp; have := hb0.size; omega))); obtain ⟨a0c, a1c, a2c⟩ := HX1.out.below hb0 (by omega); obtain ⟨b0c, b1c, b2c⟩ := HX2.out.below hb0 (by omega); clear hbc))
  all_goals
    have hbW : Below w.heap.size w wc := HB.out.trans (hb0.mono HB.out.size)
    have hK2 : Kinds wc B := HK.out wc hb0
    have hgo := hb0.size
    clear a0 a1 a2 b0 b1 b2 HX1 HX2 HB HK hb0 a0a a1a a2a b0a b1a b2a a0b a1b a2b b0b b1b b2b
    go_wp2
    go_ret2
    exact ⟨rfl, hbW⟩

set_option maxHeartbeats 1000000 in
theorem Compare_apart (s1 r1 s2 r2 : ByteArray) (v1 v2 : Int) (w : World) (hg : 13 ≤ w.heap.size) (he : fst2 (chk s1 v1 r1) (chk s2 v2 r2) = 0) (h1 : (s1.toList == s2.toList) = false) (h2 : (s2.toList == [110, 111, 110, 101]) = false) (h3 : (s1.toList == [110, 111, 110, 101]) = false) :
    Calls Tryz.prog 56 #[.agg #[.string s1, .int .i64 v1, .string r1], .agg #[.string s2, .int .i64 v2, .string r2]] w (RetPost (.tuple #[.int .i64 0, .int .i64 13]) w) := by
  go_enter Tryz.func56, Tryz.ntmps56
  go_wp2_with fail
  refine (kinds_any _ (by simp; omega)).mono ?_
  rintro e w1 ⟨B, rfl, hB, hK, hb1⟩
  have hX1 : Box w1 w.heap.size s1 v1 r1 := (Box.new w s1 v1 r1).below (((Below.refl _ _).alloc (Nat.le_refl _) _).trans (hb1.mono (by simp))) (by simp)
  have hX2 : Box w1 (w.heap.size + 1) s2 v2 r2 := (Box.new' _ _ s2 v2 r2 (by simp)).below hb1 (by simp)
  have hz1 : w.heap.size + 1 < w1.heap.size := by have := hb1.size; simp at this; omega
  have hbw : Below w.heap.size w w1 := (((Below.refl w.heap.size w).alloc (Nat.le_refl _) _).alloc (by simp) _).trans (hb1.mono (by simp; omega))
  have HK : Hid (∀ w', Below w1.heap.size w1 w' → Kinds w' B) := fun w' h => hK.grow h
  have HB : Hid (Below w.heap.size w w1) := hbw
  clear hb1 hK hbw hB
  obtain ⟨n1, hn1⟩ : ∃ n, chk s1 v1 r1 = n := ⟨_, rfl⟩
  obtain ⟨n2, hn2⟩ : ∃ n, chk s2 v2 r2 = n := ⟨_, rfl⟩
  have hcA : ∀ w, Below w1.heap.size w1 w → Calls Tryz.prog 92 #[.map (some B), .agg #[.string s1, .int .i64 v1, .string r1]] w (CkPost n1 w) := fun w h => by rw [← hn1]; exact checkMark_any s1 r1 v1 B w (HK.out w h)
  have hcB : ∀ w, Below w1.heap.size w1 w → Calls Tryz.prog 92 #[.map (some B), .agg #[.string s2, .int .i64 v2, .string r2]] w (CkPost n2 w) := fun w h => by rw [← hn2]; exact checkMark_any s2 r2 v2 B w (HK.out w h)
  rw [hn1, hn2] at he
  clear hn1 hn2
  have hb0 : Below w1.heap.size w1 w1 := Below.refl _ _
  obtain ⟨a0, a1, a2⟩ := hX1
  obtain ⟨b0, b1, b2⟩ := hX2
  have HX1 : Hid (Box w1 w.heap.size s1 v1 r1) := ⟨a0, a1, a2⟩
  have HX2 : Hid (Box w1 (w.heap.size + 1) s2 v2 r2) := ⟨b0, b1, b2⟩
  go_wp2_with fail
  go_region_with (first | (go_at_call 92; refine (hcA _ (by first | exact hb0 | exact hb0.drew)).mono ?_; rintro e wa ⟨rfl, hba⟩; have hb0 := (show Below w1.heap.size w1 wa from (by first | exact hb0.trans (hba.mono hb0.size) | exact hb0.drew.trans (hba.mono hb0.size))); obtain ⟨a0a, a1a, a2a⟩ := HX1.out.below hb0 (by omega); obtain ⟨b0a, b1a, b2a⟩ := HX2.out.below hb0 (by omega); clear hba hcA) | (go_at_call 92; refine (hcB _ (by first | exact hb0 | exact hb0.drew)).mono ?_; rintro e wb ⟨rfl, hbb⟩; have hb0 := (show Below w1.heap.size w1 wb from (by first | exact hb0.trans (hbb.mono hb0.size) | exact hb0.drew.trans (hbb.mono hb0.size))); obtain ⟨a0b, a1b, a2b⟩ := HX1.out.below hb0 (by omega); obtain ⟨b0b, b1b, b2b⟩ := HX2.out.below hb0 (by omega); clear hbb hcB) | (go_at_call 91; refine (first_any n1 n2 _ _ (by simp) (by simp)).mono ?_; rintro e wc ⟨rfl, hbc⟩; have hb0 := (show Below w1.heap.size w1 wc from (hb0.alloc hb0.size _).trans (hbc.mono (by simp; have := hb0.size; omega))); obtain ⟨a0c, a1c, a2c⟩ := HX1.out.below hb0 (by omega); obtain ⟨b0c, b1c, b2c⟩ := HX2.out.below hb0 (by omega); clear hbc))
  all_goals
    have hbW : Below w.heap.size w wc := HB.out.trans (hb0.mono HB.out.size)
    have hK2 : Kinds wc B := HK.out wc hb0
    have hgo := hb0.size
    clear a0 a1 a2 b0 b1 b2 HX1 HX2 HB HK hb0 a0a a1a a2a b0a b1a b2a a0b a1b a2b b0b b1b b2b
    go_wp2
    go_ret2
    exact ⟨rfl, hbW⟩
end Go.Mk
end
section
set_option linter.unusedVariables false
set_option linter.unusedSimpArgs false
open Go Go.Proofs Go.RowKit
set_option maxRecDepth 100000
namespace Go.Mk

set_option maxHeartbeats 1000000 in
theorem Compare_less (s r1 r2 : ByteArray) (v1 v2 : Int) (w : World) (hg : 13 ≤ w.heap.size) (he : fst2 (chk s v1 r1) (chk s v2 r2) = 0) (lo hi : Int) (f2 f4 f5 f6 : Nat)
    (hE : Entry s (.agg #[.int .i64 lo, .int .i64 hi, .func (.func f2) #[] #[], .func (.func 111) #[] #[], .func (.func f4) #[] #[], .func (.func f5) #[] #[], .func (.func f6) #[] #[]]) true) :
    Calls Tryz.prog 56 #[.agg #[.string s, .int .i64 v1, .string r1], .agg #[.string s, .int .i64 v2, .string r2]] w (RetPost (.tuple #[.int .i64 (cmpv true v1 v2), .int .i64 0]) w) := by
  have hcv := fun w => compareValues_less lo hi f2 f4 f5 f6 v1 v2 w
  go_enter Tryz.func56, Tryz.ntmps56
  go_wp2_with fail
  refine (kinds_any _ (by simp; omega)).mono ?_
  rintro e w1 ⟨B, rfl, hB, hK, hb1⟩
  have hX1 : Box w1 w.heap.size s v1 r1 := (Box.new w s v1 r1).below (((Below.refl _ _).alloc (Nat.le_refl _) _).trans (hb1.mono (by simp))) (by simp)
  have hX2 : Box w1 (w.heap.size + 1) s v2 r2 := (Box.new' _ _ s v2 r2 (by simp)).below hb1 (by simp)
  have hz1 : w.heap.size + 1 < w1.heap.size := by have := hb1.size; simp at this; omega
  have hbw : Below w.heap.size w w1 := (((Below.refl w.heap.size w).alloc (Nat.le_refl _) _).alloc (by simp) _).trans (hb1.mono (by simp; omega))
  have HK : Hid (∀ w', Below w1.heap.size w1 w' → Kinds w' B) := fun w' h => hK.grow h
  have HB : Hid (Below w.heap.size w w1) := hbw
  clear hb1 hK hbw hB
  obtain ⟨n1, hn1⟩ : ∃ n, chk s v1 r1 = n := ⟨_, rfl⟩
  obtain ⟨n2, hn2⟩ : ∃ n, chk s v2 r2 = n := ⟨_, rfl⟩
  have hcA : ∀ w, Below w1.heap.size w1 w → Calls Tryz.prog 92 #[.map (some B), .agg #[.string s, .int .i64 v1, .string r1]] w (CkPost n1 w) := fun w h => by rw [← hn1]; exact checkMark_any s r1 v1 B w (HK.out w h)
  have hcB : ∀ w, Below w1.heap.size w1 w → Calls Tryz.prog 92 #[.map (some B), .agg #[.string s, .int .i64 v2, .string r2]] w (CkPost n2 w) := fun w h => by rw [← hn2]; exact checkMark_any s r2 v2 B w (HK.out w h)
  rw [hn1, hn2] at he
  clear hn1 hn2
  have hb0 : Below w1.heap.size w1 w1 := Below.refl _ _
  obtain ⟨a0, a1, a2⟩ := hX1
  obtain ⟨b0, b1, b2⟩ := hX2
  have HX1 : Hid (Box w1 w.heap.size s v1 r1) := ⟨a0, a1, a2⟩
  have HX2 : Hid (Box w1 (w.heap.size + 1) s v2 r2) := ⟨b0, b1, b2⟩
  go_wp2_with fail
  go_region_with (first | (go_at_call 92; refine (hcA _ (by first | exact hb0 | exact hb0.drew)).mono ?_; rintro e wa ⟨rfl, hba⟩; have hb0 := (show Below w1.heap.size w1 wa from (by first | exact hb0.trans (hba.mono hb0.size) | exact hb0.drew.trans (hba.mono hb0.size))); obtain ⟨a0a, a1a, a2a⟩ := HX1.out.below hb0 (by omega); obtain ⟨b0a, b1a, b2a⟩ := HX2.out.below hb0 (by omega); clear hba hcA) | (go_at_call 92; refine (hcB _ (by first | exact hb0 | exact hb0.drew)).mono ?_; rintro e wb ⟨rfl, hbb⟩; have hb0 := (show Below w1.heap.size w1 wb from (by first | exact hb0.trans (hbb.mono hb0.size) | exact hb0.drew.trans (hbb.mono hb0.size))); obtain ⟨a0b, a1b, a2b⟩ := HX1.out.below hb0 (by omega); obtain ⟨b0b, b1b, b2b⟩ := HX2.out.below hb0 (by omega); clear hbb hcB) | (go_at_call 91; refine (first_any n1 n2 _ _ (by simp) (by simp)).mono ?_; rintro e wc ⟨rfl, hbc⟩; have hb0 := (show Below w1.heap.size w1 wc from (hb0.alloc hb0.size _).trans (hbc.mono (by simp; have := hb0.size; omega))); obtain ⟨a0c, a1c, a2c⟩ := HX1.out.below hb0 (by omega); obtain ⟨b0c, b1c, b2c⟩ := HX2.out.below hb0 (by omega); clear hbc))
  all_goals
    have hbW : Below w.heap.size w wc := HB.out.trans (hb0.mono HB.out.size)
    have hK2 : Kinds wc B := HK.out wc hb0
    have hgo := hb0.size
    clear a0 a1 a2 b0 b1 b2 HX1 HX2 HB HK hb0 a0a a1a a2a b0a b1a b2a a0b a1b a2b b0b b1b b2b
    go_wp2_with (first | (at_lookup; refine wpList_look _ rfl _ _ false rfl B s _ _ rfl rfl hK2 hE ?_) | (go_at_call 93; refine (hcv _).mono ?_; rintro e wd ⟨rfl, hbd⟩))
    go_ret2
    exact ⟨rfl, hbW.trans (hbd.mono hbW.size)⟩

set_option maxHeartbeats 1000000 in
theorem Compare_greater (s r1 r2 : ByteArray) (v1 v2 : Int) (w : World) (hg : 13 ≤ w.heap.size) (he : fst2 (chk s v1 r1) (chk s v2 r2) = 0) (lo hi : Int) (f2 f4 f5 f6 : Nat)
    (hE : Entry s (.agg #[.int .i64 lo, .int .i64 hi, .func (.func f2) #[] #[], .func (.func 115) #[] #[], .func (.func f4) #[] #[], .func (.func f5) #[] #[], .func (.func f6) #[] #[]]) true) :
    Calls Tryz.prog 56 #[.agg #[.string s, .int .i64 v1, .string r1], .agg #[.string s, .int .i64 v2, .string r2]] w (RetPost (.tuple #[.int .i64 (cmpv false v1 v2), .int .i64 0]) w) := by
  have hcv := fun w => compareValues_greater lo hi f2 f4 f5 f6 v1 v2 w
  go_enter Tryz.func56, Tryz.ntmps56
  go_wp2_with fail
  refine (kinds_any _ (by simp; omega)).mono ?_
  rintro e w1 ⟨B, rfl, hB, hK, hb1⟩
  have hX1 : Box w1 w.heap.size s v1 r1 := (Box.new w s v1 r1).below (((Below.refl _ _).alloc (Nat.le_refl _) _).trans (hb1.mono (by simp))) (by simp)
  have hX2 : Box w1 (w.heap.size + 1) s v2 r2 := (Box.new' _ _ s v2 r2 (by simp)).below hb1 (by simp)
  have hz1 : w.heap.size + 1 < w1.heap.size := by have := hb1.size; simp at this; omega
  have hbw : Below w.heap.size w w1 := (((Below.refl w.heap.size w).alloc (Nat.le_refl _) _).alloc (by simp) _).trans (hb1.mono (by simp; omega))
  have HK : Hid (∀ w', Below w1.heap.size w1 w' → Kinds w' B) := fun w' h => hK.grow h
  have HB : Hid (Below w.heap.size w w1) := hbw
  clear hb1 hK hbw hB
  obtain ⟨n1, hn1⟩ : ∃ n, chk s v1 r1 = n := ⟨_, rfl⟩
  obtain ⟨n2, hn2⟩ : ∃ n, chk s v2 r2 = n := ⟨_, rfl⟩
  have hcA : ∀ w, Below w1.heap.size w1 w → Calls Tryz.prog 92 #[.map (some B), .agg #[.string s, .int .i64 v1, .string r1]] w (CkPost n1 w) := fun w h => by rw [← hn1]; exact checkMark_any s r1 v1 B w (HK.out w h)
  have hcB : ∀ w, Below w1.heap.size w1 w → Calls Tryz.prog 92 #[.map (some B), .agg #[.string s, .int .i64 v2, .string r2]] w (CkPost n2 w) := fun w h => by rw [← hn2]; exact checkMark_any s r2 v2 B w (HK.out w h)
  rw [hn1, hn2] at he
  clear hn1 hn2
  have hb0 : Below w1.heap.size w1 w1 := Below.refl _ _
  obtain ⟨a0, a1, a2⟩ := hX1
  obtain ⟨b0, b1, b2⟩ := hX2
  have HX1 : Hid (Box w1 w.heap.size s v1 r1) := ⟨a0, a1, a2⟩
  have HX2 : Hid (Box w1 (w.heap.size + 1) s v2 r2) := ⟨b0, b1, b2⟩
  go_wp2_with fail
  go_region_with (first | (go_at_call 92; refine (hcA _ (by first | exact hb0 | exact hb0.drew)).mono ?_; rintro e wa ⟨rfl, hba⟩; have hb0 := (show Below w1.heap.size w1 wa from (by first | exact hb0.trans (hba.mono hb0.size) | exact hb0.drew.trans (hba.mono hb0.size))); obtain ⟨a0a, a1a, a2a⟩ := HX1.out.below hb0 (by omega); obtain ⟨b0a, b1a, b2a⟩ := HX2.out.below hb0 (by omega); clear hba hcA) | (go_at_call 92; refine (hcB _ (by first | exact hb0 | exact hb0.drew)).mono ?_; rintro e wb ⟨rfl, hbb⟩; have hb0 := (show Below w1.heap.size w1 wb from (by first | exact hb0.trans (hbb.mono hb0.size) | exact hb0.drew.trans (hbb.mono hb0.size))); obtain ⟨a0b, a1b, a2b⟩ := HX1.out.below hb0 (by omega); obtain ⟨b0b, b1b, b2b⟩ := HX2.out.below hb0 (by omega); clear hbb hcB) | (go_at_call 91; refine (first_any n1 n2 _ _ (by simp) (by simp)).mono ?_; rintro e wc ⟨rfl, hbc⟩; have hb0 := (show Below w1.heap.size w1 wc from (hb0.alloc hb0.size _).trans (hbc.mono (by simp; have := hb0.size; omega))); obtain ⟨a0c, a1c, a2c⟩ := HX1.out.below hb0 (by omega); obtain ⟨b0c, b1c, b2c⟩ := HX2.out.below hb0 (by omega); clear hbc))
  all_goals
    have hbW : Below w.heap.size w wc := HB.out.trans (hb0.mono HB.out.size)
    have hK2 : Kinds wc B := HK.out wc hb0
    have hgo := hb0.size
    clear a0 a1 a2 b0 b1 b2 HX1 HX2 HB HK hb0 a0a a1a a2a b0a b1a b2a a0b a1b a2b b0b b1b b2b
    go_wp2_with (first | (at_lookup; refine wpList_look _ rfl _ _ false rfl B s _ _ rfl rfl hK2 hE ?_) | (go_at_call 93; refine (hcv _).mono ?_; rintro e wd ⟨rfl, hbd⟩))
    go_ret2
    exact ⟨rfl, hbW.trans (hbd.mono hbW.size)⟩
end Go.Mk
end
