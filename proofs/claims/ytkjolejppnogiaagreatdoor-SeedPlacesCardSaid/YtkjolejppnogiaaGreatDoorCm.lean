/-
  Proved: mark.checkMark and mark.CheckMark return the first error of a mark, for every mark. Conditions: the map's block is as kinds made it; the heap holds the program's variables.
-/
import Derived.Test.YtkjolejppnogiaaGreatDoorLk
import Derived.Laws.EntriesVeiled
set_option linter.unusedVariables false
set_option linter.unusedSimpArgs false
open Go Go.Proofs Go.RowKit
set_option maxRecDepth 100000
namespace Go.Mk
theorem Kinds.below {w w' : World} {B K : Nat} (h : Kinds w B) (hb : Below K w w') (hB : B < K) : Kinds w' B := (hb.block B hB).trans h
theorem Kinds.lt {w : World} {B : Nat} (h : Kinds w B) : B < w.heap.size := by
  rcases Nat.lt_or_ge B w.heap.size with hl | hg
  · exact hl
  · unfold Kinds at h; rw [Array.getElem?_eq_none hg] at h; cases h
theorem Kinds.grow {w w' : World} {B : Nat} (h : Kinds w B) (hb : Below w.heap.size w w') : Kinds w' B := h.below hb h.lt

def CkPost (n : Int) (w : World) (e : Ending) (w' : World) : Prop := e = .returned (.int .i64 n) ∧ Below w.heap.size w w'

set_option maxHeartbeats 400000 in
theorem checkMark_other (s r : ByteArray) (v : Int) (B : Nat) (w : World) (hK : Kinds w B) (he : Entry s (.agg #[.int .i64 0, .int .i64 0, .nilFunc, .nilFunc, .nilFunc, .nilFunc, .nilFunc]) false) :
    Calls Tryz.prog 108 #[.map (some B), .agg #[.string s, .int .i64 v, .string r]] w (CkPost 13 w) := by
  have hK1 : ∀ o, Kinds (w.alloc o) B := fun o => hK.grow ((Below.refl _ _).alloc (Nat.le_refl _) o)
  have HK := Lib.hid hK1
  clear hK1
  go_enter Tryz.func108, Tryz.ntmps108
  go_wp2_with (at_lookup; refine wpList_look _ rfl _ _ true rfl B s _ _ rfl rfl (HK.out _) he ?_)
  go_ret
  exact ⟨rfl, ((Below.refl _ _).alloc (Nat.le_refl _) _).alloc (by simp) _⟩

def BoolPost (b : Bool) (w : World) (e : Ending) (w' : World) : Prop := e = .returned (.bool b) ∧ Below w.heap.size w w'
theorem bcell {W w1 : World} (hb : Below W.heap.size W w1) : (∀ b o, b < W.heap.size → w1.cell? ⟨b, o, none⟩ = W.cell? ⟨b, o, none⟩) ∧ (∀ b o, b < W.heap.size → w1.frozen? ⟨b, o, none⟩ = W.frozen? ⟨b, o, none⟩) :=
  ⟨fun b o h => hb.cell (p := ⟨b, o, none⟩) h, fun b o h => hb.frozen (p := ⟨b, o, none⟩) h⟩

set_option maxHeartbeats 400000 in
theorem checkMark_empty (s r : ByteArray) (v : Int) (B : Nat) (w : World) (hK : Kinds w B) (f3 f4 f5 f6 : Nat) (lo hi : Int) (he : Entry s (.agg #[.int .i64 lo, .int .i64 hi, .func (.func 129) #[] #[], .func (.func f3) #[] #[], .func (.func f4) #[] #[], .func (.func f5) #[] #[], .func (.func f6) #[] #[]]) true)
    (b : Bool) (hr : r.toList.isEmpty = b) (n : Int) (hn : n = if b then (if v < lo ∨ hi < v then 3 else 0) else 1) :
    Calls Tryz.prog 108 #[.map (some B), .agg #[.string s, .int .i64 v, .string r]] w (CkPost n w) := by
  have hK1 : ∀ o, Kinds (w.alloc o) B := fun o => hK.grow ((Below.refl _ _).alloc (Nat.le_refl _) o)
  have HK := Lib.hid hK1
  have hc : ∀ w, Calls Tryz.prog 129 #[.string r] w (BoolPost b w) := fun w => (isEmpty_any r w).mono fun e w' h => ⟨by rw [h.1, hr], by rw [← h.2]; exact Below.refl _ _⟩
  have hb0 : Below w.heap.size w ((w.alloc (.cells #[.string s, .int .i64 v, .string r] 77)).alloc (.cells #[.int .i64 lo, .int .i64 hi, .func (.func 129) #[] #[], .func (.func f3) #[] #[], .func (.func f4) #[] #[], .func (.func f5) #[] #[], .func (.func f6) #[] #[]] 177)) := ((Below.refl _ _).alloc (Nat.le_refl _) _).alloc (by simp) _
  clear hK1 hr
  cases b with
  | false =>
    obtain rfl : n = 1 := by simpa using hn
    clear hn
    go_enter Tryz.func108, Tryz.ntmps108
    go_wp2_with (at_lookup; refine wpList_look _ rfl _ _ true rfl B s _ _ rfl rfl (HK.out _) he ?_)
    refine (hc _).mono ?_
    rintro e w1 ⟨rfl, hb1⟩
    go_wp2
    go_ret
    exact ⟨rfl, hb0.trans (hb1.mono (by simp; omega))⟩
  | true =>
    have hn' : n = if v < lo ∨ hi < v then 3 else 0 := by simpa using hn
    clear hn
    have Hn := Lib.hid hn'
    clear hn'
    go_enter Tryz.func108, Tryz.ntmps108
    go_wp2_with (at_lookup; refine wpList_look _ rfl _ _ true rfl B s _ _ rfl rfl (HK.out _) he ?_)
    refine (hc _).mono ?_
    rintro e w1 ⟨rfl, hb1⟩
    obtain ⟨hcl, hfr⟩ := bcell hb1
    have hb2 := hb0.trans (hb1.mono (by simp; omega))
    clear hb0 hb1
    by_cases h1 : v < lo
    · go_wp2
      go_ret
      exact ⟨by rw [Hn.out]; simp [h1], hb2⟩
    · by_cases h2 : hi < v
      · go_wp2
        go_ret
        exact ⟨by rw [Hn.out]; simp [h2], hb2⟩
      · go_wp2
        go_ret
        exact ⟨by rw [Hn.out]; simp [h1, h2], hb2⟩

set_option maxHeartbeats 400000 in
theorem checkMark_reason (s r : ByteArray) (v : Int) (B : Nat) (w : World) (hK : Kinds w B) (f3 f4 f5 f6 : Nat) (lo hi : Int) (he : Entry s (.agg #[.int .i64 lo, .int .i64 hi, .func (.func 140) #[] #[], .func (.func f3) #[] #[], .func (.func f4) #[] #[], .func (.func f5) #[] #[], .func (.func f6) #[] #[]]) true)
    (b : Bool) (hr : isR r = b) (n : Int) (hn : n = if b then (if v < lo ∨ hi < v then 3 else 0) else 1) :
    Calls Tryz.prog 108 #[.map (some B), .agg #[.string s, .int .i64 v, .string r]] w (CkPost n w) := by
  have hK1 : ∀ o, Kinds (w.alloc o) B := fun o => hK.grow ((Below.refl _ _).alloc (Nat.le_refl _) o)
  have HK := Lib.hid hK1
  have hc : ∀ w, Calls Tryz.prog 140 #[.string r] w (BoolPost b w) := fun w => (isReason_any r w).mono fun e w' h => ⟨by rw [h.1, hr], h.2⟩
  have hb0 : Below w.heap.size w ((w.alloc (.cells #[.string s, .int .i64 v, .string r] 77)).alloc (.cells #[.int .i64 lo, .int .i64 hi, .func (.func 140) #[] #[], .func (.func f3) #[] #[], .func (.func f4) #[] #[], .func (.func f5) #[] #[], .func (.func f6) #[] #[]] 177)) := ((Below.refl _ _).alloc (Nat.le_refl _) _).alloc (by simp) _
  clear hK1 hr
  cases b with
  | false =>
    obtain rfl : n = 1 := by simpa using hn
    clear hn
    go_enter Tryz.func108, Tryz.ntmps108
    go_wp2_with (at_lookup; refine wpList_look _ rfl _ _ true rfl B s _ _ rfl rfl (HK.out _) he ?_)
    refine (hc _).mono ?_
    rintro e w1 ⟨rfl, hb1⟩
    go_wp2
    go_ret
    exact ⟨rfl, hb0.trans (hb1.mono (by simp; omega))⟩
  | true =>
    have hn' : n = if v < lo ∨ hi < v then 3 else 0 := by simpa using hn
    clear hn
    have Hn := Lib.hid hn'
    clear hn'
    go_enter Tryz.func108, Tryz.ntmps108
    go_wp2_with (at_lookup; refine wpList_look _ rfl _ _ true rfl B s _ _ rfl rfl (HK.out _) he ?_)
    refine (hc _).mono ?_
    rintro e w1 ⟨rfl, hb1⟩
    obtain ⟨hcl, hfr⟩ := bcell hb1
    have hb2 := hb0.trans (hb1.mono (by simp; omega))
    clear hb0 hb1
    by_cases h1 : v < lo
    · go_wp2
      go_ret
      exact ⟨by rw [Hn.out]; simp [h1], hb2⟩
    · by_cases h2 : hi < v
      · go_wp2
        go_ret
        exact ⟨by rw [Hn.out]; simp [h2], hb2⟩
      · go_wp2
        go_ret
        exact ⟨by rw [Hn.out]; simp [h1, h2], hb2⟩

end Go.Mk
