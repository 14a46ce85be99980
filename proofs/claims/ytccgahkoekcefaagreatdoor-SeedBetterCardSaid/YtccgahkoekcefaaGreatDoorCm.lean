/-
  Proved: mark.checkMark and mark.CheckMark return the first error of a mark, for every mark. Conditions: the map's block is as kinds made it; the heap holds the program's variables.
  Proved: mark.CheckMark returns the first error of a mark, for every mark. Condition: the heap holds the program's variables.
-/
import Derived.Test.YtccgahkoekcefaaGreatDoorKd
import Derived.Laws.EntriesVeiled
import Derived.Deep.RegionWith
import Derived.StillTailTactics
import Derived.Deep.RegionHeld3
section
set_option linter.unusedVariables false
set_option linter.unusedSimpArgs false
open Go Go.Proofs Go.RowKit
set_option maxRecDepth 100000
namespace Go.Mk
theorem Kinds.below {w w' : World} {B K : Nat} (h : Kinds w B) (hb : Below K w w') (hB : B < K) : Kinds w' B := (hb.block B hB).trans h
theorem Kinds.lt {w : World} {B : Nat} (h : Kinds w B) : B < w.heap.size := by
  rcases Nat.lt_or_ge B w.heap.size with hl | hg
  · exact hl
  · unfold Kinds at h; rw [Array.getElem?_eq_none hg] at h; cases h
theorem Kinds.grow {w w' : World} {B : Nat} (h : Kinds w B) (hb : Below w.heap.size w w') : Kinds w' B := h.below hb h.lt

def CkPost (n : Int) (w : World) (e : Ending) (w' : World) : Prop := e = .returned (.int .i64 n) ∧ Below w.heap.size w w'

set_option maxHeartbeats 400000 in
theorem checkMark_other (s r : ByteArray) (v : Int) (B : Nat) (w : World) (hK : Kinds w B) (he : Entry s (.agg #[.int .i64 0, .int .i64 0, .nilFunc, .nilFunc, .nilFunc, .nilFunc, .nilFunc]) false) :
    Calls Tryz.prog 92 #[.map (some B), .agg #[.string s, .int .i64 v, .string r]] w (CkPost 13 w) := by
  have hK1 : ∀ o, Kinds (w.alloc o) B := fun o => hK.grow ((Below.refl _ _).alloc (Nat.le_refl _) o)
  have HK := Lib.hid hK1
  clear hK1
  go_enter Tryz.func92, Tryz.ntmps92
  go_wp2_with (at_lookup; refine wpList_look _ rfl _ _ true rfl B s _ _ rfl rfl (HK.out _) he ?_)
  go_ret
  exact ⟨rfl, ((Below.refl _ _).alloc (Nat.le_refl _) _).alloc (by simp) _⟩

def BoolPost (b : Bool) (w : World) (e : Ending) (w' : World) : Prop := e = .returned (.bool b) ∧ Below w.heap.size w w'
theorem bcell {W w1 : World} (hb : Below W.heap.size W w1) : (∀ b o, b < W.heap.size → w1.cell? ⟨b, o, none⟩ = W.cell? ⟨b, o, none⟩) ∧ (∀ b o, b < W.heap.size → w1.frozen? ⟨b, o, none⟩ = W.frozen? ⟨b, o, none⟩) :=
  ⟨fun b o h => hb.cell (p := ⟨b, o, none⟩) h, fun b o h => hb.frozen (p := ⟨b, o, none⟩) h⟩

set_option maxHeartbeats 400000 in
theorem checkMark_empty (s r : ByteArray) (v : Int) (B : Nat) (w : World) (hK : Kinds w B) (f3 f4 f5 f6 : Nat) (lo hi : Int) (he : Entry s (.agg #[.int .i64 lo, .int .i64 hi, .func (.func 110) #[] #[], .func (.func f3) #[] #[], .func (.func f4) #[] #[], .func (.func f5) #[] #[], .func (.func f6) #[] #[]]) true)
    (b : Bool) (hr : r.toList.isEmpty = b) (n : Int) (hn : n = if b then (if v < lo ∨ hi < v then 3 else 0) else 1) :
    Calls Tryz.prog 92 #[.map (some B), .agg #[.string s, .int .i64 v, .string r]] w (CkPost n w) := by
  have hK1 : ∀ o, Kinds (w.alloc o) B := fun o => hK.grow ((Below.refl _ _).alloc (Nat.le_refl _) o)
  have HK := Lib.hid hK1
  have hc : ∀ w, Calls Tryz.prog 110 #[.string r] w (BoolPost b w) := fun w => (isEmpty_any r w).mono fun e w' h => ⟨by rw [h.1, hr], by rw [← h.2]; exact Below.refl _ _⟩
  have hb0 : Below w.heap.size w ((w.alloc (.cells #[.string s, .int .i64 v, .string r] 63)).alloc (.cells #[.int .i64 lo, .int .i64 hi, .func (.func 110) #[] #[], .func (.func f3) #[] #[], .func (.func f4) #[] #[], .func (.func f5) #[] #[], .func (.func f6) #[] #[]] 154)) := ((Below.refl _ _).alloc (Nat.le_refl _) _).alloc (by simp) _
  clear hK1 hr
  cases b with
  | false =>
    obtain rfl : n = 1 := by simpa using hn
    clear hn
    go_enter Tryz.func92, Tryz.ntmps92
    go_wp2_with (at_lookup; refine wpList_look _ rfl _ _ true rfl B s _ _ rfl rfl (HK.out _) he ?_)
    refine (hc _).mono ?_
    rintro e w1 ⟨rfl, hb1⟩
    go_wp2
    go_ret
    exact ⟨rfl, hb0.trans (hb1.mono (by simp; omega))⟩
  | true =>
    have hn' : n = if v < lo ∨ hi < v then 3 else 0 := by simpa using hn
    clear hn
    have Hn := Lib.hid hn'
    clear hn'
    go_enter Tryz.func92, Tryz.ntmps92
    go_wp2_with (at_lookup; refine wpList_look _ rfl _ _ true rfl B s _ _ rfl rfl (HK.out _) he ?_)
    refine (hc _).mono ?_
    rintro e w1 ⟨rfl, hb1⟩
    obtain ⟨hcl, hfr⟩ := bcell hb1
    have hb2 := hb0.trans (hb1.mono (by simp; omega))
    clear hb0 hb1
    by_cases h1 : v < lo
    · go_wp2
      go_ret
      exact ⟨by rw [Hn.out]; simp [h1], hb2⟩
    · by_cases h2 : hi < v
      · go_wp2
        go_ret
        exact ⟨by rw [Hn.out]; simp [h2], hb2⟩
      · go_wp2
        go_ret
        exact ⟨by rw [Hn.out]; simp [h1, h2], hb2⟩

set_option maxHeartbeats 400000 in
theorem checkMark_reason (s r : ByteArray) (v : Int) (B : Nat) (w : World) (hK : Kinds w B) (f3 f4 f5 f6 : Nat) (lo hi : Int) (he : Entry s (.agg #[.int .i64 lo, .int .i64 hi, .func (.func 121) #[] #[], .func (.func f3) #[] #[], .func (.func f4) #[] #[], .func (.func f5) #[] #[], .func (.func f6) #[] #[]]) true)
    (b : Bool) (hr : isR r = b) (n : Int) (hn : n = if b then (if v < lo ∨ hi < v then 3 else 0) else 1) :
    Calls Tryz.prog 92 #[.map (some B), .agg #[.string s, .int .i64 v, .string r]] w (CkPost n w) := by
  have hK1 : ∀ o, Kinds (w.alloc o) B := fun o => hK.grow ((Below.refl _ _).alloc (Nat.le_refl _) o)
  have HK := Lib.hid hK1
  have hc : ∀ w, Calls Tryz.prog 121 #[.string r] w (BoolPost b w) := fun w => (isReason_any r w).mono fun e w' h => ⟨by rw [h.1, hr], h.2⟩
  have hb0 : Below w.heap.size w ((w.alloc (.cells #[.string s, .int .i64 v, .string r] 63)).alloc (.cells #[.int .i64 lo, .int .i64 hi, .func (.func 121) #[] #[], .func (.func f3) #[] #[], .func (.func f4) #[] #[], .func (.func f5) #[] #[], .func (.func f6) #[] #[]] 154)) := ((Below.refl _ _).alloc (Nat.le_refl _) _).alloc (by simp) _
  clear hK1 hr
  cases b with
  | false =>
    obtain rfl : n = 1 := by simpa using hn
    clear hn
    go_enter Tryz.func92, Tryz.ntmps92
    go_wp2_with (at_lookup; refine wpList_look _ rfl _ _ true rfl B s _ _ rfl rfl (HK.out _) he ?_)
    refine (hc _).mono ?_
    rintro e w1 ⟨rfl, hb1⟩
    go_wp2
    go_ret
    exact ⟨rfl, hb0.trans (hb1.mono (by simp; omega))⟩
  | true =>
    have hn' : n = if v < lo ∨ hi < v then 3 else 0 := by simpa using hn
    clear hn
    have Hn := Lib.hid hn'
    clear hn'
    go_enter Tryz.func92, Tryz.ntmps92
    go_wp2_with (at_lookup; refine wpList_look _ rfl _ _ true rfl B s _ _ rfl rfl (HK.out _) he ?_)
    refine (hc _).mono ?_
    rintro e w1 ⟨rfl, hb1⟩
    obtain ⟨hcl, hfr⟩ := bcell hb1
    have hb2 := hb0.trans (hb1.mono (by simp; omega))
    clear hb0 hb1
    by_cases h1 : v < lo
    · go_wp2
      go_ret
      exact ⟨by rw [Hn.out]; simp [h1], hb2⟩
    · by_cases h2 : hi < v
      · go_wp2
        go_ret
        exact ⟨by rw [Hn.out]; simp [h2], hb2⟩
      · go_wp2
        go_ret
        exact ⟨by rw [Hn.out]; simp [h1, h2], hb2⟩

end Go.Mk
end
section
set_option linter.unusedVariables false
set_option linter.unusedSimpArgs false
open Go Go.Proofs Go.RowKit
set_option maxRecDepth 100000
namespace Go.Mk
def chk (s : ByteArray) (v : Int) (r : ByteArray) : Int :=
  if s = sNone then (if isR r then (if v < 0 ∨ 0 < v then 3 else 0) else 1)
  else if s = sTime then (if r.toList.isEmpty then (if v < 1 ∨ 863999999 < v then 3 else 0) else 1)
  else if s = sLength then (if r.toList.isEmpty then (if v < 0 ∨ 999999 < v then 3 else 0) else 1)
  else if s = sPoints then (if r.toList.isEmpty then (if v < 0 ∨ 99999 < v then 3 else 0) else 1)
  else 13

theorem sTN : sTime ≠ sNone := by decide
theorem sLN : sLength ≠ sNone := by decide
theorem sPN : sPoints ≠ sNone := by decide
theorem sLT : sLength ≠ sTime := by decide
theorem sPT : sPoints ≠ sTime := by decide
theorem sPL : sPoints ≠ sLength := by decide

theorem checkMark_any (s r : ByteArray) (v : Int) (B : Nat) (w : World) (hK : Kinds w B) :
    Calls Tryz.prog 92 #[.map (some B), .agg #[.string s, .int .i64 v, .string r]] w (CkPost (chk s v r) w) := by
  unfold chk
  by_cases h1 : s = sNone
  · rw [if_pos h1]; subst h1
    exact checkMark_reason sNone r v B w hK _ _ _ _ _ _ entryNone (isR r) rfl _ rfl
  · rw [if_neg h1]
    by_cases h2 : s = sTime
    · rw [if_pos h2]; subst h2
      exact checkMark_empty sTime r v B w hK _ _ _ _ _ _ entryTime r.toList.isEmpty rfl _ rfl
    · rw [if_neg h2]
      by_cases h3 : s = sLength
      · rw [if_pos h3]; subst h3
        exact checkMark_empty sLength r v B w hK _ _ _ _ _ _ entryLength r.toList.isEmpty rfl _ rfl
      · rw [if_neg h3]
        by_cases h4 : s = sPoints
        · rw [if_pos h4]; subst h4
          exact checkMark_empty sPoints r v B w hK _ _ _ _ _ _ entryPoints r.toList.isEmpty rfl _ rfl
        · rw [if_neg h4]
          exact checkMark_other s r v B w hK (entryOther s h2 h3 h4 h1)

set_option maxHeartbeats 400000 in
theorem CheckMark_any (s r : ByteArray) (v : Int) (w : World) (hg : 13 ≤ w.heap.size) :
    Calls Tryz.prog 88 #[.agg #[.string s, .int .i64 v, .string r]] w (CkPost (chk s v r) w) := by
  obtain ⟨n, hn⟩ : ∃ n, chk s v r = n := ⟨_, rfl⟩
  have hc : ∀ B w, Kinds w B → Calls Tryz.prog 92 #[.map (some B), .agg #[.string s, .int .i64 v, .string r]] w (CkPost n w) := fun B w hK => by rw [← hn]; exact checkMark_any s r v B w hK
  rw [hn]
  clear hn
  go_enter Tryz.func88, Tryz.ntmps88
  go_wp2_with fail
  go_region_with (first | (go_at_call 90; refine (kinds_any _ (by simp; omega)).mono ?_; rintro e w1 ⟨B, rfl, hB, hK, hb1⟩; obtain ⟨hcl, hfr⟩ := bcell hb1) | (go_at_call 92; refine (hc _ _ (by assumption)).mono ?_; rintro e w2 ⟨rfl, hb2⟩))
  all_goals
    have hs1 := hb1.size
    have hb3 := ((((Below.refl w.heap.size w).alloc (Nat.le_refl _) _).drew).trans (hb1.mono (by simp))).trans (hb2.mono (by simp at hs1; omega))
    clear hcl hfr hK hb1 hb2 hc
    go_wp2
    go_ret
    exact ⟨rfl, hb3⟩
end Go.Mk
end
