/-
  Proved: awake in a world of a law of chapter 4. Condition: the tables that awake reads lie where the program lays them.
  Proved: the law SeedPlaces returns true and leaves all that was there. Conditions: the tables that awake reads lie where the program lays them; the runners lie where the slices say; no list is longer than the form's reach.
-/
import Derived.Test.YtkjolejppnogiaaGreatDoorAw
import Derived.Test.YtkjolejppnogiaaGreatDoorEt
import Derived.Test.YtkjolejppnogiaaGreatDoorHm
section
set_option linter.unusedVariables false
set_option linter.unusedSimpArgs false
open Go Go.Proofs Go.RowKit
set_option maxRecDepth 100000
namespace Go.Mk
/-- The tables lie where they are laid. -/
def Tabs (w : World) : Prop := 13 ≤ w.heap.size ∧ ∀ y ∈ Snap.tabs, y.1 < 13 ∧ ∀ (i : Nat) (v : Value), y.2[i]? = some v → w.cell? ⟨y.1, i, none⟩ = some v ∧ Ev.plainN 0 v = true
theorem Tabs.below {w w' : World} {B : Nat} (h : Tabs w) (hb : Below B w w') (hB : 13 ≤ B) : Tabs w' :=
  ⟨by have := hb.size; have := h.1; omega, fun y hy => by
    obtain ⟨h1, h2⟩ := h.2 y hy
    refine ⟨h1, fun i v hv => ?_⟩
    obtain ⟨h3, h4⟩ := h2 i v hv
    exact ⟨(hb.cell (p := ⟨y.1, i, none⟩) (by show y.1 < B; omega)).trans h3, h4⟩⟩
theorem aw (w : World) (h : Tabs w) : Calls Tryz.prog 10 #[] w (RetPost (.bool true) w) := Snap.awake_any w h.1 h.2
def Yes (w : World) (e : Ending) (w' : World) : Prop := e = .returned (.bool true) ∧ Below w.heap.size w w'
/-- A world below which the law's own begins: what was there is there still. -/
theorem Tabs.grow {w w' : World} (h : Tabs w) (hb : Below w.heap.size w w') : Tabs w' := h.below hb h.1
end Go.Mk
end
section
set_option linter.unusedVariables false
set_option linter.unusedSimpArgs false
open Go Go.Proofs Go.RowKit Go.Sort
set_option maxRecDepth 100000
namespace Go.Mk
/-- What the reference's check of short heats says. -/
def shortH (LL : List (List Run)) : Bool := decide (LL.length ≤ 18) && LL.all shH
theorem short_any (LL : List (List Run)) (n cap : Nat) (A : Option Addr) (B : Nat) (w : World) (hZ : RHeats w B A n LL) (hm : (n : Int) ≤ 9223372036854775807) :
    Calls Tryz.prog 36 #[.slice A n cap] w (RetPost (.bool (shortH LL)) w) := by
  have hl := hZ.1
  by_cases h : n ≤ 18
  · rw [show shortH LL = LL.all shH by unfold shortH; rw [decide_eq_true (by omega), Bool.true_and]]
    exact r4ShortRunners_any LL n cap A B w hZ (by omega)
  · rw [show shortH LL = false by unfold shortH; rw [decide_eq_false (by omega), Bool.false_and]]
    exact r4ShortRunners_long n cap A w (by omega) hm
theorem shortH_yes {LL : List (List Run)} (h : shortH LL = true) : LL.length ≤ 18 ∧ ∀ l ∈ LL, l.length ≤ 162 ∧ (l.length ≤ 12 ∨ 160 < l.length) := by
  unfold shortH at h
  rw [Bool.and_eq_true] at h
  refine ⟨by simpa using h.1, fun l hl => ?_⟩
  have := List.all_eq_true.1 h.2 l hl
  unfold shH at this
  rw [Bool.and_eq_true] at this
  have h1 := this.1
  simp at h1
  omega
set_option maxHeartbeats 2000000 in
theorem places_exit (LL : List (List Run)) (n cap : Nat) (A : Option Addr) (B : Nat) (p t : Int) (w : World) (ht : Tabs w) (hZ : RHeats w B A n LL) (hn : n * 24 ≤ 140737488351232) (hs : ∀ l ∈ LL, l.length * 56 ≤ 140737488351232) (hx : shortH LL = false) :
    Calls Tryz.prog 5 #[.slice A n cap, .int .i64 p, .int .i64 t] w (Yes w) := by
  have hR := l4runners_big LL n cap A B w hZ hn hs
  have hn2 : (n : Int) ≤ 9223372036854775807 := by omega
  have hl := hZ.1
  clear hZ
  go_enter Tryz.func5, Tryz.ntmps5
  go_wp2_with fail
  refine hR.mono ?_
  rintro e w1 ⟨v, rfl, hO, hb1⟩
  obtain ⟨A1, c1, rfl, hR1⟩ := RHeats.of_own hO
  rw [hl] at hR1 ⊢
  have HS : Hid (∀ w', Below w1.heap.size w1 w' → Calls Tryz.prog 36 #[.slice A1 n c1] w' (RetPost (.bool false) w')) := fun w' hb => by
    have := short_any LL n c1 A1 _ w' (hR1.below hb (Nat.le_refl _)) hn2
    rwa [hx] at this
  have ht1 := ht.grow hb1
  clear hO hR1 hR ht
  go_wp2_with fail
  refine (aw _ ht1).mono ?_
  rintro e w2 ⟨rfl, hb2⟩
  have hS := HS.out _ hb2
  have hb12 := hb1.trans (hb2.mono hb1.size)
  clear HS
  go_wp2_with fail
  refine hS.mono ?_
  rintro e w3 ⟨rfl, hb3⟩
  have ht3 := ht1.grow (bstep hb2 hb3)
  have hb13 := hb12.trans (hb3.mono hb12.size)
  go_wp2_with fail
  refine (aw _ ht3).mono ?_
  rintro e w4 ⟨rfl, hb4⟩
  go_wp2
  go_ret
  exact ⟨rfl, hb13.trans (hb4.mono hb13.size)⟩
theorem chk_one {LL : List (List Run)} (h : chkRuns LL = 0) : LL.length ≤ 16 ∧ ∀ l ∈ LL, l.length ≤ 160 := by
  unfold chkRuns at h
  by_cases h1 : 16 < LL.length
  · rw [if_pos h1] at h; cases h
  · rw [if_neg h1] at h
    refine ⟨by omega, ?_⟩
    clear h1
    have key : ∀ (LL : List (List Run)) (P : List ByteArray), heatsE P LL = 0 → ∀ l ∈ LL, l.length ≤ 160 := by
      intro LL
      induction LL with
      | nil => intro P _ l hl; cases hl
      | cons x LL ih =>
        intro P hP l hl
        rw [heatsE] at hP
        by_cases h0 : heatE P x = 0
        · rw [if_pos h0] at hP
          rcases List.mem_cons.1 hl with rfl | h2
          · unfold heatE at h0
            by_cases h3 : 160 < l.length
            · rw [if_pos h3] at h0; cases h0
            · omega
          · exact ih _ hP l h2
        · rw [if_neg h0] at hP
          exact absurd hP h0
    exact key LL [] h
theorem flatten_le (m : Nat) : ∀ (LL : List (List Run)), (∀ l ∈ LL, l.length ≤ m) → LL.flatten.length ≤ m * LL.length
  | [], _ => by simp
  | l :: LL, h => by
    have h1 := h l (by simp)
    have h2 := flatten_le m LL (fun q hq => h q (by simp [hq]))
    rw [List.flatten_cons, List.length_append, List.length_cons, Nat.mul_add]
    omega
end Go.Mk
end
