/-
  Proved: the law TrackTeams returns true and leaves all that was there. Conditions: the tables that awake reads lie where the program lays them; the arguments lie where the slices say.
-/
import Derived.Test.YtnknmplepgmfmaaGreatDoorXaw
import Derived.Test.YtnknmplepgmfmaaGreatDoorXp
import Derived.Test.YtnknmplepgmfmaaGreatDoorXq
import Derived.Test.YtnknmplepgmfmaaGreatDoorYj
open Go Go.Proofs Go.RowKit Go.Maps Go.Sort Go.WideMaps
set_option linter.unusedVariables false
set_option linter.unusedSimpArgs false
set_option maxRecDepth 100000
namespace Go.Mk
theorem cell_agg {w : World} {a b c : Value} {t : TypeId} : (w.alloc (.cells #[a, b, c] t)).cell? ⟨w.heap.size, 0, none⟩ = some a ∧ (w.alloc (.cells #[a, b, c] t)).cell? ⟨w.heap.size, 1, none⟩ = some b ∧ (w.alloc (.cells #[a, b, c] t)).cell? ⟨w.heap.size, 2, none⟩ = some c := ⟨by simp, by simp, by simp⟩
/-- The two boxes of a relay that the law makes. -/
def Box2 (W : World) (g : Nat) (A : Option Addr) (n cap : Nat) (z b : Int) (w' : World) : Prop :=
  (w'.cell? ⟨g, 0, none⟩ = some (.slice A n cap) ∧ w'.cell? ⟨g, 1, none⟩ = some (.int .i64 z) ∧ w'.cell? ⟨g, 2, none⟩ = some (.int .i64 b)) ∧
  (w'.cell? ⟨g + 1, 0, none⟩ = some (.slice A n cap) ∧ w'.cell? ⟨g + 1, 1, none⟩ = some (.int .i64 z) ∧ w'.cell? ⟨g + 1, 2, none⟩ = some (.int .i64 b)) ∧
  g + 1 < w'.heap.size ∧ Below W.heap.size W w'
theorem Box2.next {W w w' : World} {g : Nat} {A : Option Addr} {n cap : Nat} {z b : Int} (h : Box2 W g A n cap z b w) (hb : Below w.heap.size w w') : Box2 W g A n cap z b w' := by
  obtain ⟨⟨a0, a1, a2⟩, ⟨b0, b1, b2⟩, hl, hW⟩ := h
  have hl0 : g < w.heap.size := by omega
  exact ⟨⟨(hb.cell (p := ⟨g, _, none⟩) hl0).trans a0, (hb.cell (p := ⟨g, _, none⟩) hl0).trans a1, (hb.cell (p := ⟨g, _, none⟩) hl0).trans a2⟩, ⟨(hb.cell (p := ⟨g + 1, _, none⟩) hl).trans b0, (hb.cell (p := ⟨g + 1, _, none⟩) hl).trans b1, (hb.cell (p := ⟨g + 1, _, none⟩) hl).trans b2⟩, Nat.lt_of_lt_of_le hl hb.size, bstep hW hb⟩
theorem Box2.new (w : World) (A : Option Addr) (n cap : Nat) (z b : Int) (t u : TypeId) : Box2 w w.heap.size A n cap z b ((w.alloc (.cells #[.slice A n cap, .int .i64 z, .int .i64 b] t)).alloc (.cells #[.slice A n cap, .int .i64 z, .int .i64 b] u)) := by
  obtain ⟨a0, a1, a2⟩ := @cell_agg w (.slice A n cap) (.int .i64 z) (.int .i64 b) t
  obtain ⟨b0, b1, b2⟩ := @cell_agg (w.alloc (.cells #[.slice A n cap, .int .i64 z, .int .i64 b] t)) (.slice A n cap) (.int .i64 z) (.int .i64 b) u
  have hs : (w.alloc (.cells #[.slice A n cap, .int .i64 z, .int .i64 b] t)).heap.size = w.heap.size + 1 := by simp
  rw [hs] at b0 b1 b2
  have hb : Below (w.heap.size + 1) (w.alloc (.cells #[.slice A n cap, .int .i64 z, .int .i64 b] t)) ((w.alloc (.cells #[.slice A n cap, .int .i64 z, .int .i64 b] t)).alloc (.cells #[.slice A n cap, .int .i64 z, .int .i64 b] u)) := (Below.refl _ _).alloc (by omega) _
  have hl : w.heap.size < w.heap.size + 1 := by omega
  exact ⟨⟨(hb.cell (p := ⟨w.heap.size, _, none⟩) hl).trans a0, (hb.cell (p := ⟨w.heap.size, _, none⟩) hl).trans a1, (hb.cell (p := ⟨w.heap.size, _, none⟩) hl).trans a2⟩, ⟨b0, b1, b2⟩, by simp, balloc _ (balloc _ (Below.refl _ _))⟩
theorem texts_nil (w : World) : TextsZ w none 0 [] := ⟨rfl, fun h => absurd h (by decide)⟩
set_option maxHeartbeats 8000000 in
theorem teams_ex1 (A : Option Addr) (n cap : Nat) (z b : Int) (L : List Int) (AT : Option Addr) (nT cT : Nat) (LT : List (List ByteArray)) (AR : Option Addr) (nR cR : Nat) (R : List ByteArray) (w : World)
    (hL : IntsZ w A n L) (hT : TeamsB w w.heap.size AT nT LT) (hR : TextsZ w AR nR R) (hc : n ≤ cap) (hcR : nR ≤ cR) (hn : (n : Int) ≤ 9223372036854775807) (hnT : (nT : Int) ≤ 9223372036854775807) (hnR : (nR : Int) ≤ 9223372036854775807) (hTl : ∀ l ∈ LT, (l.length : Int) ≤ 9223372036854775807) (ht : Tabs w) (h1 : 11 < n) :
    Calls Tryz.prog 4 #[.agg #[.slice A n cap, .int .i64 z, .int .i64 b], .slice AT nT cT, .slice AR nR cR] w (Yes w) := by
  have HB := Lib.hid (Box2.new w A n cap z b 24 26)
  have HAW : Hid (∀ w', Below w.heap.size w w' → Calls Tryz.prog 9 #[] w' (RetPost (.bool true) w')) := Lib.hid fun w' hb => aw w' (ht.grow hb)
  have HSR := Lib.hid fun w' => r7ShortRelay_any A n cap z b w'
  have HST : Hid (∀ w', Below w.heap.size w w' → Calls Tryz.prog 22 #[.slice AT nT cT] w' (RetSame (.bool (shT LT)) w')) := Lib.hid fun w' hb => r7ShortTeams_any LT nT cT _ AT w' (hT.below hb (Nat.le_refl _)) hnT hTl
  have HSN : Hid (∀ w', Below w.heap.size w w' → Calls Tryz.prog 23 #[.slice AR nR cR, .int .i64 20] w' (RetSame (.bool (shN R 20)) w')) := Lib.hid fun w' hb => r7ShortNames_any R nR cR 20 AR w' (hR.below hb) (by decide) hnR
  have h1i : ¬ (n : Int) ≤ 11 := by omega
  clear hL hT hR hn hnT hnR hTl ht
  go_enter Tryz.func4, Tryz.ntmps4
  go_wp2_with fail
  refine (HSR.out _).mono ?_
  rintro e1 w1 ⟨rfl, hb1⟩
  have HB1 := Lib.hid (HB.out.next hb1)
  clear hb1
  go_wp2_with fail
  refine (HAW.out _ HB1.out.2.2.2).mono ?_
  rintro e9 w9 ⟨rfl, hb9⟩
  have hfin := bstep HB1.out.2.2.2 hb9
  clear hb9
  go_wp2
  go_ret
  exact ⟨rfl, hfin⟩
set_option maxHeartbeats 8000000 in
theorem teams_ex2 (A : Option Addr) (n cap : Nat) (z b : Int) (L : List Int) (AT : Option Addr) (nT cT : Nat) (LT : List (List ByteArray)) (AR : Option Addr) (nR cR : Nat) (R : List ByteArray) (w : World)
    (hL : IntsZ w A n L) (hT : TeamsB w w.heap.size AT nT LT) (hR : TextsZ w AR nR R) (hc : n ≤ cap) (hcR : nR ≤ cR) (hn : (n : Int) ≤ 9223372036854775807) (hnT : (nT : Int) ≤ 9223372036854775807) (hnR : (nR : Int) ≤ 9223372036854775807) (hTl : ∀ l ∈ LT, (l.length : Int) ≤ 9223372036854775807) (ht : Tabs w) (h1 : n ≤ 11) (h2 : shT LT = false) :
    Calls Tryz.prog 4 #[.agg #[.slice A n cap, .int .i64 z, .int .i64 b], .slice AT nT cT, .slice AR nR cR] w (Yes w) := by
  have HB := Lib.hid (Box2.new w A n cap z b 24 26)
  have HAW : Hid (∀ w', Below w.heap.size w w' → Calls Tryz.prog 9 #[] w' (RetPost (.bool true) w')) := Lib.hid fun w' hb => aw w' (ht.grow hb)
  have HSR := Lib.hid fun w' => r7ShortRelay_any A n cap z b w'
  have HST : Hid (∀ w', Below w.heap.size w w' → Calls Tryz.prog 22 #[.slice AT nT cT] w' (RetSame (.bool (shT LT)) w')) := Lib.hid fun w' hb => r7ShortTeams_any LT nT cT _ AT w' (hT.below hb (Nat.le_refl _)) hnT hTl
  have HSN : Hid (∀ w', Below w.heap.size w w' → Calls Tryz.prog 23 #[.slice AR nR cR, .int .i64 20] w' (RetSame (.bool (shN R 20)) w')) := Lib.hid fun w' hb => r7ShortNames_any R nR cR 20 AR w' (hR.below hb) (by decide) hnR
  have h1i : (n : Int) ≤ 11 := by omega
  rw [h2] at HST
  clear hL hT hR hn hnT hnR hTl ht
  go_enter Tryz.func4, Tryz.ntmps4
  go_wp2_with fail
  refine (HSR.out _).mono ?_
  rintro e1 w1 ⟨rfl, hb1⟩
  have HB1 := Lib.hid (HB.out.next hb1)
  clear hb1
  go_wp2_with fail
  refine (HST.out _ HB1.out.2.2.2).mono ?_
  rintro e2 w2 ⟨rfl, rfl⟩
  go_wp2_with fail
  refine (HAW.out _ HB1.out.2.2.2).mono ?_
  rintro e9 w9 ⟨rfl, hb9⟩
  have hfin := bstep HB1.out.2.2.2 hb9
  clear hb9
  go_wp2
  go_ret
  exact ⟨rfl, hfin⟩
set_option maxHeartbeats 8000000 in
theorem teams_ex3 (A : Option Addr) (n cap : Nat) (z b : Int) (L : List Int) (AT : Option Addr) (nT cT : Nat) (LT : List (List ByteArray)) (AR : Option Addr) (nR cR : Nat) (R : List ByteArray) (w : World)
    (hL : IntsZ w A n L) (hT : TeamsB w w.heap.size AT nT LT) (hR : TextsZ w AR nR R) (hc : n ≤ cap) (hcR : nR ≤ cR) (hn : (n : Int) ≤ 9223372036854775807) (hnT : (nT : Int) ≤ 9223372036854775807) (hnR : (nR : Int) ≤ 9223372036854775807) (hTl : ∀ l ∈ LT, (l.length : Int) ≤ 9223372036854775807) (ht : Tabs w) (h1 : n ≤ 11) (h2 : shT LT = true) (h3 : shN R 20 = false) :
    Calls Tryz.prog 4 #[.agg #[.slice A n cap, .int .i64 z, .int .i64 b], .slice AT nT cT, .slice AR nR cR] w (Yes w) := by
  have HB := Lib.hid (Box2.new w A n cap z b 24 26)
  have HAW : Hid (∀ w', Below w.heap.size w w' → Calls Tryz.prog 9 #[] w' (RetPost (.bool true) w')) := Lib.hid fun w' hb => aw w' (ht.grow hb)
  have HSR := Lib.hid fun w' => r7ShortRelay_any A n cap z b w'
  have HST : Hid (∀ w', Below w.heap.size w w' → Calls Tryz.prog 22 #[.slice AT nT cT] w' (RetSame (.bool (shT LT)) w')) := Lib.hid fun w' hb => r7ShortTeams_any LT nT cT _ AT w' (hT.below hb (Nat.le_refl _)) hnT hTl
  have HSN : Hid (∀ w', Below w.heap.size w w' → Calls Tryz.prog 23 #[.slice AR nR cR, .int .i64 20] w' (RetSame (.bool (shN R 20)) w')) := Lib.hid fun w' hb => r7ShortNames_any R nR cR 20 AR w' (hR.below hb) (by decide) hnR
  have h1i : (n : Int) ≤ 11 := by omega
  rw [h2] at HST
  rw [h3] at HSN
  clear hL hT hR hn hnT hnR hTl ht
  go_enter Tryz.func4, Tryz.ntmps4
  go_wp2_with fail
  refine (HSR.out _).mono ?_
  rintro e1 w1 ⟨rfl, hb1⟩
  have HB1 := Lib.hid (HB.out.next hb1)
  clear hb1
  go_wp2_with fail
  refine (HST.out _ HB1.out.2.2.2).mono ?_
  rintro e2 w2 ⟨rfl, rfl⟩
  go_wp2_with fail
  refine (HSN.out _ HB1.out.2.2.2).mono ?_
  rintro e3 w3 ⟨rfl, rfl⟩
  go_wp2_with fail
  refine (HAW.out _ HB1.out.2.2.2).mono ?_
  rintro e9 w9 ⟨rfl, hb9⟩
  have hfin := bstep HB1.out.2.2.2 hb9
  clear hb9
  go_wp2
  go_ret
  exact ⟨rfl, hfin⟩
theorem shN_of {L : List ByteArray} {m : Nat} (h : shN L m = true) : L.length ≤ m ∧ ∀ x ∈ L, x.size ≤ 60 := by
  unfold shN at h
  rw [Bool.and_eq_true] at h
  exact ⟨of_decide_eq_true h.1, fun x hx => of_decide_eq_true (List.all_eq_true.1 h.2 x hx)⟩
theorem shT_of {LL : List (List ByteArray)} (h : shT LL = true) : LL.length ≤ 11 ∧ ∀ l ∈ LL, l.length ≤ 11 ∧ ∀ x ∈ l, x.size ≤ 60 := by
  unfold shT at h
  rw [Bool.and_eq_true] at h
  exact ⟨of_decide_eq_true h.1, fun l hl => shN_of (List.all_eq_true.1 h.2 l hl)⟩
theorem flat_le {LL : List (List ByteArray)} {m : Nat} (h : ∀ l ∈ LL, l.length ≤ m) : LL.flatten.length ≤ m * LL.length := by
  induction LL with
  | nil => simp
  | cons l LL ih =>
    rw [List.flatten_cons, List.length_append, List.length_cons, Nat.mul_succ]
    have h1 := h l (by simp)
    have h2 := ih fun l hl => h l (by simp [hl])
    omega
theorem teamE_bad {rel : Int} (h : rel ≠ 0) (n : Nat) (t : List ByteArray) : teamE rel n t = rel := by unfold teamE; simp [fstN, h]
theorem teamsE_bad {rel : Int} (h : rel ≠ 0) (n : Nat) (T : List (List ByteArray)) (R : List ByteArray) : teamsE rel n T R = (0, rel) := by unfold teamsE; rw [if_pos h]
set_option maxHeartbeats 8000000 in
theorem teams_A (A : Option Addr) (n cap : Nat) (z b : Int) (L : List Int) (AT : Option Addr) (nT cT : Nat) (LT : List (List ByteArray)) (AR : Option Addr) (nR cR : Nat) (R : List ByteArray) (w : World)
    (hL : IntsZ w A n L) (hT : TeamsB w w.heap.size AT nT LT) (hR : TextsZ w AR nR R) (hc : n ≤ cap) (hcR : nR ≤ cR) (hn : (n : Int) ≤ 9223372036854775807) (hnT : (nT : Int) ≤ 9223372036854775807) (hnR : (nR : Int) ≤ 9223372036854775807) (hTl : ∀ l ∈ LT, (l.length : Int) ≤ 9223372036854775807) (ht : Tabs w) (h1 : n ≤ 11) (h2 : shT LT = true) (h3 : shN R 20 = true) (h4 : relW L z b ≠ 0) :
    Calls Tryz.prog 4 #[.agg #[.slice A n cap, .int .i64 z, .int .i64 b], .slice AT nT cT, .slice AR nR cR] w (Yes w) := by
  have HB := Lib.hid (Box2.new w A n cap z b 24 26)
  have HAW : Hid (∀ w', Below w.heap.size w w' → Calls Tryz.prog 9 #[] w' (RetPost (.bool true) w')) := Lib.hid fun w' hb => aw w' (ht.grow hb)
  have HSR := Lib.hid fun w' => r7ShortRelay_any A n cap z b w'
  have HST : Hid (∀ w', Below w.heap.size w w' → Calls Tryz.prog 22 #[.slice AT nT cT] w' (RetSame (.bool (shT LT)) w')) := Lib.hid fun w' hb => r7ShortTeams_any LT nT cT _ AT w' (hT.below hb (Nat.le_refl _)) hnT hTl
  have HSN : Hid (∀ w', Below w.heap.size w w' → Calls Tryz.prog 23 #[.slice AR nR cR, .int .i64 20] w' (RetSame (.bool (shN R 20)) w')) := Lib.hid fun w' hb => r7ShortNames_any R nR cR 20 AR w' (hR.below hb) (by decide) hnR
  have h1i : (n : Int) ≤ 11 := by omega
  obtain ⟨k1, k2⟩ := shT_of h2
  obtain ⟨k3, k4⟩ := shN_of h3
  rw [h2] at HST
  rw [h3] at HSN
  have hnT1 : nT ≤ 11 := by rw [← hT.1]; exact k1
  have hnR1 : nR ≤ 20 := by rw [← hR.1]; exact k3
  have hnTi : (nT : Int) ≤ 11 := by omega
  have q : maxLen = 9223372036854775807 := rfl
  have kT : ∀ l ∈ LT, l.length ≤ 1000 ∧ ∀ x ∈ l, x.size ≤ maxLen := fun l hl => ⟨by have := (k2 l hl).1; omega, fun x hx => by have := (k2 l hl).2 x hx; omega⟩
  have kR : ∀ x ∈ R, x.size ≤ maxLen := fun x hx => by have := k4 x hx; omega
  have kF : LT.flatten.length ≤ 10000 := by have := flat_le (m := 11) fun l hl => (k2 l hl).1; omega
  have HRC : Hid (∀ w', Below w.heap.size w w' → Calls Tryz.prog 10 #[.agg #[.slice A n cap, .int .i64 z, .int .i64 b]] w' (RetPost (.int .i64 (relW L z b)) w')) := Lib.hid fun w' hb => r7CheckRelay_any L n cap A z b w' (hL.below hb) hn
  have HTT : Hid (∀ (T : List ByteArray) (nt ct : Nat) (At : Option Addr) (w' : World), Below w.heap.size w w' → TextsZ w' At nt T → nt ≤ 1000 → nt ≤ ct → (∀ x ∈ T, x.size ≤ maxLen) → Calls Tryz.prog 25 #[.agg #[.slice A n cap, .int .i64 z, .int .i64 b], .slice At nt ct] w' (RetPost (.int .i64 (teamE (relW L z b) n T)) w')) := Lib.hid fun T nt ct At w' hb g1 g2 g3 g4 => trCheckTeam_any L n cap A z b T nt ct At w' (hL.below hb) hn hc g1 g2 g3 g4
  have HCT : Hid (∀ (T : List ByteArray) (nt ct : Nat) (At : Option Addr) (w' : World), TextsZ w' At nt T → nt ≤ 1000 → nt ≤ ct → (∀ x ∈ T, x.size ≤ maxLen) → Calls Tryz.prog 24 #[.agg #[.slice A n cap, .int .i64 z, .int .i64 b], .slice At nt ct] w' (RetPost (.int .i64 (teamE 0 n T)) w')) := Lib.hid fun T nt ct At w' g1 g2 g3 g4 => r7CheckTeam_any L n cap A z b T nt ct At w' g1 g2 g3 g4
  have HTS : Hid (∀ w', Below w.heap.size w w' → Calls Tryz.prog 26 #[.agg #[.slice A n cap, .int .i64 z, .int .i64 b], .slice AT nT cT, .slice AR nR cR] w' (RetPost (.tuple #[.int .i64 ((teamsE (relW L z b) n LT R).1 : Nat), .int .i64 (teamsE (relW L z b) n LT R).2]) w')) := Lib.hid fun w' hb => trCheckTeams_any A n cap z b L AT nT cT LT AR nR cR R w' (hL.below hb) ((hT.below hb (Nat.le_refl _)).wide hb.size (Nat.le_refl _)) (hR.below hb) hn hc hcR (by omega) kT (by omega) kR
  have HME : Hid (∀ w', Below w.heap.size w w' → Calls Tryz.prog 27 #[.agg #[.slice A n cap, .int .i64 z, .int .i64 b], .slice AT nT cT, .slice AR nR cR] w' (RetPost (.tuple #[.slice none 0 0, .int .i64 (teamsE (relW L z b) n LT R).2]) w')) := Lib.hid fun w' hb => trMembers_bad A n cap z b L AT nT cT LT AR nR cR R w' (hL.below hb) ((hT.below hb (Nat.le_refl _)).wide hb.size (Nat.le_refl _)) (hR.below hb) hn hc hcR (by omega) kT (by omega) kR (by rw [teamsE_bad h4]; exact h4)
  have HSW := Lib.hid fun w' => sameW_any [] none none 0 0 0 w' (by decide) (texts_nil _) (texts_nil _)
  have HTR : Hid (∀ w', Below w.heap.size w w' → TeamsB w' w.heap.size AT nT LT) := Lib.hid fun w' hb => hT.below hb (Nat.le_refl _)
  have HKT := Lib.hid kT
  rw [teamsE_bad h4] at HTS HME
  have HTE : Hid (∀ t, teamE (relW L z b) n t = relW L z b) := Lib.hid fun t => teamE_bad h4 n t
  obtain ⟨rel, hrel⟩ : ∃ rel, relW L z b = rel := ⟨_, rfl⟩
  rw [hrel] at HRC HTT HTS HME HTE h4
  have hr0 : (rel == 0) = false := by rw [beq_eq_false_iff_ne]; exact h4
  have hrr : (rel != rel) = false := by simp
  have hre : (rel == rel) = true := by simp
  clear hrel h4
  clear hL hT hR hn hnT hnR hTl ht h2 h3 k1 k2 k3 k4 kT kR kF q
  go_enter Tryz.func4, Tryz.ntmps4
  go_wp2_with fail
  refine (HSR.out _).mono ?_
  rintro e1 w1 ⟨rfl, hb1⟩
  have HB1 := Lib.hid (HB.out.next hb1)
  clear hb1
  go_wp2_with fail
  refine (HST.out _ HB1.out.2.2.2).mono ?_
  rintro e2 w2 ⟨rfl, rfl⟩
  go_wp2_with fail
  refine (HSN.out _ HB1.out.2.2.2).mono ?_
  rintro e3 w3 ⟨rfl, rfl⟩
  obtain ⟨_, ⟨c0, c1, c2⟩, _, _⟩ := HB1.out
  go_wp2_with fail
  refine (HRC.out _ HB1.out.2.2.2).mono ?_
  rintro e4 w4 ⟨rfl, hb4⟩
  have HB4 := Lib.hid (HB1.out.next hb4)
  clear c0 c1 c2 hb4 HB1 HB HRC HSN HST HSR
  go_wp2
  go_loopw [37] (fun i wr => ∃ k : Nat, k ≤ nT ∧ i = .int .i64 k ∧ Hid (Box2 w w.heap.size A n cap z b wr)) (fun i _ => nT - (RowKit.intOf i).toNat)
  case atStart => exact ⟨0, by omega, rfl, HB4⟩
  case round =>
    obtain ⟨k, hk, rfl, HR⟩ := hrel
    by_cases hlt : k < nT
    · obtain ⟨tb, toff, T, At, ct, rfl, htb, hTk, hTc, hTl, hTB⟩ := (HTR.out _ HR.out.2.2.2).at_ hlt
      have hki : (k : Int) < (nT : Int) := by omega
      have hTs := HKT.out T (List.mem_of_getElem? hTk)
      have HTZ := Lib.hid hTB.toZ
      have HTL := Lib.hid (And.intro hTs hTl)
      obtain ⟨⟨a0, a1, a2⟩, ⟨c0, c1, c2⟩, _, _⟩ := HR.out
      have hT1 := HTT.out T T.length ct At wr HR.out.2.2.2 HTZ.out HTL.out.1.1 HTL.out.2 HTL.out.1.2
      rw [HTE.out] at hT1
      obtain ⟨nt, hnt⟩ : ∃ nt, T.length = nt := ⟨_, rfl⟩
      rw [hnt] at hT1 hTc
      clear hTB hTk hTs hTl hnt HTZ HTL c0 c1 c2
      go_wp2_with fail
      refine hT1.mono ?_
      rintro e5 w5 ⟨rfl, hb5⟩
      have HR5 := Lib.hid (HR.out.next hb5)
      clear a0 a1 a2 hb5 hTc hT1
      go_wp2
      go_roundw
      case rel => exact ⟨k + 1, by omega, by go_num, HR5⟩
      case measure => simp [RowKit.intOf]; omega
    · have hkn : k = nT := by omega
      obtain ⟨⟨a0, a1, a2⟩, _⟩ := HR.out
      go_wp2_with fail
      refine (HTS.out _ HR.out.2.2.2).mono ?_
      rintro e5 w5 ⟨rfl, hb5⟩
      have HR5 := Lib.hid (HR.out.next hb5)
      clear a0 a1 a2 hb5
      obtain ⟨⟨a0, a1, a2⟩, _⟩ := HR5.out
      go_wp2_with fail
      refine (HME.out _ HR5.out.2.2.2).mono ?_
      rintro e6 w6 ⟨rfl, hb6⟩
      have HR6 := Lib.hid (HR5.out.next hb6)
      clear a0 a1 a2 hb6
      go_wp2_with fail
      refine (HSW.out _).mono ?_
      rintro e0 w0 ⟨rfl, hb0⟩
      have HR9 := Lib.hid (HR6.out.next hb0)
      clear hb0
      go_wp2_with fail
      refine (HAW.out _ HR9.out.2.2.2).mono ?_
      rintro e9 w9 ⟨rfl, hb9⟩
      have hfin := bstep HR9.out.2.2.2 hb9
      clear hb9
      go_wp2
      go_ret
      exact ⟨rfl, hfin⟩
set_option maxHeartbeats 8000000 in
theorem teams_B (A : Option Addr) (n cap : Nat) (z b : Int) (L : List Int) (AT : Option Addr) (nT cT : Nat) (LT : List (List ByteArray)) (AR : Option Addr) (nR cR : Nat) (R : List ByteArray) (w : World)
    (hL : IntsZ w A n L) (hT : TeamsB w w.heap.size AT nT LT) (hR : TextsZ w AR nR R) (hc : n ≤ cap) (hcR : nR ≤ cR) (hn : (n : Int) ≤ 9223372036854775807) (hnT : (nT : Int) ≤ 9223372036854775807) (hnR : (nR : Int) ≤ 9223372036854775807) (hTl : ∀ l ∈ LT, (l.length : Int) ≤ 9223372036854775807) (ht : Tabs w) (h1 : n ≤ 11) (h2 : shT LT = true) (h3 : shN R 20 = true) (h4 : relW L z b = 0) (h5 : (teamsE 0 n LT R).2 ≠ 0) :
    Calls Tryz.prog 4 #[.agg #[.slice A n cap, .int .i64 z, .int .i64 b], .slice AT nT cT, .slice AR nR cR] w (Yes w) := by
  have HB := Lib.hid (Box2.new w A n cap z b 24 26)
  have HAW : Hid (∀ w', Below w.heap.size w w' → Calls Tryz.prog 9 #[] w' (RetPost (.bool true) w')) := Lib.hid fun w' hb => aw w' (ht.grow hb)
  have HSR := Lib.hid fun w' => r7ShortRelay_any A n cap z b w'
  have HST : Hid (∀ w', Below w.heap.size w w' → Calls Tryz.prog 22 #[.slice AT nT cT] w' (RetSame (.bool (shT LT)) w')) := Lib.hid fun w' hb => r7ShortTeams_any LT nT cT _ AT w' (hT.below hb (Nat.le_refl _)) hnT hTl
  have HSN : Hid (∀ w', Below w.heap.size w w' → Calls Tryz.prog 23 #[.slice AR nR cR, .int .i64 20] w' (RetSame (.bool (shN R 20)) w')) := Lib.hid fun w' hb => r7ShortNames_any R nR cR 20 AR w' (hR.below hb) (by decide) hnR
  have h1i : (n : Int) ≤ 11 := by omega
  obtain ⟨k1, k2⟩ := shT_of h2
  obtain ⟨k3, k4⟩ := shN_of h3
  rw [h2] at HST
  rw [h3] at HSN
  have hnT1 : nT ≤ 11 := by rw [← hT.1]; exact k1
  have hnR1 : nR ≤ 20 := by rw [← hR.1]; exact k3
  have hnTi : (nT : Int) ≤ 11 := by omega
  have q : maxLen = 9223372036854775807 := rfl
  have kT : ∀ l ∈ LT, l.length ≤ 1000 ∧ ∀ x ∈ l, x.size ≤ maxLen := fun l hl => ⟨by have := (k2 l hl).1; omega, fun x hx => by have := (k2 l hl).2 x hx; omega⟩
  have kR : ∀ x ∈ R, x.size ≤ maxLen := fun x hx => by have := k4 x hx; omega
  have kF : LT.flatten.length ≤ 10000 := by have := flat_le (m := 11) fun l hl => (k2 l hl).1; omega
  have HRC : Hid (∀ w', Below w.heap.size w w' → Calls Tryz.prog 10 #[.agg #[.slice A n cap, .int .i64 z, .int .i64 b]] w' (RetPost (.int .i64 (relW L z b)) w')) := Lib.hid fun w' hb => r7CheckRelay_any L n cap A z b w' (hL.below hb) hn
  have HTT : Hid (∀ (T : List ByteArray) (nt ct : Nat) (At : Option Addr) (w' : World), Below w.heap.size w w' → TextsZ w' At nt T → nt ≤ 1000 → nt ≤ ct → (∀ x ∈ T, x.size ≤ maxLen) → Calls Tryz.prog 25 #[.agg #[.slice A n cap, .int .i64 z, .int .i64 b], .slice At nt ct] w' (RetPost (.int .i64 (teamE (relW L z b) n T)) w')) := Lib.hid fun T nt ct At w' hb g1 g2 g3 g4 => trCheckTeam_any L n cap A z b T nt ct At w' (hL.below hb) hn hc g1 g2 g3 g4
  have HCT : Hid (∀ (T : List ByteArray) (nt ct : Nat) (At : Option Addr) (w' : World), TextsZ w' At nt T → nt ≤ 1000 → nt ≤ ct → (∀ x ∈ T, x.size ≤ maxLen) → Calls Tryz.prog 24 #[.agg #[.slice A n cap, .int .i64 z, .int .i64 b], .slice At nt ct] w' (RetPost (.int .i64 (teamE 0 n T)) w')) := Lib.hid fun T nt ct At w' g1 g2 g3 g4 => r7CheckTeam_any L n cap A z b T nt ct At w' g1 g2 g3 g4
  have HTS : Hid (∀ w', Below w.heap.size w w' → Calls Tryz.prog 26 #[.agg #[.slice A n cap, .int .i64 z, .int .i64 b], .slice AT nT cT, .slice AR nR cR] w' (RetPost (.tuple #[.int .i64 ((teamsE (relW L z b) n LT R).1 : Nat), .int .i64 (teamsE (relW L z b) n LT R).2]) w')) := Lib.hid fun w' hb => trCheckTeams_any A n cap z b L AT nT cT LT AR nR cR R w' (hL.below hb) ((hT.below hb (Nat.le_refl _)).wide hb.size (Nat.le_refl _)) (hR.below hb) hn hc hcR (by omega) kT (by omega) kR
  have HME : Hid (∀ w', Below w.heap.size w w' → Calls Tryz.prog 27 #[.agg #[.slice A n cap, .int .i64 z, .int .i64 b], .slice AT nT cT, .slice AR nR cR] w' (RetPost (.tuple #[.slice none 0 0, .int .i64 (teamsE (relW L z b) n LT R).2]) w')) := Lib.hid fun w' hb => trMembers_bad A n cap z b L AT nT cT LT AR nR cR R w' (hL.below hb) ((hT.below hb (Nat.le_refl _)).wide hb.size (Nat.le_refl _)) (hR.below hb) hn hc hcR (by omega) kT (by omega) kR (by rw [h4]; exact h5)
  have HSW := Lib.hid fun w' => sameW_any [] none none 0 0 0 w' (by decide) (texts_nil _) (texts_nil _)
  have HRS : Hid (∀ w', Below w.heap.size w w' → Calls Tryz.prog 28 #[.agg #[.slice A n cap, .int .i64 z, .int .i64 b], .slice AT nT cT, .slice AR nR cR] w' (RetPost (.tuple #[.int .i64 ((teamsE 0 n LT R).1 : Nat), .int .i64 (teamsE 0 n LT R).2]) w')) := Lib.hid fun w' hb => r7CheckTeams_any A n cap z b AT nT cT LT AR nR cR R w' ((hT.below hb (Nat.le_refl _)).wide hb.size (Nat.le_refl _)) (hR.below hb) hcR (by omega) kT (by omega) kR
  have HTR : Hid (∀ w', Below w.heap.size w w' → TeamsB w' w.heap.size AT nT LT) := Lib.hid fun w' hb => hT.below hb (Nat.le_refl _)
  have HKT := Lib.hid kT
  rw [h4] at HRC HTT HTS HME
  obtain ⟨y1, hy1⟩ : ∃ y : Nat, (teamsE 0 n LT R).1 = y := ⟨_, rfl⟩
  rw [hy1] at HTS HRS
  obtain ⟨y2, hy2⟩ : ∃ y : Int, (teamsE 0 n LT R).2 = y := ⟨_, rfl⟩
  rw [hy2] at HTS HRS HME h5
  have hr0 : (y2 == 0) = false := by rw [beq_eq_false_iff_ne]; exact h5
  have hre : (y2 == y2) = true := by simp
  clear hy2 h5
  have hyy : ((y1 : Int) == (y1 : Int)) = true := by simp
  clear hy1 h4
  clear hL hT hR hn hnT hnR hTl ht h2 h3 k1 k2 k3 k4 kT kR kF q
  go_enter Tryz.func4, Tryz.ntmps4
  go_wp2_with fail
  refine (HSR.out _).mono ?_
  rintro e1 w1 ⟨rfl, hb1⟩
  have HB1 := Lib.hid (HB.out.next hb1)
  clear hb1
  go_wp2_with fail
  refine (HST.out _ HB1.out.2.2.2).mono ?_
  rintro e2 w2 ⟨rfl, rfl⟩
  go_wp2_with fail
  refine (HSN.out _ HB1.out.2.2.2).mono ?_
  rintro e3 w3 ⟨rfl, rfl⟩
  obtain ⟨_, ⟨c0, c1, c2⟩, _, _⟩ := HB1.out
  go_wp2_with fail
  refine (HRC.out _ HB1.out.2.2.2).mono ?_
  rintro e4 w4 ⟨rfl, hb4⟩
  have HB4 := Lib.hid (HB1.out.next hb4)
  clear c0 c1 c2 hb4 HB1 HB HRC HSN HST HSR
  go_wp2
  go_loopw [37] (fun i wr => ∃ k : Nat, k ≤ nT ∧ i = .int .i64 k ∧ Hid (Box2 w w.heap.size A n cap z b wr)) (fun i _ => nT - (RowKit.intOf i).toNat)
  case atStart => exact ⟨0, by omega, rfl, HB4⟩
  case round =>
    obtain ⟨k, hk, rfl, HR⟩ := hrel
    by_cases hlt : k < nT
    · obtain ⟨tb, toff, T, At, ct, rfl, htb, hTk, hTc, hTl, hTB⟩ := (HTR.out _ HR.out.2.2.2).at_ hlt
      have hki : (k : Int) < (nT : Int) := by omega
      have hTs := HKT.out T (List.mem_of_getElem? hTk)
      have HTZ := Lib.hid hTB.toZ
      have HTL := Lib.hid (And.intro hTs hTl)
      obtain ⟨⟨a0, a1, a2⟩, ⟨c0, c1, c2⟩, _, _⟩ := HR.out
      obtain ⟨y, hy⟩ : ∃ y, teamE 0 n T = y := ⟨_, rfl⟩
      have hT1 := HCT.out T T.length ct At wr HTZ.out HTL.out.1.1 HTL.out.2 HTL.out.1.2
      rw [hy] at hT1
      have HT2 : Hid (∀ w', Below wr.heap.size wr w' → Calls Tryz.prog 25 #[.agg #[.slice A n cap, .int .i64 z, .int .i64 b], .slice At T.length ct] w' (RetPost (.int .i64 y) w')) := Lib.hid fun w' hb => by
        rw [← hy]
        exact HTT.out T T.length ct At w' (bstep HR.out.2.2.2 hb) (HTZ.out.below hb) HTL.out.1.1 HTL.out.2 HTL.out.1.2
      have hyn : (y != y) = false := by simp
      obtain ⟨nt, hnt⟩ : ∃ nt, T.length = nt := ⟨_, rfl⟩
      rw [hnt] at hT1 HT2 hTc
      clear hTB hTk hTs hTl hnt HTZ HTL hy
      go_wp2_with fail
      refine hT1.mono ?_
      rintro e5 w5 ⟨rfl, hb5⟩
      have HR4 := Lib.hid (HR.out.next hb5)
      have hT2 := HT2.out _ hb5
      clear a0 a1 a2 c0 c1 c2 hb5 hTc hT1 HT2
      obtain ⟨⟨a0, a1, a2⟩, _⟩ := HR4.out
      go_wp2_with fail
      refine hT2.mono ?_
      rintro e6 w6 ⟨rfl, hb6⟩
      have HR5 := Lib.hid (HR4.out.next hb6)
      clear a0 a1 a2 hb6 hT2 HR4
      go_wp2
      go_roundw
      case rel => exact ⟨k + 1, by omega, by go_num, HR5⟩
      case measure => simp [RowKit.intOf]; omega
    · have hkn : k = nT := by omega
      obtain ⟨⟨a0, a1, a2⟩, _⟩ := HR.out
      go_wp2_with fail
      refine (HTS.out _ HR.out.2.2.2).mono ?_
      rintro e5 w5 ⟨rfl, hb5⟩
      have HR5 := Lib.hid (HR.out.next hb5)
      clear a0 a1 a2 hb5
      obtain ⟨⟨a0, a1, a2⟩, _⟩ := HR5.out
      go_wp2_with fail
      refine (HME.out _ HR5.out.2.2.2).mono ?_
      rintro e6 w6 ⟨rfl, hb6⟩
      have HR6 := Lib.hid (HR5.out.next hb6)
      clear a0 a1 a2 hb6
      obtain ⟨_, ⟨c0, c1, c2⟩, _, _⟩ := HR6.out
      go_wp2_with fail
      refine (HRS.out _ HR6.out.2.2.2).mono ?_
      rintro e7 w7 ⟨rfl, hb7⟩
      have HR7 := Lib.hid (HR6.out.next hb7)
      clear c0 c1 c2 hb7
      go_wp2_with fail
      refine (HSW.out _).mono ?_
      rintro e0 w0 ⟨rfl, hb0⟩
      have HR9 := Lib.hid (HR7.out.next hb0)
      clear hb0
      go_wp2_with fail
      refine (HAW.out _ HR9.out.2.2.2).mono ?_
      rintro e9 w9 ⟨rfl, hb9⟩
      have hfin := bstep HR9.out.2.2.2 hb9
      clear hb9
      go_wp2
      go_ret
      exact ⟨rfl, hfin⟩
set_option maxHeartbeats 8000000 in
theorem teams_C (A : Option Addr) (n cap : Nat) (z b : Int) (L : List Int) (AT : Option Addr) (nT cT : Nat) (LT : List (List ByteArray)) (AR : Option Addr) (nR cR : Nat) (R : List ByteArray) (w : World)
    (hL : IntsZ w A n L) (hT : TeamsB w w.heap.size AT nT LT) (hR : TextsZ w AR nR R) (hc : n ≤ cap) (hcR : nR ≤ cR) (hn : (n : Int) ≤ 9223372036854775807) (hnT : (nT : Int) ≤ 9223372036854775807) (hnR : (nR : Int) ≤ 9223372036854775807) (hTl : ∀ l ∈ LT, (l.length : Int) ≤ 9223372036854775807) (ht : Tabs w) (h1 : n ≤ 11) (h2 : shT LT = true) (h3 : shN R 20 = true) (h4 : relW L z b = 0) (h5 : (teamsE 0 n LT R).2 = 0) :
    Calls Tryz.prog 4 #[.agg #[.slice A n cap, .int .i64 z, .int .i64 b], .slice AT nT cT, .slice AR nR cR] w (Yes w) := by
  have HB := Lib.hid (Box2.new w A n cap z b 24 26)
  have HAW : Hid (∀ w', Below w.heap.size w w' → Calls Tryz.prog 9 #[] w' (RetPost (.bool true) w')) := Lib.hid fun w' hb => aw w' (ht.grow hb)
  have HSR := Lib.hid fun w' => r7ShortRelay_any A n cap z b w'
  have HST : Hid (∀ w', Below w.heap.size w w' → Calls Tryz.prog 22 #[.slice AT nT cT] w' (RetSame (.bool (shT LT)) w')) := Lib.hid fun w' hb => r7ShortTeams_any LT nT cT _ AT w' (hT.below hb (Nat.le_refl _)) hnT hTl
  have HSN : Hid (∀ w', Below w.heap.size w w' → Calls Tryz.prog 23 #[.slice AR nR cR, .int .i64 20] w' (RetSame (.bool (shN R 20)) w')) := Lib.hid fun w' hb => r7ShortNames_any R nR cR 20 AR w' (hR.below hb) (by decide) hnR
  have h1i : (n : Int) ≤ 11 := by omega
  obtain ⟨k1, k2⟩ := shT_of h2
  obtain ⟨k3, k4⟩ := shN_of h3
  rw [h2] at HST
  rw [h3] at HSN
  have hnT1 : nT ≤ 11 := by rw [← hT.1]; exact k1
  have hnR1 : nR ≤ 20 := by rw [← hR.1]; exact k3
  have hnTi : (nT : Int) ≤ 11 := by omega
  have q : maxLen = 9223372036854775807 := rfl
  have kT : ∀ l ∈ LT, l.length ≤ 1000 ∧ ∀ x ∈ l, x.size ≤ maxLen := fun l hl => ⟨by have := (k2 l hl).1; omega, fun x hx => by have := (k2 l hl).2 x hx; omega⟩
  have kR : ∀ x ∈ R, x.size ≤ maxLen := fun x hx => by have := k4 x hx; omega
  have kF : LT.flatten.length ≤ 10000 := by have := flat_le (m := 11) fun l hl => (k2 l hl).1; omega
  have HRC : Hid (∀ w', Below w.heap.size w w' → Calls Tryz.prog 10 #[.agg #[.slice A n cap, .int .i64 z, .int .i64 b]] w' (RetPost (.int .i64 (relW L z b)) w')) := Lib.hid fun w' hb => r7CheckRelay_any L n cap A z b w' (hL.below hb) hn
  have HTT : Hid (∀ (T : List ByteArray) (nt ct : Nat) (At : Option Addr) (w' : World), Below w.heap.size w w' → TextsZ w' At nt T → nt ≤ 1000 → nt ≤ ct → (∀ x ∈ T, x.size ≤ maxLen) → Calls Tryz.prog 25 #[.agg #[.slice A n cap, .int .i64 z, .int .i64 b], .slice At nt ct] w' (RetPost (.int .i64 (teamE (relW L z b) n T)) w')) := Lib.hid fun T nt ct At w' hb g1 g2 g3 g4 => trCheckTeam_any L n cap A z b T nt ct At w' (hL.below hb) hn hc g1 g2 g3 g4
  have HCT : Hid (∀ (T : List ByteArray) (nt ct : Nat) (At : Option Addr) (w' : World), TextsZ w' At nt T → nt ≤ 1000 → nt ≤ ct → (∀ x ∈ T, x.size ≤ maxLen) → Calls Tryz.prog 24 #[.agg #[.slice A n cap, .int .i64 z, .int .i64 b], .slice At nt ct] w' (RetPost (.int .i64 (teamE 0 n T)) w')) := Lib.hid fun T nt ct At w' g1 g2 g3 g4 => r7CheckTeam_any L n cap A z b T nt ct At w' g1 g2 g3 g4
  have HTS : Hid (∀ w', Below w.heap.size w w' → Calls Tryz.prog 26 #[.agg #[.slice A n cap, .int .i64 z, .int .i64 b], .slice AT nT cT, .slice AR nR cR] w' (RetPost (.tuple #[.int .i64 ((teamsE (relW L z b) n LT R).1 : Nat), .int .i64 (teamsE (relW L z b) n LT R).2]) w')) := Lib.hid fun w' hb => trCheckTeams_any A n cap z b L AT nT cT LT AR nR cR R w' (hL.below hb) ((hT.below hb (Nat.le_refl _)).wide hb.size (Nat.le_refl _)) (hR.below hb) hn hc hcR (by omega) kT (by omega) kR
  have HME : Hid (∀ w', Below w.heap.size w w' → Calls Tryz.prog 27 #[.agg #[.slice A n cap, .int .i64 z, .int .i64 b], .slice AT nT cT, .slice AR nR cR] w' (fun e w'' => ∃ v, e = .returned (.tuple #[v, .int .i64 0]) ∧ OwnNames w'' w'.heap.size v (srtB (dst [] LT.flatten)) ∧ Below w'.heap.size w' w'')) := Lib.hid fun w' hb => trMembers_ok A n cap z b L AT nT cT LT AR nR cR R w' (hL.below hb) ((hT.below hb (Nat.le_refl _)).wide hb.size (Nat.le_refl _)) (hR.below hb) hn hc hcR (by omega) kT (by omega) kR (by omega) (by rw [h4]; exact h5)
  have HRM : Hid (∀ w', Below w.heap.size w w' → Calls Tryz.prog 29 #[.slice AT nT cT] w' (fun e w'' => ∃ v, e = .returned v ∧ OwnNames w'' w'.heap.size v (srtB (dst [] LT.flatten)) ∧ Below w'.heap.size w' w'')) := Lib.hid fun w' hb => r7Members_any AT nT cT LT w' ((hT.below hb (Nat.le_refl _)).wide hb.size (Nat.le_refl _)) (by omega) (fun l hl => (kT l hl).1) kF
  have HLEN : Hid ((srtB (dst [] LT.flatten)).length ≤ 300) := Lib.hid (by
    rw [srtB_len]
    have h := dst_len [] LT.flatten
    have h2 := flat_le (m := 11) fun l hl => (k2 l hl).1
    have h3 : 11 * LT.length ≤ 11 * 11 := Nat.mul_le_mul_left _ k1
    rw [List.length_nil] at h
    omega)
  have HRS : Hid (∀ w', Below w.heap.size w w' → Calls Tryz.prog 28 #[.agg #[.slice A n cap, .int .i64 z, .int .i64 b], .slice AT nT cT, .slice AR nR cR] w' (RetPost (.tuple #[.int .i64 ((teamsE 0 n LT R).1 : Nat), .int .i64 (teamsE 0 n LT R).2]) w')) := Lib.hid fun w' hb => r7CheckTeams_any A n cap z b AT nT cT LT AR nR cR R w' ((hT.below hb (Nat.le_refl _)).wide hb.size (Nat.le_refl _)) (hR.below hb) hcR (by omega) kT (by omega) kR
  have HTR : Hid (∀ w', Below w.heap.size w w' → TeamsB w' w.heap.size AT nT LT) := Lib.hid fun w' hb => hT.below hb (Nat.le_refl _)
  have HKT := Lib.hid kT
  rw [h4] at HRC HTT HTS
  obtain ⟨y1, hy1⟩ : ∃ y : Nat, (teamsE 0 n LT R).1 = y := ⟨_, rfl⟩
  rw [hy1] at HTS HRS
  rw [h5] at HTS HRS
  obtain ⟨M, hM⟩ : ∃ M, srtB (dst [] LT.flatten) = M := ⟨_, rfl⟩
  rw [hM] at HME HRM HLEN
  clear hM h5
  have hyy : ((y1 : Int) == (y1 : Int)) = true := by simp
  clear hy1 h4
  clear hL hT hR hn hnT hnR hTl ht h2 h3 k1 k2 k3 k4 kT kR kF q
  go_enter Tryz.func4, Tryz.ntmps4
  go_wp2_with fail
  refine (HSR.out _).mono ?_
  rintro e1 w1 ⟨rfl, hb1⟩
  have HB1 := Lib.hid (HB.out.next hb1)
  clear hb1
  go_wp2_with fail
  refine (HST.out _ HB1.out.2.2.2).mono ?_
  rintro e2 w2 ⟨rfl, rfl⟩
  go_wp2_with fail
  refine (HSN.out _ HB1.out.2.2.2).mono ?_
  rintro e3 w3 ⟨rfl, rfl⟩
  obtain ⟨_, ⟨c0, c1, c2⟩, _, _⟩ := HB1.out
  go_wp2_with fail
  refine (HRC.out _ HB1.out.2.2.2).mono ?_
  rintro e4 w4 ⟨rfl, hb4⟩
  have HB4 := Lib.hid (HB1.out.next hb4)
  clear c0 c1 c2 hb4 HB1 HB HRC HSN HST HSR
  go_wp2
  go_loopw [37] (fun i wr => ∃ k : Nat, k ≤ nT ∧ i = .int .i64 k ∧ Hid (Box2 w w.heap.size A n cap z b wr)) (fun i _ => nT - (RowKit.intOf i).toNat)
  case atStart => exact ⟨0, by omega, rfl, HB4⟩
  case round =>
    obtain ⟨k, hk, rfl, HR⟩ := hrel
    by_cases hlt : k < nT
    · obtain ⟨tb, toff, T, At, ct, rfl, htb, hTk, hTc, hTl, hTB⟩ := (HTR.out _ HR.out.2.2.2).at_ hlt
      have hki : (k : Int) < (nT : Int) := by omega
      have hTs := HKT.out T (List.mem_of_getElem? hTk)
      have HTZ := Lib.hid hTB.toZ
      have HTL := Lib.hid (And.intro hTs hTl)
      obtain ⟨⟨a0, a1, a2⟩, ⟨c0, c1, c2⟩, _, _⟩ := HR.out
      obtain ⟨y, hy⟩ : ∃ y, teamE 0 n T = y := ⟨_, rfl⟩
      have hT1 := HCT.out T T.length ct At wr HTZ.out HTL.out.1.1 HTL.out.2 HTL.out.1.2
      rw [hy] at hT1
      have HT2 : Hid (∀ w', Below wr.heap.size wr w' → Calls Tryz.prog 25 #[.agg #[.slice A n cap, .int .i64 z, .int .i64 b], .slice At T.length ct] w' (RetPost (.int .i64 y) w')) := Lib.hid fun w' hb => by
        rw [← hy]
        exact HTT.out T T.length ct At w' (bstep HR.out.2.2.2 hb) (HTZ.out.below hb) HTL.out.1.1 HTL.out.2 HTL.out.1.2
      have hyn : (y != y) = false := by simp
      obtain ⟨nt, hnt⟩ : ∃ nt, T.length = nt := ⟨_, rfl⟩
      rw [hnt] at hT1 HT2 hTc
      clear hTB hTk hTs hTl hnt HTZ HTL hy
      go_wp2_with fail
      refine hT1.mono ?_
      rintro e5 w5 ⟨rfl, hb5⟩
      have HR4 := Lib.hid (HR.out.next hb5)
      have hT2 := HT2.out _ hb5
      clear a0 a1 a2 c0 c1 c2 hb5 hTc hT1 HT2
      obtain ⟨⟨a0, a1, a2⟩, _⟩ := HR4.out
      go_wp2_with fail
      refine hT2.mono ?_
      rintro e6 w6 ⟨rfl, hb6⟩
      have HR5 := Lib.hid (HR4.out.next hb6)
      clear a0 a1 a2 hb6 hT2 HR4
      go_wp2
      go_roundw
      case rel => exact ⟨k + 1, by omega, by go_num, HR5⟩
      case measure => simp [RowKit.intOf]; omega
    · have hkn : k = nT := by omega
      obtain ⟨⟨a0, a1, a2⟩, _⟩ := HR.out
      go_wp2_with fail
      refine (HTS.out _ HR.out.2.2.2).mono ?_
      rintro e5 w5 ⟨rfl, hb5⟩
      have HR5 := Lib.hid (HR.out.next hb5)
      clear a0 a1 a2 hb5
      obtain ⟨⟨a0, a1, a2⟩, _⟩ := HR5.out
      go_wp2_with fail
      refine (HME.out _ HR5.out.2.2.2).mono ?_
      rintro e6 w6 ⟨v, rfl, hown, hb6⟩
      obtain ⟨Am, cm, rfl, hmZ⟩ := TextsZ.of_own hown
      have HR6 := Lib.hid (HR5.out.next hb6)
      have HMZ := Lib.hid hmZ
      clear a0 a1 a2 hb6 hown hmZ
      obtain ⟨_, ⟨c0, c1, c2⟩, _, _⟩ := HR6.out
      go_wp2_with fail
      refine (HRS.out _ HR6.out.2.2.2).mono ?_
      rintro e7 w7 ⟨rfl, hb7⟩
      have HR7 := Lib.hid (HR6.out.next hb7)
      have HMZ7 := Lib.hid (HMZ.out.below hb7)
      clear c0 c1 c2 hb7
      go_wp2_with fail
      refine (HRM.out _ HR7.out.2.2.2).mono ?_
      rintro e8 w8 ⟨v, rfl, hown, hb8⟩
      obtain ⟨An, cn, rfl, hnZ⟩ := TextsZ.of_own hown
      have HR8 := Lib.hid (HR7.out.next hb8)
      have hSW := sameW_any M Am An M.length cm cn w8 HLEN.out (HMZ7.out.below hb8) hnZ
      clear hb8 hown hnZ
      go_wp2_with fail
      refine hSW.mono ?_
      rintro e0 w0 ⟨rfl, hb0⟩
      have HR9 := Lib.hid (HR8.out.next hb0)
      clear hb0 hSW
      go_wp2_with fail
      refine (HAW.out _ HR9.out.2.2.2).mono ?_
      rintro e9 w9 ⟨rfl, hb9⟩
      have hfin := bstep HR9.out.2.2.2 hb9
      clear hb9
      go_wp2
      go_ret
      exact ⟨rfl, hfin⟩
theorem teams_any (A : Option Addr) (n cap : Nat) (z b : Int) (L : List Int) (AT : Option Addr) (nT cT : Nat) (LT : List (List ByteArray)) (AR : Option Addr) (nR cR : Nat) (R : List ByteArray) (w : World)
    (hL : IntsZ w A n L) (hT : TeamsB w w.heap.size AT nT LT) (hR : TextsZ w AR nR R) (hc : n ≤ cap) (hcR : nR ≤ cR) (hn : (n : Int) ≤ 9223372036854775807) (hnT : (nT : Int) ≤ 9223372036854775807) (hnR : (nR : Int) ≤ 9223372036854775807) (hTl : ∀ l ∈ LT, (l.length : Int) ≤ 9223372036854775807) (ht : Tabs w) :
    Calls Tryz.prog 4 #[.agg #[.slice A n cap, .int .i64 z, .int .i64 b], .slice AT nT cT, .slice AR nR cR] w (Yes w) := by
  by_cases h1 : n ≤ 11
  · cases h2 : shT LT with
    | false => exact teams_ex2 A n cap z b L AT nT cT LT AR nR cR R w hL hT hR hc hcR hn hnT hnR hTl ht h1 h2
    | true =>
      cases h3 : shN R 20 with
      | false => exact teams_ex3 A n cap z b L AT nT cT LT AR nR cR R w hL hT hR hc hcR hn hnT hnR hTl ht h1 h2 h3
      | true =>
        by_cases h4 : relW L z b = 0
        · by_cases h5 : (teamsE 0 n LT R).2 = 0
          · exact teams_C A n cap z b L AT nT cT LT AR nR cR R w hL hT hR hc hcR hn hnT hnR hTl ht h1 h2 h3 h4 h5
          · exact teams_B A n cap z b L AT nT cT LT AR nR cR R w hL hT hR hc hcR hn hnT hnR hTl ht h1 h2 h3 h4 h5
        · exact teams_A A n cap z b L AT nT cT LT AR nR cR R w hL hT hR hc hcR hn hnT hnR hTl ht h1 h2 h3 h4
  · exact teams_ex1 A n cap z b L AT nT cT LT AR nR cR R w hL hT hR hc hcR hn hnT hnR hTl ht (by omega)
end Go.Mk
