/-
  Proved: seed.Places and seed.Advance, and what they check, as plain functions. Conditions: the runners lie where the slices say; the texts are no longer than an int says; the heap holds the program's variables.
-/
import Derived.Test.YtkjolejppnogiaaGreatDoorGg
set_option linter.unusedVariables false
set_option linter.unusedSimpArgs false
open Go Go.Proofs Go.RowKit Go.Sort
set_option maxRecDepth 100000
namespace Go.Mk
theorem seedCheckRunners_all (LL : List (List Run)) (n cap : Nat) (A : Option Addr) (B : Nat) (w : World) (hZ : RHeats w B A n LL) (hn : n ≤ 1000) (hs : ∀ l ∈ LL, l.length ≤ 1000 ∧ ∀ x ∈ l, x.ok) (hg : 13 ≤ w.heap.size) :
    Calls Tryz.prog 38 #[.slice A n cap] w (RetPost (.int .i64 (chkRuns LL)) w) := by
  by_cases h : n ≤ 16
  · exact seedCheckRunners_any LL n cap A B w hZ h hs hg
  · rw [show chkRuns LL = 5 by unfold chkRuns; rw [if_pos (by rw [hZ.1]; omega)]]
    exact seedCheckRunners_many n cap A w (by omega) (by omega)
theorem r4CheckRunners_all (LL : List (List Run)) (n cap : Nat) (A : Option Addr) (B : Nat) (w : World) (hZ : RHeats w B A n LL) (hn : n ≤ 1000) (hs : ∀ l ∈ LL, l.length ≤ 1000 ∧ ∀ x ∈ l, x.ok) :
    Calls Tryz.prog 37 #[.slice A n cap] w (RetPost (.int .i64 (chkRuns LL)) w) := by
  by_cases h : n ≤ 16
  · exact r4CheckRunners_any LL n cap A B w hZ h hs
  · rw [show chkRuns LL = 5 by unfold chkRuns; rw [if_pos (by rw [hZ.1]; omega)]]
    exact r4CheckRunners_many n cap A w (by omega) (by omega)
set_option maxHeartbeats 2000000 in
theorem advanceError_any (LL : List (List Run)) (n cap : Nat) (A : Option Addr) (B : Nat) (p t : Int) (w : World) (hZ : RHeats w B A n LL) (hn : n ≤ 1000) (hs : ∀ l ∈ LL, l.length ≤ 1000 ∧ ∀ x ∈ l, x.ok) (hg : 13 ≤ w.heap.size) :
    Calls Tryz.prog 83 #[.slice A n cap, .int .i64 p, .int .i64 t] w (RetPost (.int .i64 (fstN [chkRuns LL, rngE p 0 160, rngE t 0 160])) w) := by
  have hC := seedCheckRunners_all LL n cap A B w hZ hn hs hg
  have h1 := athletesError_any p
  have h2 := athletesError_any t
  have hF := fun g w => seedFirst_any [chkRuns LL, rngE p 0 160, rngE t 0 160] 3 rfl (by decide) g w
  generalize fstN [chkRuns LL, rngE p 0 160, rngE t 0 160] = e at *
  generalize chkRuns LL = e1 at *
  generalize rngE p 0 160 = e2 at *
  generalize rngE t 0 160 = e3 at *
  clear hZ hs
  go_enter Tryz.func83, Tryz.ntmps83
  go_wp2_with fail
  refine hC.mono ?_
  rintro x w1 ⟨rfl, hb1⟩
  go_wp2_with fail
  refine (h1 _).mono ?_
  rintro x w' ⟨rfl, rfl⟩
  go_wp2_with fail
  refine (h2 _).mono ?_
  rintro x w' ⟨rfl, rfl⟩
  go_wp2_with fail
  refine (hF _ _ (es3 _ _ _ _ _)).mono ?_
  rintro x w' ⟨rfl, rfl⟩
  go_wp2
  go_ret
  exact ⟨rfl, hb1.alloc hb1.size _⟩
set_option maxHeartbeats 2000000 in
theorem seedAdvance_bad (LL : List (List Run)) (n cap : Nat) (A : Option Addr) (B : Nat) (p t e : Int) (w : World) (hZ : RHeats w B A n LL) (hn : n ≤ 1000) (hs : ∀ l ∈ LL, l.length ≤ 1000 ∧ ∀ x ∈ l, x.ok) (hg : 13 ≤ w.heap.size)
    (he : fstN [chkRuns LL, rngE p 0 160, rngE t 0 160] = e) (h0 : (e != 0) = true) :
    Calls Tryz.prog 41 #[.slice A n cap, .int .i64 p, .int .i64 t] w (RetPost (.tuple #[.slice none 0 0, .slice none 0 0, .int .i64 e]) w) := by
  have hE := advanceError_any LL n cap A B p t w hZ hn hs hg
  rw [he] at hE
  clear hZ hs he
  go_enter Tryz.func41, Tryz.ntmps41
  go_wp2_with fail
  refine hE.mono ?_
  rintro x w1 ⟨rfl, hb1⟩
  go_wp2
  go_ret3
  exact ⟨rfl, hb1⟩
/-- What Advance leaves. -/
def SAdvPost (LL : List (List Run)) (place time : Int) (w : World) (e : Ending) (w' : World) : Prop :=
  ∃ u v, e = .returned (.tuple #[u, v, .int .i64 0]) ∧ OwnNames w' w.heap.size u ((byPl LL place).map Run.name) ∧ OwnNames w' w.heap.size v ((byTm LL place time).map Run.name) ∧ Below w.heap.size w w'
theorem byPl_len (LL : List (List Run)) (place : Int) : (byPl LL place).length ≤ LL.flatten.length := by
  unfold byPl
  induction LL with
  | nil => simp
  | cons l LL ih => rw [List.flatMap_cons, List.length_append, List.flatten_cons, List.length_append]; exact Nat.add_le_add (List.length_filter_le _ _) ih
theorem byTm_len (LL : List (List Run)) (place time : Int) : (byTm LL place time).length ≤ LL.flatten.length := by
  rw [tm_eq]
  exact Nat.le_trans (List.length_filter_le _ _) (rest_len LL place)
set_option maxHeartbeats 4000000 in
theorem seedAdvance_ok (LL : List (List Run)) (n cap : Nat) (A : Option Addr) (B : Nat) (p t : Int) (w : World) (hZ : RHeats w B A n LL) (hn : n ≤ 20) (hs : ∀ l ∈ LL, l.length ≤ 170 ∧ ∀ x ∈ l, x.ok) (hl : LL.flatten.length ≤ 1000) (hg : 13 ≤ w.heap.size)
    (he : fstN [chkRuns LL, rngE p 0 160, rngE t 0 160] = 0) :
    Calls Tryz.prog 41 #[.slice A n cap, .int .i64 p, .int .i64 t] w (SAdvPost LL p t w) := by
  have hE := advanceError_any LL n cap A B p t w hZ (by omega) (fun l h => ⟨by have := (hs l h).1; omega, (hs l h).2⟩) hg
  rw [he] at hE
  have HA : Hid (∀ w', Below w.heap.size w w' → Calls Tryz.prog 84 #[.slice A n cap, .int .i64 p, .int .i64 t] w' (AdvPost LL p t w')) := fun w' hb => advancing_any LL n cap A B p t w' (hZ.below hb hZ.2.1) hn (fun l h => (hs l h).1) hl
  have l1 := Nat.le_trans (byPl_len LL p) hl
  have l2 := Nat.le_trans (byTm_len LL p t) hl
  clear hZ hs he hl
  go_enter Tryz.func41, Tryz.ntmps41
  go_wp2_with fail
  refine hE.mono ?_
  rintro x w1 ⟨rfl, hb1⟩
  have hAd := HA.out _ hb1
  unfold AdvPost at hAd
  obtain ⟨P, hP⟩ : ∃ P, byPl LL p = P := ⟨_, rfl⟩
  obtain ⟨T, hT⟩ : ∃ T, byTm LL p t = T := ⟨_, rfl⟩
  rw [hP] at hAd l1
  rw [hT] at hAd l2
  have HPP := Lib.hid hP
  have HTT := Lib.hid hT
  clear HA hE hP hT
  go_wp2_with fail
  refine hAd.mono ?_
  rintro x w2 ⟨u, v, rfl, hu, hv, hb2⟩
  obtain ⟨A1, c1, rfl, hR1⟩ := Runs.of_ownS hu
  obtain ⟨A2, c2, rfl, hR2⟩ := Runs.of_ownS hv
  have hb3 := hb1.trans (hb2.mono hb1.size)
  have hN1 := namesOf_any P P.length c1 A1 _ w2 hR1 (by omega)
  have HN2 : Hid (∀ w', Below w2.heap.size w2 w' → Calls Tryz.prog 85 #[.slice A2 T.length c2] w' (fun e w'' => ∃ v, e = .returned v ∧ OwnNames w'' w'.heap.size v (T.map Run.name) ∧ Below w'.heap.size w' w'')) := fun w' hb => namesOf_any T T.length c2 A2 _ w' (hR2.below hb (Nat.le_refl _)) (by omega)
  have HP := Lib.hid l1
  clear hAd hb1 hb2 hu hv hR1 hR2 l1 l2
  go_wp2_with fail
  refine hN1.mono ?_
  rintro x w4 ⟨u4, rfl, hu4, hb4⟩
  have hN2 := HN2.out _ hb4
  have HU4 := Lib.hid hu4
  clear hN1 HN2 hu4
  go_wp2_with fail
  refine hN2.mono ?_
  rintro x w5 ⟨v5, rfl, hv5, hb5⟩
  have hu5 := ownN HU4.out hb5
  have hb6 := hb3.trans (hb4.mono hb3.size)
  have HF : Hid (OwnNames w5 w.heap.size u4 ((byPl LL p).map Run.name) ∧ OwnNames w5 w.heap.size v5 ((byTm LL p t).map Run.name) ∧ Below w.heap.size w w5) := (show _ ∧ _ ∧ _ by rw [HPP.out, HTT.out]; exact ⟨OwnNames.low hu5 hb3.size, OwnNames.low hv5 hb6.size, hb6.trans (hb5.mono hb6.size)⟩)
  clear hN2 HU4 hv5 hu5 hb5 hb4 hb3 hb6
  go_wp2
  go_ret3
  exact ⟨_, _, rfl, HF.out.1, HF.out.2.1, HF.out.2.2⟩
/-- A single heat in a new list. -/
theorem one_heat {w : World} {B n c : Nat} {A : Option Addr} {l : List Run} {t : TypeId} (h : Runs w B A n l) : RHeats (w.alloc (.cells #[.slice A n c] t)) (w.heap.size + 1) (some ⟨w.heap.size, 0, none⟩) 1 [l] := by
  refine ⟨rfl, by simp, fun _ => ⟨w.heap.size, 0, rfl, by omega, fun i q hq => ?_⟩⟩
  have hi : i = 0 := by
    have := (List.getElem?_eq_some_iff.1 hq).1
    simpa using this
  subst hi
  simp at hq
  subst hq
  have hn := h.1
  subst hn
  exact ⟨A, c, by simp, (h.below ((Below.refl _ _).alloc (Nat.le_refl _) _) h.2.1).up (by have := h.2.1; omega) (by simp)⟩
set_option maxHeartbeats 2000000 in
theorem seedPlaces_bad (l : List Run) (n cap : Nat) (A : Option Addr) (B : Nat) (e : Int) (w : World) (hZ : Runs w B A n l) (hn : n ≤ 1000) (hs : ∀ x ∈ l, x.ok) (hg : 13 ≤ w.heap.size) (he : chkRuns [l] = e) (h0 : (e != 0) = true) :
    Calls Tryz.prog 39 #[.slice A n cap] w (RetPost (.tuple #[.slice none 0 0, .int .i64 e]) w) := by
  have hC := fun t => seedCheckRunners_all [l] 1 1 (some ⟨w.heap.size, 0, none⟩) _ (w.alloc (.cells #[.slice A n cap] t)) (one_heat hZ) (by decide) (fun q hq => by simp at hq; subst hq; exact ⟨by rw [hZ.1]; omega, hs⟩) (by simp; omega)
  rw [he] at hC
  have hni : (n : Int) ≤ 1000 := by omega
  clear hZ hs he
  go_enter Tryz.func39, Tryz.ntmps39
  go_wp2_with fail
  refine (hC _).mono ?_
  rintro x w1 ⟨rfl, hb1⟩
  have hb2 := bstep (balloc _ (Below.refl _ _)) hb1
  clear hb1
  go_wp2
  go_ret2
  exact ⟨rfl, hb2⟩
/-- What Places leaves. -/
def SPlPost (l : List Run) (n : Nat) (w : World) (e : Ending) (w' : World) : Prop :=
  ∃ g, e = .returned (.tuple #[.slice (some ⟨g, 0, none⟩) n n, .int .i64 0]) ∧ IntsZ w' (some ⟨g, 0, none⟩) n (l.map (plc l)) ∧ Below w.heap.size w w'
set_option maxHeartbeats 2000000 in
theorem seedPlaces_ok (l : List Run) (n cap : Nat) (A : Option Addr) (B : Nat) (w : World) (hZ : Runs w B A n l) (hn : n ≤ 1000) (hs : ∀ x ∈ l, x.ok) (hg : 13 ≤ w.heap.size) (he : chkRuns [l] = 0) :
    Calls Tryz.prog 39 #[.slice A n cap] w (SPlPost l n w) := by
  have hC := fun t => seedCheckRunners_all [l] 1 1 (some ⟨w.heap.size, 0, none⟩) _ (w.alloc (.cells #[.slice A n cap] t)) (one_heat hZ) (by decide) (fun q hq => by simp at hq; subst hq; exact ⟨by rw [hZ.1]; omega, hs⟩) (by simp; omega)
  rw [he] at hC
  have hni : (n : Int) ≤ 1000 := by omega
  have hln := hZ.1
  have HP : Hid (∀ w', Below w.heap.size w w' → Calls Tryz.prog 82 #[.slice A n cap] w' (PlPost l n w')) := fun w' hb => placesOf_any l n cap A B w' (hZ.below hb hZ.2.1) hn
  have HL := Lib.hid hln
  clear hZ hs he hln
  go_enter Tryz.func39, Tryz.ntmps39
  go_wp2_with fail
  refine (hC _).mono ?_
  rintro x w1 ⟨rfl, hb1⟩
  have hb2 := bstep (balloc _ (Below.refl _ _)) hb1
  have hP := HP.out _ hb2
  clear hb1 HP hC
  go_wp2_with fail
  refine hP.mono ?_
  rintro x w3 ⟨g, rfl, hgs, hrow, hb3⟩
  have HF : Hid (IntsZ w3 (some ⟨g, 0, none⟩) n (l.map (plc l)) ∧ Below w.heap.size w w3) := by
    refine ⟨⟨by rw [List.length_map, HL.out], fun _ => ⟨g, 0, rfl, hrow.1, fun j x hx => ?_⟩⟩, hb2.trans (hb3.mono hb2.size)⟩
    rw [List.getElem?_map] at hx
    obtain ⟨y, hy, rfl⟩ := Option.map_eq_some_iff.1 hx
    rw [← plcN_cast, Nat.zero_add]
    exact (hrow.2 j (plcN l y) (by rw [List.getElem?_map, hy]; rfl)).1
  clear hrow hb3 hb2 hP HL
  go_wp2
  go_ret2
  exact ⟨_, rfl, HF.out.1, HF.out.2⟩
end Go.Mk
