/-
  Proved: the error of a pattern of lanes by package seed (CheckPattern and what it calls with functions as values), as a plain function. Conditions: the lanes lie where the slices say, at most 12 groups of at most 12 lanes.
-/
import Derived.Test.YtebehbojbdcclaaGreatDoorZc
set_option linter.unusedVariables false
set_option linter.unusedSimpArgs false
open Go Go.Proofs Go.RowKit Go.Sort
set_option maxRecDepth 100000
namespace Go.Mk
theorem Zss.wide' {w w' : World} {B n : Nat} {A : Option Addr} {LL : List (List Int)} (h : Zss w B A n LL) (hb : Below w.heap.size w w') : Zss w' w.heap.size A n LL := by
  refine ⟨h.1, hb.size, fun hn => ?_⟩
  obtain ⟨b, off, e, hlt, hc⟩ := (h.below hb h.2.1).2.2 hn
  refine ⟨b, off, e, Nat.lt_of_lt_of_le hlt h.2.1, fun i l hl => ?_⟩
  obtain ⟨A', c', h1, h2⟩ := hc i l hl
  refine ⟨A', c', h1, h2.1, hb.size, fun q => ?_⟩
  obtain ⟨b2, off2, e2, hlt2, hc2⟩ := h2.2.2 q
  exact ⟨b2, off2, e2, Nat.lt_of_lt_of_le hlt2 h.2.1, hc2⟩
/-- The error of the lanes of a group behind those that have been there, and those that have been there from then on. -/
def lanesE : List Int → List Int → Int × List Int
  | P, [] => (0, P)
  | P, x :: l => if x < 1 ∨ 10 < x ∨ x ∈ P then (17, P) else lanesE (P ++ [x]) l
/-- The error of a group. -/
def groupE (P l : List Int) : Int := if l = [] then 12 else (lanesE P l).1
/-- The error of groups. -/
def groupsE : List Int → List (List Int) → Int
  | _, [] => 0
  | P, l :: LL => if groupE P l = 0 then groupsE (lanesE P l).2 LL else groupE P l
/-- The error of a pattern. -/
def patE (LL : List (List Int)) : Int := if 10 < LL.length then 5 else if LL = [] then 12 else groupsE [] LL
theorem Seen.below {w w' : World} {B s n : Nat} {P : List Int} (h : Seen w B s n P) (hb : Below w.heap.size w w') : Seen w' B s n P :=
  ⟨Nat.lt_of_lt_of_le h.1 hb.size, h.2.1, fun x hx => ⟨(hb.cell (p := ⟨s, x, none⟩) h.1).trans (h.2.2 x hx).1, (hb.frozen (p := ⟨s, x, none⟩) h.1).trans (h.2.2 x hx).2⟩⟩
def LaneF (t : Nat) : Value := .func (.func 72) #[.pointer (some ⟨t, 0, none⟩)] #[]
def GroupF (t : Nat) : Value := .func (.func 40) #[.pointer (some ⟨t, 0, none⟩)] #[]
/-- What the check of lanes leaves. -/
def LanePost (t : Nat) (x : Int × List Int) (w : World) (e : Ending) (w' : World) : Prop := e = .returned (.int .i64 x.1) ∧ Seen w' t t 11 x.2 ∧ Below t w w'
set_option maxHeartbeats 1000000 in
theorem laneError_bad (t : Nat) (P : List Int) (x : Int) (w : World) (hS : Seen w t t 11 P) (hx : x < 1 ∨ 10 < x ∨ x ∈ P) : Calls Tryz.prog 72 #[.pointer (some ⟨t, 0, none⟩), .int .i64 x] w (LanePost t (17, P) w) := by
  by_cases h1 : x < 1
  · go_enter Tryz.func72, Tryz.ntmps72
    go_wp2
    go_ret
    exact ⟨rfl, hS, Below.refl _ _⟩
  · by_cases h2 : 10 < x
    · go_enter Tryz.func72, Tryz.ntmps72
      go_wp2
      go_ret
      exact ⟨rfl, hS, Below.refl _ _⟩
    · have h3 : x ∈ P := by
        rcases hx with h | h | h
        · omega
        · omega
        · exact h
      obtain ⟨y, rfl⟩ : ∃ y : Nat, x = (y : Int) := ⟨x.toNat, by omega⟩
      obtain ⟨c, _⟩ := hS.2.2 y (by omega)
      rw [decide_eq_true h3] at c
      have HS := Lib.hid hS
      have hl : (y : Int) < 11 := by omega
      clear hS hx
      go_enter Tryz.func72, Tryz.ntmps72
      go_wp2
      go_ret
      exact ⟨rfl, HS.out, Below.refl _ _⟩
set_option maxHeartbeats 1000000 in
theorem laneError_ok (t : Nat) (P : List Int) (x : Int) (w : World) (hS : Seen w t t 11 P) (h1 : 1 ≤ x) (h2 : x ≤ 10) (h3 : x ∉ P) : Calls Tryz.prog 72 #[.pointer (some ⟨t, 0, none⟩), .int .i64 x] w (LanePost t (0, P ++ [x]) w) := by
  obtain ⟨y, rfl⟩ : ∃ y : Nat, x = (y : Int) := ⟨x.toNat, by omega⟩
  obtain ⟨c, f⟩ := hS.of (x := y) (by omega) h3
  have HS : Hid (Seen (w.setCell ⟨t, y, none⟩ (.bool true)) t t 11 (P ++ [(y : Int)])) := hS.set_ (by omega)
  have hl : (y : Int) < 11 := by omega
  clear hS h3
  go_enter Tryz.func72, Tryz.ntmps72
  go_wp2
  go_ret
  exact ⟨rfl, HS.out, by refine (Below.refl t w).setCell ?_ _; exact Nat.le_refl _⟩
theorem laneError_any (t : Nat) (P : List Int) (x : Int) (l : List Int) (w : World) (hS : Seen w t t 11 P) : Calls Tryz.prog 72 #[.pointer (some ⟨t, 0, none⟩), .int .i64 x] w (LanePost t (if x < 1 ∨ 10 < x ∨ x ∈ P then (17, P) else (0, P ++ [x])) w) := by
  by_cases hx : x < 1 ∨ 10 < x ∨ x ∈ P
  · rw [if_pos hx]; exact laneError_bad t P x w hS hx
  · rw [if_neg hx]; exact laneError_ok t P x w hS (by omega) (by omega) (fun h => hx (.inr (.inr h)))
set_option maxHeartbeats 1000000 in
theorem firstOfInt_any (t : Nat) (P : List Int) (L : List Int) (n cap : Nat) (A : Option Addr) (w : World) (hZ : Zi w t A n L) (hS : Seen w t t 11 P) (hn : n ≤ 100) : Calls Tryz.prog 71 #[.slice A n cap, LaneF t] w (LanePost t (lanesE P L) w) := by
  unfold LaneF
  have hni : (n : Int) ≤ 100 := by omega
  have HM : Hid (∀ w', Below t w w' → Zi w' t A n L) := fun w' hb => hZ.below hb (Nat.le_refl _)
  have Hlen : Hid (L.length = n) := hZ.1
  obtain ⟨X, hX⟩ : ∃ X, lanesE P L = X := ⟨_, rfl⟩
  rw [hX]
  have HX : Hid (lanesE P (L.drop 0) = X) := (show _ = _ by rw [List.drop_zero, hX])
  clear hX hZ
  go_enter Tryz.func71, Tryz.ntmps71
  go_wp2
  go_loopw [10] (fun i wr => ∃ (k : Nat) (Q : List Int), k ≤ n ∧ i = .int .i64 k ∧ Hid (lanesE Q (L.drop k) = X) ∧ Seen wr t t 11 Q ∧ Below t w wr) (fun i _ => n - (intOf i).toNat)
  case atStart => exact ⟨0, P, by omega, rfl, HX, hS, Below.refl _ _⟩
  case round =>
    obtain ⟨k, Q, hk, rfl, HK, hSk, hb⟩ := hrel
    by_cases hlt : k < n
    · obtain ⟨b, off, x, rfl, hbl, hL, c0⟩ := (HM.out _ hb).at_ hlt
      have hD : L.drop k = x :: L.drop (k + 1) := by
        have hkl := (List.getElem?_eq_some_iff.1 hL).1
        rw [List.drop_eq_getElem_cons hkl, (List.getElem?_eq_some_iff.1 hL).2]
      have hst := HK.out
      rw [hD, lanesE] at hst
      have hC := laneError_any t Q x [] wr hSk
      have hki : (k : Int) < (n : Int) := by omega
      clear hD hL HK
      by_cases hx : x < 1 ∨ 10 < x ∨ x ∈ Q
      · rw [if_pos hx] at hC hst
        subst hst
        clear hx hSk
        go_wp2_with fail
        refine hC.mono ?_
        rintro e w2 ⟨rfl, hS2, hb2⟩
        go_wp2
        go_ret
        exact ⟨rfl, hS2, hb.trans hb2⟩
      · rw [if_neg hx] at hC hst
        have Hst := Lib.hid hst
        clear hx hSk hst
        go_wp2_with fail
        refine hC.mono ?_
        rintro e w2 ⟨rfl, hS2, hb2⟩
        go_wp2
        go_roundw
        case rel => exact ⟨k + 1, Q ++ [x], by omega, by go_num, Hst, hS2, hb.trans hb2⟩
        case measure => simp [intOf]; omega
    · have hz := HK.out
      rw [List.drop_of_length_le (by rw [Hlen.out]; omega), lanesE] at hz
      subst hz
      go_wp2
      go_ret
      exact ⟨rfl, hSk, hb⟩
/-- What the check of a group leaves. -/
def GroupPost (t : Nat) (P l : List Int) (w : World) (e : Ending) (w' : World) : Prop := e = .returned (.int .i64 (groupE P l)) ∧ Seen w' t t 11 (lanesE P l).2 ∧ Below t w w'
set_option maxHeartbeats 1000000 in
theorem groupError_any (t : Nat) (P : List Int) (L : List Int) (n cap : Nat) (A : Option Addr) (w : World) (hZ : Zi w t A n L) (hS : Seen w t t 11 P) (hn : n ≤ 100) : Calls Tryz.prog 40 #[.pointer (some ⟨t, 0, none⟩), .slice A n cap] w (GroupPost t P L w) := by
  have hni : (n : Int) ≤ 100 := by omega
  have hW := fun w => seedWhen_any ((n : Int) == 0) 12 w
  have hO := fun cap w hZ hS => firstOfInt_any t P L n cap A w hZ hS hn
  have hF := fun g w => seedFirst_any [if (n : Int) == 0 then 12 else 0, (lanesE P L).1] 2 rfl (by decide) g w
  have hlen := hZ.1
  have he : fstN [if (n : Int) == 0 then 12 else 0, (lanesE P L).1] = groupE P L := by
    unfold groupE
    by_cases h0 : L = []
    · subst h0
      have : n = 0 := by simpa using hlen.symm
      subst this
      rfl
    · have : ¬ (n : Int) = 0 := by
        intro q
        apply h0
        exact List.length_eq_zero_iff.1 (by omega)
      rw [if_neg h0, show ((n : Int) == 0) = false from beq_eq_false_iff_ne.2 this]
      simp only [Bool.false_eq_true, if_false, fstN, if_true]
      split <;> omega
  rw [he] at hF
  unfold GroupPost
  generalize (if ((n : Int) == 0) = true then (12 : Int) else 0) = e3 at *
  generalize groupE P L = e4 at *
  unfold LanePost at hO
  generalize lanesE P L = X at *
  obtain ⟨x1, x2⟩ := X
  unfold LaneF at hO
  clear he hlen
  go_enter Tryz.func40, Tryz.ntmps40
  go_wp2_with fail
  refine (hW _).mono ?_
  rintro x w' ⟨rfl, rfl⟩
  go_wp2_with fail
  refine (hO cap _ hZ hS).mono ?_
  rintro x w2 ⟨rfl, hS2, hb2⟩
  have ht : t ≤ w2.heap.size := Nat.le_of_lt hS2.1
  go_wp2_with fail
  refine (hF _ _ (first2_es _ _ _ _)).mono ?_
  rintro x w' ⟨rfl, rfl⟩
  go_wp2
  go_ret
  exact ⟨rfl, hS2.below ((Below.refl _ _).alloc (Nat.le_refl _) _), hb2.alloc ht _⟩
set_option maxHeartbeats 1000000 in
theorem firstOfInts_any (t : Nat) (LL : List (List Int)) (n cap : Nat) (A : Option Addr) (w : World) (hZ : Zss w t A n LL) (hS : Seen w t t 11 []) (hn : n ≤ 100) (hs : ∀ l ∈ LL, l.length ≤ 100) : Calls Tryz.prog 39 #[.slice A n cap, GroupF t] w fun e w' => e = .returned (.int .i64 (groupsE [] LL)) ∧ Below t w w' := by
  unfold GroupF
  have hni : (n : Int) ≤ 100 := by omega
  have HM : Hid (∀ w', Below t w w' → Zss w' t A n LL) := fun w' hb => hZ.below hb (Nat.le_refl _)
  have Hlen : Hid (LL.length = n) := hZ.1
  have HS := Lib.hid hs
  obtain ⟨X, hX⟩ : ∃ X, groupsE [] LL = X := ⟨_, rfl⟩
  rw [hX]
  have HX : Hid (groupsE [] (LL.drop 0) = X) := (show _ = _ by rw [List.drop_zero, hX])
  clear hX hZ hs
  go_enter Tryz.func39, Tryz.ntmps39
  go_wp2
  go_loopw [10] (fun i wr => ∃ (k : Nat) (Q : List Int), k ≤ n ∧ i = .int .i64 k ∧ Hid (groupsE Q (LL.drop k) = X) ∧ Seen wr t t 11 Q ∧ Below t w wr) (fun i _ => n - (intOf i).toNat)
  case atStart => exact ⟨0, [], by omega, rfl, HX, hS, Below.refl _ _⟩
  case round =>
    obtain ⟨k, Q, hk, rfl, HK, hSk, hb⟩ := hrel
    by_cases hlt : k < n
    · obtain ⟨b, off, l, A', c', rfl, hbl, hL, hc, hZl⟩ := (HM.out _ hb).at_ hlt
      have hD : LL.drop k = l :: LL.drop (k + 1) := by
        have hkl := (List.getElem?_eq_some_iff.1 hL).1
        rw [List.drop_eq_getElem_cons hkl, (List.getElem?_eq_some_iff.1 hL).2]
      have hst := HK.out
      rw [hD, groupsE] at hst
      have hC := groupError_any t Q l l.length c' A' wr hZl hSk (HS.out l (List.mem_of_getElem? hL))
      have hki : (k : Int) < (n : Int) := by omega
      unfold GroupPost at hC
      obtain ⟨m, hm⟩ : ∃ m, l.length = m := ⟨_, rfl⟩
      rw [hm] at hC hc
      clear hD hL HK hZl hm
      by_cases hx : groupE Q l = 0
      · rw [if_pos hx] at hst
        rw [hx] at hC
        have Hst := Lib.hid hst
        clear hx hSk hst
        go_wp2_with fail
        refine hC.mono ?_
        rintro e w2 ⟨rfl, hS2, hb2⟩
        go_wp2
        go_roundw
        case rel => exact ⟨k + 1, _, by omega, by go_num, Hst, hS2, hb.trans hb2⟩
        case measure => simp [intOf]; omega
      · rw [if_neg hx] at hst
        have hxb : (groupE Q l != 0) = true := by rw [bne_iff_ne]; exact hx
        generalize groupE Q l = e4 at *
        subst hst
        clear hx hSk
        go_wp2_with fail
        refine hC.mono ?_
        rintro e w2 ⟨rfl, hS2, hb2⟩
        go_wp2
        go_ret
        exact ⟨rfl, hb.trans hb2⟩
    · have hz := HK.out
      rw [List.drop_of_length_le (by rw [Hlen.out]; omega), groupsE] at hz
      subst hz
      go_wp2
      go_ret
      exact ⟨rfl, hb⟩
theorem eleven (x : Nat) (hx : x < 11) : (#[.bool false, .bool false, .bool false, .bool false, .bool false, .bool false, .bool false, .bool false, .bool false, .bool false, .bool false] : Array Value)[x]? = some (.bool false) := by
  match x, hx with
  | 0, _ => rfl
  | 1, _ => rfl
  | 2, _ => rfl
  | 3, _ => rfl
  | 4, _ => rfl
  | 5, _ => rfl
  | 6, _ => rfl
  | 7, _ => rfl
  | 8, _ => rfl
  | 9, _ => rfl
  | 10, _ => rfl
theorem Seen.fresh (w : World) (ty : TypeId) : Seen (w.alloc (.cells #[.bool false, .bool false, .bool false, .bool false, .bool false, .bool false, .bool false, .bool false, .bool false, .bool false, .bool false] ty)) w.heap.size w.heap.size 11 [] := by
  refine ⟨by simp, Nat.le_refl _, fun x hx => ⟨?_, by simp⟩⟩
  have := eleven x hx
  simp only [World.cell?_alloc_new] at *
  simpa using this
set_option maxHeartbeats 1000000 in
theorem seedPattern_many (n cap : Nat) (A : Option Addr) (w : World) (h : 10 < (n : Int)) : Calls Tryz.prog 10 #[.slice A n cap] w (RetPost (.int .i64 5) w) := by
  go_enter Tryz.func10, Tryz.ntmps10
  go_wp2
  go_ret
  exact ⟨rfl, Below.refl _ _⟩
set_option maxHeartbeats 1000000 in
theorem seedPattern_few (LL : List (List Int)) (n cap : Nat) (A : Option Addr) (B : Nat) (w : World) (hZ : Zss w B A n LL) (hn : n ≤ 10) (hs : ∀ l ∈ LL, l.length ≤ 100) : Calls Tryz.prog 10 #[.slice A n cap] w (RetPost (.int .i64 (patE LL)) w) := by
  have hni : (n : Int) ≤ 10 := by omega
  have hlen := hZ.1
  have hW := fun w => seedWhen_any ((n : Int) == 0) 12 w
  have hO := fun t w hZ hS => firstOfInts_any t LL n cap A w hZ hS (by omega) hs
  have hF := fun g w => seedFirst_any [if (n : Int) == 0 then 12 else 0, groupsE [] LL] 2 rfl (by decide) g w
  have he : fstN [if (n : Int) == 0 then 12 else 0, groupsE [] LL] = patE LL := by
    have q10 : ¬ 10 < LL.length := by omega
    unfold patE
    simp only [q10, if_false]
    by_cases h0 : LL = []
    · subst h0
      have : n = 0 := by simpa using hlen.symm
      subst this
      rfl
    · have : ¬ (n : Int) = 0 := by
        intro q
        apply h0
        exact List.length_eq_zero_iff.1 (by omega)
      rw [if_neg h0, show ((n : Int) == 0) = false from beq_eq_false_iff_ne.2 this]
      simp only [Bool.false_eq_true, if_false, fstN, if_true]
      split <;> omega
  rw [he] at hF
  generalize (if ((n : Int) == 0) = true then (12 : Int) else 0) = e3 at *
  generalize patE LL = e4 at *
  generalize groupsE [] LL = e5 at *
  unfold GroupF at hO
  clear he hlen
  go_enter Tryz.func10, Tryz.ntmps10
  go_wp2_with fail
  refine (hW _).mono ?_
  rintro x w' ⟨rfl, rfl⟩
  go_wp2_with fail
  have hb0 : Below w.heap.size w (w.alloc (.cells #[.bool false, .bool false, .bool false, .bool false, .bool false, .bool false, .bool false, .bool false, .bool false, .bool false, .bool false] 82)) := (Below.refl _ _).alloc (Nat.le_refl _) _
  refine (hO w.heap.size _ (hZ.wide' hb0) (Seen.fresh w 82)).mono ?_
  rintro x w2 ⟨rfl, hb2⟩
  have hb3 := hb0.trans (hb2.mono (Nat.le_refl _))
  go_wp2_with fail
  refine (hF _ _ (first2_es _ _ _ _)).mono ?_
  rintro x w' ⟨rfl, rfl⟩
  go_wp2
  go_ret
  exact ⟨rfl, hb3.alloc hb3.size _⟩
end Go.Mk
