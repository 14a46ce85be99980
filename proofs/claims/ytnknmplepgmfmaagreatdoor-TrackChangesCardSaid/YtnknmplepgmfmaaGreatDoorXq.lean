/-
  Proved: the reference's ShortRelay, ShortNames and ShortTeams as plain functions; SameWords on lists that are the same. Conditions: the names and the teams lie where the slices say.
-/
import Derived.Test.YtnknmplepgmfmaaGreatDoorXn
set_option linter.unusedVariables false
set_option linter.unusedSimpArgs false
open Go Go.Proofs Go.RowKit Go.Maps Go.Sort Go.WideMaps
set_option maxRecDepth 100000
namespace Go.Mk
set_option maxHeartbeats 1000000 in
theorem r7ShortRelay_any (A : Option Addr) (n cap : Nat) (z b : Int) (w : World) :
    Calls Tryz.prog 8 #[.agg #[.slice A n cap, .int .i64 z, .int .i64 b]] w (RetPost (.bool (decide ((n : Int) ≤ 11))) w) := by
  have hb0 : Below w.heap.size w (w.alloc (.cells #[.slice A n cap, .int .i64 z, .int .i64 b] 26)) := balloc _ (Below.refl _ _)
  go_enter Tryz.func8, Tryz.ntmps8
  go_wp2
  go_ret
  exact ⟨rfl, hb0⟩
/-- Are names few, and short? -/
def shN (L : List ByteArray) (m : Nat) : Bool := decide (L.length ≤ m) && L.all fun x => decide (x.size ≤ 60)
theorem all_drop {L : List ByteArray} {k : Nat} {x : ByteArray} (h : L[k]? = some x) : (L.drop k).all (fun x => decide (x.size ≤ 60)) = (decide (x.size ≤ 60) && (L.drop (k + 1)).all fun x => decide (x.size ≤ 60)) := by
  obtain ⟨hk, e⟩ := List.getElem?_eq_some_iff.1 h
  rw [List.drop_eq_getElem_cons hk, e, List.all_cons]
set_option maxHeartbeats 2000000 in
theorem r7ShortNames_any (L : List ByteArray) (n cap m : Nat) (A : Option Addr) (w : World) (hZ : TextsZ w A n L) (hm : m ≤ 100) (hnm : (n : Int) ≤ 9223372036854775807) :
    Calls Tryz.prog 23 #[.slice A n cap, .int .i64 (m : Int)] w (RetSame (.bool (shN L m)) w) := by
  by_cases hn : n ≤ m
  · have hni : ¬ (m : Int) < (n : Int) := by omega
    have hn1 : (n : Int) ≤ 100 := by omega
    have HM := Lib.hid hZ
    have Hlen := Lib.hid hZ.1
    obtain ⟨X, hX⟩ : ∃ X, shN L m = X := ⟨_, rfl⟩
    rw [hX]
    have HX : Hid ((L.drop 0).all (fun x => decide (x.size ≤ 60)) = X) := Lib.hid (by
      rw [List.drop_zero, ← hX]
      unfold shN
      rw [hZ.1, decide_eq_true hn, Bool.true_and])
    clear hZ hX hnm
    go_enter Tryz.func23, Tryz.ntmps23
    go_wp2
    go_loop [5] (fun i => ∃ k : Nat, k ≤ n ∧ i = .int .i64 k ∧ Hid ((L.drop k).all (fun x => decide (x.size ≤ 60)) = X)) (fun i => n - (RowKit.intOf i).toNat)
    case atStart => exact ⟨0, by omega, rfl, HX⟩
    case round =>
      obtain ⟨k, hk, rfl, HK⟩ := hrel
      by_cases hlt : k < n
      · obtain ⟨b, off, x, rfl, _, hLk, c1'⟩ := HM.out.at_ hlt
        have hki : (k : Int) < (n : Int) := by omega
        have hst := HK.out
        rw [all_drop hLk] at hst
        by_cases g : x.size ≤ 60
        · rw [decide_eq_true g, Bool.true_and] at hst
          have Hst := Lib.hid hst
          have gi : ¬ (60 : Int) < (x.size : Int) := by omega
          clear hst hLk HK
          go_wp2
          exact ⟨⟨k + 1, by omega, by go_num, Hst⟩, by simp [RowKit.intOf]; omega⟩
        · rw [decide_eq_false g, Bool.false_and] at hst
          subst hst
          have gi : (60 : Int) < (x.size : Int) := by omega
          clear hLk HK HX
          go_wp2
          go_ret
          exact ⟨rfl, rfl⟩
      · have hz := HK.out
        rw [List.drop_of_length_le (by rw [Hlen.out]; omega), List.all_nil] at hz
        subst hz
        go_wp2
        go_ret
        exact ⟨rfl, rfl⟩
  · have hni : (m : Int) < (n : Int) := by omega
    have hX : shN L m = false := by unfold shN; rw [hZ.1, decide_eq_false hn, Bool.false_and]
    rw [hX]
    clear hZ hX hnm
    go_enter Tryz.func23, Tryz.ntmps23
    go_wp2
    go_ret
    exact ⟨rfl, rfl⟩
/-- Are teams few, and short? -/
def shT (LL : List (List ByteArray)) : Bool := decide (LL.length ≤ 11) && LL.all fun l => shN l 11
theorem allT_drop {LL : List (List ByteArray)} {k : Nat} {x : List ByteArray} (h : LL[k]? = some x) : (LL.drop k).all (fun l => shN l 11) = (shN x 11 && (LL.drop (k + 1)).all fun l => shN l 11) := by
  obtain ⟨hk, e⟩ := List.getElem?_eq_some_iff.1 h
  rw [List.drop_eq_getElem_cons hk, e, List.all_cons]
set_option maxHeartbeats 2000000 in
theorem r7ShortTeams_any (LL : List (List ByteArray)) (n cap B : Nat) (A : Option Addr) (w : World) (hZ : TeamsB w B A n LL) (hnm : (n : Int) ≤ 9223372036854775807) (hs : ∀ l ∈ LL, (l.length : Int) ≤ 9223372036854775807) :
    Calls Tryz.prog 22 #[.slice A n cap] w (RetSame (.bool (shT LL)) w) := by
  by_cases hn : n ≤ 11
  · have hni : ¬ (11 : Int) < (n : Int) := by omega
    have hn1 : (n : Int) ≤ 11 := by omega
    have HM := Lib.hid hZ
    have HS := Lib.hid hs
    have Hlen := Lib.hid hZ.1
    have HC : Hid (∀ (L : List ByteArray) (n cap : Nat) (A : Option Addr), TextsZ w A n L → (n : Int) ≤ 9223372036854775807 → Calls Tryz.prog 23 #[.slice A n cap, .int .i64 11] w (RetSame (.bool (shN L 11)) w)) := Lib.hid fun L n cap A h1 h2 => r7ShortNames_any L n cap 11 A w h1 (by decide) h2
    obtain ⟨X, hX⟩ : ∃ X, shT LL = X := ⟨_, rfl⟩
    rw [hX]
    have HX : Hid ((LL.drop 0).all (fun l => shN l 11) = X) := Lib.hid (by
      rw [List.drop_zero, ← hX]
      unfold shT
      rw [hZ.1, decide_eq_true hn, Bool.true_and])
    clear hZ hX hnm hs
    go_enter Tryz.func22, Tryz.ntmps22
    go_wp2
    go_loop [3] (fun i => ∃ k : Nat, k ≤ n ∧ i = .int .i64 k ∧ Hid ((LL.drop k).all (fun l => shN l 11) = X)) (fun i => n - (RowKit.intOf i).toNat)
    case atStart => exact ⟨0, by omega, rfl, HX⟩
    case round =>
      obtain ⟨k, hk, rfl, HK⟩ := hrel
      by_cases hlt : k < n
      · obtain ⟨b, off, l, A', c', rfl, _, hLk, c1', _, hB⟩ := HM.out.at_ hlt
        have hC := HC.out l l.length c' A' hB.toZ (HS.out l (List.mem_of_getElem? hLk))
        have hki : (k : Int) < (n : Int) := by omega
        have hst := HK.out
        rw [allT_drop hLk] at hst
        clear hLk HK hB
        cases g : shN l 11 with
        | true =>
          rw [g, Bool.true_and] at hst
          rw [g] at hC
          have Hst := Lib.hid hst
          clear hst
          go_wp2_with fail
          refine hC.mono ?_
          rintro e w' ⟨rfl, rfl⟩
          go_wp2
          exact ⟨⟨k + 1, by omega, by go_num, Hst⟩, by simp [RowKit.intOf]; omega⟩
        | false =>
          rw [g, Bool.false_and] at hst
          rw [g] at hC
          subst hst
          clear HX
          go_wp2_with fail
          refine hC.mono ?_
          rintro e w' ⟨rfl, rfl⟩
          go_wp2
          go_ret
          exact ⟨rfl, rfl⟩
      · have hz := HK.out
        rw [List.drop_of_length_le (by rw [Hlen.out]; omega), List.all_nil] at hz
        subst hz
        go_wp2
        go_ret
        exact ⟨rfl, rfl⟩
  · have hni : (11 : Int) < (n : Int) := by omega
    have hX : shT LL = false := by unfold shT; rw [hZ.1, decide_eq_false hn, Bool.false_and]
    rw [hX]
    clear hZ hX hnm hs
    go_enter Tryz.func22, Tryz.ntmps22
    go_wp2
    go_ret
    exact ⟨rfl, rfl⟩
set_option maxHeartbeats 1000000 in
theorem sameW_any (L : List ByteArray) (A1 A2 : Option Addr) (n c1 c2 : Nat) (w : World) (hn : n ≤ 300) (h1 : TextsZ w A1 n L) (h2 : TextsZ w A2 n L) :
    Calls Tryz.prog 30 #[.slice A1 n c1, .slice A2 n c2] w (RetPost (.bool true) w) := by
  have hn0 : (n : Int) ≤ 300 := by omega
  have H1 := Lib.hid h1
  have H2 := Lib.hid h2
  clear h1 h2 hn
  go_enter Tryz.func30, Tryz.ntmps30
  go_wp2
  go_loopw [5] (fun i wr => ∃ k : Nat, k ≤ n ∧ i = .int .i64 k ∧ Below w.heap.size w wr) (fun i _ => n - (RowKit.intOf i).toNat)
  case atStart => exact ⟨0, by omega, rfl, Below.refl _ _⟩
  case round =>
    obtain ⟨k, hk, rfl, hb⟩ := hrel
    by_cases hlt : k < n
    · obtain ⟨p1, f1, x, rfl, _, q1, c1'⟩ := (H1.out.below hb).at_ hlt
      obtain ⟨p2, f2, x', rfl, _, q2, c2'⟩ := (H2.out.below hb).at_ hlt
      obtain rfl : x' = x := Option.some.inj (q2.symm.trans q1)
      have hki : (k : Int) < (n : Int) := by omega
      have hk0 : (0 : Int) ≤ (k : Int) := by omega
      have hkt : ((k : Int)).toNat = k := by omega
      have gb : (x'.toList == x'.toList) = true := by simp
      clear q1 q2 H1 H2
      go_wp2_with fail
      go_quiet (fail)
      go_wp2
      exact ⟨⟨k + 1, by omega, by go_num, below_drewN hb _⟩, by simp [RowKit.intOf]; omega⟩
    · go_wp2
      go_ret
      exact ⟨rfl, hb⟩
end Go.Mk
