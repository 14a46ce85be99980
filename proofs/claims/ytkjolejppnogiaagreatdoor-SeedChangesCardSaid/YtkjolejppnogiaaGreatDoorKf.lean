/-
  Proved: the law SeedChanges returns true and leaves all that was there. Conditions: the tables that awake reads lie where the program lays them; the runners lie where the slices say; texts and lists are no longer than an int says.
-/
import Derived.Test.YtkjolejppnogiaaGreatDoorKe
set_option linter.unusedVariables false
set_option linter.unusedSimpArgs false
open Go Go.Proofs Go.RowKit Go.Sort
set_option maxRecDepth 100000
namespace Go.Mk
/-- The pair and the runner lie in their boxes; the rest as it was. -/
def BX (w1 : World) (q : Nat) (p t : Int) (r : Run) (w' : World) : Prop :=
  w'.cell? ⟨q, 0, none⟩ = some (.int .i64 p) ∧ w'.cell? ⟨q, 1, none⟩ = some (.int .i64 t) ∧ w'.cell? ⟨q + 1, 0, none⟩ = some (.string r.name) ∧ w'.cell? ⟨q + 1, 1, none⟩ = some (.string r.kind) ∧
    w'.cell? ⟨q + 1, 2, none⟩ = some (.int .i64 r.value) ∧ w'.cell? ⟨q + 1, 3, none⟩ = some (.string r.reason) ∧ Below w1.heap.size w1 w'
theorem BX.next {w1 a b : World} {q : Nat} {p t : Int} {r : Run} (h : BX w1 q p t r a) (hb : Below a.heap.size a b) : BX w1 q p t r b := by
  obtain ⟨c0, c1, c2, c3, c4, c5, h⟩ := h
  exact ⟨(hb.cell (p := ⟨q, 0, none⟩) (cell_some c0).2).trans c0, (hb.cell (p := ⟨q, 1, none⟩) (cell_some c1).2).trans c1, (hb.cell (p := ⟨q + 1, 0, none⟩) (cell_some c2).2).trans c2, (hb.cell (p := ⟨q + 1, 1, none⟩) (cell_some c3).2).trans c3,
    (hb.cell (p := ⟨q + 1, 2, none⟩) (cell_some c4).2).trans c4, (hb.cell (p := ⟨q + 1, 3, none⟩) (cell_some c5).2).trans c5, bstep h hb⟩
theorem BX.rebase {w1 a : World} {q : Nat} {p t : Int} {r : Run} (h : BX w1 q p t r a) : BX a q p t r a := ⟨h.1, h.2.1, h.2.2.1, h.2.2.2.1, h.2.2.2.2.1, h.2.2.2.2.2.1, Below.refl _ _⟩
theorem BX.start (w : World) (p t : Int) (r : Run) (w1 : World) (hb : Below ((w.alloc (.cells #[.int .i64 p, .int .i64 t] 75)).alloc (.cells #[.string r.name, .string r.kind, .int .i64 r.value, .string r.reason] 79)).heap.size ((w.alloc (.cells #[.int .i64 p, .int .i64 t] 75)).alloc (.cells #[.string r.name, .string r.kind, .int .i64 r.value, .string r.reason] 79)) w1) :
    BX w1 w.heap.size p t r w1 := by
  have k := fun (q j : Nat) (h : q < w.heap.size + 2) => hb.cell (p := ⟨q, j, none⟩) (by simpa using h)
  refine ⟨(k _ 0 (by omega)).trans ?_, (k _ 1 (by omega)).trans ?_, (k _ 0 (by omega)).trans ?_, (k _ 1 (by omega)).trans ?_, (k _ 2 (by omega)).trans ?_, (k _ 3 (by omega)).trans ?_, Below.refl _ _⟩
  · rw [World.cell?_alloc_old _ _ _ (by simp)]; simp
  · rw [World.cell?_alloc_old _ _ _ (by simp)]; simp
  all_goals
    rw [show w.heap.size + 1 = (w.alloc (.cells #[.int .i64 p, .int .i64 t] 75)).heap.size from by simp]
    simp
theorem es4 (w : World) (x y z u : Int) (t : TypeId) : Es (w.alloc (.cells #[.int .i64 x, .int .i64 y, .int .i64 z, .int .i64 u] t)) w.heap.size [x, y, z, u] := by
  intro i v hv
  match i, hv with
  | 0, hv => simp at hv; subst hv; simp
  | 1, hv => simp at hv; subst hv; simp
  | 2, hv => simp at hv; subst hv; simp
  | 3, hv => simp at hv; subst hv; simp
set_option maxHeartbeats 400000 in
theorem l4words_any (b : Int) (h : (b != 0) = true) (A : Option Addr) (n c : Nat) (w : World) : Calls Tryz.prog 46 #[.slice none 0 0, .int .i64 b, .int .i64 b, .slice A n c] w (RetPost (.bool true) w) := by
  have hb : (b == b) = true := by simp
  go_enter Tryz.func46, Tryz.ntmps46
  go_wp2
  go_ret
  exact ⟨rfl, Below.refl _ _⟩
theorem l4when_any (b : Bool) (e : Int) (w : World) : Calls Tryz.prog 32 #[.bool b, .int .i64 e] w (RetSame (.int .i64 (if b then e else 0)) w) := by
  cases b
  · go_enter Tryz.func32, Tryz.ntmps32
    go_wp2
    go_ret
    exact ⟨rfl, rfl⟩
  · go_enter Tryz.func32, Tryz.ntmps32
    go_wp2
    go_ret
    exact ⟨rfl, rfl⟩
set_option maxHeartbeats 4000000 in
theorem changes_exit (LL : List (List Run)) (n cap : Nat) (A : Option Addr) (B : Nat) (p t : Int) (r : Run) (w : World) (ht : Tabs w) (hZ : RHeats w B A n LL) (hn : n * 24 ≤ 140737488351232) (hs : ∀ l ∈ LL, l.length * 56 ≤ 140737488351232) (hz : r.name.size ≤ maxLen ∧ r.kind.size ≤ maxLen ∧ r.reason.size ≤ maxLen) (hx : (shortH LL && shR r) = false) :
    Calls Tryz.prog 6 #[.slice A n cap, .agg #[.int .i64 p, .int .i64 t], r.agg] w (Yes w) := by
  obtain ⟨wA, hwA⟩ : ∃ wA, wA = (w.alloc (.cells #[.int .i64 p, .int .i64 t] 75)).alloc (.cells #[.string r.name, .string r.kind, .int .i64 r.value, .string r.reason] 79) := ⟨_, rfl⟩
  have hbA : Below w.heap.size w wA := by rw [hwA]; exact balloc _ (balloc _ (Below.refl _ _))
  have hszA := hbA.size
  have hR := l4runners_big LL n cap A B wA (hZ.below hbA hZ.2.1) hn hs
  have hn2 : (n : Int) ≤ 9223372036854775807 := by omega
  have hl := hZ.1
  have HST : Hid (∀ w1, Below wA.heap.size wA w1 → BX w1 w.heap.size p t r w1) := fun w1 hb => by rw [hwA] at hb; exact BX.start w p t r w1 hb
  have HWA := Lib.hid hwA
  have hm1 : (r.name.size : Int) ≤ 9223372036854775807 := by have := hz.1; unfold maxLen at this; omega
  have hm2 : (r.kind.size : Int) ≤ 9223372036854775807 := by have := hz.2.1; unfold maxLen at this; omega
  have hm3 : (r.reason.size : Int) ≤ 9223372036854775807 := by have := hz.2.2; unfold maxLen at this; omega
  have htA := ht.grow hbA
  unfold Run.agg
  clear hZ hwA hz ht
  go_enter Tryz.func6, Tryz.ntmps6
  go_wp2_with fail
  rw [← HWA.out]
  refine hR.mono ?_
  rintro e w1 ⟨v, rfl, hO, hb1⟩
  obtain ⟨A1, c1, rfl, hR1⟩ := RHeats.of_own hO
  rw [hl] at hR1 ⊢
  have HS : Hid (∀ w', Below w1.heap.size w1 w' → Calls Tryz.prog 36 #[.slice A1 n c1] w' (RetPost (.bool (shortH LL)) w')) := fun w' hb => short_any LL n c1 A1 _ w' (hR1.below hb (Nat.le_refl _)) hn2
  have ht1 := htA.grow hb1
  have hbW1 : Below w.heap.size w w1 := hbA.trans (hb1.mono hszA)
  have hB1 := HST.out _ hb1
  clear hO hR1 hR htA HST HWA hbA
  obtain ⟨X, hX⟩ : ∃ X, shortH LL = X := ⟨_, rfl⟩
  rw [hX] at HS hx
  clear hX
  go_wp2_with fail
  refine (aw _ ht1).mono ?_
  rintro e w2 ⟨rfl, hb2⟩
  have hS := HS.out _ hb2
  have hb12 := hbW1.trans (hb2.mono hbW1.size)
  clear HS
  cases X with
  | false =>
    clear hx
    go_wp2_with fail
    refine hS.mono ?_
    rintro e w3 ⟨rfl, hb3⟩
    have ht3 := ht1.grow (bstep hb2 hb3)
    have hb13 := hb12.trans (hb3.mono hb12.size)
    go_wp2_with fail
    refine (aw _ ht3).mono ?_
    rintro e w4 ⟨rfl, hb4⟩
    go_wp2
    go_ret
    exact ⟨rfl, hb13.trans (hb4.mono hb13.size)⟩
  | true =>
    rw [Bool.true_and] at hx
    go_wp2_with fail
    refine hS.mono ?_
    rintro e w3 ⟨rfl, hb3⟩
    have ht3 := ht1.grow (bstep hb2 hb3)
    have hb13 := hb12.trans (hb3.mono hb12.size)
    obtain ⟨d0, d1, d2, d3, d4, d5, hb03⟩ := hB1.next (bstep hb2 hb3)
    clear hB1 hS hb2 hb3 hb12 hbW1 ht1
    by_cases g1 : 40 < (r.name.size : Int)
    · clear hx
      as_aux_lemma =>
        go_wp2_with fail
        refine (aw _ ht3).mono ?_
        rintro e w4 ⟨rfl, hb4⟩
        go_wp2
        go_ret
        exact ⟨rfl, hb13.trans (hb4.mono hb13.size)⟩
    · by_cases g2 : 20 < (r.kind.size : Int)
      · clear hx
        as_aux_lemma =>
          go_wp2_with fail
          refine (aw _ ht3).mono ?_
          rintro e w4 ⟨rfl, hb4⟩
          go_wp2
          go_ret
          exact ⟨rfl, hb13.trans (hb4.mono hb13.size)⟩
      · have g3 : 20 < (r.reason.size : Int) := by
          unfold shR at hx
          rw [decide_eq_true (by omega), decide_eq_true (by omega), Bool.true_and, Bool.true_and, decide_eq_false_iff_not] at hx
          omega
        clear hx
        as_aux_lemma =>
          go_wp2_with fail
          refine (aw _ ht3).mono ?_
          rintro e w4 ⟨rfl, hb4⟩
          go_wp2
          go_ret
          exact ⟨rfl, hb13.trans (hb4.mono hb13.size)⟩
set_option maxHeartbeats 8000000 in
theorem changes_law (LL : List (List Run)) (n cap : Nat) (A : Option Addr) (B : Nat) (p t : Int) (r : Run) (w : World) (ht : Tabs w) (hZ : RHeats w B A n LL) (hx : shortH LL = true) (hok : ∀ l ∈ LL, ∀ x ∈ l, x.ok) (hr : r.ok) (hxr : shR r = true) :
    Calls Tryz.prog 6 #[.slice A n cap, .agg #[.int .i64 p, .int .i64 t], r.agg] w (Yes w) := by
  obtain ⟨wA, hwA⟩ : ∃ wA, wA = (w.alloc (.cells #[.int .i64 p, .int .i64 t] 75)).alloc (.cells #[.string r.name, .string r.kind, .int .i64 r.value, .string r.reason] 79) := ⟨_, rfl⟩
  have hbA : Below w.heap.size w wA := by rw [hwA]; exact balloc _ (balloc _ (Below.refl _ _))
  have hszA := hbA.size
  obtain ⟨hn18, hsh⟩ := shortH_yes hx
  have hl := hZ.1
  rw [hl] at hn18
  have hR := l4runners_big LL n cap A B wA (hZ.below hbA hZ.2.1) (by omega) (fun l hl => by have := (hsh l hl).1; omega)
  have HST : Hid (∀ w1, Below wA.heap.size wA w1 → BX w1 w.heap.size p t r w1) := fun w1 hb => by rw [hwA] at hb; exact BX.start w p t r w1 hb
  have HWA := Lib.hid hwA
  have hs1 : ∀ l ∈ LL, l.length ≤ 1000 ∧ ∀ x ∈ l, x.ok := fun l hl => ⟨by have := (hsh l hl).1; omega, hok l hl⟩
  have HM : Hid (∀ w', Below w.heap.size w w' → RHeats w' B A n LL) := fun w' hb => hZ.below hb hZ.2.1
  have HSH := Lib.hid hsh
  have HOK := Lib.hid hok
  have HLL := Lib.hid hl
  have HRK := Lib.hid hr
  have hG := ht.1
  have htA := ht.grow hbA
  have hni : (n : Int) ≤ 18 := by omega
  have o1 := fun w => r4Outside_any p 0 160 w
  have o2 := fun w => r4Outside_any t 0 160 w
  have hF := fun g w => l4first_any [chkRuns LL, rngE p 0 160, rngE t 0 160, crE r] 4 rfl (by decide) g w
  have hC := fun w => r4CheckRunner_any r w hr
  obtain ⟨bad, hbad⟩ : ∃ bad, chkRuns LL = bad := ⟨_, rfl⟩
  obtain ⟨E, hE⟩ : ∃ E, fstN [chkRuns LL, rngE p 0 160, rngE t 0 160, crE r] = E := ⟨_, rfl⟩
  rw [hE] at hF
  rw [hbad] at hF
  have HEE : Hid (fstN [fstN [chkRuns LL, rngE p 0 160, rngE t 0 160], runE [] r] = E) := (show _ = _ by rw [runE_nil, fst_flat, hE])
  have HE2 := Lib.hid hE
  have HBAD := Lib.hid hbad
  have sz : (r.name.size : Int) ≤ 40 ∧ (r.kind.size : Int) ≤ 20 ∧ (r.reason.size : Int) ≤ 20 := by
    unfold shR at hxr
    rw [Bool.and_eq_true, Bool.and_eq_true, decide_eq_true_iff, decide_eq_true_iff, decide_eq_true_iff] at hxr
    omega
  obtain ⟨g1, g2, g3⟩ := sz
  obtain ⟨r1, hr1⟩ : ∃ r1, rngE p 0 160 = r1 := ⟨_, rfl⟩
  obtain ⟨r2, hr2⟩ : ∃ r2, rngE t 0 160 = r2 := ⟨_, rfl⟩
  obtain ⟨cr, hcr⟩ : ∃ cr, crE r = cr := ⟨_, rfl⟩
  rw [hr1, hr2, hcr] at hF
  rw [hr1] at o1
  rw [hr2] at o2
  rw [hcr] at hC
  have HO1 := Lib.hid o1
  have HO2 := Lib.hid o2
  have HFF := Lib.hid hF
  unfold Run.agg at hC
  have HCR := Lib.hid hC
  clear hZ hok hsh hwA ht o1 o2 hF hC hE hbad hr1 hr2 hcr hl hxr hr
  unfold Run.agg
  go_enter Tryz.func6, Tryz.ntmps6
  go_wp2_with fail
  rw [← HWA.out]
  refine hR.mono ?_
  rintro e w1 ⟨v, rfl, hO, hb1⟩
  obtain ⟨A1, c1, rfl, hR1⟩ := RHeats.of_own hO
  rw [HLL.out] at hR1 hO ⊢
  have HOH : Hid (∀ w', Below w1.heap.size w1 w' → OwnHeats w' wA.heap.size (.slice A1 n c1) LL) := fun w' hb => hO.below hb
  have HX : Hid (∀ w', Below w1.heap.size w1 w' → RHeats w' w1.heap.size A1 n LL) := fun w' hb => hR1.below hb (Nat.le_refl _)
  have HS : Hid (∀ w', Below w1.heap.size w1 w' → Calls Tryz.prog 36 #[.slice A1 n c1] w' (RetPost (.bool true) w')) := fun w' hb => by
    have := short_any LL n c1 A1 _ w' (hR1.below hb (Nat.le_refl _)) (by omega)
    rwa [hx] at this
  have HRC : Hid (∀ w', Below w1.heap.size w1 w' → Calls Tryz.prog 37 #[.slice A1 n c1] w' (RetPost (.int .i64 bad) w')) := fun w' hb => by
    have := r4CheckRunners_all LL n c1 A1 _ w' (hR1.below hb (Nat.le_refl _)) (by omega) hs1
    rwa [HBAD.out] at this
  have ht1 := htA.grow hb1
  have hbW1 : Below w.heap.size w w1 := hbA.trans (hb1.mono hszA)
  have hB1 := HST.out _ hb1
  have HBX : Hid (∀ w', Below w1.heap.size w1 w' → BX w1 w.heap.size p t r w') := fun w' hb => hB1.next hb
  have HB1 := Lib.hid hbW1
  have hsz1 := hbW1.size
  have hszA1 := hb1.size
  clear hO hR1 hR htA HST HWA hbA hx hb1 hB1 hbW1
  go_wp2_with fail
  refine (aw _ ht1).mono ?_
  rintro e w2 ⟨rfl, hb2⟩
  have hS := HS.out _ hb2
  clear HS
  go_wp2_with fail
  refine hS.mono ?_
  rintro e w3 ⟨rfl, hb3⟩
  have hb13 := bstep hb2 hb3
  have hbW3 := HB1.out.trans (hb13.mono hsz1)
  obtain ⟨d0, d1, d2, d3, d4, d5, _⟩ := HBX.out _ hb13
  have hGr : 13 ≤ w3.heap.size := Nat.le_trans hG hbW3.size
  have hZ3 := HM.out _ hbW3
  clear hS hb2 hb3 ht1
  by_cases h0 : E = 0
  · subst h0
    have hc0 : chkRuns LL = 0 := by
      have h := HE2.out
      rw [fstN] at h
      by_cases q : chkRuns LL = 0
      · exact q
      · rw [if_neg q] at h; exact absurd h q
    obtain ⟨hl16, hl160⟩ := chk_one hc0
    have hl12 : ∀ l ∈ LL, l.length ≤ 12 := fun l hl => by
      have := (HSH.out l hl).2
      have := hl160 l hl
      omega
    have hfl : LL.flatten.length ≤ 216 := by
      have := flatten_le 12 LL hl12
      rw [HLL.out] at this
      omega
    have hrw := repl_with r LL (chk_nodup hc0)
    have hA := seedChanged_ok LL n cap A B p t r w3 hZ3 (by omega) (fun l hl => ⟨by have := hl12 l hl; omega, HOK.out l hl⟩) (by omega) HRK.out hGr HEE.out
    have HWT : Hid (∀ w', Below w1.heap.size w1 w' → Calls Tryz.prog 47 #[.slice A1 n c1, .agg #[.string r.name, .string r.kind, .int .i64 r.value, .string r.reason]] w' (WithPost LL r w')) := fun w' hb => r4With_any LL n c1 A1 wA.heap.size r w' (Nat.le_trans hszA1 hb.size) (HOH.out _ hb) (by omega) (fun l hl => by have := hl12 l hl; omega)
    have HRCX : Hid (∀ (A2 : Option Addr) (c2 : Nat) (wy w' : World), RHeats wy wy.heap.size A2 n (withS r LL) → Below w1.heap.size w1 w' → Below wy.heap.size wy w' → Calls Tryz.prog 48 #[.slice A1 n c1, .slice A2 n c2, .int .i64 p, .int .i64 t] w' (RChPost LL (withS r LL) p t w')) := fun A2 c2 wy w' hy hb hb2 =>
      r4Changed_any LL (withS r LL) n c1 n c2 A1 A2 w1.heap.size wy.heap.size p t w' (HX.out _ hb) (by omega) (fun l hl => by have := hl12 l hl; omega) (by omega) (hy.below hb2 (Nat.le_refl _)) (by omega) (with_each (fun l hl => by have := hl12 l hl; omega)) (by rw [with_flat]; omega)
    have hcl : (chgN LL (withS r LL) p t).length ≤ 300 := by
      unfold chgN
      refine Nat.le_trans (List.length_filter_le _ _) ?_
      rw [List.length_map]; omega
    have HCL := Lib.hid hcl
    have HWL : Hid ((withS r LL).length = n) := (show _ = _ by rw [with_len, HLL.out])
    unfold ChPost at hA
    rw [hrw] at hA
    unfold Run.agg at hA
    obtain ⟨is, his⟩ : ∃ is, hasS r LL = is := ⟨_, rfl⟩
    rw [his] at hA
    have HIS := Lib.hid his
    clear HM HSH HOK hs1 HEE hZ3 hGr HE2 hl16 hl160 hl12 hfl hrw hcl his hc0
    have hee : ((0 : Int) != 0) = false := by decide
    cases is with
    | true =>
      simp only [if_true] at hA
      have hA2 : Calls Tryz.prog 44 #[.slice A n cap, .int .i64 p, .int .i64 t, .agg #[.string r.name, .string r.kind, .int .i64 r.value, .string r.reason]] w3 (fun e w' => ∃ v, e = .returned (.tuple #[v, .int .i64 0]) ∧ OwnNames w' w3.heap.size v (chgN LL (withS r LL) p t) ∧ Below w3.heap.size w3 w') := hA.mono fun e w' h => by
        rcases h with ⟨h, _⟩ | ⟨LL', v, h1, h2, h3, h4⟩
        · cases h
        · cases h1
          exact ⟨v, h2, h3, h4⟩
      clear hA
      have HW : Hid (∀ w, Calls Tryz.prog 32 #[.bool false, .int .i64 10] w (RetSame (.int .i64 0) w)) := fun w => l4when_any false 10 w
      go_wp2_with fail
      refine hA2.mono ?_
      rintro e w9 ⟨v9, rfl, hv9, hb9⟩
      obtain ⟨A9, c9, rfl, hT9⟩ := TextsZ.of_own hv9
      have HT9 : Hid (∀ w', Below w9.heap.size w9 w' → TextsZ w' A9 (chgN LL (withS r LL) p t).length (chgN LL (withS r LL) p t)) := fun w' hb => hT9.below hb
      have hb19 := bstep hb13 hb9
      have HB9 := Lib.hid (HBX.out _ hb19).rebase
      clear hA2 hb9 hb13 hbW3 hv9 hT9 d0 d1 d2 d3 d4 d5
      go_wp2_with fail
      refine wp_region_held_drew (S := BX w9 w.heap.size p t r) (by kernel_rfl) ?_ (fun hHeld => ?_)
      · exact HB9.out.next (Below.refl _ _).drew
      generalize World.drew _ = wd at hHeld ⊢
      refine wpAnyH_take (i := 0) (oi := _) (v := ?_) rfl (by kernel_rfl) (by kernel_rfl) (by kernel_rfl) (fun _ _ _ h => h) (Or.inl ⟨by rfl, ?_⟩) (by assumption) ?_
      rotate_left
      · rintro w ⟨s0, s1, s2, s3, s4, s5, s6⟩
        go_simp
        try with_reducible rfl
      try simp only [Act.put, List.setIfInBounds_toArray, List.set_cons_zero, List.set_cons_succ]
      refine wpAnyH_take (i := 2) (oi := _) (v := ?_) rfl (by kernel_rfl) (by kernel_rfl) (by kernel_rfl) (fun _ _ _ h => h) (Or.inl ⟨by rfl, ?_⟩) (by assumption) ?_
      rotate_left
      · rintro w ⟨s0, s1, s2, s3, s4, s5, s6⟩
        go_simp
        try with_reducible rfl
      try simp only [Act.put, List.setIfInBounds_toArray, List.set_cons_zero, List.set_cons_succ]
      refine wpAnyH_take (i := 3) (oi := _) (v := ?_) rfl (by kernel_rfl) (by kernel_rfl) (by kernel_rfl) (fun _ _ _ h => h) (Or.inl ⟨by rfl, ?_⟩) (by assumption) ?_
      rotate_left
      · rintro w ⟨s0, s1, s2, s3, s4, s5, s6⟩
        go_simp
        try with_reducible rfl
      try simp only [Act.put, List.setIfInBounds_toArray, List.set_cons_zero, List.set_cons_succ]
      refine wpAnyH_take (i := 5) (oi := _) (v := ?_) rfl (by kernel_rfl) (by kernel_rfl) (by kernel_rfl) (fun _ _ _ h => h) (Or.inl ⟨by rfl, ?_⟩) (by assumption) ?_
      rotate_left
      · rintro w ⟨s0, s1, s2, s3, s4, s5, s6⟩
        go_simp
        try with_reducible rfl
      try simp only [Act.put, List.setIfInBounds_toArray, List.set_cons_zero, List.set_cons_succ]
      refine wpAnyH_take (i := 6) (oi := _) (v := ?_) rfl (by kernel_rfl) (by kernel_rfl) (by kernel_rfl) (fun _ _ _ h => h) (Or.inl ⟨by rfl, ?_⟩) (by assumption) ?_
      rotate_left
      · rintro w ⟨s0, s1, s2, s3, s4, s5, s6⟩
        go_simp
        try with_reducible rfl
      try simp only [Act.put, List.setIfInBounds_toArray, List.set_cons_zero, List.set_cons_succ]
      refine wpAnyH_take (i := 8) (oi := _) (v := ?_) rfl (by kernel_rfl) (by kernel_rfl) (by kernel_rfl) (fun _ _ _ h => h) (Or.inl ⟨by rfl, ?_⟩) (by assumption) ?_
      rotate_left
      · rintro w ⟨s0, s1, s2, s3, s4, s5, s6⟩
        go_simp
        try with_reducible rfl
      try simp only [Act.put, List.setIfInBounds_toArray, List.set_cons_zero, List.set_cons_succ]
      refine wpAnyH_ready (rs := [1]) (by kernel_rfl) (by simp) ?_
      refine AllReadyH.cons (o := _) rfl (fun K hKK => ?_) AllReadyH.nil
      go_simp
      go_at_call 37
      refine (HRC.out _ (bstep hb19 hHeld.2.2.2.2.2.2)).mono ?_
      rintro e wa ⟨rfl, hq⟩
      have hX := hHeld.next hq
      clear hHeld hq
      go_wp2_with fail
      refine hKK.out _ _ ?_ (fun hHeld => ?_)
      · exact hX
      clear hKK K
      try simp only [Act.put, List.setIfInBounds_toArray, List.set_cons_zero, List.set_cons_succ]
      refine wpAnyH_ready (rs := [4]) (by kernel_rfl) (by simp) ?_
      refine AllReadyH.cons (o := _) rfl (fun K hKK => ?_) AllReadyH.nil
      go_simp
      go_at_call 20
      refine (HO1.out _).mono ?_
      rintro e wb ⟨rfl, rfl⟩
      go_wp2_with fail
      refine hKK.out _ _ ?_ (fun hHeld => ?_)
      · exact hHeld
      clear hKK K
      try simp only [Act.put, List.setIfInBounds_toArray, List.set_cons_zero, List.set_cons_succ]
      refine wpAnyH_ready (rs := [7]) (by kernel_rfl) (by simp) ?_
      refine AllReadyH.cons (o := _) rfl (fun K hKK => ?_) AllReadyH.nil
      go_simp
      go_at_call 20
      refine (HO2.out _).mono ?_
      rintro e wc ⟨rfl, rfl⟩
      go_wp2_with fail
      refine hKK.out _ _ ?_ (fun hHeld => ?_)
      · exact hHeld
      clear hKK K
      try simp only [Act.put, List.setIfInBounds_toArray, List.set_cons_zero, List.set_cons_succ]
      refine wpAnyH_ready (rs := [9]) (by kernel_rfl) (by simp) ?_
      refine AllReadyH.cons (o := _) rfl (fun K hKK => ?_) AllReadyH.nil
      go_simp
      go_at_call 45
      refine (HCR.out _).mono ?_
      rintro e we ⟨rfl, hq⟩
      have hX := hHeld.next hq
      clear hHeld hq
      go_wp2_with fail
      refine hKK.out _ _ ?_ (fun hHeld => ?_)
      · exact hX
      clear hKK K
      try simp only [Act.put, List.setIfInBounds_toArray, List.set_cons_zero, List.set_cons_succ]
      refine wpAnyH_ready (rs := [10]) (by kernel_rfl) (by simp) ?_
      refine AllReadyH.cons (o := _) rfl (fun K hKK => ?_) AllReadyH.nil
      go_simp
      have hX := hHeld.next (balloc (.cells #[.int .i64 bad, .int .i64 r1, .int .i64 r2, .int .i64 cr] 3) (Below.refl _ _))
      clear hHeld
      refine hKK.out _ _ ?_ (fun hHeld => ?_)
      · exact hX
      clear hKK K
      try simp only [Act.put, List.setIfInBounds_toArray, List.set_cons_zero, List.set_cons_succ]
      refine wpAnyH_ready (rs := [11]) (by kernel_rfl) (by simp) ?_
      refine AllReadyH.cons (o := _) rfl (fun K hKK => ?_) AllReadyH.nil
      go_simp
      go_at_call 19
      refine (HFF.out _ _ (es4 _ _ _ _ _ _)).mono ?_
      rintro e wf ⟨rfl, rfl⟩
      go_wp2_with fail
      refine hKK.out _ _ ?_ (fun hHeld => ?_)
      · exact hHeld
      clear hKK K
      try simp only [Act.put, List.setIfInBounds_toArray, List.set_cons_zero, List.set_cons_succ]
      refine wpAnyH_ready (rs := [12]) (by kernel_rfl) (by simp) ?_
      refine AllReadyH.cons (o := _) rfl (fun K hKK => ?_) AllReadyH.nil
      go_simp
      refine hKK.out _ _ ?_ (fun hHeld => ?_)
      · exact hHeld
      clear hKK K
      try simp only [Act.put, List.setIfInBounds_toArray, List.set_cons_zero, List.set_cons_succ]
      refine wpAnyH_done (by kernel_rfl) ?_ _
      have hB9g := hHeld
      clear hX hHeld HB9
      generalize World.alloc _ _ = wg at hB9g ⊢
      obtain ⟨d0, d1, d2, d3, d4, d5, hb9g⟩ := hB9g
      have hb1g := bstep hb19 hb9g
      have hBg : BX wg w.heap.size p t r wg := ⟨d0, d1, d2, d3, d4, d5, Below.refl _ _⟩
      have HBG := Lib.hid hBg
      have hWT := HWT.out _ hb1g
      clear hBg HRC HO1 HO2 HCR HFF HWT
      go_wp2_with fail
      refine hWT.mono ?_
      rintro e wy ⟨vy, rfl, hy, hby⟩
      rw [HIS.out]
      obtain ⟨Ay, cy, rfl, hZy⟩ := RHeats.of_own hy
      rw [HWL.out] at hZy ⊢
      have h1y := bstep hb1g hby
      have HBY := Lib.hid (HBG.out.next hby).rebase
      have h9y := bstep hb9g hby
      have HRCH : Hid (∀ w', Below wy.heap.size wy w' → Calls Tryz.prog 48 #[.slice A1 n c1, .slice Ay n cy, .int .i64 p, .int .i64 t] w' (RChPost LL (withS r LL) p t w')) := fun w' hb => HRCX.out Ay cy wy w' hZy (bstep h1y hb) hb
      clear hWT hy hZy hby hb1g hb9g hb19 HRCX HBG d0 d1 d2 d3 d4 d5 HX HOH HBX
      go_wp2_with fail
      refine wp_region_held_drew (S := BX wy w.heap.size p t r) (by kernel_rfl) ?_ (fun hHeld => ?_)
      · exact HBY.out.next (Below.refl _ _).drew
      generalize World.drew _ = wd at hHeld ⊢
      refine wpAnyH_take (i := 0) (oi := _) (v := ?_) rfl (by kernel_rfl) (by kernel_rfl) (by kernel_rfl) (fun _ _ _ h => h) (Or.inl ⟨by rfl, ?_⟩) (by assumption) ?_
      rotate_left
      · rintro w ⟨s0, s1, s2, s3, s4, s5, s6⟩
        go_simp
        try with_reducible rfl
      try simp only [Act.put, List.setIfInBounds_toArray, List.set_cons_zero, List.set_cons_succ]
      refine wpAnyH_take (i := 1) (oi := _) (v := ?_) rfl (by kernel_rfl) (by kernel_rfl) (by kernel_rfl) (fun _ _ _ h => h) (Or.inl ⟨by rfl, ?_⟩) (by assumption) ?_
      rotate_left
      · rintro w ⟨s0, s1, s2, s3, s4, s5, s6⟩
        go_simp
        try with_reducible rfl
      try simp only [Act.put, List.setIfInBounds_toArray, List.set_cons_zero, List.set_cons_succ]
      refine wpAnyH_take (i := 2) (oi := _) (v := ?_) rfl (by kernel_rfl) (by kernel_rfl) (by kernel_rfl) (fun _ _ _ h => h) (Or.inl ⟨by rfl, ?_⟩) (by assumption) ?_
      rotate_left
      · rintro w ⟨s0, s1, s2, s3, s4, s5, s6⟩
        go_simp
        try with_reducible rfl
      try simp only [Act.put, List.setIfInBounds_toArray, List.set_cons_zero, List.set_cons_succ]
      refine wpAnyH_take (i := 3) (oi := _) (v := ?_) rfl (by kernel_rfl) (by kernel_rfl) (by kernel_rfl) (fun _ _ _ h => h) (Or.inl ⟨by rfl, ?_⟩) (by assumption) ?_
      rotate_left
      · rintro w ⟨s0, s1, s2, s3, s4, s5, s6⟩
        go_simp
        try with_reducible rfl
      try simp only [Act.put, List.setIfInBounds_toArray, List.set_cons_zero, List.set_cons_succ]
      refine wpAnyH_take (i := 5) (oi := _) (v := ?_) rfl (by kernel_rfl) (by kernel_rfl) (by kernel_rfl) (fun _ _ _ h => h) (Or.inl ⟨by rfl, ?_⟩) (by assumption) ?_
      rotate_left
      · rintro w ⟨s0, s1, s2, s3, s4, s5, s6⟩
        go_simp
        try with_reducible rfl
      try simp only [Act.put, List.setIfInBounds_toArray, List.set_cons_zero, List.set_cons_succ]
      refine wpAnyH_take (i := 6) (oi := _) (v := ?_) rfl (by kernel_rfl) (by kernel_rfl) (by kernel_rfl) (fun _ _ _ h => h) (Or.inl ⟨by rfl, ?_⟩) (by assumption) ?_
      rotate_left
      · rintro w ⟨s0, s1, s2, s3, s4, s5, s6⟩
        go_simp
        try with_reducible rfl
      try simp only [Act.put, List.setIfInBounds_toArray, List.set_cons_zero, List.set_cons_succ]
      refine wpAnyH_take (i := 7) (oi := _) (v := ?_) rfl (by kernel_rfl) (by kernel_rfl) (by kernel_rfl) (fun _ _ _ h => h) (Or.inl ⟨by rfl, ?_⟩) (by assumption) ?_
      rotate_left
      · rintro w ⟨s0, s1, s2, s3, s4, s5, s6⟩
        go_simp
        try with_reducible rfl
      try simp only [Act.put, List.setIfInBounds_toArray, List.set_cons_zero, List.set_cons_succ]
      refine wpAnyH_take (i := 8) (oi := _) (v := ?_) rfl (by kernel_rfl) (by kernel_rfl) (by kernel_rfl) (fun _ _ _ h => h) (Or.inl ⟨by rfl, ?_⟩) (by assumption) ?_
      rotate_left
      · rintro w ⟨s0, s1, s2, s3, s4, s5, s6⟩
        go_simp
        try with_reducible rfl
      try simp only [Act.put, List.setIfInBounds_toArray, List.set_cons_zero, List.set_cons_succ]
      refine wpAnyH_take (i := 9) (oi := _) (v := ?_) rfl (by kernel_rfl) (by kernel_rfl) (by kernel_rfl) (fun _ _ _ h => h) (Or.inl ⟨by rfl, ?_⟩) (by assumption) ?_
      rotate_left
      · rintro w ⟨s0, s1, s2, s3, s4, s5, s6⟩
        go_simp
        try with_reducible rfl
      try simp only [Act.put, List.setIfInBounds_toArray, List.set_cons_zero, List.set_cons_succ]
      refine wpAnyH_take (i := 10) (oi := _) (v := ?_) rfl (by kernel_rfl) (by kernel_rfl) (by kernel_rfl) (fun _ _ _ h => h) (Or.inl ⟨by rfl, ?_⟩) (by assumption) ?_
      rotate_left
      · rintro w ⟨s0, s1, s2, s3, s4, s5, s6⟩
        go_simp
        try with_reducible rfl
      try simp only [Act.put, List.setIfInBounds_toArray, List.set_cons_zero, List.set_cons_succ]
      refine wpAnyH_ready (rs := [4]) (by kernel_rfl) (by simp) ?_
      refine AllReadyH.cons (o := _) rfl (fun K hKK => ?_) AllReadyH.nil
      go_simp
      go_at_call 32
      refine (HW.out _).mono ?_
      rintro e w' ⟨rfl, rfl⟩
      go_wp2_with fail
      refine hKK.out _ _ ?_ (fun hHeld => ?_)
      · exact hHeld
      clear hKK K
      try simp only [Act.put, List.setIfInBounds_toArray, List.set_cons_zero, List.set_cons_succ]
      refine wpAnyH_ready (rs := [11]) (by kernel_rfl) (by simp) ?_
      refine AllReadyH.cons (o := _) rfl (fun K hKK => ?_) AllReadyH.nil
      go_simp
      go_at_call 48
      refine (HRCH.out _ hHeld.2.2.2.2.2.2).mono ?_
      rintro e wh ⟨vh, rfl, hvh, hbh⟩
      obtain ⟨Ah, ch, rfl, hTh⟩ := TextsZ.of_own hvh
      have hX := hHeld.next hbh
      have hWD := l4words_ok _ A9 Ah _ c9 ch wh HCL.out (HT9.out _ (bstep h9y hX.2.2.2.2.2.2)) hTh
      clear hHeld hvh hTh
      go_wp2_with fail
      refine hKK.out _ _ ?_ (fun hHeld => ?_)
      · exact hX
      clear hKK K
      try simp only [Act.put, List.setIfInBounds_toArray, List.set_cons_zero, List.set_cons_succ]
      refine wpAnyH_ready (rs := [12]) (by kernel_rfl) (by simp) ?_
      refine AllReadyH.cons (o := _) rfl (fun K hKK => ?_) AllReadyH.nil
      go_simp
      go_at_call 46
      refine hWD.mono ?_
      rintro e wi ⟨rfl, hbi⟩
      have hX := hHeld.next hbi
      clear hHeld
      go_wp2_with fail
      refine hKK.out _ _ ?_ (fun hHeld => ?_)
      · exact hX
      clear hKK K
      try simp only [Act.put, List.setIfInBounds_toArray, List.set_cons_zero, List.set_cons_succ]
      refine wpAnyH_ready (rs := [13]) (by kernel_rfl) (by simp) ?_
      refine AllReadyH.cons (o := _) rfl (fun K hKK => ?_) AllReadyH.nil
      go_simp
      refine hKK.out _ _ ?_ (fun hHeld => ?_)
      · exact hHeld
      clear hKK K
      try simp only [Act.put, List.setIfInBounds_toArray, List.set_cons_zero, List.set_cons_succ]
      refine wpAnyH_done (by kernel_rfl) ?_ _
      have hbe := HB1.out.trans ((bstep h1y hHeld.2.2.2.2.2.2).mono hsz1)
      clear hHeld hX
      go_wp2
      go_ret
      exact ⟨rfl, hbe⟩
    | false =>
      simp only [Bool.false_eq_true, if_false] at hA
      have hA2 : Calls Tryz.prog 44 #[.slice A n cap, .int .i64 p, .int .i64 t, .agg #[.string r.name, .string r.kind, .int .i64 r.value, .string r.reason]] w3 (fun e w' => e = .returned (.tuple #[.slice none 0 0, .int .i64 10]) ∧ Below w3.heap.size w3 w') := hA.mono fun e w' h => by
        rcases h with ⟨_, h1, h2⟩ | ⟨LL', v, h1, _⟩
        · exact ⟨h1, h2⟩
        · cases h1
      clear hA
      have HW : Hid (∀ w, Calls Tryz.prog 32 #[.bool true, .int .i64 10] w (RetSame (.int .i64 10) w)) := fun w => l4when_any true 10 w
      go_wp2_with fail
      refine hA2.mono ?_
      rintro e w9 ⟨rfl, hb9⟩
      have hb19 := bstep hb13 hb9
      have HB9 := Lib.hid (HBX.out _ hb19).rebase
      clear hA2 hb9 hb13 hbW3 d0 d1 d2 d3 d4 d5
      go_wp2_with fail
      refine wp_region_held_drew (S := BX w9 w.heap.size p t r) (by kernel_rfl) ?_ (fun hHeld => ?_)
      · exact HB9.out.next (Below.refl _ _).drew
      generalize World.drew _ = wd at hHeld ⊢
      refine wpAnyH_take (i := 0) (oi := _) (v := ?_) rfl (by kernel_rfl) (by kernel_rfl) (by kernel_rfl) (fun _ _ _ h => h) (Or.inl ⟨by rfl, ?_⟩) (by assumption) ?_
      rotate_left
      · rintro w ⟨s0, s1, s2, s3, s4, s5, s6⟩
        go_simp
        try with_reducible rfl
      try simp only [Act.put, List.setIfInBounds_toArray, List.set_cons_zero, List.set_cons_succ]
      refine wpAnyH_take (i := 2) (oi := _) (v := ?_) rfl (by kernel_rfl) (by kernel_rfl) (by kernel_rfl) (fun _ _ _ h => h) (Or.inl ⟨by rfl, ?_⟩) (by assumption) ?_
      rotate_left
      · rintro w ⟨s0, s1, s2, s3, s4, s5, s6⟩
        go_simp
        try with_reducible rfl
      try simp only [Act.put, List.setIfInBounds_toArray, List.set_cons_zero, List.set_cons_succ]
      refine wpAnyH_take (i := 3) (oi := _) (v := ?_) rfl (by kernel_rfl) (by kernel_rfl) (by kernel_rfl) (fun _ _ _ h => h) (Or.inl ⟨by rfl, ?_⟩) (by assumption) ?_
      rotate_left
      · rintro w ⟨s0, s1, s2, s3, s4, s5, s6⟩
        go_simp
        try with_reducible rfl
      try simp only [Act.put, List.setIfInBounds_toArray, List.set_cons_zero, List.set_cons_succ]
      refine wpAnyH_take (i := 5) (oi := _) (v := ?_) rfl (by kernel_rfl) (by kernel_rfl) (by kernel_rfl) (fun _ _ _ h => h) (Or.inl ⟨by rfl, ?_⟩) (by assumption) ?_
      rotate_left
      · rintro w ⟨s0, s1, s2, s3, s4, s5, s6⟩
        go_simp
        try with_reducible rfl
      try simp only [Act.put, List.setIfInBounds_toArray, List.set_cons_zero, List.set_cons_succ]
      refine wpAnyH_take (i := 6) (oi := _) (v := ?_) rfl (by kernel_rfl) (by kernel_rfl) (by kernel_rfl) (fun _ _ _ h => h) (Or.inl ⟨by rfl, ?_⟩) (by assumption) ?_
      rotate_left
      · rintro w ⟨s0, s1, s2, s3, s4, s5, s6⟩
        go_simp
        try with_reducible rfl
      try simp only [Act.put, List.setIfInBounds_toArray, List.set_cons_zero, List.set_cons_succ]
      refine wpAnyH_take (i := 8) (oi := _) (v := ?_) rfl (by kernel_rfl) (by kernel_rfl) (by kernel_rfl) (fun _ _ _ h => h) (Or.inl ⟨by rfl, ?_⟩) (by assumption) ?_
      rotate_left
      · rintro w ⟨s0, s1, s2, s3, s4, s5, s6⟩
        go_simp
        try with_reducible rfl
      try simp only [Act.put, List.setIfInBounds_toArray, List.set_cons_zero, List.set_cons_succ]
      refine wpAnyH_ready (rs := [1]) (by kernel_rfl) (by simp) ?_
      refine AllReadyH.cons (o := _) rfl (fun K hKK => ?_) AllReadyH.nil
      go_simp
      go_at_call 37
      refine (HRC.out _ (bstep hb19 hHeld.2.2.2.2.2.2)).mono ?_
      rintro e wa ⟨rfl, hq⟩
      have hX := hHeld.next hq
      clear hHeld hq
      go_wp2_with fail
      refine hKK.out _ _ ?_ (fun hHeld => ?_)
      · exact hX
      clear hKK K
      try simp only [Act.put, List.setIfInBounds_toArray, List.set_cons_zero, List.set_cons_succ]
      refine wpAnyH_ready (rs := [4]) (by kernel_rfl) (by simp) ?_
      refine AllReadyH.cons (o := _) rfl (fun K hKK => ?_) AllReadyH.nil
      go_simp
      go_at_call 20
      refine (HO1.out _).mono ?_
      rintro e wb ⟨rfl, rfl⟩
      go_wp2_with fail
      refine hKK.out _ _ ?_ (fun hHeld => ?_)
      · exact hHeld
      clear hKK K
      try simp only [Act.put, List.setIfInBounds_toArray, List.set_cons_zero, List.set_cons_succ]
      refine wpAnyH_ready (rs := [7]) (by kernel_rfl) (by simp) ?_
      refine AllReadyH.cons (o := _) rfl (fun K hKK => ?_) AllReadyH.nil
      go_simp
      go_at_call 20
      refine (HO2.out _).mono ?_
      rintro e wc ⟨rfl, rfl⟩
      go_wp2_with fail
      refine hKK.out _ _ ?_ (fun hHeld => ?_)
      · exact hHeld
      clear hKK K
      try simp only [Act.put, List.setIfInBounds_toArray, List.set_cons_zero, List.set_cons_succ]
      refine wpAnyH_ready (rs := [9]) (by kernel_rfl) (by simp) ?_
      refine AllReadyH.cons (o := _) rfl (fun K hKK => ?_) AllReadyH.nil
      go_simp
      go_at_call 45
      refine (HCR.out _).mono ?_
      rintro e we ⟨rfl, hq⟩
      have hX := hHeld.next hq
      clear hHeld hq
      go_wp2_with fail
      refine hKK.out _ _ ?_ (fun hHeld => ?_)
      · exact hX
      clear hKK K
      try simp only [Act.put, List.setIfInBounds_toArray, List.set_cons_zero, List.set_cons_succ]
      refine wpAnyH_ready (rs := [10]) (by kernel_rfl) (by simp) ?_
      refine AllReadyH.cons (o := _) rfl (fun K hKK => ?_) AllReadyH.nil
      go_simp
      have hX := hHeld.next (balloc (.cells #[.int .i64 bad, .int .i64 r1, .int .i64 r2, .int .i64 cr] 3) (Below.refl _ _))
      clear hHeld
      refine hKK.out _ _ ?_ (fun hHeld => ?_)
      · exact hX
      clear hKK K
      try simp only [Act.put, List.setIfInBounds_toArray, List.set_cons_zero, List.set_cons_succ]
      refine wpAnyH_ready (rs := [11]) (by kernel_rfl) (by simp) ?_
      refine AllReadyH.cons (o := _) rfl (fun K hKK => ?_) AllReadyH.nil
      go_simp
      go_at_call 19
      refine (HFF.out _ _ (es4 _ _ _ _ _ _)).mono ?_
      rintro e wf ⟨rfl, rfl⟩
      go_wp2_with fail
      refine hKK.out _ _ ?_ (fun hHeld => ?_)
      · exact hHeld
      clear hKK K
      try simp only [Act.put, List.setIfInBounds_toArray, List.set_cons_zero, List.set_cons_succ]
      refine wpAnyH_ready (rs := [12]) (by kernel_rfl) (by simp) ?_
      refine AllReadyH.cons (o := _) rfl (fun K hKK => ?_) AllReadyH.nil
      go_simp
      refine hKK.out _ _ ?_ (fun hHeld => ?_)
      · exact hHeld
      clear hKK K
      try simp only [Act.put, List.setIfInBounds_toArray, List.set_cons_zero, List.set_cons_succ]
      refine wpAnyH_done (by kernel_rfl) ?_ _
      have hB9g := hHeld
      clear hX hHeld HB9
      generalize World.alloc _ _ = wg at hB9g ⊢
      obtain ⟨d0, d1, d2, d3, d4, d5, hb9g⟩ := hB9g
      have hb1g := bstep hb19 hb9g
      have hBg : BX wg w.heap.size p t r wg := ⟨d0, d1, d2, d3, d4, d5, Below.refl _ _⟩
      have HBG := Lib.hid hBg
      have hWT := HWT.out _ hb1g
      clear hBg HRC HO1 HO2 HCR HFF HWT
      go_wp2_with fail
      refine hWT.mono ?_
      rintro e wy ⟨vy, rfl, hy, hby⟩
      rw [HIS.out]
      obtain ⟨Ay, cy, rfl, hZy⟩ := RHeats.of_own hy
      rw [HWL.out] at hZy ⊢
      have h1y := bstep hb1g hby
      have HBY := Lib.hid (HBG.out.next hby).rebase
      have h9y := bstep hb9g hby
      have HRCH : Hid (∀ w', Below wy.heap.size wy w' → Calls Tryz.prog 48 #[.slice A1 n c1, .slice Ay n cy, .int .i64 p, .int .i64 t] w' (RChPost LL (withS r LL) p t w')) := fun w' hb => HRCX.out Ay cy wy w' hZy (bstep h1y hb) hb
      clear hWT hy hZy hby hb1g hb9g hb19 HRCX HBG d0 d1 d2 d3 d4 d5 HX HOH HBX
      go_wp2_with fail
      refine wp_region_held_drew (S := BX wy w.heap.size p t r) (by kernel_rfl) ?_ (fun hHeld => ?_)
      · exact HBY.out.next (Below.refl _ _).drew
      generalize World.drew _ = wd at hHeld ⊢
      refine wpAnyH_take (i := 0) (oi := _) (v := ?_) rfl (by kernel_rfl) (by kernel_rfl) (by kernel_rfl) (fun _ _ _ h => h) (Or.inl ⟨by rfl, ?_⟩) (by assumption) ?_
      rotate_left
      · rintro w ⟨s0, s1, s2, s3, s4, s5, s6⟩
        go_simp
        try with_reducible rfl
      try simp only [Act.put, List.setIfInBounds_toArray, List.set_cons_zero, List.set_cons_succ]
      refine wpAnyH_take (i := 1) (oi := _) (v := ?_) rfl (by kernel_rfl) (by kernel_rfl) (by kernel_rfl) (fun _ _ _ h => h) (Or.inl ⟨by rfl, ?_⟩) (by assumption) ?_
      rotate_left
      · rintro w ⟨s0, s1, s2, s3, s4, s5, s6⟩
        go_simp
        try with_reducible rfl
      try simp only [Act.put, List.setIfInBounds_toArray, List.set_cons_zero, List.set_cons_succ]
      refine wpAnyH_take (i := 2) (oi := _) (v := ?_) rfl (by kernel_rfl) (by kernel_rfl) (by kernel_rfl) (fun _ _ _ h => h) (Or.inl ⟨by rfl, ?_⟩) (by assumption) ?_
      rotate_left
      · rintro w ⟨s0, s1, s2, s3, s4, s5, s6⟩
        go_simp
        try with_reducible rfl
      try simp only [Act.put, List.setIfInBounds_toArray, List.set_cons_zero, List.set_cons_succ]
      refine wpAnyH_take (i := 3) (oi := _) (v := ?_) rfl (by kernel_rfl) (by kernel_rfl) (by kernel_rfl) (fun _ _ _ h => h) (Or.inl ⟨by rfl, ?_⟩) (by assumption) ?_
      rotate_left
      · rintro w ⟨s0, s1, s2, s3, s4, s5, s6⟩
        go_simp
        try with_reducible rfl
      try simp only [Act.put, List.setIfInBounds_toArray, List.set_cons_zero, List.set_cons_succ]
      refine wpAnyH_take (i := 5) (oi := _) (v := ?_) rfl (by kernel_rfl) (by kernel_rfl) (by kernel_rfl) (fun _ _ _ h => h) (Or.inl ⟨by rfl, ?_⟩) (by assumption) ?_
      rotate_left
      · rintro w ⟨s0, s1, s2, s3, s4, s5, s6⟩
        go_simp
        try with_reducible rfl
      try simp only [Act.put, List.setIfInBounds_toArray, List.set_cons_zero, List.set_cons_succ]
      refine wpAnyH_take (i := 6) (oi := _) (v := ?_) rfl (by kernel_rfl) (by kernel_rfl) (by kernel_rfl) (fun _ _ _ h => h) (Or.inl ⟨by rfl, ?_⟩) (by assumption) ?_
      rotate_left
      · rintro w ⟨s0, s1, s2, s3, s4, s5, s6⟩
        go_simp
        try with_reducible rfl
      try simp only [Act.put, List.setIfInBounds_toArray, List.set_cons_zero, List.set_cons_succ]
      refine wpAnyH_take (i := 7) (oi := _) (v := ?_) rfl (by kernel_rfl) (by kernel_rfl) (by kernel_rfl) (fun _ _ _ h => h) (Or.inl ⟨by rfl, ?_⟩) (by assumption) ?_
      rotate_left
      · rintro w ⟨s0, s1, s2, s3, s4, s5, s6⟩
        go_simp
        try with_reducible rfl
      try simp only [Act.put, List.setIfInBounds_toArray, List.set_cons_zero, List.set_cons_succ]
      refine wpAnyH_take (i := 8) (oi := _) (v := ?_) rfl (by kernel_rfl) (by kernel_rfl) (by kernel_rfl) (fun _ _ _ h => h) (Or.inl ⟨by rfl, ?_⟩) (by assumption) ?_
      rotate_left
      · rintro w ⟨s0, s1, s2, s3, s4, s5, s6⟩
        go_simp
        try with_reducible rfl
      try simp only [Act.put, List.setIfInBounds_toArray, List.set_cons_zero, List.set_cons_succ]
      refine wpAnyH_take (i := 9) (oi := _) (v := ?_) rfl (by kernel_rfl) (by kernel_rfl) (by kernel_rfl) (fun _ _ _ h => h) (Or.inl ⟨by rfl, ?_⟩) (by assumption) ?_
      rotate_left
      · rintro w ⟨s0, s1, s2, s3, s4, s5, s6⟩
        go_simp
        try with_reducible rfl
      try simp only [Act.put, List.setIfInBounds_toArray, List.set_cons_zero, List.set_cons_succ]
      refine wpAnyH_take (i := 10) (oi := _) (v := ?_) rfl (by kernel_rfl) (by kernel_rfl) (by kernel_rfl) (fun _ _ _ h => h) (Or.inl ⟨by rfl, ?_⟩) (by assumption) ?_
      rotate_left
      · rintro w ⟨s0, s1, s2, s3, s4, s5, s6⟩
        go_simp
        try with_reducible rfl
      try simp only [Act.put, List.setIfInBounds_toArray, List.set_cons_zero, List.set_cons_succ]
      refine wpAnyH_ready (rs := [4]) (by kernel_rfl) (by simp) ?_
      refine AllReadyH.cons (o := _) rfl (fun K hKK => ?_) AllReadyH.nil
      go_simp
      go_at_call 32
      refine (HW.out _).mono ?_
      rintro e w' ⟨rfl, rfl⟩
      go_wp2_with fail
      refine hKK.out _ _ ?_ (fun hHeld => ?_)
      · exact hHeld
      clear hKK K
      try simp only [Act.put, List.setIfInBounds_toArray, List.set_cons_zero, List.set_cons_succ]
      refine wpAnyH_ready (rs := [11]) (by kernel_rfl) (by simp) ?_
      refine AllReadyH.cons (o := _) rfl (fun K hKK => ?_) AllReadyH.nil
      go_simp
      go_at_call 48
      refine (HRCH.out _ hHeld.2.2.2.2.2.2).mono ?_
      rintro e wh ⟨vh, rfl, hvh, hbh⟩
      obtain ⟨Ah, ch, rfl, hTh⟩ := TextsZ.of_own hvh
      have hX := hHeld.next hbh
      have hWD := l4words_any 10 rfl Ah (chgN LL (withS r LL) p t).length ch wh
      clear hHeld hvh hTh
      go_wp2_with fail
      refine hKK.out _ _ ?_ (fun hHeld => ?_)
      · exact hX
      clear hKK K
      try simp only [Act.put, List.setIfInBounds_toArray, List.set_cons_zero, List.set_cons_succ]
      refine wpAnyH_ready (rs := [12]) (by kernel_rfl) (by simp) ?_
      refine AllReadyH.cons (o := _) rfl (fun K hKK => ?_) AllReadyH.nil
      go_simp
      go_at_call 46
      refine hWD.mono ?_
      rintro e wi ⟨rfl, hbi⟩
      have hX := hHeld.next hbi
      clear hHeld
      go_wp2_with fail
      refine hKK.out _ _ ?_ (fun hHeld => ?_)
      · exact hX
      clear hKK K
      try simp only [Act.put, List.setIfInBounds_toArray, List.set_cons_zero, List.set_cons_succ]
      refine wpAnyH_ready (rs := [13]) (by kernel_rfl) (by simp) ?_
      refine AllReadyH.cons (o := _) rfl (fun K hKK => ?_) AllReadyH.nil
      go_simp
      refine hKK.out _ _ ?_ (fun hHeld => ?_)
      · exact hHeld
      clear hKK K
      try simp only [Act.put, List.setIfInBounds_toArray, List.set_cons_zero, List.set_cons_succ]
      refine wpAnyH_done (by kernel_rfl) ?_ _
      have hbe := HB1.out.trans ((bstep h1y hHeld.2.2.2.2.2.2).mono hsz1)
      clear hHeld hX
      go_wp2
      go_ret
      exact ⟨rfl, hbe⟩
  · have heb : (E != 0) = true := by rw [bne_iff_ne]; exact h0
    have hA := seedChanged_bad LL n cap A B p t r w3 hZ3 (by omega) (fun l hl => ⟨by have := (HSH.out l hl).1; omega, HOK.out l hl⟩) HRK.out hGr E HEE.out heb
    have hLB := fun w => l4words_bad E heb w
    have HLB := Lib.hid hLB
    unfold Run.agg at hA
    clear HM HSH HOK hs1 HEE hZ3 hGr HE2 hLB h0
    go_wp2_with fail
    refine hA.mono ?_
    rintro e w9 ⟨rfl, hb9⟩
    have hb19 := bstep hb13 hb9
    have HB9 := Lib.hid (HBX.out _ hb19).rebase
    clear hA hb9 hb13 hbW3 d0 d1 d2 d3 d4 d5
    go_wp2_with fail
    refine wp_region_held_drew (S := BX w9 w.heap.size p t r) (by kernel_rfl) ?_ (fun hHeld => ?_)
    · exact HB9.out.next (Below.refl _ _).drew
    generalize World.drew _ = wd at hHeld ⊢
    refine wpAnyH_take (i := 0) (oi := _) (v := ?_) rfl (by kernel_rfl) (by kernel_rfl) (by kernel_rfl) (fun _ _ _ h => h) (Or.inl ⟨by rfl, ?_⟩) (by assumption) ?_
    rotate_left
    · rintro w ⟨s0, s1, s2, s3, s4, s5, s6⟩
      go_simp
      try with_reducible rfl
    try simp only [Act.put, List.setIfInBounds_toArray, List.set_cons_zero, List.set_cons_succ]
    refine wpAnyH_take (i := 2) (oi := _) (v := ?_) rfl (by kernel_rfl) (by kernel_rfl) (by kernel_rfl) (fun _ _ _ h => h) (Or.inl ⟨by rfl, ?_⟩) (by assumption) ?_
    rotate_left
    · rintro w ⟨s0, s1, s2, s3, s4, s5, s6⟩
      go_simp
      try with_reducible rfl
    try simp only [Act.put, List.setIfInBounds_toArray, List.set_cons_zero, List.set_cons_succ]
    refine wpAnyH_take (i := 3) (oi := _) (v := ?_) rfl (by kernel_rfl) (by kernel_rfl) (by kernel_rfl) (fun _ _ _ h => h) (Or.inl ⟨by rfl, ?_⟩) (by assumption) ?_
    rotate_left
    · rintro w ⟨s0, s1, s2, s3, s4, s5, s6⟩
      go_simp
      try with_reducible rfl
    try simp only [Act.put, List.setIfInBounds_toArray, List.set_cons_zero, List.set_cons_succ]
    refine wpAnyH_take (i := 5) (oi := _) (v := ?_) rfl (by kernel_rfl) (by kernel_rfl) (by kernel_rfl) (fun _ _ _ h => h) (Or.inl ⟨by rfl, ?_⟩) (by assumption) ?_
    rotate_left
    · rintro w ⟨s0, s1, s2, s3, s4, s5, s6⟩
      go_simp
      try with_reducible rfl
    try simp only [Act.put, List.setIfInBounds_toArray, List.set_cons_zero, List.set_cons_succ]
    refine wpAnyH_take (i := 6) (oi := _) (v := ?_) rfl (by kernel_rfl) (by kernel_rfl) (by kernel_rfl) (fun _ _ _ h => h) (Or.inl ⟨by rfl, ?_⟩) (by assumption) ?_
    rotate_left
    · rintro w ⟨s0, s1, s2, s3, s4, s5, s6⟩
      go_simp
      try with_reducible rfl
    try simp only [Act.put, List.setIfInBounds_toArray, List.set_cons_zero, List.set_cons_succ]
    refine wpAnyH_take (i := 8) (oi := _) (v := ?_) rfl (by kernel_rfl) (by kernel_rfl) (by kernel_rfl) (fun _ _ _ h => h) (Or.inl ⟨by rfl, ?_⟩) (by assumption) ?_
    rotate_left
    · rintro w ⟨s0, s1, s2, s3, s4, s5, s6⟩
      go_simp
      try with_reducible rfl
    try simp only [Act.put, List.setIfInBounds_toArray, List.set_cons_zero, List.set_cons_succ]
    refine wpAnyH_ready (rs := [1]) (by kernel_rfl) (by simp) ?_
    refine AllReadyH.cons (o := _) rfl (fun K hKK => ?_) AllReadyH.nil
    go_simp
    go_at_call 37
    refine (HRC.out _ (bstep hb19 hHeld.2.2.2.2.2.2)).mono ?_
    rintro e wa ⟨rfl, hq⟩
    have hX := hHeld.next hq
    clear hHeld hq
    go_wp2_with fail
    refine hKK.out _ _ ?_ (fun hHeld => ?_)
    · exact hX
    clear hKK K
    try simp only [Act.put, List.setIfInBounds_toArray, List.set_cons_zero, List.set_cons_succ]
    refine wpAnyH_ready (rs := [4]) (by kernel_rfl) (by simp) ?_
    refine AllReadyH.cons (o := _) rfl (fun K hKK => ?_) AllReadyH.nil
    go_simp
    go_at_call 20
    refine (HO1.out _).mono ?_
    rintro e wb ⟨rfl, rfl⟩
    go_wp2_with fail
    refine hKK.out _ _ ?_ (fun hHeld => ?_)
    · exact hHeld
    clear hKK K
    try simp only [Act.put, List.setIfInBounds_toArray, List.set_cons_zero, List.set_cons_succ]
    refine wpAnyH_ready (rs := [7]) (by kernel_rfl) (by simp) ?_
    refine AllReadyH.cons (o := _) rfl (fun K hKK => ?_) AllReadyH.nil
    go_simp
    go_at_call 20
    refine (HO2.out _).mono ?_
    rintro e wc ⟨rfl, rfl⟩
    go_wp2_with fail
    refine hKK.out _ _ ?_ (fun hHeld => ?_)
    · exact hHeld
    clear hKK K
    try simp only [Act.put, List.setIfInBounds_toArray, List.set_cons_zero, List.set_cons_succ]
    refine wpAnyH_ready (rs := [9]) (by kernel_rfl) (by simp) ?_
    refine AllReadyH.cons (o := _) rfl (fun K hKK => ?_) AllReadyH.nil
    go_simp
    go_at_call 45
    refine (HCR.out _).mono ?_
    rintro e we ⟨rfl, hq⟩
    have hX := hHeld.next hq
    clear hHeld hq
    go_wp2_with fail
    refine hKK.out _ _ ?_ (fun hHeld => ?_)
    · exact hX
    clear hKK K
    try simp only [Act.put, List.setIfInBounds_toArray, List.set_cons_zero, List.set_cons_succ]
    refine wpAnyH_ready (rs := [10]) (by kernel_rfl) (by simp) ?_
    refine AllReadyH.cons (o := _) rfl (fun K hKK => ?_) AllReadyH.nil
    go_simp
    have hX := hHeld.next (balloc (.cells #[.int .i64 bad, .int .i64 r1, .int .i64 r2, .int .i64 cr] 3) (Below.refl _ _))
    clear hHeld
    refine hKK.out _ _ ?_ (fun hHeld => ?_)
    · exact hX
    clear hKK K
    try simp only [Act.put, List.setIfInBounds_toArray, List.set_cons_zero, List.set_cons_succ]
    refine wpAnyH_ready (rs := [11]) (by kernel_rfl) (by simp) ?_
    refine AllReadyH.cons (o := _) rfl (fun K hKK => ?_) AllReadyH.nil
    go_simp
    go_at_call 19
    refine (HFF.out _ _ (es4 _ _ _ _ _ _)).mono ?_
    rintro e wf ⟨rfl, rfl⟩
    go_wp2_with fail
    refine hKK.out _ _ ?_ (fun hHeld => ?_)
    · exact hHeld
    clear hKK K
    try simp only [Act.put, List.setIfInBounds_toArray, List.set_cons_zero, List.set_cons_succ]
    refine wpAnyH_ready (rs := [12]) (by kernel_rfl) (by simp) ?_
    refine AllReadyH.cons (o := _) rfl (fun K hKK => ?_) AllReadyH.nil
    go_simp
    refine hKK.out _ _ ?_ (fun hHeld => ?_)
    · exact hHeld
    clear hKK K
    try simp only [Act.put, List.setIfInBounds_toArray, List.set_cons_zero, List.set_cons_succ]
    refine wpAnyH_done (by kernel_rfl) ?_ _
    have hB9g := hHeld
    clear hX hHeld HB9
    generalize World.alloc _ _ = wg at hB9g ⊢
    obtain ⟨d0, d1, d2, d3, d4, d5, hb9g⟩ := hB9g
    have hbe := HB1.out.trans ((bstep hb19 hb9g).mono hsz1)
    have hLB := HLB.out wg
    clear HRC HO1 HO2 HCR HFF HLB
    go_wp2_with fail
    refine hLB.mono ?_
    rintro e wh ⟨rfl, hbh⟩
    have hbf := hbe.trans (hbh.mono hbe.size)
    go_wp2
    go_ret
    exact ⟨rfl, hbf⟩
end Go.Mk
