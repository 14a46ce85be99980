/-
  Proved: the reference's Numbers returns how many athletes there are in each round, or the first error. Condition: the rounds lie where the slice says, athletes and lanes are in their ranges, at most 20 rounds.
-/
import Derived.Test.YtebehbojbdcclaaGreatDoorBe
set_option linter.unusedVariables false
set_option linter.unusedSimpArgs false
open Go Go.Proofs Go.RowKit Go.Sort
set_option maxRecDepth 100000
namespace Go.Mk
set_option maxHeartbeats 1000000 in
theorem r4Numbers_empty (a lanes : Int) (cap : Nat) (A : Option Addr) (w : World) :
    Calls Tryz.prog 19 #[.int .i64 a, .int .i64 lanes, .slice A 0 cap] w (RetPost (.tuple #[.slice none 0 0, .int .i64 12]) w) := by
  go_enter Tryz.func19, Tryz.ntmps19
  go_wp2
  go_ret2
  exact ⟨rfl, Below.refl _ _⟩
set_option maxHeartbeats 1000000 in
theorem r4Numbers_many (a lanes : Int) (n cap : Nat) (A : Option Addr) (w : World) (h : 16 < (n : Int)) (hm : (n : Int) ≤ 9223372036854775807) :
    Calls Tryz.prog 19 #[.int .i64 a, .int .i64 lanes, .slice A n cap] w (RetPost (.tuple #[.slice none 0 0, .int .i64 5]) w) := by
  have h0 : ((n : Int) == 0) = false := by rw [beq_eq_false_iff_ne]; omega
  go_enter Tryz.func19, Tryz.ntmps19
  go_wp2
  go_ret2
  exact ⟨rfl, Below.refl _ _⟩
theorem new_cell (W : World) (x : Value) (t : TypeId) (H : Nat) (hH : W.heap.size = H) : (W.alloc (.cells #[x] t)).cell? ((⟨H, 0, none⟩ : Addr).add 0) = some x := by
  subst hH
  simp [Addr.add]
theorem wrap_small {h lanes : Int} (h1 : 1 ≤ h) (h2 : h ≤ 16) (h3 : 1 ≤ lanes) (h4 : lanes ≤ 10) : IntKind.i64.wrap (h * lanes) = h * lanes ∧ 1 ≤ h * lanes ∧ h * lanes ≤ 160 := by
  have a1 : h * lanes ≤ 16 * 10 := Int.mul_le_mul h2 h4 (by omega) (by omega)
  have a2 : 1 * 1 ≤ h * lanes := Int.mul_le_mul h1 h3 (by omega) (by omega)
  exact ⟨IntWalk.i64_in _ (by omega), by omega, by omega⟩
set_option maxHeartbeats 4000000 in
theorem r4Numbers_any (L : List (Int × Int × Int)) (a lanes : Int) (n cap : Nat) (A : Option Addr) (B : Nat) (w : World) (h0 : 0 ≤ a) (h1 : a ≤ 160) (h2 : 1 ≤ lanes) (h3 : lanes ≤ 10) (hM : Rnds w B A n L) (hn1 : 1 ≤ n) (hn2 : n ≤ 16) :
    Calls Tryz.prog 19 #[.int .i64 a, .int .i64 lanes, .slice A n cap] w (NumPost (numGo lanes a L) w) := by
  obtain ⟨i0, hi, hz0, hz1, hz2⟩ := info_parts infoInt
  have hni : (n : Int) ≤ 16 := by omega
  have hn0 : ((n : Int) == 0) = false := by rw [beq_eq_false_iff_ne]; omega
  obtain ⟨X, hX⟩ : ∃ X, numGo lanes a L = X := ⟨_, rfl⟩
  rw [hX]
  have HX : Hid (finN [] (numGo lanes a (L.drop 0)) = X) := (show _ = _ by rw [List.drop_zero, hX, finN_nil]; rw [← hX]; exact numGo_bad lanes L a)
  have HM : Hid (∀ w', Below w.heap.size w w' → Rnds w' B A n L) := fun w' hb => hM.below hb hM.2.1
  have Hlen : Hid (L.length = n) := hM.1
  clear hM hX
  go_enter Tryz.func19, Tryz.ntmps19
  go_wp2
  go_loopw [8, 10, 9] (fun v i at_ wr => ∃ (k : Nat) (P : List Int) (x : Int), i = .int .i64 k ∧ at_ = .int .i64 x ∧ k ≤ n ∧ P.length = k ∧ 0 ≤ x ∧ x ≤ 160 ∧ Hid (finN P (numGo lanes x (L.drop k)) = X) ∧ OwnInts wr w.heap.size v P ∧ Below w.heap.size w wr) (fun _ i _ _ => n - (intOf i).toNat)
  case atStart => exact ⟨0, [], a, rfl, rfl, by omega, rfl, h0, h1, HX, World.ownsRow_nil _ _ _ _, Below.refl _ _⟩
  case round =>
    obtain ⟨k, P, x, rfl, rfl, hk, hP, hx0, hx1, HK, hown, hb⟩ := hrel
    by_cases hlt : k < n
    · obtain ⟨b, off, h, p, t, rfl, hbl, hL, c0, c1, c2⟩ := (HM.out _ hb).at_ hlt
      have hD : L.drop k = (h, p, t) :: L.drop (k + 1) := by
        have hkl := (List.getElem?_eq_some_iff.1 hL).1
        rw [List.drop_eq_getElem_cons hkl, (List.getElem?_eq_some_iff.1 hL).2]
      have hki : (k : Int) < (n : Int) := by omega
      have hlast : (k + 1 < n ∧ (L.drop (k + 1)).isEmpty = false) ∨ (k + 1 = n ∧ (L.drop (k + 1)).isEmpty = true) := by
        have hl := Hlen.out
        by_cases q : k + 1 = n
        · right
          exact ⟨q, by rw [List.drop_of_length_le (by omega)]; rfl⟩
        · left
          refine ⟨by omega, ?_⟩
          rw [List.isEmpty_eq_false_iff_exists_mem]
          exact ⟨(L.drop (k + 1))[0]'(by rw [List.length_drop]; omega), List.getElem_mem _⟩
      have hbB := (hb.alloc hb.size (.cells #[.int .i64 h, .int .i64 p, .int .i64 t] 43))
      rcases rndE_cases x lanes h p t (L.drop (k + 1)).isEmpty with ⟨hr, he⟩ | ⟨⟨r1, r2, r3, r4, r5, r6⟩, hr, he⟩ | ⟨⟨r1, r2, r3, r4, r5, r6⟩, hr, he⟩
      · have hst := finN_stop P lanes x (h, p, t) (L.drop (k + 1)) (by rw [he]; decide)
        rw [← hD, HK.out] at hst
        simp only [he] at hst
        subst hst
        clear he hD hlast HK
        have o1 := fun w => r4outside_any h 1 16 w
        have o2 := fun w => r4outside_any p 0 10 w
        have o3 := fun w => r4outside_any t 0 160 w
        by_cases g1 : h < 1 ∨ 16 < h
        · rw [show (decide (h < 1) || decide (16 < h)) = true from by simpa using g1] at o1
          as_aux_lemma =>
            go_wp2_with (go_at_call 36; (with_reducible refine (o1 _).mono ?_); rintro e wv ⟨rfl, rfl⟩)
            go_ret2
            exact ⟨_, rfl, fun _ => rfl, World.ownsRow_nil _ _ _ _, hbB⟩
        · rw [show (decide (h < 1) || decide (16 < h)) = false from by simp; omega] at o1
          by_cases g2 : p < 0 ∨ 10 < p
          · rw [show (decide (p < 0) || decide (10 < p)) = true from by simpa using g2] at o2
            as_aux_lemma =>
              go_wp2_with (first | (go_at_call 36; (with_reducible refine (o1 _).mono ?_); rintro e wv ⟨rfl, rfl⟩) | (go_at_call 36; (with_reducible refine (o2 _).mono ?_); rintro e wv ⟨rfl, rfl⟩))
              go_ret2
              exact ⟨_, rfl, fun _ => rfl, World.ownsRow_nil _ _ _ _, hbB⟩
          · rw [show (decide (p < 0) || decide (10 < p)) = false from by simp; omega] at o2
            rw [show (decide (t < 0) || decide (160 < t)) = true from by simp; omega] at o3
            as_aux_lemma =>
              go_wp2_with (first | (go_at_call 36; (with_reducible refine (o1 _).mono ?_); rintro e wv ⟨rfl, rfl⟩) | (go_at_call 36; (with_reducible refine (o2 _).mono ?_); rintro e wv ⟨rfl, rfl⟩) | (go_at_call 36; (with_reducible refine (o3 _).mono ?_); rintro e wv ⟨rfl, rfl⟩))
              go_ret2
              exact ⟨_, rfl, fun _ => rfl, World.ownsRow_nil _ _ _ _, hbB⟩
      · have hst := finN_stop P lanes x (h, p, t) (L.drop (k + 1)) (by rw [he]; decide)
        rw [← hD, HK.out] at hst
        simp only [he] at hst
        subst hst
        clear he hD hlast HK
        have o1 := fun w => r4outside_any h 1 16 w
        have o2 := fun w => r4outside_any p 0 10 w
        have o3 := fun w => r4outside_any t 0 160 w
        rw [show (decide (h < 1) || decide (16 < h)) = false from by simp; omega] at o1
        rw [show (decide (p < 0) || decide (10 < p)) = false from by simp; omega] at o2
        rw [show (decide (t < 0) || decide (160 < t)) = false from by simp; omega] at o3
        obtain ⟨w1, w2, w3⟩ := wrap_small r1 r2 h2 h3
        rw [w1] at hr
        as_aux_lemma =>
          go_wp2_with (first | (go_at_call 36; (with_reducible refine (o1 _).mono ?_); rintro e wv ⟨rfl, rfl⟩) | (go_at_call 36; (with_reducible refine (o2 _).mono ?_); rintro e wv ⟨rfl, rfl⟩) | (go_at_call 36; (with_reducible refine (o3 _).mono ?_); rintro e wv ⟨rfl, rfl⟩))
          go_ret2
          exact ⟨_, rfl, fun _ => rfl, World.ownsRow_nil _ _ _ _, hbB⟩
      · have hl0 : 0 ≤ h * p := Int.mul_nonneg (by omega) (by omega)
        have hl1 : h * p ≤ 16 * 10 := Int.mul_le_mul r2 r4 r3 (by omega)
        obtain ⟨y, hy⟩ : ∃ y, h * p = y := ⟨_, rfl⟩
        rw [hy] at hl0 hl1
        have hqq : IntKind.i64.wrap (Int.tdiv x h) = x / h := IntWalk.i64_quo x h (by omega)
        have hqn : y + t ≤ x → ¬ (x / h < p) := fun hle hc => by
          have h5 : x / h + 1 ≤ p := hc
          have h6 : h * (x / h + 1) ≤ h * p := Int.mul_le_mul_of_nonneg_left h5 (by omega)
          have h7 : x < h * (x / h + 1) := by
            have e1 := Int.mul_ediv_add_emod x h
            have e2 := Int.emod_lt_of_pos x (show 0 < h by omega)
            rw [Int.mul_add, Int.mul_one]
            omega
          omega
        have hw5 : IntKind.i64.wrap ((k : Int) + 1) = (k : Int) + 1 := IntWalk.i64_in _ (by omega)
        have hh0 : h ≠ 0 := by omega
        have o1 := fun w => r4outside_any h 1 16 w
        have o2 := fun w => r4outside_any p 0 10 w
        have o3 := fun w => r4outside_any t 0 160 w
        rw [show (decide (h < 1) || decide (16 < h)) = false from by simp; omega] at o1
        rw [show (decide (p < 0) || decide (10 < p)) = false from by simp; omega] at o2
        rw [show (decide (t < 0) || decide (160 < t)) = false from by simp; omega] at o3
        obtain ⟨w1, w2, w3⟩ := wrap_small r1 r2 h2 h3
        rw [w1] at hr
        rcases hlast with ⟨hl, hle⟩ | ⟨hl, hle⟩
        · rw [hle] at he
          simp only [Bool.false_eq_true, if_false] at he
          rw [hy] at he
          have hli : (k : Int) + 1 < (n : Int) := by omega
          have hlb : ((k : Int) + 1 == (n : Int)) = false := by rw [beq_eq_false_iff_ne]; omega
          by_cases g : x < y + t
          · rw [if_pos g] at he
            have hst := finN_stop P lanes x (h, p, t) (L.drop (k + 1)) (by rw [hle]; simp only; rw [he]; decide)
            rw [hle, ← hD, HK.out] at hst
            simp only [he] at hst
            subst hst
            have gd : decide (x < y + t) = true := decide_eq_true g
            have ld : decide ((k : Int) + 1 < (n : Int)) = true := decide_eq_true hli
            have hwy : IntKind.i64.wrap (y + t) = y + t := IntWalk.i64_in _ (by omega)
            clear he hD HK hqn
            as_aux_lemma =>
              go_wp2_with (first | (go_at_call 36; (with_reducible refine (o1 _).mono ?_); rintro e wv ⟨rfl, rfl⟩) | (go_at_call 36; (with_reducible refine (o2 _).mono ?_); rintro e wv ⟨rfl, rfl⟩) | (go_at_call 36; (with_reducible refine (o3 _).mono ?_); rintro e wv ⟨rfl, rfl⟩))
              go_quiet (fail)
              go_wp2
              go_ret2
              exact ⟨_, rfl, fun _ => rfl, World.ownsRow_nil _ _ _ _, below_drewN hbB _⟩
          · rw [if_neg g] at he
            have hst := finN_step P lanes x (h, p, t) (L.drop (k + 1)) (by rw [hle]; exact he)
            rw [← hD, HK.out] at hst
            simp only [hy] at hst
            have Hst : Hid (finN (P ++ [x]) (numGo lanes (y + t) (L.drop (k + 1))) = X) := hst.symm
            have hqn2 := hqn (by omega)
            have gd : decide (x < y + t) = false := decide_eq_false g
            have ld : decide ((k : Int) + 1 < (n : Int)) = true := decide_eq_true hli
            have qd : decide (x / h < p) = false := decide_eq_false hqn2
            clear he hD HK hst hqn
            as_aux_lemma =>
              go_wp2_with (first | (go_at_call 36; (with_reducible refine (o1 _).mono ?_); rintro e wv ⟨rfl, rfl⟩) | (go_at_call 36; (with_reducible refine (o2 _).mono ?_); rintro e wv ⟨rfl, rfl⟩) | (go_at_call 36; (with_reducible refine (o3 _).mono ?_); rintro e wv ⟨rfl, rfl⟩))
              go_quiet (fail)
              have hbD : ∀ q, Below w.heap.size w ((wr.alloc (.cells #[.int .i64 h, .int .i64 p, .int .i64 t] 43)).drewN q) := fun q => below_drewN hbB q
              have hownD : ∀ q, ((wr.alloc (.cells #[.int .i64 h, .int .i64 p, .int .i64 t] 43)).drewN q).ownsRow w.heap.size 3 1 u8 P.length (P.map fun z => Value.int .i64 z) := fun q => World.ownsRow.alloc hown _
              go_wp2_with (at_builtin; refine wpList_append_own _ rfl _ _ 28 rfl w.heap.size 3 i0 (.int .i64 0) 1 8 Tryz.underlying28 hi hz0 hz1 hz2 rfl (by decide) _ _ _ rfl (World.ownsRow.alloc (hownD _) _) ⟨wr.heap.size + 1, 0, none⟩ 1 1 [.int .i64 x] rfl rfl ?c1 ?c2 ?c3 ?c4 ?c5 ?_)
              case c1 =>
                intro j u hj
                match j, hj with
                | 0, hj => simp at hj; subst hj; exact new_cell _ _ _ _ (by show (wr.alloc _).heap.size = _; simp)
              case c2 => intro u hu; simp at hu; subst hu; rfl
              case c3 => unfold maxLen; omega
              case c4 => omega
              case c5 => exact ((hbD _).alloc (hbD _).size _).size
              · intro v' w1 hown' hgrow _
                have hb1 : Below w.heap.size w w1 := ((hbD _).alloc (hbD _).size _).grown hgrow ((hbD _).alloc (hbD _).size _).size (fun r hr => (World.ownsRow.lt hown r hr).1)
                have ho1 : OwnInts w1 w.heap.size v' (P ++ [x]) := OwnInts.next (by rw [hP]; first | exact hown' | (rw [hl]; exact hown'))
                clear hown' hgrow hownD hown hbD
                go_wp2
                go_roundw
                case rel => exact ⟨k + 1, P ++ [x], y + t, by go_num, rfl, by omega, by simp; omega, by omega, by omega, Hst, ho1, hb1⟩
                case measure => simp [intOf]; omega
        · rw [hle] at he
          simp only [if_true] at he
          have hli : ¬ (k : Int) + 1 < (n : Int) := by omega
          have hlb : ((k : Int) + 1 == (n : Int)) = true := by rw [beq_iff_eq]; omega
          have ld : decide ((k : Int) + 1 < (n : Int)) = false := decide_eq_false hli
          by_cases g : h = 1 ∧ p = 0 ∧ t = 0
          · rw [if_pos g] at he
            obtain ⟨g1, g2, g3⟩ := g
            have hst := finN_step P lanes x (h, p, t) (L.drop (k + 1)) (by rw [hle]; exact he)
            rw [← hD, HK.out] at hst
            simp only [hy] at hst
            have Hst : Hid (finN (P ++ [x]) (numGo lanes (y + t) (L.drop (k + 1))) = X) := hst.symm
            have hy0 : y = 0 := by rw [← hy, g1, g2]; rfl
            subst g1 g2 g3 hy0
            clear he hD HK hst hqn hy
            as_aux_lemma =>
              go_wp2_with (first | (go_at_call 36; (with_reducible refine (o1 _).mono ?_); rintro e wv ⟨rfl, rfl⟩) | (go_at_call 36; (with_reducible refine (o2 _).mono ?_); rintro e wv ⟨rfl, rfl⟩) | (go_at_call 36; (with_reducible refine (o3 _).mono ?_); rintro e wv ⟨rfl, rfl⟩))
              go_quiet (fail)
              have hbD : ∀ q, Below w.heap.size w ((wr.alloc (.cells #[.int .i64 1, .int .i64 0, .int .i64 0] 43)).drewN q) := fun q => below_drewN hbB q
              have hownD : ∀ q, ((wr.alloc (.cells #[.int .i64 1, .int .i64 0, .int .i64 0] 43)).drewN q).ownsRow w.heap.size 3 1 u8 P.length (P.map fun z => Value.int .i64 z) := fun q => World.ownsRow.alloc hown _
              go_wp2_with (at_builtin; refine wpList_append_own _ rfl _ _ 28 rfl w.heap.size 3 i0 (.int .i64 0) 1 8 Tryz.underlying28 hi hz0 hz1 hz2 rfl (by decide) _ _ _ rfl (World.ownsRow.alloc (hownD _) _) ⟨wr.heap.size + 1, 0, none⟩ 1 1 [.int .i64 x] rfl rfl ?c1 ?c2 ?c3 ?c4 ?c5 ?_)
              case c1 =>
                intro j u hj
                match j, hj with
                | 0, hj => simp at hj; subst hj; exact new_cell _ _ _ _ (by show (wr.alloc _).heap.size = _; simp)
              case c2 => intro u hu; simp at hu; subst hu; rfl
              case c3 => unfold maxLen; omega
              case c4 => omega
              case c5 => exact ((hbD _).alloc (hbD _).size _).size
              · intro v' w1 hown' hgrow _
                have hb1 : Below w.heap.size w w1 := ((hbD _).alloc (hbD _).size _).grown hgrow ((hbD _).alloc (hbD _).size _).size (fun r hr => (World.ownsRow.lt hown r hr).1)
                have ho1 : OwnInts w1 w.heap.size v' (P ++ [x]) := OwnInts.next (by rw [hP]; first | exact hown' | (rw [hl]; exact hown'))
                clear hown' hgrow hownD hown hbD
                go_wp2
                go_roundw
                case rel => exact ⟨k + 1, P ++ [x], 0, by go_num, rfl, by omega, by simp; omega, by omega, by omega, Hst, ho1, hb1⟩
                case measure => simp [intOf]; omega
          · rw [if_neg g] at he
            have hst := finN_stop P lanes x (h, p, t) (L.drop (k + 1)) (by rw [hle]; simp only; rw [he]; decide)
            rw [hle, ← hD, HK.out] at hst
            simp only [he] at hst
            subst hst
            clear he hD HK hqn
            as_aux_lemma =>
              go_wp2_with (first | (go_at_call 36; (with_reducible refine (o1 _).mono ?_); rintro e wv ⟨rfl, rfl⟩) | (go_at_call 36; (with_reducible refine (o2 _).mono ?_); rintro e wv ⟨rfl, rfl⟩) | (go_at_call 36; (with_reducible refine (o3 _).mono ?_); rintro e wv ⟨rfl, rfl⟩))
              go_quiet (fail)
              go_wp2_with fail
              all_goals first
                | (go_ret2; exact ⟨_, rfl, fun _ => rfl, World.ownsRow_nil _ _ _ _, below_drewN hbB _⟩)
                | (go_ret2; exact ⟨_, rfl, fun _ => rfl, World.ownsRow_nil _ _ _ _, below_drewN (hb.alloc hb.size _) _⟩)
    · have hk2 : k = n := by omega
      have hz := HK.out
      rw [List.drop_of_length_le (by rw [Hlen.out]; omega), numGo, finN, if_pos rfl, List.append_nil] at hz
      subst hz
      go_wp2
      go_ret2
      exact ⟨_, rfl, fun h => absurd rfl h, hown, hb⟩
end Go.Mk
