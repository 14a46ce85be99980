/-
  Proved: the reference's error of hurdles is that plain function; the places of hurdles, by package track and by its reference. Conditions: what is asked are machine integers.
-/
import Derived.Test.YtkijfebfpodgfaaGreatDoorYb
set_option linter.unusedVariables false
set_option linter.unusedSimpArgs false
open Go Go.Proofs Go.RowKit
set_option maxRecDepth 100000
namespace Go.Mk
theorem rng_b (n lo hi : Int) : rngE n lo hi = if (decide (n < lo) || decide (hi < n)) = true then 3 else 0 := by
  unfold rngE
  by_cases h : n < lo ∨ hi < n
  · rw [if_pos h, if_pos (by simpa using h)]
  · rw [if_neg h, if_neg (by simpa using h)]
set_option maxHeartbeats 4000000 in
theorem r7CheckHurdles_any (a g l c d : Int) (w : World) : Calls Tryz.prog 8 #[.agg #[.int .i64 a, .int .i64 g, .int .i64 l, .int .i64 c], .int .i64 d] w (RetPost (.int .i64 (hurE a g l c d)) w) := by
  have o1 := fun w' => r7out_any a 1 999999 w'
  have o2 := fun w' => r7out_any g 1 999999 w'
  have o3 := fun w' => r7out_any l 1 999999 w'
  have o4 := fun w' => r7out_any c 1 64 w'
  have o5 := fun w' => r7out_any d 1 999999999 w'
  have HB : Hid (∀ t, Below w.heap.size w (w.alloc (.cells #[.int .i64 a, .int .i64 g, .int .i64 l, .int .i64 c] t))) := Lib.hid fun t => balloc _ (Below.refl _ _)
  have q1 := rng_b a 1 999999
  have q2 := rng_b g 1 999999
  have q3 := rng_b l 1 999999
  have q4 := rng_b c 1 64
  have q5 := rng_b d 1 999999999
  have HE : Hid (hurE a g l c d = fstN [rngE a 1 999999, rngE g 1 999999, rngE l 1 999999, rngE c 1 64, rngE d 1 999999999, if a + (c - 1) * g + l = d then 0 else 16]) := Lib.hid rfl
  have HZ : Hid (rngE a 1 999999 = 0 → rngE g 1 999999 = 0 → rngE l 1 999999 = 0 → rngE c 1 64 = 0 → IntKind.i64.wrap (c - 1) = c - 1 ∧ IntKind.i64.wrap ((c - 1) * g) = (c - 1) * g ∧ IntKind.i64.wrap (a + (c - 1) * g) = a + (c - 1) * g ∧ IntKind.i64.wrap (a + (c - 1) * g + l) = a + (c - 1) * g + l) := Lib.hid fun h1 h2 h3 h4 => by
    have b1 := rng_zero h1
    have b2 := rng_zero h2
    have b3 := rng_zero h3
    have b4 := rng_zero h4
    obtain ⟨m1, m2⟩ := hur_sum b1 b2 b3 b4
    exact ⟨wrapY _ (by omega), wrapY _ (by omega), wrapY _ (by omega), wrapY _ (by omega)⟩
  generalize hurE a g l c d = X at *
  generalize (decide (a < 1) || decide (999999 < a)) = b1 at *
  generalize (decide (g < 1) || decide (999999 < g)) = b2 at *
  generalize (decide (l < 1) || decide (999999 < l)) = b3 at *
  generalize (decide (c < 1) || decide (64 < c)) = b4 at *
  generalize (decide (d < 1) || decide (999999999 < d)) = b5 at *
  cases b1 with
  | true =>
    have hX : X = 3 := by rw [HE.out]; simp [fstN, q1]
    subst hX
    clear HZ HE q1 q2 q3 q4 q5
    go_enter Tryz.func8, Tryz.ntmps8
    go_wp2_with fail
    refine (o1 _).mono ?_
    rintro e w' ⟨rfl, rfl⟩
    go_wp2
    go_ret
    exact ⟨rfl, HB.out _⟩
  | false =>
    cases b2 with
    | true =>
      have hX : X = 3 := by rw [HE.out]; simp [fstN, q1, q2]
      subst hX
      clear HZ HE q1 q2 q3 q4 q5
      go_enter Tryz.func8, Tryz.ntmps8
      go_wp2_with fail
      refine (o1 _).mono ?_
      rintro e w' ⟨rfl, rfl⟩
      go_wp2_with fail
      refine (o2 _).mono ?_
      rintro e w' ⟨rfl, rfl⟩
      go_wp2
      go_ret
      exact ⟨rfl, HB.out _⟩
    | false =>
      cases b3 with
      | true =>
        have hX : X = 3 := by rw [HE.out]; simp [fstN, q1, q2, q3]
        subst hX
        clear HZ HE q1 q2 q3 q4 q5
        go_enter Tryz.func8, Tryz.ntmps8
        go_wp2_with fail
        refine (o1 _).mono ?_
        rintro e w' ⟨rfl, rfl⟩
        go_wp2_with fail
        refine (o2 _).mono ?_
        rintro e w' ⟨rfl, rfl⟩
        go_wp2_with fail
        refine (o3 _).mono ?_
        rintro e w' ⟨rfl, rfl⟩
        go_wp2
        go_ret
        exact ⟨rfl, HB.out _⟩
      | false =>
        cases b4 with
        | true =>
          have hX : X = 3 := by rw [HE.out]; simp [fstN, q1, q2, q3, q4]
          subst hX
          clear HZ HE q1 q2 q3 q4 q5
          go_enter Tryz.func8, Tryz.ntmps8
          go_wp2_with fail
          refine (o1 _).mono ?_
          rintro e w' ⟨rfl, rfl⟩
          go_wp2_with fail
          refine (o2 _).mono ?_
          rintro e w' ⟨rfl, rfl⟩
          go_wp2_with fail
          refine (o3 _).mono ?_
          rintro e w' ⟨rfl, rfl⟩
          go_wp2_with fail
          refine (o4 _).mono ?_
          rintro e w' ⟨rfl, rfl⟩
          go_wp2
          go_ret
          exact ⟨rfl, HB.out _⟩
        | false =>
          cases b5 with
          | true =>
            have hX : X = 3 := by rw [HE.out]; simp [fstN, q1, q2, q3, q4, q5]
            subst hX
            clear HZ HE q1 q2 q3 q4 q5
            go_enter Tryz.func8, Tryz.ntmps8
            go_wp2_with fail
            refine (o1 _).mono ?_
            rintro e w' ⟨rfl, rfl⟩
            go_wp2_with fail
            refine (o2 _).mono ?_
            rintro e w' ⟨rfl, rfl⟩
            go_wp2_with fail
            refine (o3 _).mono ?_
            rintro e w' ⟨rfl, rfl⟩
            go_wp2_with fail
            refine (o4 _).mono ?_
            rintro e w' ⟨rfl, rfl⟩
            go_wp2_with fail
            refine (o5 _).mono ?_
            rintro e w' ⟨rfl, rfl⟩
            go_wp2
            go_ret
            exact ⟨rfl, HB.out _⟩
          | false =>
            obtain ⟨w1, w2, w3, w4⟩ := HZ.out (by simpa using q1) (by simpa using q2) (by simpa using q3) (by simpa using q4)
            have hX : X = if a + (c - 1) * g + l = d then 0 else 16 := by rw [HE.out]; simp [fstN, q1, q2, q3, q4, q5]
            clear HZ HE q1 q2 q3 q4 q5
            obtain ⟨S, hS⟩ : ∃ S, a + (c - 1) * g + l = S := ⟨_, rfl⟩
            rw [hS] at hX w4
            by_cases hd : S = d
            · rw [if_pos hd] at hX
              subst hX
              have hb : (S != d) = false := by simp [hd]
              clear hd
              go_enter Tryz.func8, Tryz.ntmps8
              go_wp2_with fail
              refine (o1 _).mono ?_
              rintro e w' ⟨rfl, rfl⟩
              go_wp2_with fail
              refine (o2 _).mono ?_
              rintro e w' ⟨rfl, rfl⟩
              go_wp2_with fail
              refine (o3 _).mono ?_
              rintro e w' ⟨rfl, rfl⟩
              go_wp2_with fail
              refine (o4 _).mono ?_
              rintro e w' ⟨rfl, rfl⟩
              go_wp2_with fail
              refine (o5 _).mono ?_
              rintro e w' ⟨rfl, rfl⟩
              go_wp2
              go_ret
              exact ⟨rfl, HB.out _⟩
            · rw [if_neg hd] at hX
              subst hX
              have hb : (S != d) = true := by simp [hd]
              clear hd
              go_enter Tryz.func8, Tryz.ntmps8
              go_wp2_with fail
              refine (o1 _).mono ?_
              rintro e w' ⟨rfl, rfl⟩
              go_wp2_with fail
              refine (o2 _).mono ?_
              rintro e w' ⟨rfl, rfl⟩
              go_wp2_with fail
              refine (o3 _).mono ?_
              rintro e w' ⟨rfl, rfl⟩
              go_wp2_with fail
              refine (o4 _).mono ?_
              rintro e w' ⟨rfl, rfl⟩
              go_wp2_with fail
              refine (o5 _).mono ?_
              rintro e w' ⟨rfl, rfl⟩
              go_wp2
              go_ret
              exact ⟨rfl, HB.out _⟩
theorem HurB.grown {W w w' : World} {b : Nat} {x y z u : Int} {row : Option Nat} (h : HurB W b x y z u w) (hg : w.grownBy w' row) (hne : some b ≠ row) (hr : ∀ r, row = some r → W.heap.size ≤ r) : HurB W b x y z u w' := by
  obtain ⟨a0, a1, a2, a3, hl, hW⟩ := h
  exact ⟨hg.cell (a := ⟨b, 0, none⟩) a0 hne, hg.cell (a := ⟨b, 1, none⟩) a1 hne, hg.cell (a := ⟨b, 2, none⟩) a2 hne, hg.cell (a := ⟨b, 3, none⟩) a3 hne, Nat.lt_of_lt_of_le hl hg.size, hW.grown hg hW.size hr⟩
theorem own_lowY {w : World} {B B' e size n : Nat} {v : Value} {xs : List Value} (h : w.ownsRow B e size v n xs) (hB : B' ≤ B) : w.ownsRow B' e size v n xs := by
  refine ⟨h.1, ?_⟩
  rcases h.2 with q | ⟨g, cap, cur, a, b, c⟩
  · exact .inl q
  · exact .inr ⟨g, cap, cur, a, Nat.le_trans hB b, c⟩
/-- The places of hurdles. -/
def hurL (a g : Int) (n : Nat) : List Int := (List.range n).map fun i : Nat => a + (i : Int) * g
theorem hurL_succ (a g : Int) (n : Nat) : hurL a g (n + 1) = hurL a g n ++ [a + (n : Int) * g] := by
  unfold hurL
  rw [List.range_succ, List.map_append]; rfl
theorem hurL_len (a g : Int) (n : Nat) : (hurL a g n).length = n := by simp [hurL]
/-- What the reference's Places leaves. -/
def HurPost (L : List Int) (w : World) (e : Ending) (w' : World) : Prop := ∃ v, e = .returned v ∧ OwnZ w' w.heap.size v L ∧ Below w.heap.size w w'
theorem OwnZ.shapeY {w : World} {B : Nat} {v : Value} {L : List Int} (h : OwnZ w B v L) : ∃ a c, v = .slice a L.length c := by
  rcases h.2 with ⟨hv, h0⟩ | ⟨g, cap, cur, hv, _⟩
  · exact ⟨none, 0, by rw [hv, h0]⟩
  · exact ⟨_, _, hv⟩
set_option maxHeartbeats 4000000 in
theorem r7Places_ok (a g l : Int) (n : Nat) (w : World) (ha : 1 ≤ a ∧ a ≤ 999999) (hg : 1 ≤ g ∧ g ≤ 999999) (hn : n ≤ 64) :
    Calls Tryz.prog 10 #[.agg #[.int .i64 a, .int .i64 g, .int .i64 l, .int .i64 (n : Int)]] w (HurPost (hurL a g n) w) := by
  obtain ⟨i0, hi, hz0, hz1, hz2⟩ := info_parts infoInt
  have hni : (n : Int) ≤ 64 := by omega
  have HN : Hid (HurB w w.heap.size a g l n (w.alloc (.cells #[.int .i64 a, .int .i64 g, .int .i64 l, .int .i64 (n : Int)] 25))) := Lib.hid (HurB.new w a g l n 25)
  unfold HurPost
  go_enter Tryz.func10, Tryz.ntmps10
  go_wp2
  go_loopw [3, 4] (fun v i wr => ∃ k : Nat, i = .int .i64 k ∧ k ≤ n ∧ OwnZ wr (w.heap.size + 1) v (hurL a g k) ∧ HurB w w.heap.size a g l n wr) (fun _ i _ => n - (intOf i).toNat)
  case atStart => exact ⟨0, rfl, by omega, World.ownsRow_nil _ _ _ _, HN.out⟩
  case round =>
    obtain ⟨k, rfl, hk, hO, hH⟩ := hrel
    have hH' := hH
    obtain ⟨s0, s1, s2, s3, s4, s5⟩ := hH'
    by_cases hlt : k < n
    · have hki : (k : Int) < (n : Int) := by omega
      have hm : 0 ≤ (k : Int) * g ∧ (k : Int) * g ≤ 63999936 := by
        refine ⟨Int.mul_nonneg (by omega) (by omega), ?_⟩
        have := Int.mul_le_mul (show (k : Int) ≤ 64 by omega) hg.2 (by omega) (by omega)
        omega
      have w1 : IntKind.i64.wrap ((k : Int) * g) = (k : Int) * g := wrapY _ (by omega)
      have w2 : IntKind.i64.wrap (a + (k : Int) * g) = a + (k : Int) * g := wrapY _ (by omega)
      have hlen := hurL_len a g k
      obtain ⟨A0, c0, rfl⟩ := hO.shapeY
      rw [hlen] at hO
      have hown : wr.ownsRow (w.heap.size + 1) 3 1 (.slice A0 k c0) k ((hurL a g k).map fun z => Value.int .i64 z) := by
        have := hO
        unfold OwnZ at this
        rw [hlen] at this
        exact this
      rw [hlen]
      have HS := Lib.hid (hurL_succ a g k)
      obtain ⟨x, hx⟩ : ∃ x, a + (k : Int) * g = x := ⟨_, rfl⟩
      rw [hx] at HS w2
      have HH := Lib.hid hH
      have HL := Lib.hid hlen
      clear hH hm hlen hO
      obtain ⟨R, hR⟩ : ∃ R, hurL a g k = R := ⟨_, rfl⟩
      rw [hR] at HS HL hown
      clear hR
      go_wp2_with (at_builtin; refine wpList_append_own _ rfl _ _ 26 rfl (w.heap.size + 1) 3 i0 (.int .i64 0) 1 8 Tryz.underlying26 hi hz0 hz1 hz2 rfl (by decide) _ _ _ rfl (World.ownsRow.alloc hown _) ⟨wr.heap.size, 0, none⟩ 1 1 [.int .i64 x] rfl rfl ?c1 ?c2 ?c3 ?c4 ?c5 ?_)
      case c1 =>
        intro j u hj
        match j, hj with
        | 0, hj => simp at hj; subst hj; simp [Addr.add]
      case c2 => intro u hu; simp at hu; subst hu; rfl
      case c3 => unfold maxLen; omega
      case c4 => omega
      case c5 => simp; omega
      intro v' w1 hown' hgrow _
      have hH1 := HH.out.next (balloc (.cells #[.int .i64 x] 3) (Below.refl _ _))
      have hH2 := hH1.grown hgrow (fun q => by have := (World.ownsRow.lt hown w.heap.size q.symm).1; omega) (fun r hr => by have := (World.ownsRow.lt hown r hr).1; omega)
      have HD := Lib.hid (And.intro (OwnZ.next (w1 := w1) (L := R) (z := x) (by rw [HL.out]; exact hown')) hH2)
      obtain ⟨t0, t1, t2, t3, t4, t5⟩ := hH2
      clear hH1 hown' hgrow hown s0 s1 s2 s3 s4 s5
      go_wp2
      go_roundw
      case rel => exact ⟨k + 1, by go_num, by omega, by rw [HS.out]; exact HD.out.1, HD.out.2⟩
      case measure => simp [intOf]; omega
    · have hkn : k = n := by omega
      subst hkn
      have HF := Lib.hid (And.intro (own_lowY (show wr.ownsRow _ _ _ _ _ _ from hO) (Nat.le_succ _)) s5)
      clear hO hH
      go_wp2
      go_ret
      exact ⟨_, rfl, HF.out.1, HF.out.2⟩
/-- What the program's Places leaves. -/
def HurPost2 (L : List Int) (w : World) (e : Ending) (w' : World) : Prop := ∃ v, e = .returned (.tuple #[v, .int .i64 0]) ∧ OwnZ w' w.heap.size v L ∧ Below w.heap.size w w'
set_option maxHeartbeats 4000000 in
theorem trPlaces_bad (a g l c d : Int) (w : World) (hne : (hurE a g l c d != 0) = true) :
    Calls Tryz.prog 9 #[.agg #[.int .i64 a, .int .i64 g, .int .i64 l, .int .i64 c], .int .i64 d] w (RetPost (.tuple #[.slice none 0 0, .int .i64 (hurE a g l c d)]) w) := by
  have HC := Lib.hid (trCheckHurdles_any a g l c d)
  have HN := Lib.hid (HurB.new w a g l c 23)
  generalize hurE a g l c d = e at *
  go_enter Tryz.func9, Tryz.ntmps9
  go_wp2_with fail
  refine (HC.out _).mono ?_
  rintro x w1 ⟨rfl, hb1⟩
  have hB := bstep HN.out.2.2.2.2.2 hb1
  clear hb1
  go_wp2
  go_ret2
  exact ⟨rfl, hB⟩
set_option maxHeartbeats 4000000 in
theorem trPlaces_ok (a g l d : Int) (n : Nat) (w : World) (h0 : hurE a g l n d = 0) (ha : 1 ≤ a ∧ a ≤ 999999) (hg : 1 ≤ g ∧ g ≤ 999999) (hn : n ≤ 64) :
    Calls Tryz.prog 9 #[.agg #[.int .i64 a, .int .i64 g, .int .i64 l, .int .i64 (n : Int)], .int .i64 d] w (HurPost2 (hurL a g n) w) := by
  obtain ⟨i0, hi, hz0, hz1, hz2⟩ := info_parts infoInt
  have hni : (n : Int) ≤ 64 := by omega
  have HC : Hid (∀ w', Calls Tryz.prog 11 #[.agg #[.int .i64 a, .int .i64 g, .int .i64 l, .int .i64 (n : Int)], .int .i64 d] w' (RetPost (.int .i64 0) w')) := Lib.hid fun w' => by
    have := trCheckHurdles_any a g l n d w'
    rwa [h0] at this
  have HN : Hid (HurB w w.heap.size a g l n (w.alloc (.cells #[.int .i64 a, .int .i64 g, .int .i64 l, .int .i64 (n : Int)] 23))) := Lib.hid (HurB.new w a g l n 23)
  unfold HurPost2
  clear h0
  go_enter Tryz.func9, Tryz.ntmps9
  go_wp2_with fail
  refine (HC.out _).mono ?_
  rintro x w9 ⟨rfl, hb1⟩
  have HN2 := Lib.hid (HN.out.next hb1)
  obtain ⟨t0, t1, t2, t3, t4, t5⟩ := HN2.out
  clear hb1
  go_wp2
  clear t0 t1 t2 t3 t4 t5
  go_loopw [7, 17] (fun v i wr => ∃ k : Nat, i = .int .i64 k ∧ k ≤ n ∧ OwnZ wr (w.heap.size + 1) v (hurL a g k) ∧ HurB w w.heap.size a g l n wr) (fun _ i _ => n - (intOf i).toNat)
  case atStart => exact ⟨0, rfl, by omega, World.ownsRow_nil _ _ _ _, HN2.out⟩
  case round =>
    obtain ⟨k, rfl, hk, hO, hH⟩ := hrel
    have hH' := hH
    obtain ⟨s0, s1, s2, s3, s4, s5⟩ := hH'
    by_cases hlt : k < n
    · have hki : (k : Int) < (n : Int) := by omega
      have hm : 0 ≤ (k : Int) * g ∧ (k : Int) * g ≤ 63999936 := by
        refine ⟨Int.mul_nonneg (by omega) (by omega), ?_⟩
        have := Int.mul_le_mul (show (k : Int) ≤ 64 by omega) hg.2 (by omega) (by omega)
        omega
      have w1 : IntKind.i64.wrap ((k : Int) * g) = (k : Int) * g := wrapY _ (by omega)
      have w2 : IntKind.i64.wrap (a + (k : Int) * g) = a + (k : Int) * g := wrapY _ (by omega)
      have hlen := hurL_len a g k
      obtain ⟨A0, c0, rfl⟩ := hO.shapeY
      rw [hlen] at hO
      have hown : wr.ownsRow (w.heap.size + 1) 3 1 (.slice A0 k c0) k ((hurL a g k).map fun z => Value.int .i64 z) := by
        have := hO
        unfold OwnZ at this
        rw [hlen] at this
        exact this
      rw [hlen]
      have HS := Lib.hid (hurL_succ a g k)
      obtain ⟨x, hx⟩ : ∃ x, a + (k : Int) * g = x := ⟨_, rfl⟩
      rw [hx] at HS w2
      have HH := Lib.hid hH
      have HL := Lib.hid hlen
      clear hH hm hlen hO
      obtain ⟨R, hR⟩ : ∃ R, hurL a g k = R := ⟨_, rfl⟩
      rw [hR] at HS HL hown
      clear hR
      go_wp2_with (at_builtin; refine wpList_append_own _ rfl _ _ 26 rfl (w.heap.size + 1) 3 i0 (.int .i64 0) 1 8 Tryz.underlying26 hi hz0 hz1 hz2 rfl (by decide) _ _ _ rfl (World.ownsRow.alloc hown _) ⟨wr.heap.size, 0, none⟩ 1 1 [.int .i64 x] rfl rfl ?c1 ?c2 ?c3 ?c4 ?c5 ?_)
      case c1 =>
        intro j u hj
        match j, hj with
        | 0, hj => simp at hj; subst hj; simp [Addr.add]
      case c2 => intro u hu; simp at hu; subst hu; rfl
      case c3 => unfold maxLen; omega
      case c4 => omega
      case c5 => simp; omega
      intro v' w1 hown' hgrow _
      have hH1 := HH.out.next (balloc (.cells #[.int .i64 x] 3) (Below.refl _ _))
      have hH2 := hH1.grown hgrow (fun q => by have := (World.ownsRow.lt hown w.heap.size q.symm).1; omega) (fun r hr => by have := (World.ownsRow.lt hown r hr).1; omega)
      have HD := Lib.hid (And.intro (OwnZ.next (w1 := w1) (L := R) (z := x) (by rw [HL.out]; exact hown')) hH2)
      obtain ⟨t0, t1, t2, t3, t4, t5⟩ := hH2
      clear hH1 hown' hgrow hown s0 s1 s2 s3 s4 s5
      go_wp2
      go_roundw
      case rel => exact ⟨k + 1, by go_num, by omega, by rw [HS.out]; exact HD.out.1, HD.out.2⟩
      case measure => simp [intOf]; omega
    · have hkn : k = n := by omega
      subst hkn
      have HF := Lib.hid (And.intro (own_lowY (show wr.ownsRow _ _ _ _ _ _ from hO) (Nat.le_succ _)) s5)
      clear hO hH
      go_wp2
      go_ret2
      exact ⟨_, rfl, HF.out.1, HF.out.2⟩
end Go.Mk
