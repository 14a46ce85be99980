/-
  Proved: the reference's quotient and product of rational numbers of up to nine digits, and the sum of whole ones. Conditions: numerators and denominators have at most nine digits, denominators are not 0; those of the result have at most nine digits.
  Proved: the reference's FromInt of integers of up to nine digits that are not negative; its integers of one digit to the base 10^9 or none: trim, signed, whole, text. Conditions: the integers lie where the values say, and have at most nine digits.
-/
import Derived.Test.YtickjnahdeikfaaGreatDoorVc
section
set_option linter.unusedVariables false
set_option linter.unusedSimpArgs false
open Go Go.Proofs Go.RowKit
set_option maxRecDepth 100000
namespace Go.Mk
set_option maxHeartbeats 4000000 in
theorem rfOfB_any (N D : Nat) (w : World) (hN : N ≤ 4000000000000000000) (hD0 : 0 < D) (hD : D ≤ 4000000000000000000) (bP : N / Nat.gcd D N ≤ 999999999) (bQ : D / Nat.gcd D N ≤ 999999999) :
    Calls Tryz.prog 65 #[.int .i64 (N : Int), .int .i64 (D : Int)] w (RetPost (.string (ratT (N / Nat.gcd D N) (D / Nat.gcd D N))) w) := by
  have hG := fun w => rfGcd_any N D (by omega) (by omega) w
  have g0 : 0 < Nat.gcd D N := Nat.gcd_pos_of_pos_left _ hD0
  have g1 : Nat.gcd D N ≤ D := Nat.gcd_le_left _ hD0
  have hQ0 : 0 < D / Nat.gcd D N := Nat.div_pos g1 g0
  have hP := fun w => rfDec_any (N / Nat.gcd D N) bP w
  have hQ := fun w => rfDec_any (D / Nat.gcd D N) bQ w
  have sP := digT_size9 (N / Nat.gcd D N) bP
  have sQ := digT_size9 (D / Nat.gcd D N) bQ
  have hy : ratT (N / Nat.gcd D N) (D / Nat.gcd D N) = if D / Nat.gcd D N = 1 then digT (N / Nat.gcd D N) else digT (N / Nat.gcd D N) ++ (⟨#[47]⟩ ++ digT (D / Nat.gcd D N)) := rfl
  have eP : (N : Int) / ((Nat.gcd D N : Nat) : Int) = ((N / Nat.gcd D N : Nat) : Int) := (Int.natCast_ediv _ _).symm
  have eQ : (D : Int) / ((Nat.gcd D N : Nat) : Int) = ((D / Nat.gcd D N : Nat) : Int) := (Int.natCast_ediv _ _).symm
  generalize N / Nat.gcd D N = P at *
  generalize D / Nat.gcd D N = Q at *
  generalize Nat.gcd D N = G at *
  have hGn : ((G : Int) == 0) = false := by rw [beq_eq_false_iff_ne]; omega
  have hGp : (0 : Int) < (G : Int) := by omega
  have hNi : (N : Int) ≤ 4000000000000000000 := by omega
  have hDi : (D : Int) ≤ 4000000000000000000 := by omega
  have hDp : (0 : Int) < (D : Int) := by omega
  have hPi : (P : Int) ≤ 999999999 := by omega
  have hQi : (Q : Int) ≤ 999999999 := by omega
  have hQp : (0 : Int) < (Q : Int) := by omega
  have hN0 : (0 : Int) ≤ (N : Int) := by omega
  have hP0 : (0 : Int) ≤ (P : Int) := by omega
  have m1 : max (N : Int) (-(N : Int)) = (N : Int) := by omega
  have m2 : max (P : Int) (-(P : Int)) = (P : Int) := by omega
  have HY := Lib.hid hy
  clear hy hN hD hD0 g0 g1 hQ0 bP bQ
  go_enter Tryz.func65, Tryz.ntmps65
  go_wp2_with fail
  refine (hG _).mono ?_
  rintro e w1 ⟨rfl, b1⟩
  go_wp2_with fail
  go_quiet (fail)
  go_wp2_with fail
  refine (hP _).mono ?_
  rintro e w2 ⟨rfl, rfl⟩
  have bw := below_drewN b1 nq
  have hE : ∀ X : ByteArray, (⟨#[]⟩ : ByteArray) ++ X = X := by
    intro X
    apply baExt
    simp
  have hA : ∀ X Y Z : ByteArray, X ++ Y ++ Z = X ++ (Y ++ Z) := fun X Y Z => ByteArray.append_assoc
  by_cases h1 : Q = 1
  · have h2 : ¬ (1 : Int) < (Q : Int) := by omega
    have hy := HY.out
    rw [if_pos h1] at hy
    have HY2 := Lib.hid hy
    generalize digT P = X at *
    clear hy HY h1
    go_wp2
    go_ret
    exact ⟨by rw [HY2.out]; rfl, bw⟩
  · have h2 : (1 : Int) < (Q : Int) := by omega
    have hy := HY.out
    rw [if_neg h1] at hy
    have HY2 := Lib.hid hy
    generalize digT P = X at *
    generalize digT Q = Y at *
    clear hy HY h1
    go_wp2_with fail
    refine (hQ _).mono ?_
    rintro e w2 ⟨rfl, rfl⟩
    go_wp2
    go_ret
    exact ⟨by rw [HY2.out]; rfl, bw⟩
theorem wrapK (K : Nat) (h : K ≤ 4000000000000000000) : wrap64 (K : Int) = (K : Int) := IntWalk.wrap64_in _ (by omega)
theorem mul9 {a b : Nat} (ha : a ≤ 999999999) (hb : b ≤ 999999999) : a * b ≤ 999999998000000001 := Nat.mul_le_mul ha hb
set_option maxHeartbeats 2000000 in
theorem rfMul_any (N D M E : Nat) (w : World) (hN : N ≤ 999999999) (hD0 : 0 < D) (hD : D ≤ 999999999) (hM : M ≤ 999999999) (hE0 : 0 < E) (hE : E ≤ 999999999)
    (bP : N * M / Nat.gcd (D * E) (N * M) ≤ 999999999) (bQ : D * E / Nat.gcd (D * E) (N * M) ≤ 999999999) :
    Calls Tryz.prog 33 #[.string (ratT N D), .string (ratT M E)] w (RetPost (.string (ratT (N * M / Nat.gcd (D * E) (N * M)) (D * E / Nat.gcd (D * E) (N * M)))) w) := by
  have hQ1 := fun w => rfQuick_any N D hN hD w
  have hQ2 := fun w => rfQuick_any M E hM hE w
  have h1 := mul9 hN hM
  have h2 := mul9 hD hE
  have hO := fun w => rfOfB_any (N * M) (D * E) w (by omega) (Nat.mul_pos hD0 hE0) (by omega) bP bQ
  have e1 : (((N * M : Nat)) : Int) = (N : Int) * (M : Int) := Int.natCast_mul _ _
  have e2 : (((D * E : Nat)) : Int) = (D : Int) * (E : Int) := Int.natCast_mul _ _
  have w1 : wrap64 ((N : Int) * (M : Int)) = (N : Int) * (M : Int) := by rw [← e1]; exact wrapK _ (by omega)
  have w2 : wrap64 ((D : Int) * (E : Int)) = (D : Int) * (E : Int) := by rw [← e2]; exact wrapK _ (by omega)
  rw [e1, e2] at hO
  generalize ratT (N * M / Nat.gcd (D * E) (N * M)) (D * E / Nat.gcd (D * E) (N * M)) = R at *
  generalize ratT N D = S at *
  generalize ratT M E = U at *
  clear hN hD0 hD hM hE0 hE bP bQ h1 h2 e1 e2
  go_enter Tryz.func33, Tryz.ntmps33
  go_wp2_with fail
  refine (hQ1 _).mono ?_
  rintro e wa ⟨rfl, rfl⟩
  go_wp2_with fail
  refine (hQ2 _).mono ?_
  rintro e wb ⟨rfl, rfl⟩
  go_wp2_with fail
  try rw [w1, w2]
  refine (hO _).mono ?_
  rintro e wc ⟨rfl, hb⟩
  go_wp2
  go_ret
  exact ⟨rfl, hb⟩
theorem ratT_one (N : Nat) : ratT N 1 = digT N := if_pos rfl
set_option maxHeartbeats 2000000 in
theorem rfAddI_any (N M : Nat) (w : World) (h : N + M ≤ 999999999) :
    Calls Tryz.prog 32 #[.string (digT N), .string (digT M)] w (RetPost (.string (digT (N + M))) w) := by
  have hQ1 : ∀ w, Calls Tryz.prog 74 #[.string (digT N)] w (RetSame (.tuple #[.int .i64 N, .int .i64 1, .bool true]) w) := fun w => by rw [← ratT_one]; exact rfQuick_any N 1 (by omega) (by omega) w
  have hQ2 : ∀ w, Calls Tryz.prog 74 #[.string (digT M)] w (RetSame (.tuple #[.int .i64 M, .int .i64 1, .bool true]) w) := fun w => by rw [← ratT_one]; exact rfQuick_any M 1 (by omega) (by omega) w
  have hO : ∀ w, Calls Tryz.prog 65 #[.int .i64 ((N : Int) + (M : Int)), .int .i64 1] w (RetPost (.string (digT (N + M))) w) := fun w => by
    have := rfOf_any (N + M) 1 w h (by omega) (by omega)
    rw [Nat.gcd_one_left, Nat.div_one, Nat.div_one, ratT_one, Int.natCast_add] at this
    exact this
  have hn : (N : Int) + (M : Int) ≤ 999999999 := by omega
  have hn1 : (N : Int) ≤ 999999999 := by omega
  have hn2 : (M : Int) ≤ 999999999 := by omega
  have w1 : IntKind.i64.wrap (N : Int) = (N : Int) := IntWalk.i64_in _ (by omega)
  have w2 : IntKind.i64.wrap (M : Int) = (M : Int) := IntWalk.i64_in _ (by omega)
  have w3 : IntKind.i64.wrap ((N : Int) + (M : Int)) = (N : Int) + (M : Int) := IntWalk.i64_in _ (by omega)
  generalize digT (N + M) = R at *
  generalize digT N = S at *
  generalize digT M = U at *
  clear h
  go_enter Tryz.func32, Tryz.ntmps32
  go_wp2_with fail
  refine (hQ1 _).mono ?_
  rintro e wa ⟨rfl, rfl⟩
  go_wp2_with fail
  refine (hQ2 _).mono ?_
  rintro e wb ⟨rfl, rfl⟩
  go_wp2_with fail
  refine (hO _).mono ?_
  rintro e wc ⟨rfl, hb⟩
  go_wp2
  go_ret
  exact ⟨rfl, hb⟩
end Go.Mk
end
section
set_option linter.unusedVariables false
set_option linter.unusedSimpArgs false
open Go Go.Proofs Go.RowKit
set_option maxRecDepth 100000
namespace Go.Mk
/-- The digits of an integer below 10^9 lie in this value: one digit or none. -/
def D1 (w : World) (v : Value) (N : Nat) : Prop :=
  (N = 0 ∧ ∃ A c, v = .slice A 0 c) ∨ (0 < N ∧ ∃ g off c, v = .slice (some ⟨g, off, none⟩) 1 c ∧ g < w.heap.size ∧ w.cell? ⟨g, off, none⟩ = some (.int .i64 (N : Int)))
theorem D1.below {w w' : World} {v : Value} {N : Nat} (h : D1 w v N) (hb : Below w.heap.size w w') : D1 w' v N := by
  rcases h with h | ⟨h0, g, off, c, e, hg, hc⟩
  · exact .inl h
  · exact .inr ⟨h0, g, off, c, e, Nat.lt_of_lt_of_le hg hb.size, (hb.cell (p := ⟨g, off, none⟩) hg).trans hc⟩
theorem D1.slice {w : World} {v : Value} {N : Nat} (h : D1 w v N) : ∃ A n c, v = .slice A n c := by
  rcases h with ⟨_, A, c, e⟩ | ⟨_, g, off, c, e, _⟩
  · exact ⟨A, 0, c, e⟩
  · exact ⟨_, 1, c, e⟩
theorem D1.box2 {w : World} {v : Value} {N p i : Nat} {s : Bool} {A : Option Addr} {n c : Nat} {t : TypeId} {x : Value} (h : D1 w v N) (hp : w.heap[p]? = some (.cells #[.bool s, .slice A n c] t (0, 0))) : D1 (w.setCell ⟨p, i, none⟩ x) v N := by
  rcases h with h | ⟨h0, g, off, c', e, hg, hc⟩
  · exact .inl h
  · refine .inr ⟨h0, g, off, c', e, by simpa using hg, (World.cell?_setCell_other w _ _ _ ?_).trans hc⟩
    intro q
    have hgp : g = p := (congrArg Addr.block q).symm
    subst hgp
    rw [Go.Joins.cell_of_block hp] at hc
    match off, hc with
    | 0, hc => simp at hc
    | 1, hc => simp at hc
    | j + 2, hc => simp at hc
theorem D1.box2s {w : World} {v : Value} {N p : Nat} {s s' : Bool} {A : Option Addr} {n c : Nat} {t : TypeId} {y : Value} (h : D1 w v N) (hp : w.heap[p]? = some (.cells #[.bool s, .slice A n c] t (0, 0))) : D1 ((w.setCell ⟨p, 0, none⟩ (.bool s')).setCell ⟨p, 1, none⟩ y) v N :=
  D1.box2 (h.box2 hp) (Go.Joins.block_setCell (i := 0) hp (.bool s'))
set_option maxHeartbeats 1000000 in
theorem rfTrim_one (v : Value) (N : Nat) (w : World) (h : D1 w v N) : Calls Tryz.prog 134 #[v] w (RetSame v w) := by
  rcases h with ⟨_, A, c, rfl⟩ | ⟨h0, g, off, c, rfl, hg, hc⟩
  · go_enter Tryz.func134, Tryz.ntmps134
    go_wp2
    go_loop [0] (fun x => x = .slice A 0 c) (fun _ => 0)
    case atStart => rfl
    case round =>
      obtain rfl := hrel
      go_wp2
      go_ret
      exact ⟨rfl, rfl⟩
  · have hne : ((N : Int) == 0) = false := by rw [beq_eq_false_iff_ne]; omega
    have hn0 : ¬ (N : Int) = 0 := by omega
    go_enter Tryz.func134, Tryz.ntmps134
    go_wp2
    go_loop [0] (fun x => x = .slice (some ⟨g, off, none⟩) 1 c) (fun _ => 0)
    case atStart => rfl
    case round =>
      obtain rfl := hrel
      go_wp2
      go_ret
      exact ⟨rfl, rfl⟩
set_option maxHeartbeats 1000000 in
theorem rfSigned_one (v : Value) (N : Nat) (w : World) (h : D1 w v N) : Calls Tryz.prog 116 #[.bool false, v] w (fun e w' => e = .returned (.agg #[.bool false, v]) ∧ Below w.heap.size w w') := by
  have hT := fun w' (hb : Below w.heap.size w w') => rfTrim_one v N w' (h.below hb)
  obtain ⟨A, n, c, rfl⟩ := h.slice
  clear h
  go_enter Tryz.func116, Tryz.ntmps116
  go_wp2_with fail
  refine (hT _ (balloc _ (Below.refl _ _))).mono ?_
  rintro e w' ⟨rfl, rfl⟩
  go_wp2
  exact bodyPost_ret (v := .agg #[.bool false, .slice A n c]) (by simp [results, Tryz.results116, go_sem]) rfl ⟨rfl, balloc _ (Below.refl _ _)⟩
/-- An integer that is not negative and below 10^9 lies in this value. -/
def J1 (w : World) (v : Value) (N : Nat) : Prop := ∃ u, v = .agg #[.bool false, u] ∧ D1 w u N
set_option maxHeartbeats 2000000 in
theorem rfWhole_any (N : Nat) (w : World) (hN : N ≤ 999999999) : Calls Tryz.prog 80 #[.int .i64 (N : Int)] w (fun e w' => ∃ u, e = .returned u ∧ J1 w' u N ∧ Below w.heap.size w w') := by
  obtain ⟨i0, hi, hz0, hz1, hz2⟩ := info_parts infoInt
  have hS := fun v w (h : D1 w v N) => rfSigned_one v N w h
  have h0 : ¬ (N : Int) < 0 := by omega
  have hNi : (N : Int) ≤ 999999999 := by omega
  have hN0 : (0 : Int) ≤ (N : Int) := by omega
  have hm1 : Int.tmod (N : Int) 1000000000 = (N : Int) := by rw [Int.tmod_eq_emod_of_nonneg hN0]; omega
  have hq1 : Int.tdiv (N : Int) 1000000000 = 0 := by rw [Int.tdiv_eq_ediv_of_nonneg hN0]; omega
  have hm2 : (N : Int) % 1000000000 = (N : Int) := by omega
  have hq2 : (N : Int) / 1000000000 = 0 := by omega
  obtain ⟨w1, hw1⟩ : ∃ w1, w.alloc (.cells #[.bool false, .slice none 0 0] 127) = w1 := ⟨_, rfl⟩
  have hb1 : Below w.heap.size w w1 := by rw [← hw1]; exact balloc _ (Below.refl _ _)
  have hs1 : w1.heap.size = w.heap.size + 1 := by rw [← hw1]; simp
  have HW1 := Lib.hid hw1
  go_enter Tryz.func80, Tryz.ntmps80
  go_wp2
  go_loopw [0, 3] (fun x y wr => ((x = .int .i64 (N : Int) ∧ y = .slice none 0 0) ∨ (x = .int .i64 0 ∧ 0 < N ∧ ∃ g c, y = .slice (some ⟨g, 0, none⟩) 1 c ∧ g < wr.heap.size ∧ wr.cell? ⟨g, 0, none⟩ = some (.int .i64 (N : Int)))) ∧ Below w1.heap.size w1 wr) (fun x _ _ => (intOf x).toNat)
  case atStart => exact ⟨.inl ⟨rfl, rfl⟩, Below.refl _ _⟩
  case round =>
    obtain ⟨hx, hb⟩ := hrel
    rcases hx with ⟨rfl, rfl⟩ | ⟨rfl, hp, g, c, rfl, hg, hc⟩
    · by_cases hz : N = 0
      · have hzi : (N : Int) = 0 := by omega
        have HD : Hid (D1 wr (.slice none 0 0) N) := Lib.hid (.inl ⟨hz, _, _, rfl⟩)
        go_wp2_with fail
        refine (hS _ _ HD.out).mono ?_
        rintro e w2 ⟨rfl, b2⟩
        have h2 := HD.out.below b2
        have hB : Below (w.alloc (.cells #[.bool false, .slice none 0 0] 127)).heap.size (w.alloc (.cells #[.bool false, .slice none 0 0] 127)) w2 := by rw [HW1.out]; exact hb.trans (b2.mono hb.size)
        obtain ⟨k1, k2, k3, k4, k5, k6, k7⟩ := box2 hB (.bool false) (.slice none 0 0)
        have hbz := Lib.hid (box2_below hB (.bool false) (.slice none 0 0))
        have k8 := Go.Joins.cell_of_block k1 1
        have k9 := Go.Joins.unfrozen_of_block k1 1
        have K6 := Lib.hid k6
        have K7 := Lib.hid k7
        have hw := Lib.hid (D1.box2s (s' := false) (y := .slice none 0 0) h2 k1)
        clear h2 k6 k7 k1 hB hb b2
        go_wp2
        have k6 := K6.out
        have k7 := K7.out
        exact bodyPost_ret (v := .agg #[.bool false, .slice none 0 0]) (by simp [results, Tryz.results80, go_sem, k6, k7]) rfl ⟨_, rfl, ⟨_, rfl, hw.out⟩, hbz.out⟩
      · have hzi : ¬ (N : Int) = 0 := by omega
        have hsz := hb.size
        go_wp2_with (at_builtin; refine wpList_append_own _ rfl _ _ 22 rfl w1.heap.size 3 i0 (.int .i64 0) 1 8 Tryz.underlying22 hi hz0 hz1 hz2 rfl (by decide) _ _ _ rfl (World.ownsRow.alloc (World.ownsRow_nil _ _ _ _) _) ⟨wr.heap.size, 0, none⟩ 1 1 [.int .i64 (N : Int)] rfl rfl ?c1 ?c2 ?c3 ?c4 ?c5 ?_)
        case c1 =>
          intro j u hj
          match j, hj with
          | 0, hj => simp at hj; subst hj; simp [Addr.add]
        case c2 => intro u hu; simp at hu; subst hu; rfl
        case c3 => decide
        case c4 => decide
        case c5 => simp; omega
        intro v' w2 hown' hgrow _
        have hb2 := (hb.alloc hsz (.cells #[.int .i64 (N : Int)] 3)).grown hgrow (by simp; omega) (fun r hr => by cases hr)
        obtain ⟨g, c, rfl, hg1, hg2⟩ := ownSome hown' (by decide)
        have hc : w2.cell? ⟨g, 0, none⟩ = some (.int .i64 (N : Int)) := by rw [World.ownsRow.cellAt hown' 0 (by decide)]; rfl
        have HR : Hid (0 < N ∧ ∃ g' c', (Value.slice (some ⟨g, 0, none⟩) 1 c) = .slice (some ⟨g', 0, none⟩) 1 c' ∧ g' < w2.heap.size ∧ w2.cell? ⟨g', 0, none⟩ = some (.int .i64 (N : Int))) := Lib.hid ⟨by omega, g, c, rfl, hg2, hc⟩
        clear hown' hgrow hc hb
        go_wp2
        go_roundw
        case rel => exact ⟨.inr ⟨by first | rfl | (simp [hq1, hq2]), HR.out⟩, hb2⟩
        case measure => simp [intOf, hq1, hq2]; omega
    · have HD : Hid (D1 wr (.slice (some ⟨g, 0, none⟩) 1 c) N) := Lib.hid (.inr ⟨hp, g, 0, c, rfl, hg, hc⟩)
      clear hc hg hp
      go_wp2_with fail
      refine (hS _ _ HD.out).mono ?_
      rintro e w2 ⟨rfl, b2⟩
      have h2 := HD.out.below b2
      have hB : Below (w.alloc (.cells #[.bool false, .slice none 0 0] 127)).heap.size (w.alloc (.cells #[.bool false, .slice none 0 0] 127)) w2 := by rw [HW1.out]; exact hb.trans (b2.mono hb.size)
      obtain ⟨k1, k2, k3, k4, k5, k6, k7⟩ := box2 hB (.bool false) (.slice (some ⟨g, 0, none⟩) 1 c)
      have hbz := Lib.hid (box2_below hB (.bool false) (.slice (some ⟨g, 0, none⟩) 1 c))
      have k8 := Go.Joins.cell_of_block k1 1
      have k9 := Go.Joins.unfrozen_of_block k1 1
      have K6 := Lib.hid k6
      have K7 := Lib.hid k7
      have hw := Lib.hid (D1.box2s (s' := false) (y := .slice (some ⟨g, 0, none⟩) 1 c) h2 k1)
      clear h2 k6 k7 k1 hB hb b2
      go_wp2
      have k6 := K6.out
      have k7 := K7.out
      exact bodyPost_ret (v := .agg #[.bool false, .slice (some ⟨g, 0, none⟩) 1 c]) (by simp [results, Tryz.results80, go_sem, k6, k7]) rfl ⟨_, rfl, ⟨_, rfl, hw.out⟩, hbz.out⟩
set_option maxHeartbeats 1000000 in
theorem rfText_one (u : Value) (N : Nat) (w : World) (h : J1 w u N) (hN : N ≤ 999999999) : Calls Tryz.prog 79 #[u] w (RetPost (.string (digT N)) w) := by
  obtain ⟨v, rfl, hD⟩ := h
  rcases hD with ⟨rfl, A, c, rfl⟩ | ⟨h0, g, off, c, rfl, hg, hc⟩
  · have hb0 : Below w.heap.size w (w.alloc (.cells #[.bool false, .slice A 0 c] 127)) := balloc _ (Below.refl _ _)
    go_enter Tryz.func79, Tryz.ntmps79
    go_wp2
    go_ret
    exact ⟨rfl, hb0⟩
  · have hb0 : Below w.heap.size w (w.alloc (.cells #[.bool false, .slice (some ⟨g, off, none⟩) 1 c] 127)) := balloc _ (Below.refl _ _)
    have hc1 := (hb0.cell (p := ⟨g, off, none⟩) hg).trans hc
    have hP := fun w => rfDec_any N hN w
    have hb1 := Lib.hid hb0
    generalize digT N = X at *
    go_enter Tryz.func79, Tryz.ntmps79
    go_wp2_with fail
    refine (hP _).mono ?_
    rintro e w1 ⟨rfl, rfl⟩
    go_wp2
    go_loop [3, 4] (fun s i => s = .string X ∧ i = .int .i64 (-1)) (fun _ _ => 0)
    case atStart => exact ⟨rfl, rfl⟩
    case round =>
      obtain ⟨rfl, rfl⟩ := hrel
      go_wp2
      go_ret
      exact ⟨rfl, hb1.out⟩
set_option maxHeartbeats 1000000 in
theorem rfFromInt_any (N : Nat) (w : World) (hN : N ≤ 999999999) : Calls Tryz.prog 34 #[.int .i64 (N : Int)] w (RetPost (.string (digT N)) w) := by
  have hW := fun w => rfWhole_any N w hN
  have hT := fun u w (h : J1 w u N) => rfText_one u N w h hN
  generalize digT N = X at *
  clear hN
  go_enter Tryz.func34, Tryz.ntmps34
  go_wp2_with fail
  refine (hW _).mono ?_
  rintro e w1 ⟨u, rfl, hJ, b1⟩
  go_wp2_with fail
  refine (hT _ _ hJ).mono ?_
  rintro e w2 ⟨rfl, b2⟩
  have hb := bstep b1 b2
  go_wp2
  go_ret
  exact ⟨rfl, hb⟩
end Go.Mk
end
