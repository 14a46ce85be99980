/-
  Proved: the text of a fraction of two naturals of one word. Conditions: the numbers are words of at most 19 digits that lie where the value says; the heap holds the library's table.
  Proved: mark.Of of two integers that are not negative, the second one not 0: the text of the fraction in lowest terms. Conditions: the integers are below 2^63; the heap holds the library's table.
-/
import Derived.Test.YtickjnahdeikfaaGreatDoorNj
section
set_option linter.unusedVariables false
set_option linter.unusedSimpArgs false
open Go Go.Proofs Go.RowKit
set_option maxRecDepth 100000
namespace Go.Mk
/-- The text of a fraction in lowest terms. -/
def ratT (N D : Nat) : ByteArray := if D = 1 then digT N else digT N ++ (⟨#[47]⟩ ++ digT D)
theorem digT_size (N : Nat) (h : N < 10000000000000000000) : (digT N).size ≤ 20 := by
  unfold digT
  split
  · decide +kernel
  · rw [zT_size]
    have := dec_len N (by omega)
    omega
theorem boxF {w w2 : World} {s : Bool} {a b : Value} {t : TypeId} (hb : Below (w.alloc (.cells #[.bool s, a, b] t)).heap.size (w.alloc (.cells #[.bool s, a, b] t)) w2) :
    w2.cell? ⟨w.heap.size, 0, none⟩ = some (.bool s) ∧ w2.cell? ⟨w.heap.size, 1, none⟩ = some a ∧ w2.cell? ⟨w.heap.size, 2, none⟩ = some b := by
  have h0 : (w.alloc (.cells #[.bool s, a, b] t)).heap[w.heap.size]? = some (.cells #[.bool s, a, b] t (0, 0)) := Array.getElem?_push_size
  have h1 := (hb.block _ (Array.getElem?_eq_some_iff.1 h0).1).trans h0
  exact ⟨Go.Joins.cell_of_block h1 0, Go.Joins.cell_of_block h1 1, Go.Joins.cell_of_block h1 2⟩
set_option maxHeartbeats 4000000 in
theorem naWrite_any (f : Value) (N D : Nat) (w : World) (h : F1 w f N D) (hN : N < 10000000000000000000) (hD : D < 10000000000000000000) (hG : Gt w) :
    Calls Tryz.prog 124 #[f] w (RetPost (.tuple #[.string (ratT N D), .int .i64 0]) w) := by
  obtain ⟨a, b, rfl, ha, hb⟩ := h
  have hA := fun w1 (hh : Below w.heap.size w w1) => naDigits_any a N w1 (ha.below hh) hN (hG.below hh (Nat.le_refl _))
  have hB := fun w1 (hh : Below w.heap.size w w1) => naDigits_any b D w1 (hb.below hh) hD (hG.below hh (Nat.le_refl _))
  have hO := fun w1 (hh : Below w.heap.size w w1) => naIsOne_any b D w1 (hb.below hh)
  have sA : ((digT N).size : Int) ≤ 20 := by have := digT_size N hN; omega
  have sB : ((digT D).size : Int) ≤ 20 := by have := digT_size D hD; omega
  have hy : ratT N D = if D = 1 then digT N else digT N ++ (⟨#[47]⟩ ++ digT D) := rfl
  obtain ⟨A1, n1, c1, rfl, _⟩ := ha.slice
  obtain ⟨A2, n2, c2, rfl, _⟩ := hb.slice
  have hb0 : Below w.heap.size w (w.alloc (.cells #[.bool false, .slice A1 n1 c1, .slice A2 n2 c2] 183)) := balloc _ (Below.refl _ _)
  have HX := Lib.hid (fun w2 (hh : Below (w.alloc (.cells #[.bool false, .slice A1 n1 c1, .slice A2 n2 c2] 183)).heap.size (w.alloc (.cells #[.bool false, .slice A1 n1 c1, .slice A2 n2 c2] 183)) w2) => boxF hh)
  have HB0 := Lib.hid hb0
  generalize digT N = X at *
  generalize digT D = Y at *
  clear ha hb hG hN hD hb0
  go_enter Tryz.func124, Tryz.ntmps124
  go_wp2_with fail
  generalize hw0 : w.alloc (.cells #[.bool false, .slice A1 n1 c1, .slice A2 n2 c2] 183) = w0 at HX HB0 ⊢
  have HZ := Lib.hid (fun w2 (hh : Below w0.heap.size w0 w2) => bstep HB0.out hh)
  clear hw0
  go_region_held3 (fun w' => w'.cell? ⟨w.heap.size, 0, none⟩ = some (.bool false) ∧ w'.cell? ⟨w.heap.size, 1, none⟩ = some (.slice A1 n1 c1) ∧ w'.cell? ⟨w.heap.size, 2, none⟩ = some (.slice A2 n2 c2) ∧ Below w0.heap.size w0 w') ((go_split_ands; (first | (refine ⟨(HX.out _ (Below.drew (Below.refl _ _))).1, (HX.out _ (Below.drew (Below.refl _ _))).2.1, (HX.out _ (Below.drew (Below.refl _ _))).2.2, Below.drew (Below.refl _ _)⟩) | (refine ⟨by assumption, by assumption, by assumption, by assumption⟩) | (have hbn := bstep (by assumption) (by assumption); exact ⟨(HX.out _ hbn).1, (HX.out _ hbn).2.1, (HX.out _ hbn).2.2, hbn⟩)))) ((first | (go_at_call 138; (first | (with_reducible refine (hA _ (HZ.out _ (by assumption))).mono ?_) | (with_reducible refine (hA _ (HZ.out _ (Below.drew (Below.refl _ _)))).mono ?_) | (with_reducible refine (hB _ (HZ.out _ (by assumption))).mono ?_) | (with_reducible refine (hB _ (HZ.out _ (And.right (And.right (And.right (by assumption)))))).mono ?_)); rintro e w' ⟨rfl, hbw⟩)))
  all_goals
    rename_i hH
    obtain ⟨k0, k1, k2, k3⟩ := hH
    have bw := HZ.out _ k3
    have HO := hO _ bw
    clear hA hB hO HX HZ HB0
    by_cases h1 : D = 1
    · have e1 : decide (D = 1) = true := decide_eq_true h1
      rw [e1] at HO
      rw [if_pos h1] at hy
      have HY := Lib.hid hy
      clear hy e1 h1
      go_wp2_with fail
      refine HO.mono ?_
      rintro e w3 ⟨rfl, rfl⟩
      go_wp2
      go_ret2
      exact ⟨by rw [HY.out]; rfl, bw⟩
    · have e1 : decide (D = 1) = false := decide_eq_false h1
      rw [e1] at HO
      rw [if_neg h1] at hy
      have HY := Lib.hid hy
      clear hy e1 h1
      go_wp2_with fail
      refine HO.mono ?_
      rintro e w3 ⟨rfl, rfl⟩
      go_wp2
      go_ret2
      exact ⟨by rw [HY.out]; rfl, bw⟩
end Go.Mk
end
section
set_option linter.unusedVariables false
set_option linter.unusedSimpArgs false
open Go Go.Proofs Go.RowKit
set_option maxRecDepth 100000
namespace Go.Mk
theorem box2i {w w2 : World} {o : Obj} {x y x' y' : Value} {t : TypeId} (hb : Below ((w.alloc (.cells #[x, y] t)).alloc (.cells #[x', y'] t)).heap.size ((w.alloc (.cells #[x, y] t)).alloc (.cells #[x', y'] t)) w2) :
    w2.heap[w.heap.size]? = some (.cells #[x, y] t (0, 0)) ∧ w2.heap[w.heap.size + 1]? = some (.cells #[x', y'] t (0, 0)) := by
  have hn := news2 w (.cells #[x, y] t) (.cells #[x', y'] t)
  exact ⟨(hb.block _ (Array.getElem?_eq_some_iff.1 hn.1).1).trans hn.1, (hb.block _ (Array.getElem?_eq_some_iff.1 hn.2).1).trans hn.2⟩
set_option maxHeartbeats 4000000 in
theorem naOf_any (N D : Nat) (w : World) (hN : N < 9223372036854775808) (hD0 : 0 < D) (hD : D < 9223372036854775808) (hG : Gt w) :
    Calls Tryz.prog 99 #[.int .i64 (N : Int), .int .i64 (D : Int)] w (RetPost (.tuple #[.string (ratT (N / Nat.gcd D N) (D / Nat.gcd D N)), .int .i64 0]) w) := by
  have h1 := fun w => naFromInt_any N w hN
  have h2 := fun w => naFromInt_any D w hD
  have hS := fun v w (h : W1 w v N) => naSignedP_any v N w h
  have hL := fun v u w (h : I1 w v N) (k : W1 w u D) => naLowest_any v u N D w h k hD0
  have hW := fun f w1 (h : F1 w1 f (N / Nat.gcd D N) (D / Nat.gcd D N)) (hh : Below w.heap.size w w1) => naWrite_any f _ _ w1 h (Nat.lt_of_le_of_lt (Nat.div_le_self _ _) (by omega)) (Nat.lt_of_le_of_lt (Nat.div_le_self _ _) (by omega)) (hG.below hh (Nat.le_refl _))
  have hdn : ((D : Int) == 0) = false := by rw [beq_eq_false_iff_ne]; omega
  generalize N / Nat.gcd D N = P at *
  generalize D / Nat.gcd D N = Q at *
  clear hN hD hD0 hG
  go_enter Tryz.func99, Tryz.ntmps99
  go_wp2_with fail
  refine (h1 _).mono ?_
  rintro e w1 ⟨v1, rfl, g1, b1⟩
  have G1 := Lib.hid g1
  clear g1
  go_wp2_with fail
  refine (h2 _).mono ?_
  rintro e w2 ⟨v2, rfl, g2, b2⟩
  have G2 := Lib.hid g2
  clear g2
  obtain ⟨a1, rfl, ha1⟩ := G1.out
  obtain ⟨a2, rfl, ha2⟩ := G2.out
  obtain ⟨A1, n1, c1, rfl, _⟩ := ha1.slice
  obtain ⟨A2, n2, c2, rfl, _⟩ := ha2.slice
  clear G1 G2
  have HA1 := Lib.hid (ha1.below b2)
  have HA2 := Lib.hid ha2
  clear ha1 ha2
  have bw2 := bstep b1 b2
  go_wp2_with fail
  have hn := news2 w2 (.cells #[.bool false, .slice A1 n1 c1] 179) (.cells #[.bool false, .slice A2 n2 c2] 179)
  have hb4 : Below w2.heap.size w2 ((w2.alloc (.cells #[.bool false, .slice A1 n1 c1] 179)).alloc (.cells #[.bool false, .slice A2 n2 c2] 179)) := (balloc _ (Below.refl _ _)).alloc (by simp) _
  generalize (w2.alloc (.cells #[.bool false, .slice A1 n1 c1] 179)).alloc (.cells #[.bool false, .slice A2 n2 c2] 179) = w4 at hn hb4 ⊢
  have HX := Lib.hid (fun w' (hh : Below w4.heap.size w4 w') => (show w'.cell? ⟨w2.heap.size, 0, none⟩ = some (.bool false) ∧ w'.cell? ⟨w2.heap.size, 1, none⟩ = some (.slice A1 n1 c1) ∧ w'.cell? ⟨w2.heap.size + 1, 0, none⟩ = some (.bool false) ∧ w'.cell? ⟨w2.heap.size + 1, 1, none⟩ = some (.slice A2 n2 c2) ∧ Below w4.heap.size w4 w' from
    have m1 := (hh.block _ (Array.getElem?_eq_some_iff.1 hn.1).1).trans hn.1
    have m2 := (hh.block _ (Array.getElem?_eq_some_iff.1 hn.2).1).trans hn.2
    ⟨Go.Joins.cell_of_block m1 0, Go.Joins.cell_of_block m1 1, Go.Joins.cell_of_block m2 0, Go.Joins.cell_of_block m2 1, hh⟩))
  have HQ1 := Lib.hid (fun w' (hh : Below w4.heap.size w4 w') => HA1.out.below (bstep hb4 hh))
  have HQ2 := Lib.hid (fun w' (hh : Below w4.heap.size w4 w') => HA2.out.below (bstep hb4 hh))
  have HQ3 := Lib.hid (fun w' (hh : Below w4.heap.size w4 w') => bstep bw2 (bstep hb4 hh))
  clear hn hb4 HA1 HA2 b1 b2
  go_region_held3 (fun w' => w'.cell? ⟨w2.heap.size, 0, none⟩ = some (.bool false) ∧ w'.cell? ⟨w2.heap.size, 1, none⟩ = some (.slice A1 n1 c1) ∧ w'.cell? ⟨w2.heap.size + 1, 0, none⟩ = some (.bool false) ∧ w'.cell? ⟨w2.heap.size + 1, 1, none⟩ = some (.slice A2 n2 c2) ∧ Below w4.heap.size w4 w') ((first | (exact HX.out _ (Below.drew (Below.refl _ _))) | (assumption) | (exact HX.out _ (bstep (by assumption) (by assumption))) | (go_split_ands; exact HX.out _ (bstep (by assumption) (by assumption))))) ((first | (go_at_call 126; (first | (with_reducible refine (hS _ _ (HQ1.out _ (Below.drew (Below.refl _ _)))).mono ?_) | (with_reducible refine (hS _ _ (HQ1.out _ (by assumption))).mono ?_)); rintro e w' ⟨vs, rfl, hvs, hbw⟩) | (go_at_call 125; (first | (with_reducible refine (hL _ _ _ (by assumption) (HQ2.out _ (by assumption))).mono ?_) | (with_reducible refine (hL _ _ _ (by assumption) (HQ2.out _ (And.right (And.right (And.right (And.right (by assumption))))))).mono ?_)); rintro e w' ⟨fz, rfl, hfz, hbl⟩) | (go_at_call 124; (first | (with_reducible refine (hW _ _ (by assumption) (HQ3.out _ (by assumption))).mono ?_) | (with_reducible refine (hW _ _ (by assumption) (HQ3.out _ (And.right (And.right (And.right (And.right (by assumption))))))).mono ?_)); rintro e w' ⟨rfl, hbr⟩)))
  all_goals
    rename_i hH
    have bw := HQ3.out _ hH.2.2.2.2
    clear hH
    go_wp2
    go_ret2
    exact ⟨rfl, bw⟩
end Go.Mk
end
