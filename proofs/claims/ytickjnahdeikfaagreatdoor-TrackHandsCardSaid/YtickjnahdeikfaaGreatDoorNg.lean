/-
  Proved: fractions of naturals of one word in lowest terms. Conditions: the numbers are words that lie where the values say; the denominator is not 0.
-/
import Derived.Test.YtickjnahdeikfaaGreatDoorNe
set_option linter.unusedVariables false
set_option linter.unusedSimpArgs false
open Go Go.Proofs Go.RowKit
set_option maxRecDepth 100000
namespace Go.Mk
/-- A fraction of two words, not negative, lies in this value. -/
def F1 (w : World) (v : Value) (N D : Nat) : Prop := ∃ a b, v = .agg #[.bool false, a, b] ∧ W1 w a N ∧ W1 w b D
theorem news2 (w : World) (o1 o2 : Obj) : ((w.alloc o1).alloc o2).heap[w.heap.size]? = some o1 ∧ ((w.alloc o1).alloc o2).heap[w.heap.size + 1]? = some o2 := by
  constructor
  · show ((w.heap.push o1).push o2)[w.heap.size]? = some o1
    rw [Array.getElem?_push_lt (by simp)]
    simp
  · show ((w.heap.push o1).push o2)[w.heap.size + 1]? = some o2
    have := Array.getElem?_push_size (xs := w.heap.push o1) (x := o2)
    simpa using this
theorem nofar3 {s : Bool} {A B : Option Addr} {n c m d : Nat} : ∀ (i : Nat) (x : Int), (#[.bool s, .slice A n c, .slice B m d] : Array Value)[i]? ≠ some (Value.int .u64 x) := by
  intro i x e
  match i, e with
  | 0, e => simp at e
  | 1, e => simp at e
  | 2, e => simp at e
  | j + 3, e => simp at e
theorem nofar2 {s : Bool} {A : Option Addr} {n c : Nat} : ∀ (i : Nat) (x : Int), (#[.bool s, .slice A n c] : Array Value)[i]? ≠ some (Value.int .u64 x) := by
  intro i x e
  match i, e with
  | 0, e => simp at e
  | 1, e => simp at e
  | j + 2, e => simp at e
theorem W1.setC {w : World} {v : Value} {N p i : Nat} {C : Array Value} {t : TypeId} {x : Value} (h : W1 w v N) (hp : w.heap[p]? = some (.cells C t (0, 0))) (hC : ∀ (i : Nat) (n : Int), C[i]? ≠ some (Value.int .u64 n)) : W1 (w.setCell ⟨p, i, none⟩ x) v N := by
  by_cases h0 : N = 0
  · subst h0; obtain ⟨A, c, rfl⟩ := h.zero; exact W1.mk0 _ _ _
  · exact h.set (h.far (by omega) hp hC)
/-- What the three stores of a fraction into its box leave. -/
theorem box3 {w : World} {p : Nat} {t : TypeId} {A1 A2 A3 A4 : Option Addr} {n1 c1 n2 c2 n3 c3 n4 c4 : Nat} {s s' : Bool} (h : w.heap[p]? = some (.cells #[.bool s, .slice A1 n1 c1, .slice A2 n2 c2] t (0, 0))) :
    (((w.setCell ⟨p, 0, none⟩ (.bool s')).setCell ⟨p, 1, none⟩ (.slice A3 n3 c3)).setCell ⟨p, 2, none⟩ (.slice A4 n4 c4)).heap[p]? = some (.cells #[.bool s', .slice A3 n3 c3, .slice A4 n4 c4] t (0, 0)) ∧
    ∀ v N, W1 w v N → W1 (((w.setCell ⟨p, 0, none⟩ (.bool s')).setCell ⟨p, 1, none⟩ (.slice A3 n3 c3)).setCell ⟨p, 2, none⟩ (.slice A4 n4 c4)) v N := by
  have h1 := Go.Joins.block_setCell (i := 0) h (.bool s')
  have h2 := Go.Joins.block_setCell (i := 1) h1 (.slice A3 n3 c3)
  have h3 := Go.Joins.block_setCell (i := 2) h2 (.slice A4 n4 c4)
  refine ⟨h3, fun v N hv => ?_⟩
  exact ((hv.setC h nofar3).setC h1 nofar3).setC h2 nofar3
set_option maxHeartbeats 2000000 in
theorem naLowest_any (v u : Value) (N D : Nat) (w : World) (h : I1 w v N) (k : W1 w u D) (hD : 0 < D) :
    Calls Tryz.prog 125 #[v, u] w (fun e w' => ∃ f, e = .returned f ∧ F1 w' f (N / Nat.gcd D N) (D / Nat.gcd D N) ∧ Below w.heap.size w w') := by
  obtain ⟨a, rfl, ha⟩ := h
  have hG := fun w1 (hb : Below w.heap.size w w1) => naDivisor_any a u N D w1 (ha.below hb) (k.below hb)
  have hO := fun v w1 (hz : W1 w1 v (Nat.gcd D N)) => naIsOne_any v _ w1 hz
  have g0 : 0 < Nat.gcd D N := Nat.gcd_pos_of_pos_left _ hD
  have hV := fun v w1 (hz : W1 w1 v (Nat.gcd D N)) (hb : Below w.heap.size w w1) => naDivide_any a v N _ w1 (ha.below hb) hz g0
  have hU := fun v w1 (hz : W1 w1 v (Nat.gcd D N)) (hb : Below w.heap.size w w1) => naDivide_any u v D _ w1 (k.below hb) hz g0
  have HA := Lib.hid ha
  have HK := Lib.hid k
  generalize Nat.gcd D N = G at *
  obtain ⟨A, n, c, rfl, _⟩ := ha.slice
  obtain ⟨Au, nu, cu, rfl, _⟩ := k.slice
  have hn := news2 w (.cells #[.bool false, .slice A n c] 179) (.cells #[.bool false, .slice none 0 0, .slice none 0 0] 183)
  have hb0 : Below w.heap.size w ((w.alloc (.cells #[.bool false, .slice A n c] 179)).alloc (.cells #[.bool false, .slice none 0 0, .slice none 0 0] 183)) := (balloc _ (Below.refl _ _)).alloc (by simp) _
  have HN := Lib.hid hn
  have HB0 := Lib.hid hb0
  clear ha k hn hb0
  by_cases h1 : G = 1
  · have e1 : decide (G = 1) = true := decide_eq_true h1
    rw [e1] at hO
    go_enter Tryz.func125, Tryz.ntmps125
    go_wp2_with fail
    refine (hG _ HB0.out).mono ?_
    rintro e w1 ⟨v1, rfl, hv1, b1⟩
    have bw1 := bstep HB0.out b1
    have k1 := (b1.block _ (Array.getElem?_eq_some_iff.1 HN.out.1).1).trans HN.out.1
    have k2 := (b1.block _ (Array.getElem?_eq_some_iff.1 HN.out.2).1).trans HN.out.2
    have HV1 := Lib.hid hv1
    have K2 := Lib.hid k2
    have c0 := Go.Joins.cell_of_block k1 0
    have c1 := Go.Joins.cell_of_block k1 1
    have d0 := Go.Joins.cell_of_block k2 0
    have d1 := Go.Joins.cell_of_block k2 1
    have d2 := Go.Joins.cell_of_block k2 2
    have f0 := Go.Joins.unfrozen_of_block k2 0
    have f1 := Go.Joins.unfrozen_of_block k2 1
    have f2 := Go.Joins.unfrozen_of_block k2 2
    clear hv1 k1 k2
    go_wp2_with fail
    refine (hO _ _ HV1.out).mono ?_
    rintro e w2 ⟨rfl, rfl⟩
    go_wp2
    subst h1
    rw [Nat.div_one, Nat.div_one]
    obtain ⟨r1, r2⟩ := box3 (s' := false) (A3 := A) (n3 := n) (c3 := c) (A4 := Au) (n4 := nu) (c4 := cu) K2.out
    have x0 := Go.Joins.cell_of_block r1 0
    have x1 := Go.Joins.cell_of_block r1 1
    have x2 := Go.Joins.cell_of_block r1 2
    exact bodyPost_ret (v := .agg #[.bool false, .slice A n c, .slice Au nu cu]) (by simp [results, Tryz.results125, go_sem, x0, x1, x2]) rfl
      ⟨_, rfl, ⟨_, _, rfl, r2 _ _ (HA.out.below bw1), r2 _ _ (HK.out.below bw1)⟩, ((bw1.setCell (by simp) _).setCell (by simp) _).setCell (by simp) _⟩
  · have e1 : decide (G = 1) = false := decide_eq_false h1
    rw [e1] at hO
    go_enter Tryz.func125, Tryz.ntmps125
    go_wp2_with fail
    refine (hG _ HB0.out).mono ?_
    rintro e w1 ⟨v1, rfl, hv1, b1⟩
    have bw1 := bstep HB0.out b1
    have k1 := (b1.block _ (Array.getElem?_eq_some_iff.1 HN.out.1).1).trans HN.out.1
    have k2 := (b1.block _ (Array.getElem?_eq_some_iff.1 HN.out.2).1).trans HN.out.2
    have HV1 := Lib.hid hv1
    have K1 := Lib.hid k1
    have K2 := Lib.hid k2
    have c1 := Go.Joins.cell_of_block k1 1
    clear hv1 k1 k2
    go_wp2_with fail
    refine (hO _ _ HV1.out).mono ?_
    rintro e w2 ⟨rfl, rfl⟩
    go_wp2_with fail
    refine (hV _ _ HV1.out bw1).mono ?_
    rintro e w2 ⟨q, r, rfl, hq, hr, b2⟩
    obtain ⟨Aq, nq, cq, rfl, _⟩ := hq.slice
    have bw2 := bstep bw1 b2
    have m1 := (b2.block _ (Array.getElem?_eq_some_iff.1 K1.out).1).trans K1.out
    have m2 := (b2.block _ (Array.getElem?_eq_some_iff.1 K2.out).1).trans K2.out
    have hv2 := HV1.out.below b2
    have c1' := Go.Joins.cell_of_block m1 1
    have f1' := Go.Joins.unfrozen_of_block m1 1
    have n1 := Go.Joins.block_setCell (i := 1) m1 (.slice Aq nq cq)
    have n2 : (w2.setCell ⟨w.heap.size, 1, none⟩ (.slice Aq nq cq)).heap[w.heap.size + 1]? = _ := (Below.heap_setCell w2 ⟨w.heap.size, 1, none⟩ _ (w.heap.size + 1) (by simp)).trans m2
    have hv3 := Lib.hid (hv2.setC (i := 1) (x := .slice Aq nq cq) m1 nofar2)
    have hq3 := Lib.hid (hq.setC (i := 1) (x := .slice Aq nq cq) m1 nofar2)
    have bw3 := Lib.hid (bw2.setCell (p := ⟨w.heap.size, 1, none⟩) (Nat.le_refl _) (.slice Aq nq cq))
    have N1 := Lib.hid n1
    have N2 := Lib.hid n2
    clear hq hr m1 m2 hv2 c1 n1 n2
    go_wp2_with fail
    refine (hU _ _ hv3.out bw3.out).mono ?_
    rintro e w3 ⟨q2, r2, rfl, hq2, hr2, b3⟩
    obtain ⟨Ad, nd, cd, rfl, _⟩ := hq2.slice
    have bw4 := bstep bw3.out b3
    have m1 := (b3.block _ (Array.getElem?_eq_some_iff.1 N1.out).1).trans N1.out
    have m2 := (b3.block _ (Array.getElem?_eq_some_iff.1 N2.out).1).trans N2.out
    have HQ := Lib.hid (hq3.out.below b3)
    have HD := Lib.hid hq2
    have c0 : w3.cell? ⟨w.heap.size, 0, none⟩ = some (.bool false) := Go.Joins.cell_of_block m1 0
    have c1 : w3.cell? ⟨w.heap.size, 1, none⟩ = some (.slice Aq nq cq) := Go.Joins.cell_of_block m1 1
    have d0 := Go.Joins.cell_of_block m2 0
    have d1 := Go.Joins.cell_of_block m2 1
    have d2 := Go.Joins.cell_of_block m2 2
    have f0 := Go.Joins.unfrozen_of_block m2 0
    have f1 := Go.Joins.unfrozen_of_block m2 1
    have f2 := Go.Joins.unfrozen_of_block m2 2
    have KK := Lib.hid m2
    clear m1 m2 hq2 hr2 c1' f1' hv3 hq3 bw3 N1 N2
    go_wp2
    obtain ⟨r1, r3⟩ := box3 (s' := false) (A3 := Aq) (n3 := nq) (c3 := cq) (A4 := Ad) (n4 := nd) (c4 := cd) KK.out
    have x0 := Go.Joins.cell_of_block r1 0
    have x1 := Go.Joins.cell_of_block r1 1
    have x2 := Go.Joins.cell_of_block r1 2
    exact bodyPost_ret (v := .agg #[.bool false, .slice Aq nq cq, .slice Ad nd cd]) (by simp [results, Tryz.results125, go_sem, x0, x1, x2]) rfl
      ⟨_, rfl, ⟨_, _, rfl, r3 _ _ HQ.out, r3 _ _ HD.out⟩, ((bw4.setCell (by simp) _).setCell (by simp) _).setCell (by simp) _⟩
end Go.Mk
