/-
  Proved: naturals of one word: division by another one. Conditions: the numbers are words that lie where the values say; the divisor is not 0.
  Proved: the greatest common divisor of naturals of one word. Conditions: the numbers are words that lie where the values say.
-/
import Derived.Test.YtickjnahdeikfaaGreatDoorNc
section
set_option linter.unusedVariables false
set_option linter.unusedSimpArgs false
open Go Go.Proofs Go.RowKit
set_option maxRecDepth 100000
namespace Go.Mk
set_option maxHeartbeats 2000000 in
theorem naDivide_any (v u : Value) (N M : Nat) (w : World) (h : W1 w v N) (g : W1 w u M) (hM : 0 < M) :
    Calls Tryz.prog 141 #[v, u] w (fun e w' => ∃ q r, e = .returned (.tuple #[q, r]) ∧ W1 w' q (N / M) ∧ W1 w' r (N % M) ∧ Below w.heap.size w w') := by
  have hC := naCompare_any v u N M w h g
  by_cases hlt : N < M
  · have hy : cmpN N M = -1 := if_pos hlt
    rw [hy] at hC
    rw [Nat.div_eq_of_lt hlt, Nat.mod_eq_of_lt hlt]
    have H := Lib.hid h
    clear h g hM hlt hy
    go_enter Tryz.func141, Tryz.ntmps141
    go_wp2_with fail
    refine hC.mono ?_
    rintro e w1 ⟨rfl, b1⟩
    go_wp2
    go_ret2
    exact ⟨_, _, rfl, W1.mk0 _ _ _, H.out.below b1, b1⟩
  · have hy : cmpN N M = 0 ∨ cmpN N M = 1 := by unfold cmpN; rw [if_neg hlt]; split <;> simp
    have hN : 0 < N := by omega
    have hD := fun w1 (hb : Below w.heap.size w w1) => naDivW_any v N M w1 (h.below hb) hN hM g.1
    have hF := fun w1 => naFromWord_any (N % M) (Nat.lt_trans (Nat.mod_lt _ hM) g.1) w1
    obtain ⟨hM1, b, off, c, rfl, hb, hc⟩ := g.pos hM
    generalize N / M = Q at *
    generalize N % M = R at *
    have HCell : Hid (w.cell? ⟨b, off, none⟩ = some (.int .u64 (M : Int))) := Lib.hid hc
    have H := Lib.hid h
    obtain ⟨A, c', hv⟩ : ∃ A c', v = .slice A 1 c' := by
      obtain ⟨_, A, c', e, _⟩ := h
      exact ⟨A, c', by rw [e, show wL N = [N] from if_neg (by omega)]; rfl⟩
    subst hv
    generalize cmpN N M = y at *
    have hy0 : ¬ y < 0 := by rcases hy with e | e <;> omega
    clear h g hM hlt hy hc hN
    go_enter Tryz.func141, Tryz.ntmps141
    go_wp2_with fail
    refine hC.mono ?_
    rintro e w1 ⟨rfl, b1⟩
    have q1 : w1.cell? ⟨b, off, none⟩ = some (.int .u64 (M : Int)) := (b1.cell (p := ⟨b, off, none⟩) hb).trans HCell.out
    have q2 : w1.cell? ⟨b, off + 0, none⟩ = some (.int .u64 (M : Int)) := q1
    go_wp2_with fail
    refine (hD _ b1).mono ?_
    rintro e w2 ⟨q, rfl, hq, b2⟩
    have HQ := Lib.hid hq
    clear hq q1 q2
    go_wp2_with fail
    refine (hF _).mono ?_
    rintro e w3 ⟨r, rfl, hr, b3⟩
    have HR := Lib.hid hr
    clear hr
    go_wp2
    go_ret2
    exact ⟨_, _, rfl, HQ.out.below b3, HR.out, bstep (bstep b1 b2) b3⟩
set_option maxHeartbeats 1000000 in
theorem naSigned_any (s : Bool) (A : Option Addr) (n c : Nat) (w : World) (hn : n ≤ 1000000) :
    Calls Tryz.prog 126 #[.bool s, .slice A n c] w (fun e w' => e = .returned (.agg #[.bool (s && decide (0 < n)), .slice A n c]) ∧ Below w.heap.size w w') := by
  have hni : (n : Int) ≤ 1000000 := by omega
  cases s
  · have e0 : (false && decide (0 < n)) = false := rfl
    rw [e0]
    go_enter Tryz.func126, Tryz.ntmps126
    go_wp2
    exact bodyPost_ret (v := .agg #[.bool false, .slice A n c]) (by simp [results, Tryz.results126, go_sem]) rfl ⟨rfl, balloc _ (Below.refl _ _)⟩
  · by_cases h0 : 0 < n
    · have h1 : (0 : Int) < (n : Int) := by omega
      have e0 : (true && decide (0 < n)) = true := by rw [decide_eq_true h0]; rfl
      rw [e0]
      go_enter Tryz.func126, Tryz.ntmps126
      go_wp2
      exact bodyPost_ret (v := .agg #[.bool true, .slice A n c]) (by simp [results, Tryz.results126, go_sem]) rfl ⟨rfl, balloc _ (Below.refl _ _)⟩
    · obtain rfl : n = 0 := by omega
      go_enter Tryz.func126, Tryz.ntmps126
      go_wp2
      exact bodyPost_ret (v := .agg #[.bool false, .slice A 0 c]) (by simp [results, Tryz.results126, go_sem]) rfl ⟨rfl, balloc _ (Below.refl _ _)⟩
/-- A whole number that is not negative lies in this value. -/
def I1 (w : World) (v : Value) (N : Nat) : Prop := ∃ u, v = .agg #[.bool false, u] ∧ W1 w u N
theorem I1.below {w w' : World} {v : Value} {N : Nat} (h : I1 w v N) (hb : Below w.heap.size w w') : I1 w' v N := by
  obtain ⟨u, e, hu⟩ := h
  exact ⟨u, e, hu.below hb⟩
theorem W1.slice {w : World} {v : Value} {N : Nat} (h : W1 w v N) : ∃ A n c, v = .slice A n c ∧ n ≤ 1 := by
  obtain ⟨_, A, c, e, _⟩ := h
  exact ⟨A, _, c, e, by unfold wL; split <;> simp⟩
theorem naSignedP_any (v : Value) (N : Nat) (w : World) (h : W1 w v N) : Calls Tryz.prog 126 #[.bool false, v] w (fun e w' => ∃ u, e = .returned u ∧ I1 w' u N ∧ Below w.heap.size w w') := by
  obtain ⟨A, n, c, rfl, hn⟩ := h.slice
  refine (naSigned_any false A n c w (by omega)).mono ?_
  rintro e w' ⟨rfl, hb⟩
  exact ⟨_, rfl, ⟨_, rfl, h.below hb⟩, hb⟩
/-- A new box of two cells, later: what stores into it and reads of it answer. -/
theorem box2 {w w2 : World} {x y : Value} {t : TypeId} (hb : Below (w.alloc (.cells #[x, y] t)).heap.size (w.alloc (.cells #[x, y] t)) w2) (x' y' : Value) :
    w2.heap[w.heap.size]? = some (.cells #[x, y] t (0, 0)) ∧ w2.cell? ⟨w.heap.size, 0, none⟩ = some x ∧ w2.frozen? ⟨w.heap.size, 0, none⟩ = false ∧
    (w2.setCell ⟨w.heap.size, 0, none⟩ x').cell? ⟨w.heap.size, 1, none⟩ = some y ∧ (w2.setCell ⟨w.heap.size, 0, none⟩ x').frozen? ⟨w.heap.size, 1, none⟩ = false ∧
    ((w2.setCell ⟨w.heap.size, 0, none⟩ x').setCell ⟨w.heap.size, 1, none⟩ y').cell? ⟨w.heap.size, 0, none⟩ = some x' ∧
    ((w2.setCell ⟨w.heap.size, 0, none⟩ x').setCell ⟨w.heap.size, 1, none⟩ y').cell? ⟨w.heap.size, 1, none⟩ = some y' := by
  have h0 : (w.alloc (.cells #[x, y] t)).heap[w.heap.size]? = some (.cells #[x, y] t (0, 0)) := Array.getElem?_push_size
  have h1 : w2.heap[w.heap.size]? = some (.cells #[x, y] t (0, 0)) := (hb.block _ (Array.getElem?_eq_some_iff.1 h0).1).trans h0
  have h2 := Go.Joins.block_setCell (i := 0) h1 x'
  have h3 := Go.Joins.block_setCell (i := 1) h2 y'
  exact ⟨h1, Go.Joins.cell_of_block h1 0, Go.Joins.unfrozen_of_block h1 0, Go.Joins.cell_of_block h2 1, Go.Joins.unfrozen_of_block h2 1, Go.Joins.cell_of_block h3 0, Go.Joins.cell_of_block h3 1⟩
theorem box2_below {w w2 : World} {x y : Value} {t : TypeId} (hb : Below (w.alloc (.cells #[x, y] t)).heap.size (w.alloc (.cells #[x, y] t)) w2) (x' y' : Value) :
    Below w.heap.size w ((w2.setCell ⟨w.heap.size, 0, none⟩ x').setCell ⟨w.heap.size, 1, none⟩ y') :=
  (((balloc _ (Below.refl _ _)).trans (hb.mono (by simp))).setCell (Nat.le_refl _) _).setCell (Nat.le_refl _) _
theorem W1.set {w : World} {v : Value} {N p : Nat} {i : Nat} {x : Value} (h : W1 w v N) (hp : ∀ g off c, v = .slice (some ⟨g, off, none⟩) 1 c → g ≠ p) : W1 (w.setCell ⟨p, i, none⟩ x) v N := by
  by_cases h0 : N = 0
  · subst h0; obtain ⟨A, c, rfl⟩ := h.zero; exact W1.mk0 _ _ _
  · obtain ⟨hN, g, off, c, rfl, hg, hc⟩ := h.pos (by omega)
    exact W1.mk1 (by omega) hN (by simpa using hg) ((World.cell?_setCell_other w _ _ _ (by intro e; exact hp g off c rfl (congrArg Addr.block e).symm)).trans hc)
/-- Words do not lie in a box without words. -/
theorem W1.far {w : World} {v : Value} {N p : Nat} {C : Array Value} {t : TypeId} (h : W1 w v N) (hN : 0 < N) (hp : w.heap[p]? = some (.cells C t (0, 0))) (hC : ∀ (i : Nat) (n : Int), C[i]? ≠ some (Value.int .u64 n)) : ∀ g off c, v = .slice (some ⟨g, off, none⟩) 1 c → g ≠ p := by
  rintro g off c rfl rfl
  obtain ⟨_, g', off', c', e, _, hc⟩ := h.pos hN
  injection e with e1
  injection e1 with e1
  injection e1 with e1 e2
  subst e1 e2
  rw [Go.Joins.cell_of_block hp] at hc
  exact hC _ _ hc
theorem W1.box2 {w : World} {v : Value} {N p i : Nat} {s : Bool} {A : Option Addr} {n c : Nat} {t : TypeId} {x : Value} (h : W1 w v N) (hp : w.heap[p]? = some (.cells #[.bool s, .slice A n c] t (0, 0))) : W1 (w.setCell ⟨p, i, none⟩ x) v N := by
  by_cases h0 : N = 0
  · subst h0; obtain ⟨A, c, rfl⟩ := h.zero; exact W1.mk0 _ _ _
  · refine h.set (h.far (by omega) hp ?_)
    intro j m e
    match j, e with
    | 0, e => simp at e
    | 1, e => simp at e
    | j + 2, e => simp at e
theorem W1.box2s {w : World} {v : Value} {N p : Nat} {s s' : Bool} {A : Option Addr} {n c : Nat} {t : TypeId} {y : Value} (h : W1 w v N) (hp : w.heap[p]? = some (.cells #[.bool s, .slice A n c] t (0, 0))) : W1 ((w.setCell ⟨p, 0, none⟩ (.bool s')).setCell ⟨p, 1, none⟩ y) v N :=
  W1.box2 (h.box2 hp) (Go.Joins.block_setCell (i := 0) hp (.bool s'))
set_option maxHeartbeats 1000000 in
theorem naFromInt_any (N : Nat) (w : World) (hN : N < 9223372036854775808) : Calls Tryz.prog 123 #[.int .i64 (N : Int)] w (fun e w' => ∃ u, e = .returned u ∧ I1 w' u N ∧ Below w.heap.size w w') := by
  have hF := fun w => naFromWord_any N (by omega) w
  have hS := fun v w (h : W1 w v N) => naSignedP_any v N w h
  have h0 : ¬ (N : Int) < 0 := by omega
  have hu : IntKind.u64.wrap (N : Int) = (N : Int) := wrapU N (by omega)
  go_enter Tryz.func123, Tryz.ntmps123
  go_wp2_with fail
  refine (hF _).mono ?_
  rintro e w1 ⟨v1, rfl, h1, b1⟩
  have H1 := Lib.hid h1
  clear h1
  go_wp2_with fail
  refine (hS _ _ H1.out).mono ?_
  rintro e w2 ⟨u, rfl, ⟨u', rfl, h2⟩, b2⟩
  have H2 := Lib.hid h2
  obtain ⟨k1, k2, k3, k4, k5, k6, k7⟩ := box2 (b1.trans (b2.mono b1.size)) (.bool false) u'
  have hbz := Lib.hid (box2_below (b1.trans (b2.mono b1.size)) (.bool false) u')
  have k8 := Go.Joins.cell_of_block k1 1
  have k9 := Go.Joins.unfrozen_of_block k1 1
  have k10 : ∃ A n c, u' = .slice A n c := by obtain ⟨A, n, c, e, _⟩ := h2.slice; exact ⟨A, n, c, e⟩
  have K6 := Lib.hid k6
  have K7 := Lib.hid k7
  have hw := Lib.hid (W1.box2s (s' := false) (y := u') h2 k1)
  clear h2 k6 k7 k1
  obtain ⟨A, n, c, rfl⟩ := k10
  go_wp2
  have k6 := K6.out
  have k7 := K7.out
  exact bodyPost_ret (v := .agg #[.bool false, .slice A n c]) (by simp [results, Tryz.results123, go_sem, k6, k7]) rfl ⟨_, rfl, ⟨_, rfl, hw.out⟩, hbz.out⟩
end Go.Mk
end
section
set_option linter.unusedVariables false
set_option linter.unusedSimpArgs false
open Go Go.Proofs Go.RowKit
set_option maxRecDepth 100000
namespace Go.Mk
theorem W1.len {w : World} {v : Value} {N : Nat} (h : W1 w v N) : ∃ A c, v = .slice A (if N = 0 then 0 else 1) c := by
  obtain ⟨_, A, c, e, _⟩ := h
  exact ⟨A, c, by rw [e]; unfold wL; split <;> rfl⟩
set_option maxHeartbeats 2000000 in
theorem naDivisor_any (v u : Value) (N M : Nat) (w : World) (h : W1 w v N) (k : W1 w u M) : Calls Tryz.prog 140 #[v, u] w (NatPost (Nat.gcd M N) w) := by
  obtain ⟨g, hg⟩ : ∃ g, Nat.gcd M N = g := ⟨_, rfl⟩
  rw [hg]
  have HG := Lib.hid hg
  have HN := Lib.hid h
  have HM := Lib.hid k
  obtain ⟨A1, n1, c1, rfl, l1⟩ := h.slice
  obtain ⟨A2, n2, c2, rfl, l2⟩ := k.slice
  clear hg h k
  go_enter Tryz.func140, Tryz.ntmps140
  go_wp2
  go_loopw [0, 1] (fun a b wr => ∃ p q : Nat, W1 wr a p ∧ W1 wr b q ∧ Hid (Nat.gcd q p = g) ∧ Below w.heap.size w wr) (fun _ b _ => match b with | .slice _ k _ => k | _ => 0)
  case atStart => exact ⟨N, M, HN.out, HM.out, HG, Below.refl _ _⟩
  case round =>
    obtain ⟨p, q, hp, hq, HK, hb⟩ := hrel
    by_cases hq0 : q = 0
    · subst hq0
      obtain ⟨A, c, rfl⟩ := hq.zero
      have e1 := HK.out
      rw [Nat.gcd_zero_left] at e1
      subst e1
      have HP := Lib.hid hp
      clear hp hq HG HN HM
      go_wp2
      go_ret
      exact ⟨_, rfl, HP.out, hb⟩
    · by_cases hp0 : p = 0
      · subst hp0
        have hD := naDivide_any _ _ 0 q wr hp hq (by omega)
        rw [Nat.zero_div, Nat.zero_mod] at hD
        have e1 := HK.out
        rw [Nat.gcd_zero_right] at e1
        subst e1
        have HQ := Lib.hid hq
        obtain ⟨A, c, rfl⟩ := hp.zero
        obtain ⟨A', c', rfl⟩ := hq.len
        rw [if_neg hq0] at *
        clear hp HG HN HM
        go_wp2_with fail
        refine hD.mono ?_
        rintro e w1 ⟨q', r', rfl, hq', hr', b1⟩
        have HR := Lib.hid hr'
        obtain ⟨A3, c3, rfl⟩ := hr'.zero
        clear hq' hr' hq
        go_wp2
        exact ⟨⟨q, 0, HQ.out.below b1, HR.out, Lib.hid (Nat.gcd_zero_left _), bstep hb b1⟩, by show 0 < 1; omega⟩
      · obtain ⟨hp1, b1, o1, d1, rfl, f1, x1⟩ := hp.pos (by omega)
        obtain ⟨hq1, b2, o2, d2, rfl, f2, x2⟩ := hq.pos (by omega)
        have hW := fun w => naWordDiv_any p q hp1 hq1 w
        have hF := fun w => naFromWord_any (Nat.gcd q p) (Nat.lt_of_le_of_lt (Nat.gcd_le_right _ (by omega)) hp1) w
        have hgg : Nat.gcd q p = g := HK.out
        rw [hgg] at hW hF
        have HX := Lib.hid (fun w' (hh : Below wr.heap.size wr w') => (show w'.cell? ⟨b1, o1, none⟩ = some (.int .u64 (p : Int)) ∧ w'.cell? ⟨b2, o2, none⟩ = some (.int .u64 (q : Int)) from ⟨(hh.cell (p := ⟨b1, o1, none⟩) f1).trans x1, (hh.cell (p := ⟨b2, o2, none⟩) f2).trans x2⟩))
        clear hp hq HG HN HM x1 x2 hgg HK
        go_wp2_with fail
        go_region_held3 (fun w' => w'.cell? ⟨b1, o1, none⟩ = some (.int .u64 (p : Int)) ∧ w'.cell? ⟨b2, o2, none⟩ = some (.int .u64 (q : Int)) ∧ Below wr.heap.size wr w') ((go_split_ands; (first | (refine ⟨(HX.out _ (Below.drew (Below.refl _ _))).1, (HX.out _ (Below.drew (Below.refl _ _))).2, Below.drew (Below.refl _ _)⟩) | (refine ⟨by assumption, by assumption, by assumption⟩) | (have hbn := bstep (by assumption) (by assumption); exact ⟨(HX.out _ hbn).1, (HX.out _ hbn).2, hbn⟩)))) ((first | (go_at_call 151; (with_reducible refine (hW _).mono ?_); rintro e w' ⟨rfl, hbw⟩) | (go_at_call 137; (with_reducible refine (hF _).mono ?_); rintro e w' ⟨vz, rfl, hz, hbz⟩)))
        all_goals
          rename_i hz _ hH
          have HZ := Lib.hid hz
          have hb3 := bstep hb hH.2.2
          clear hH hz
          go_wp2
          go_ret
          exact ⟨_, rfl, HZ.out, hb3⟩
end Go.Mk
end
