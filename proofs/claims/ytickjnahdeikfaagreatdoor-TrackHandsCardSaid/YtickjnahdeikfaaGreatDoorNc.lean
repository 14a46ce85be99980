/-
  Proved: naturals of one word: their comparison and division. Conditions: the numbers are words that lie where the values say.
  Proved: naturals of one word: division by a word and by another natural. Conditions: the numbers are words that lie where the values say; the divisor is not 0.
-/
import Derived.Test.YtickjnahdeikfaaGreatDoorNa
import Derived.Deep.RegionHeld3
import Derived.Laws.MakeOwn
section
set_option linter.unusedVariables false
set_option linter.unusedSimpArgs false
open Go Go.Proofs Go.RowKit
set_option maxRecDepth 100000
namespace Go.Mk
set_option maxHeartbeats 2000000 in
theorem naCompare_any (v u : Value) (N M : Nat) (w : World) (h : W1 w v N) (g : W1 w u M) : Calls Tryz.prog 152 #[v, u] w (RetPost (.int .i64 (cmpN N M)) w) := by
  by_cases h0 : N = 0
  · subst h0
    obtain ⟨A, c, rfl⟩ := h.zero
    by_cases g0 : M = 0
    · subst g0
      obtain ⟨A', c', rfl⟩ := g.zero
      have hy : cmpN 0 0 = 0 := rfl
      rw [hy]
      clear hy h g
      go_enter Tryz.func152, Tryz.ntmps152
      go_wp2
      go_loop [5] (fun i => i = .int .i64 (-1)) (fun _ => 0)
      case atStart => rfl
      case round =>
        subst hrel
        go_wp2
        go_ret
        exact ⟨rfl, Below.refl _ _⟩
    · obtain ⟨hM, b, off, c', rfl, hb, hc⟩ := g.pos (by omega)
      have hy : cmpN 0 M = -1 := if_pos (by omega)
      rw [hy]
      have hC := fun w => naCmpI_any 0 1 w
      have e1 : cmpN 0 1 = -1 := rfl
      rw [e1] at hC
      clear hy h g e1
      go_enter Tryz.func152, Tryz.ntmps152
      go_wp2_with fail
      refine (hC _).mono ?_
      rintro e w1 ⟨rfl, b1⟩
      go_wp2
      go_ret
      exact ⟨rfl, b1⟩
  · obtain ⟨hN, b, off, c, rfl, hb, hc⟩ := h.pos (by omega)
    by_cases g0 : M = 0
    · subst g0
      obtain ⟨A', c', rfl⟩ := g.zero
      have hy : cmpN N 0 = 1 := by unfold cmpN; rw [if_neg (by omega), if_pos (by omega)]
      rw [hy]
      have hC := fun w => naCmpI_any 1 0 w
      have e1 : cmpN 1 0 = 1 := rfl
      rw [e1] at hC
      clear hy h g e1
      go_enter Tryz.func152, Tryz.ntmps152
      go_wp2_with fail
      refine (hC _).mono ?_
      rintro e w1 ⟨rfl, b1⟩
      go_wp2
      go_ret
      exact ⟨rfl, b1⟩
    · obtain ⟨hM, b', off', c', rfl, hb', hc'⟩ := g.pos (by omega)
      have hc0 : w.cell? ⟨b, off + 0, none⟩ = some (.int .u64 (N : Int)) := hc
      have hc0' : w.cell? ⟨b', off' + 0, none⟩ = some (.int .u64 (M : Int)) := hc'
      by_cases he : N = M
      · subst he
        have hy : cmpN N N = 0 := by unfold cmpN; rw [if_neg (by omega), if_neg (by omega)]
        rw [hy]
        have H1 := Lib.hid hc0
        have H2 := Lib.hid hc0'
        clear hy h g hc hc' hc0 hc0'
        go_enter Tryz.func152, Tryz.ntmps152
        go_wp2
        go_loopw [5] (fun i wr => (i = .int .i64 0 ∨ i = .int .i64 (-1)) ∧ Below w.heap.size w wr) (fun i _ => (intOf i + 1).toNat)
        case atStart => exact ⟨.inl rfl, Below.refl _ _⟩
        case round =>
          obtain ⟨hi, hbe⟩ := hrel
          rcases hi with rfl | rfl
          · have q1 := (hbe.cell (p := ⟨b, _, none⟩) hb).trans H1.out
            have q2 := (hbe.cell (p := ⟨b', _, none⟩) hb').trans H2.out
            have q3 : wr.cell? ⟨b, off, none⟩ = _ := q1
            have q4 : wr.cell? ⟨b', off', none⟩ = _ := q2
            clear H1 H2
            go_wp2_with fail
            go_quiet (fail)
            go_wp2
            exact ⟨⟨.inr rfl, below_drewN hbe _⟩, by simp [intOf]⟩
          · go_wp2
            go_ret
            exact ⟨rfl, hbe⟩
      · have hne : ((N : Int) != (M : Int)) = true := by rw [bne_iff_ne]; omega
        have hC := fun w => naCmpU_any N M w
        have H1 := Lib.hid hc0
        have H2 := Lib.hid hc0'
        obtain ⟨y, hy⟩ : ∃ y, cmpN N M = y := ⟨_, rfl⟩
        rw [hy] at hC ⊢
        clear hy h g hc hc' hc0 hc0'
        go_enter Tryz.func152, Tryz.ntmps152
        go_wp2
        go_loopw [5] (fun i wr => i = .int .i64 0 ∧ Below w.heap.size w wr) (fun i _ => 0)
        case atStart => exact ⟨rfl, Below.refl _ _⟩
        case round =>
          obtain ⟨rfl, hbe⟩ := hrel
          have q1 : wr.cell? ⟨b, off + 0, none⟩ = some (.int .u64 (N : Int)) := (hbe.cell (p := ⟨b, _, none⟩) hb).trans H1.out
          have q2 := (hbe.cell (p := ⟨b', _, none⟩) hb').trans H2.out
          have q3 : wr.cell? ⟨b, off, none⟩ = _ := q1
          have q4 : wr.cell? ⟨b', off', none⟩ = _ := q2
          clear H1 H2
          go_wp2_with fail
          go_quiet (fail)
          go_wp2_with fail
          have q5 : ∀ w', Below wr.heap.size wr w' → w'.cell? ⟨b, off, none⟩ = some (.int .u64 (N : Int)) ∧ w'.cell? ⟨b', off', none⟩ = some (.int .u64 (M : Int)) := fun w' hh => ⟨(hh.cell (p := ⟨b, off, none⟩) (Nat.lt_of_lt_of_le hb hbe.size)).trans q3, (hh.cell (p := ⟨b', off', none⟩) (Nat.lt_of_lt_of_le hb' hbe.size)).trans q4⟩
          have Q5 := Lib.hid q5
          clear q1 q2 q5
          go_region_held3 (fun w' => w'.cell? ⟨b, off, none⟩ = some (.int .u64 (N : Int)) ∧ w'.cell? ⟨b', off', none⟩ = some (.int .u64 (M : Int)) ∧ Below wr.heap.size wr w') ((go_split_ands; (first | (refine ⟨(Q5.out _ (Below.drew (below_drewN (Below.refl _ _) _))).1, (Q5.out _ (Below.drew (below_drewN (Below.refl _ _) _))).2, Below.drew (below_drewN (Below.refl _ _) _)⟩) | (refine ⟨by assumption, by assumption, by assumption⟩) | (have hbn := bstep (by assumption) (by assumption); exact ⟨(Q5.out _ hbn).1, (Q5.out _ hbn).2, hbn⟩)))) ((refine (hC _).mono ?_; rintro e w1 ⟨rfl, b1⟩))
          all_goals
            rename_i hH
            have hb3 := bstep hbe hH.2.2
            clear hH
            go_wp2
            go_ret
            exact ⟨rfl, hb3⟩
end Go.Mk
end
section
set_option linter.unusedVariables false
set_option linter.unusedSimpArgs false
open Go Go.Proofs Go.RowKit
set_option maxRecDepth 100000
namespace Go.Mk
theorem infoU64 : (Tryz.prog.info? 195).map (fun i => (i.zero, i.size, i.bytes)) = some (some (.int .u64 0), 1, 8) := by kernel_rfl
theorem mkU1 (w : World) : (Instr.makeSlice 176 (.int .i64 1) (.int .i64 1)).run Tryz.prog w = .ok (.slice (some ⟨w.heap.size, 0, none⟩) 1 1) (w.alloc (.cells #[.int .u64 0] 195)) := by
  obtain ⟨i0, hi, he⟩ := Option.map_eq_some_iff.1 infoU64
  simp only [Prod.mk.injEq] at he
  obtain ⟨hz0, hz1, hz2⟩ := he
  have := run_make (P := Tryz.prog) w 176 195 i0 (.int .u64 0) Tryz.underlying176 hi hz0 .i64 .i64 1 1 (by omega) (by omega) (by rw [hz2]; omega) (by omega)
  rw [hz1] at this
  have e : madeCells (Value.int .u64 0).cells ((1 : Int).toNat * 1) = #[.int .u64 0] := by kernel_rfl
  rw [e] at this
  exact this
set_option maxHeartbeats 2000000 in
theorem naDivW_any (v : Value) (N m : Nat) (w : World) (h : W1 w v N) (hN : 0 < N) (hm : 0 < m) (hm1 : m < 18446744073709551616) :
    Calls Tryz.prog 146 #[v, .int .u64 (m : Int)] w (fun e w' => ∃ q, e = .returned (.tuple #[q, .int .u64 ((N % m : Nat) : Int)]) ∧ W1 w' q (N / m) ∧ Below w.heap.size w w') := by
  obtain ⟨hN1, b, off, c, rfl, hb, hc⟩ := h.pos hN
  have hD := fun w => naDiv64_any N m hN1 hm hm1 w
  have hq : N / m < 18446744073709551616 := Nat.lt_of_le_of_lt (Nat.div_le_self _ _) hN1
  have Hq := Lib.hid hq
  generalize N / m = Q at *
  generalize N % m = R at *
  have HC := Lib.hid hc
  clear h hN hm hm1 hN1 hc hq
  have hmk := fun w => mkU1 w
  go_enter Tryz.func146, Tryz.ntmps146
  go_wp2
  obtain ⟨g, hg⟩ : ∃ g, g = w.heap.size := ⟨_, rfl⟩
  have hrow : (w.alloc (.cells #[.int .u64 0] 195)).heap[g]? = some (.cells #[.int .u64 ((0 : Nat) : Int)] 195 (0, 0)) := by rw [hg]; exact Array.getElem?_push_size
  have hbel : Below g w (w.alloc (.cells #[.int .u64 0] 195)) := by rw [hg]; exact balloc _ (Below.refl _ _)
  rw [← hg]
  have Hg := Lib.hid hg
  have hbg : b < g := by omega
  generalize w.alloc (.cells #[.int .u64 0] 195) = wa at hrow hbel ⊢
  clear hmk hg hb
  go_loopw [7, 8] (fun r i wr => ∃ x : Nat, ((x = 0 ∧ i = .int .i64 0 ∧ r = .int .u64 0) ∨ (x = Q ∧ i = .int .i64 (-1) ∧ r = .int .u64 (R : Int))) ∧ wr.heap[g]? = some (.cells #[.int .u64 (x : Int)] 195 (0, 0)) ∧ Below g w wr) (fun _ i _ => (intOf i + 1).toNat)
  case atStart => exact ⟨0, .inl ⟨rfl, rfl, rfl⟩, hrow, hbel⟩
  case round =>
    obtain ⟨x, hx, hr, hB⟩ := hrel
    rcases hx with ⟨rfl, rfl, rfl⟩ | ⟨rfl, rfl, rfl⟩
    · have q1 : wr.cell? ⟨b, off, none⟩ = some (.int .u64 (N : Int)) := (hB.cell (p := ⟨b, off, none⟩) hbg).trans HC.out
      have q2 : wr.cell? ⟨b, off + 0, none⟩ = some (.int .u64 (N : Int)) := q1
      have hR := Lib.hid hr
      clear hr hrow hbel
      go_wp2_with fail
      refine (hD _).mono ?_
      rintro e w1 ⟨rfl, b1⟩
      have hgw : g < wr.heap.size := (Array.getElem?_eq_some_iff.1 hR.out).1
      have hr1 : w1.heap[g]? = some (.cells #[.int .u64 ((0 : Nat) : Int)] 195 (0, 0)) := (b1.block g hgw).trans hR.out
      have c1 := Go.Joins.cell_of_block hr1 0
      have f1 := Go.Joins.unfrozen_of_block hr1 0
      have hr2 := Go.Joins.block_setCell (i := 0) hr1 (.int .u64 (Q : Int))
      have hB2 : Below g w (w1.setCell ⟨g, 0, none⟩ (.int .u64 (Q : Int))) := (hB.trans (b1.mono (Nat.le_of_lt hgw))).setCell (Nat.le_refl _) _
      have HR2 := Lib.hid hr2
      clear hr1 hr2
      go_wp2
      exact ⟨⟨Q, .inr ⟨rfl, rfl, rfl⟩, HR2.out, hB2⟩, by simp [intOf]⟩
    · have hT := fun (w1 : World) (hZ : WdsZ w1 (some ⟨g, 0, none⟩) 1 [x]) => naTrim_any [x] 1 1 (some ⟨g, 0, none⟩) w1 hZ (by omega) (by omega)
      have HR := Lib.hid hr
      clear hr hrow hbel
      go_wp2_with fail
      have cz : wr.cell? ⟨g, 0, none⟩ = some (.int .u64 (x : Int)) := Go.Joins.cell_of_block HR.out 0
      have hgw : g < wr.heap.size := (Array.getElem?_eq_some_iff.1 HR.out).1
      refine (hT _ ?_).mono ?_
      · refine ⟨rfl, fun _ => ⟨_, 0, rfl, hgw, fun j y hy => ?_⟩⟩
        cases j with
        | zero => obtain rfl : x = y := Option.some.inj hy; exact cz
        | succ j => simp at hy
      rintro e w1 ⟨rfl, rfl⟩
      go_wp2
      go_ret2
      refine ⟨_, rfl, ?_, by rw [← Hg.out]; exact hB⟩
      by_cases h0 : x = 0
      · subst h0; exact W1.mk0 _ _ _
      · have e : trimN [x] 1 = 1 := by unfold trimN; rw [if_neg (by intro q; exact h0 (Option.some.inj q))]
        show W1 _ (.slice (some ⟨g, 0, none⟩) (trimN [x] 1) 1) x
        rw [e]
        exact W1.mk1 (by omega) Hq.out hgw cz
end Go.Mk
end
