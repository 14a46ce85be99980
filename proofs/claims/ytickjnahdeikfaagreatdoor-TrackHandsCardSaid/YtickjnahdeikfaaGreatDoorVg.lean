/-
  Proved: the reference's decimalForm and parse of digits of up to nine digits. Conditions: the number has at most nine digits; for parse it is not 0.
  Proved: the reference's greatest common divisor of integers of one digit to the base 10^9 (common, by divDigits, divDigit, compareDigits, trim). Conditions: the integers are above 0, have at most nine digits, and lie where the values say.
-/
import Derived.Test.YtickjnahdeikfaaGreatDoorVe
section
set_option linter.unusedVariables false
set_option linter.unusedSimpArgs false
open Go Go.Proofs Go.RowKit
set_option maxRecDepth 100000
namespace Go.Mk
set_option maxHeartbeats 1000000 in
theorem rfDecForm_any (N : Nat) (hN : N ≤ 999999999) (w : World) : Calls Tryz.prog 110 #[.string (digT N)] w (RetSame (.bool true) w) := by
  have h1 := digT_pos N
  have h9 := digT_le9 N hN
  have hD := fun w => rfDigits_any (digT N) (by unfold maxLen; omega) (digT_isD N) w
  have hh : 1 < (digT N).size → ((digT N)[0].toNat : Int) ≠ 48 := fun h => by
    have h0 : N ≠ 0 := fun q => by subst q; exact absurd h (by decide)
    obtain ⟨c, l, e, hc⟩ := dgs_head N (by omega)
    have := dropAt (digT N) 0 h1
    rw [List.drop_zero, digL_eq, if_neg h0, e] at this
    injection this with q _
    rw [← q]
    intro q2
    apply hc
    apply UInt8.toNat_inj.1
    show c.toNat = 48
    omega
  have hi0 : (0 : Int) < ((digT N).size : Int) := by omega
  have hi9 : ((digT N).size : Int) ≤ 9 := by omega
  have hne : (((digT N).size : Int) == 0) = false := by rw [beq_eq_false_iff_ne]; omega
  generalize digT N = s at *
  by_cases hs : 1 < s.size
  · have hs1 : (1 : Int) < (s.size : Int) := by omega
    have hc := hh hs
    clear hh
    go_enter Tryz.func110, Tryz.ntmps110
    go_wp2_with fail
    refine (hD _).mono ?_
    rintro e w1 ⟨rfl, rfl⟩
    go_wp2
    go_ret
    exact ⟨rfl, rfl⟩
  · have hs1 : ¬ (1 : Int) < (s.size : Int) := by omega
    clear hh
    go_enter Tryz.func110, Tryz.ntmps110
    go_wp2_with fail
    refine (hD _).mono ?_
    rintro e w1 ⟨rfl, rfl⟩
    go_wp2
    go_ret
    exact ⟨rfl, rfl⟩
set_option maxHeartbeats 2000000 in
theorem rfParse_any (N : Nat) (hN0 : 0 < N) (hN : N ≤ 999999999) (w : World) : Calls Tryz.prog 113 #[.string (digT N)] w (fun e w' => ∃ u, e = .returned u ∧ J1 w' u N ∧ Below w.heap.size w w') := by
  obtain ⟨i0, hi, hz0, hz1, hz2⟩ := info_parts infoInt
  have h1 := digT_pos N
  have h9 := digT_le9 N hN
  have hV := fun w => rfValue_any (digT N) (by omega) (digT_isD N) w
  rw [digT_val] at hV
  have hS := fun v w (h : D1 w v N) => rfSigned_one v N w h
  have hh : ∃ c l, (digT N).data.toList = c :: l ∧ 48 ≤ c.toNat := by
    have := digT_isD N
    cases e : (digT N).data.toList with
    | nil => rw [digT_size2, e] at h1; simp at h1
    | cons c l => exact ⟨c, l, rfl, (this c (by rw [e]; simp)).1⟩
  have hm := headD (digT N) h1 hh
  have hi0 : (0 : Int) < ((digT N).size : Int) := by omega
  have hi9 : ((digT N).size : Int) ≤ 9 := by omega
  have hn9 : ¬ (9 : Int) < ((digT N).size : Int) := by omega
  generalize digT N = s at *
  obtain ⟨w1, hw1⟩ : ∃ w1, w.alloc (.cells #[.bool false, .slice none 0 0] 127) = w1 := ⟨_, rfl⟩
  have hb1 : Below w.heap.size w w1 := by rw [← hw1]; exact balloc _ (Below.refl _ _)
  have HW1 := Lib.hid hw1
  clear hh h9
  go_enter Tryz.func113, Tryz.ntmps113
  go_wp2
  go_loop [0, 4] (fun x y => x = .string s ∧ y = .slice none 0 0) (fun _ _ => 0)
  case atStart => exact ⟨rfl, rfl⟩
  case round =>
    obtain ⟨rfl, rfl⟩ := hrel
    go_wp2_with fail
    refine (hV _).mono ?_
    rintro e w2 ⟨rfl, rfl⟩
    go_wp2_with (at_builtin; refine wpList_append_own _ rfl _ _ 22 rfl w1.heap.size 3 i0 (.int .i64 0) 1 8 Tryz.underlying22 hi hz0 hz1 hz2 rfl (by decide) _ _ _ rfl (World.ownsRow.alloc (World.ownsRow_nil _ _ _ _) _) ⟨w1.heap.size, 0, none⟩ 1 1 [.int .i64 (N : Int)] rfl rfl ?c1 ?c2 ?c3 ?c4 ?c5 ?_)
    case c1 =>
      intro j u hj
      match j, hj with
      | 0, hj => simp at hj; subst hj; simp [Addr.add]
    case c2 => intro u hu; simp at hu; subst hu; rfl
    case c3 => decide
    case c4 => decide
    case c5 => simp
    intro v' w2 hown' hgrow _
    have hb2 : Below w1.heap.size w1 w2 := ((Below.refl _ _).alloc (Nat.le_refl _) (.cells #[.int .i64 (N : Int)] 3)).grown hgrow (by simp) (fun r hr => by cases hr)
    obtain ⟨g, c, rfl, hg1, hg2⟩ := ownSome hown' (by decide)
    have hc : w2.cell? ⟨g, 0, none⟩ = some (.int .i64 (N : Int)) := by rw [World.ownsRow.cellAt hown' 0 (by decide)]; rfl
    have HD : Hid (D1 w2 (.slice (some ⟨g, 0, none⟩) 1 c) N) := Lib.hid (.inr ⟨hN0, g, 0, c, rfl, hg2, hc⟩)
    clear hown' hgrow hc
    go_wp2_with fail
    refine (hS _ _ HD.out).mono ?_
    rintro e w3 ⟨rfl, b3⟩
    have h3 := HD.out.below b3
    have hB : Below (w.alloc (.cells #[.bool false, .slice none 0 0] 127)).heap.size (w.alloc (.cells #[.bool false, .slice none 0 0] 127)) w3 := by rw [HW1.out]; exact hb2.trans (b3.mono hb2.size)
    obtain ⟨k1, k2, k3, k4, k5, k6, k7⟩ := box2 hB (.bool false) (.slice (some ⟨g, 0, none⟩) 1 c)
    have hbz := Lib.hid (box2_below hB (.bool false) (.slice (some ⟨g, 0, none⟩) 1 c))
    have k8 := Go.Joins.cell_of_block k1 1
    have k9 := Go.Joins.unfrozen_of_block k1 1
    have K6 := Lib.hid k6
    have K7 := Lib.hid k7
    have hw := Lib.hid (D1.box2s (s' := false) (y := .slice (some ⟨g, 0, none⟩) 1 c) h3 k1)
    clear h3 k6 k7 k1 hB hb2 b3
    go_wp2
    have k6 := K6.out
    have k7 := K7.out
    exact bodyPost_ret (v := .agg #[.bool false, .slice (some ⟨g, 0, none⟩) 1 c]) (by simp [results, Tryz.results113, go_sem, k6, k7]) rfl ⟨_, rfl, ⟨_, rfl, hw.out⟩, hbz.out⟩
end Go.Mk
end
section
set_option linter.unusedVariables false
set_option linter.unusedSimpArgs false
open Go Go.Proofs Go.RowKit
set_option maxRecDepth 100000
namespace Go.Mk
set_option maxHeartbeats 1000000 in
theorem rfTrim_cell (g off c N : Nat) (w : World) (hc1 : 1 ≤ c) (hcs : c ≤ 1000000) (hg : g < w.heap.size) (hc : w.cell? ⟨g, off, none⟩ = some (.int .i64 (N : Int))) :
    Calls Tryz.prog 134 #[.slice (some ⟨g, off, none⟩) 1 c] w (fun e w' => ∃ v, e = .returned v ∧ D1 w' v N ∧ w = w') := by
  by_cases h0 : N = 0
  · subst h0
    have hci : (c : Int) ≤ 1000000 := by omega
    have hci1 : (1 : Int) ≤ (c : Int) := by omega
    have hc' : w.cell? ⟨g, off, none⟩ = some (.int .i64 0) := hc
    clear hc
    go_enter Tryz.func134, Tryz.ntmps134
    go_wp2
    go_loop [0] (fun x => x = .slice (some ⟨g, off, none⟩) 1 c ∨ ∃ A c', x = .slice A 0 c') (fun x => match x with | .slice _ k _ => k | _ => 0)
    case atStart => exact .inl rfl
    case round =>
      rcases hrel with rfl | ⟨A, c', rfl⟩
      · go_wp2
        exact ⟨.inr ⟨_, _, rfl⟩, Nat.zero_lt_one⟩
      · go_wp2
        go_ret
        exact ⟨_, rfl, .inl ⟨rfl, _, _, rfl⟩, rfl⟩
  · refine (rfTrim_one _ N w (.inr ⟨by omega, g, off, c, rfl, hg, hc⟩)).mono ?_
    rintro e w' ⟨rfl, rfl⟩
    exact ⟨_, rfl, .inr ⟨by omega, g, off, c, rfl, hg, hc⟩, rfl⟩
def sgn3 (A B : Nat) : Int := if A < B then -1 else if B < A then 1 else 0
set_option maxHeartbeats 2000000 in
theorem rfCmp_one (A B g o c g' o' c' : Nat) (w : World) (hx : w.cell? ⟨g, o, none⟩ = some (.int .i64 (A : Int))) (hy : w.cell? ⟨g', o', none⟩ = some (.int .i64 (B : Int))) :
    Calls Tryz.prog 118 #[.slice (some ⟨g, o, none⟩) 1 c, .slice (some ⟨g', o', none⟩) 1 c'] w (RetPost (.int .i64 (sgn3 A B)) w) := by
  obtain ⟨s, hs⟩ : ∃ s, sgn3 A B = s := ⟨_, rfl⟩
  rw [hs]
  have HS := Lib.hid hs
  clear hs
  go_enter Tryz.func118, Tryz.ntmps118
  go_wp2
  go_loopw [5] (fun i wr => Below w.heap.size w wr ∧ wr.cell? ⟨g, o, none⟩ = some (.int .i64 (A : Int)) ∧ wr.cell? ⟨g', o', none⟩ = some (.int .i64 (B : Int)) ∧ (i = .int .i64 0 ∨ (i = .int .i64 (-1) ∧ Hid (s = 0)))) (fun i _ => (intOf i + 1).toNat)
  case atStart => exact ⟨Below.refl _ _, hx, hy, .inl rfl⟩
  case round =>
    obtain ⟨hb, hx, hy, hi⟩ := hrel
    rcases hi with rfl | ⟨rfl, h0⟩
    · by_cases h1 : A < B
      · have hi1 : (A : Int) < (B : Int) := by omega
        have H0 : Hid (s = -1) := Lib.hid (by rw [← HS.out]; unfold sgn3; rw [if_pos h1])
        go_wp2_with fail
        go_quiet (fail)
        go_wp2
        go_ret
        exact ⟨by rw [H0.out]; rfl, by first | exact below_drewN hb _ | exact below_drewN (below_drewN hb _) _⟩
      · have hi1 : ¬ (A : Int) < (B : Int) := by omega
        by_cases h2 : B < A
        · have hi2 : (B : Int) < (A : Int) := by omega
          have H0 : Hid (s = 1) := Lib.hid (by rw [← HS.out]; unfold sgn3; rw [if_neg h1, if_pos h2])
          go_wp2_with fail
          go_quiet (fail)
          go_wp2_with fail
          go_quiet (fail)
          go_wp2
          go_ret
          exact ⟨by rw [H0.out]; rfl, by first | exact below_drewN hb _ | exact below_drewN (below_drewN hb _) _⟩
        · have hi2 : ¬ (B : Int) < (A : Int) := by omega
          have H0 : Hid (s = 0) := Lib.hid (by rw [← HS.out]; unfold sgn3; rw [if_neg h1, if_neg h2])
          go_wp2_with fail
          go_quiet (fail)
          go_wp2_with fail
          go_quiet (fail)
          go_wp2
          go_roundw
          case rel => exact ⟨below_drewN hb _, hx, hy, .inr ⟨rfl, H0⟩⟩
          case measure => simp [intOf]
    · go_wp2
      go_ret
      exact ⟨by rw [h0.out]; rfl, hb⟩
theorem mkI1 (w : World) : (Instr.makeSlice 22 (.int .i64 1) (.int .i64 1)).run Tryz.prog w = .ok (.slice (some ⟨w.heap.size, 0, none⟩) 1 1) (w.alloc (.cells #[.int .i64 0] 3)) := by
  obtain ⟨i0, hi, he⟩ := Option.map_eq_some_iff.1 infoInt
  simp only [Prod.mk.injEq] at he
  obtain ⟨hz0, hz1, hz2⟩ := he
  have := run_make (P := Tryz.prog) w 22 3 i0 (.int .i64 0) Tryz.underlying22 hi hz0 .i64 .i64 1 1 (by omega) (by omega) (by rw [hz2]; omega) (by omega)
  rw [hz1] at this
  have e : madeCells (Value.int .i64 0).cells ((1 : Int).toNat * 1) = #[.int .i64 0] := by kernel_rfl
  rw [e] at this
  exact this
set_option maxHeartbeats 2000000 in
theorem rfDivDigit_one (A d g o c : Nat) (w : World) (hA : A ≤ 999999999) (hd0 : 0 < d) (hg : g < w.heap.size) (hx : w.cell? ⟨g, o, none⟩ = some (.int .i64 (A : Int))) :
    Calls Tryz.prog 133 #[.slice (some ⟨g, o, none⟩) 1 c, .int .i64 (d : Int)] w (fun e w' => ∃ v, e = .returned (.tuple #[v, .int .i64 ((A % d : Nat) : Int)]) ∧ Below w.heap.size w w') := by
  have hdi : (0 : Int) < (d : Int) := by omega
  have hne : ((d : Int) == 0) = false := by rw [beq_eq_false_iff_ne]; omega
  have hn0 : ¬ (d : Int) = 0 := by omega
  have hAi : (A : Int) ≤ 999999999 := by omega
  have hA0 : (0 : Int) ≤ (A : Int) := by omega
  have hQA : A / d ≤ A := Nat.div_le_self _ _
  have hQ9 : ((A / d : Nat) : Int) ≤ 999999999 := by omega
  have hq : Int.tdiv (A : Int) (d : Int) = ((A / d : Nat) : Int) := by rw [Int.tdiv_eq_ediv_of_nonneg hA0]; rfl
  have hq2 : (A : Int) / (d : Int) = ((A / d : Nat) : Int) := rfl
  have hr : Int.tmod (A : Int) (d : Int) = ((A % d : Nat) : Int) := by rw [Int.tmod_eq_emod_of_nonneg hA0]; rfl
  have hr2 : (A : Int) % (d : Int) = ((A % d : Nat) : Int) := rfl
  have hwQ : ∀ Q : Nat, (Q : Int) ≤ 999999999 → IntKind.i64.wrap (Q : Int) = (Q : Int) := fun Q h => IntWalk.i64_in _ (by omega)
  have hw1 : IntKind.i64.wrap (((A / d : Nat)) : Int) = ((A / d : Nat) : Int) := hwQ _ hQ9
  have hmk := fun w => mkI1 w
  have HC := Lib.hid hx
  clear hwQ
  generalize A / d = Q at *
  generalize A % d = R at *
  clear hx
  go_enter Tryz.func133, Tryz.ntmps133
  go_wp2
  obtain ⟨p, hp⟩ : ∃ p, p = w.heap.size := ⟨_, rfl⟩
  have hrow : (w.alloc (.cells #[.int .i64 0] 3)).heap[p]? = some (.cells #[.int .i64 ((0 : Nat) : Int)] 3 (0, 0)) := by rw [hp]; exact Array.getElem?_push_size
  have hbel : Below p w (w.alloc (.cells #[.int .i64 0] 3)) := by rw [hp]; exact balloc _ (Below.refl _ _)
  rw [← hp]
  have Hp := Lib.hid hp
  have hbg : g < p := by omega
  generalize w.alloc (.cells #[.int .i64 0] 3) = wa at hrow hbel ⊢
  clear hmk hp hg
  go_loopw [7, 8] (fun r i wr => ∃ x : Nat, ((x = 0 ∧ i = .int .i64 0 ∧ r = .int .i64 0) ∨ (x = Q ∧ i = .int .i64 (-1) ∧ r = .int .i64 (R : Int))) ∧ wr.heap[p]? = some (.cells #[.int .i64 (x : Int)] 3 (0, 0)) ∧ Below p w wr) (fun _ i _ => (intOf i + 1).toNat)
  case atStart => exact ⟨0, .inl ⟨rfl, rfl, rfl⟩, hrow, hbel⟩
  case round =>
    obtain ⟨x, hx, hr', hB⟩ := hrel
    rcases hx with ⟨rfl, rfl, rfl⟩ | ⟨rfl, rfl, rfl⟩
    · have q1 : wr.cell? ⟨g, o, none⟩ = some (.int .i64 (A : Int)) := (hB.cell (p := ⟨g, o, none⟩) hbg).trans HC.out
      have hgw : p < wr.heap.size := (Array.getElem?_eq_some_iff.1 hr').1
      have c1 := Go.Joins.cell_of_block hr' 0
      have f1 := Go.Joins.unfrozen_of_block hr' 0
      have HR2 := Lib.hid (Go.Joins.block_setCell (i := 0) hr' (.int .i64 (Q : Int)))
      have hB2 : Below p w (wr.setCell ⟨p, 0, none⟩ (.int .i64 (Q : Int))) := hB.setCell (Nat.le_refl _) _
      clear hr' hrow hbel hB
      go_wp2
      exact ⟨⟨Q, .inr ⟨rfl, rfl, rfl⟩, HR2.out, hB2⟩, by simp [intOf]⟩
    · have hgw : p < wr.heap.size := (Array.getElem?_eq_some_iff.1 hr').1
      have hT := rfTrim_cell p 0 1 x wr (by decide) (by decide) hgw (Go.Joins.cell_of_block hr' 0)
      have hbw : Below w.heap.size w wr := by rw [← Hp.out]; exact hB
      clear hr' hrow hbel hB
      go_wp2_with fail
      refine hT.mono ?_
      rintro e w1 ⟨v, rfl, _, rfl⟩
      go_wp2
      go_ret2
      exact ⟨_, rfl, hbw⟩
end Go.Mk
end
