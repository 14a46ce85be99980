/-
  Proved: two rows of the same rational numbers' texts are told to be the same (the reference's SameRow); rows in new memory lie in the cells of slices. Conditions: the rows lie where the slices say; at most 300 elements.
  Proved: two pairs of the same integers are equal. No condition.
-/
import Derived.Test.YtgimingahjmgdaaGreatDoorYk
import Derived.Test.YtgimingahjmgdaaGreatDoorYl
import Derived.ChangeKeysEq
section
set_option linter.unusedVariables false
set_option linter.unusedSimpArgs false
open Go Go.Proofs Go.RowKit
set_option maxRecDepth 100000
namespace Go.Mk
/-- The texts of a list lie in the cells of a slice. -/
def TextR (w : World) (A : Option Addr) (n : Nat) (L : List ByteArray) : Prop :=
  L.length = n ∧ (0 < n → ∃ g off, A = some ⟨g, off, none⟩ ∧ g < w.heap.size ∧ ∀ (j : Nat) (x : ByteArray), L[j]? = some x → w.cell? ⟨g, off + j, none⟩ = some (.string x))
theorem ownV_cells {w : World} {B : Nat} {T : TypeId} {v : Value} {X : List Value} (h : OwnV w B T v X) : ∃ A c, v = .slice A X.length c ∧ (0 < X.length → ∃ g, A = some ⟨g, 0, none⟩ ∧ g < w.heap.size ∧ ∀ (j : Nat) (x : Value), X[j]? = some x → w.cell? ⟨g, 0 + j, none⟩ = some x) := by
  by_cases h0 : 0 < X.length
  · obtain ⟨g, c, rfl, hg1, hg2⟩ := ownSome h h0
    refine ⟨_, _, rfl, fun _ => ⟨g, rfl, hg2, fun j x hx => ?_⟩⟩
    have hj := (List.getElem?_eq_some_iff.1 hx).1
    rw [Nat.zero_add, World.ownsRow.cellAt h j (by omega)]
    exact hx
  · obtain rfl : X = [] := List.length_eq_zero_iff.1 (by omega)
    rcases h.2 with ⟨e, _⟩ | ⟨g, c, cur, e, _⟩
    · exact ⟨none, 0, e, fun q => absurd q (by simp)⟩
    · exact ⟨_, c, e, fun q => absurd q (by simp)⟩
theorem ints_ofV {w : World} {B : Nat} {T : TypeId} {v : Value} {M : List (Int × Int)} (h : OwnV w B T v (M.map legV)) : ∃ A c, v = .slice A M.length c ∧ IntsZ w A M.length (M.map Prod.snd) := by
  obtain ⟨A, c, e, hc⟩ := ownV_cells h
  rw [List.length_map] at e hc
  refine ⟨A, c, e, by simp, fun h0 => ?_⟩
  obtain ⟨g, e2, hg, hx⟩ := hc h0
  refine ⟨g, 0, e2, hg, fun j x hj => hx j _ ?_⟩
  rw [List.getElem?_map] at hj ⊢
  cases q : M[j]? with
  | none => rw [q] at hj; cases hj
  | some y => rw [q] at hj; cases hj; rfl
theorem rats_ofV {w : World} {B : Nat} {T : TypeId} {v : Value} {M : List (Int × Int)} (h : OwnV w B T v (M.map spdV)) : ∃ A c, v = .slice A M.length c ∧ TextR w A M.length (M.map ratG) := by
  obtain ⟨A, c, e, hc⟩ := ownV_cells h
  rw [List.length_map] at e hc
  refine ⟨A, c, e, by simp, fun h0 => ?_⟩
  obtain ⟨g, e2, hg, hx⟩ := hc h0
  refine ⟨g, 0, e2, hg, fun j x hj => hx j _ ?_⟩
  rw [List.getElem?_map] at hj ⊢
  cases q : M[j]? with
  | none => rw [q] at hj; cases hj
  | some y => rw [q] at hj; cases hj; rfl
theorem TextR.below {w w' : World} {A : Option Addr} {n : Nat} {L : List ByteArray} (h : TextR w A n L) (hb : Below w.heap.size w w') : TextR w' A n L := by
  refine ⟨h.1, fun hn => ?_⟩
  obtain ⟨g, off, e, hlt, hc⟩ := h.2 hn
  exact ⟨g, off, e, Nat.lt_of_lt_of_le hlt hb.size, fun j x hx => (hb.cell (p := ⟨g, _, none⟩) hlt).trans (hc j x hx)⟩
theorem texts_none (w : World) : TextR w none 0 [] := ⟨rfl, fun h => absurd h (by decide)⟩
theorem ints_none (w : World) : IntsZ w none 0 [] := ⟨rfl, fun h => absurd h (by decide)⟩
set_option maxHeartbeats 1000000 in
theorem sameT_any (L : List ByteArray) (A1 A2 : Option Addr) (n c1 c2 : Nat) (w : World) (hn : n ≤ 300) (h1 : TextR w A1 n L) (h2 : TextR w A2 n L) :
    Calls Tryz.prog 21 #[.slice A1 n c1, .slice A2 n c2] w (RetPost (.bool true) w) := by
  have hn0 : (n : Int) ≤ 300 := by omega
  have H1 := Lib.hid h1
  have H2 := Lib.hid h2
  clear h1 h2 hn
  go_enter Tryz.func21, Tryz.ntmps21
  go_wp2
  go_loopw [5] (fun i wr => ∃ k : Nat, k ≤ n ∧ i = .int .i64 k ∧ Below w.heap.size w wr) (fun i _ => n - (intOf i).toNat)
  case atStart => exact ⟨0, by omega, rfl, Below.refl _ _⟩
  case round =>
    obtain ⟨k, hk, rfl, hb⟩ := hrel
    by_cases hlt : k < n
    · have g1 := H1.out.below hb
      have g2 := H2.out.below hb
      obtain ⟨p1, f1, rfl, _, q1⟩ := g1.2 (by omega)
      obtain ⟨p2, f2, rfl, _, q2⟩ := g2.2 (by omega)
      have hkl : k < L.length := by rw [g1.1]; exact hlt
      have c1' := q1 k L[k] (List.getElem?_eq_getElem hkl)
      have c2' := q2 k L[k] (List.getElem?_eq_getElem hkl)
      obtain ⟨x, hx⟩ : ∃ x, L[k] = x := ⟨_, rfl⟩
      rw [hx] at c1' c2'
      have hki : (k : Int) < (n : Int) := by omega
      have hk0 : (0 : Int) ≤ (k : Int) := by omega
      have hkt : ((k : Int)).toNat = k := by omega
      clear q1 q2 g1 g2 hx hkl H1 H2
      go_wp2_with fail
      go_quiet (fail)
      go_wp2
      exact ⟨⟨k + 1, by omega, by go_num, below_drewN hb _⟩, by simp [intOf]; omega⟩
    · go_wp2
      go_ret
      exact ⟨rfl, hb⟩
end Go.Mk
end
section
set_option linter.unusedVariables false
set_option linter.unusedSimpArgs false
open Go Go.Proofs Go.RowKit
set_option maxRecDepth 100000
namespace Go.Mk
theorem undPair : Tryz.prog.underlying 47 = some (.array 2 3) := by kernel_rfl
theorem cellsInt1 : Tryz.prog.cellsOf 3 = 1 := by kernel_rfl
theorem equalInt (d : Nat) (a b : Int) (w : World) : (Op.equalIn (d + 1) 3 (.int .i64 a) (.int .i64 b)).run Tryz.prog w = .ok (a == b) w := by
  simp only [Op.equalIn, Sem.run_bind, run_underlying Tryz.underlying3, Result.andThen_ok]
  simp
theorem equalPair (a b : Int) (w : World) : (Op.equal 47 (.agg #[.int .i64 a, .int .i64 b]) (.agg #[.int .i64 a, .int .i64 b])).run Tryz.prog w = .ok true w := by
  obtain ⟨i0, hi, hz0, hz1, hz2⟩ := info_parts infoInt
  show (Op.equalIn (9999 + 1) 47 _ _).run Tryz.prog w = _
  rw [run_equalIn_array w 9999 _ _ undPair hi, cellsInt1]
  have p0 : (part 3 #[.int .i64 a, .int .i64 b] (0 * 1)).run Tryz.prog w = .ok (.int .i64 a) w := run_part_plain w (by kernel_rfl) rfl
  have p1 : (part 3 #[.int .i64 a, .int .i64 b] (1 * 1)).run Tryz.prog w = .ok (.int .i64 b) w := run_part_plain w (by kernel_rfl) rfl
  have e0 : (Op.equalIn 9999 3 (.int .i64 a) (.int .i64 a)).run Tryz.prog w = .ok (a == a) w := equalInt 9998 a a w
  have e1 : (Op.equalIn 9999 3 (.int .i64 b) (.int .i64 b)).run Tryz.prog w = .ok (b == b) w := equalInt 9998 b b w
  simp only [Op.eqItems, List.range, List.range.loop, Sem.run_bind, p0, p1, e0, e1, Result.andThen_ok, beq_self_eq_true, Bool.not_true, Bool.false_eq_true, if_false, Sem.run_pure]
theorem equalPairX (a b : Int) (w : World) : (Op.equalIn 10000 47 (.agg #[.int .i64 a, .int .i64 b]) (.agg #[.int .i64 a, .int .i64 b])).run Tryz.prog w = .ok true w := equalPair a b w
end Go.Mk
end
