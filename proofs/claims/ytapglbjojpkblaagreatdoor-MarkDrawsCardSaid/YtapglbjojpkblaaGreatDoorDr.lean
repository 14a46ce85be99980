/-
  Proved: mark.Draw returns a new slice that holds the drawn order, without an error; out of range, the error 3. Conditions: the key is from 1 to the modulus less 1, and there are at most 256 elements.
  Proved: the law's helpers when and first (of two) return what they should.
-/
import Derived.Test.YtapglbjojpkblaaGreatDoorMx
import Derived.Test.YtapglbjojpkblaaGreatDoorRf
import Derived.LoopTactic
section
set_option linter.unusedVariables false
set_option linter.unusedSimpArgs false
open Go Go.Proofs Go.RowKit
namespace Go.Mk
/-- What a drawn order leaves: a new block that holds it. -/
def Drawn (key n : Nat) (w : World) (e : Ending) (w' : World) : Prop :=
  ∃ g, e = .returned (.tuple #[.slice (some ⟨g, 0, none⟩) n n, .int .i64 0]) ∧ Row w' g (Sh.order key n) ∧ g = w.heap.size ∧ Below w.heap.size w w'

set_option maxHeartbeats 400000 in
set_option maxRecDepth 100000 in
theorem draw_any (key n : Nat) (w : World) (h1 : 1 ≤ key) (h2 : key ≤ 2147483646) (h3 : n ≤ 256) :
    Calls Tryz.prog 13 #[.int .i64 key, .int .i64 n] w fun e w' => Drawn key n w e w' := by
  have hb : 1 ≤ (key : Int) ∧ (key : Int) ≤ 2147483646 ∧ 0 ≤ (n : Int) ∧ (n : Int) ≤ 256 := by omega
  obtain ⟨i0, hi, hz0, hz1, hz2⟩ := info_parts infoInt
  have hmk : ∀ w : World, (Instr.makeSlice 26 (.int .i64 (n : Int)) (.int .i64 (n : Int))).run Tryz.prog w = .ok (.slice (some ⟨w.heap.size, 0, none⟩) n n) (w.alloc (.cells (madeCells #[.int .i64 0] n) 3)) := by
    intro w
    have := run_make (P := Tryz.prog) w 26 3 i0 (.int .i64 0) Tryz.underlying26 hi hz0 .i64 .i64 n n (by omega) (by omega) (by rw [hz2]; omega) (by omega)
    rw [hz1] at this
    simpa [Value.cells] using this
  clear hi hz0 hz1 hz2
  clear h1 h2
  obtain ⟨hk1, hk2, hn0, hn3⟩ : 1 ≤ (key : Int) ∧ (key : Int) ≤ 2147483646 ∧ 0 ≤ (n : Int) ∧ (n : Int) ≤ 256 := hb
  go_enter Tryz.func13, Tryz.ntmps13
  go_wp2
  have hrow : Row (w.alloc (.cells (madeCells #[.int .i64 0] n) 3)) w.heap.size (List.replicate n 0) := Row.new' w n
  have hbel : Below w.heap.size w (w.alloc (.cells (madeCells #[.int .i64 0] n) 3)) := (Below.refl _ _).alloc (Nat.le_refl _) _
  obtain ⟨g, hg⟩ : ∃ g, g = w.heap.size := ⟨_, rfl⟩
  rw [← hg] at hrow hbel ⊢
  generalize w.alloc (.cells (madeCells #[.int .i64 0] n) 3) = w1 at hrow hbel ⊢
  have Hg := Lib.hid hg
  clear hmk hg h3
  go_loopw [29] (fun i wr => ∃ k : Nat, k ≤ n ∧ i = .int .i64 k ∧ Row wr g (List.range k ++ List.replicate (n - k) 0) ∧ Below g w wr) (fun i _ => n - (intOf i).toNat)
  case atStart => exact ⟨0, by omega, rfl, by simpa using hrow, hbel⟩
  case round =>
    obtain ⟨k, hk, rfl, hr, hb⟩ := hrel
    by_cases hlt : k < n
    · obtain ⟨hc, hf⟩ := hr.at_ (j := k) (by simp; omega)
      go_wp2
      go_roundw
      case rel => exact ⟨k + 1, by omega, by go_num, by rw [← fill_set n k hlt]; exact hr.set_ (by simp; omega) k, hb.setCell (Nat.le_refl _) _⟩
      case measure => simp [intOf]; omega
    · have hkn : k = n := by omega
      go_wp2
      have hrow2 : Row wr g (List.range n) := by rw [hkn] at hr; simpa using hr
      have hbn : Below g w wr := hb
      obtain ⟨w2, hw2⟩ : ∃ w2, w2 = wr := ⟨_, rfl⟩
      rw [← hw2] at hrow2 hbn ⊢
      clear hr hb hkn hlt hrow hbel hk hw2
      go_loopw [8, 9] (fun x i wr => ∃ (iz : Int) (y : Nat) (l : List Nat), i = .int .i64 iz ∧ x = .int .i64 (y : Int) ∧ -1 ≤ iz ∧ iz < n ∧ y < 2147483647 ∧ l.length = n ∧ Row wr g l ∧ Below g w wr ∧ Hid (Sh.draws iz.toNat y l = Sh.order key n)) (fun _ i _ => (intOf i).toNat)
      case atStart => exact ⟨(n : Int) - 1, key, List.range n, rfl, rfl, by omega, by omega, by omega, by simp, hrow2, hbn, by
        rw [show ((n : Int) - 1).toNat = n - 1 from by omega]; exact Lib.hid rfl⟩
      case round =>
        obtain ⟨iz, y, l, rfl, rfl, hi1, hi2, hy, hl, hr, hb, hD⟩ := hrel
        by_cases h1 : 1 ≤ iz
        · obtain ⟨i, rfl⟩ : ∃ i : Nat, iz = (i : Int) + 1 := ⟨(iz - 1).toNat, by omega⟩
          have HD2 : Hid (Sh.draws (i + 1) y l = Sh.order key n) := by
            rw [show ((i : Int) + 1).toNat = i + 1 from by omega] at hD
            exact hD
          clear hD
          obtain ⟨j, hj, hj2⟩ : ∃ j : Nat, 69621 * (y : Int) % 2147483647 % ((i : Int) + 1 + 1) = (j : Int) ∧ j = Sh.nx y % (i + 2) := ⟨Sh.nx y % (i + 2), by rw [show (i : Int) + 1 + 1 = ((i + 2 : Nat) : Int) from by omega]; unfold Sh.nx; simp [Int.natCast_emod], rfl⟩
          have hjlt : j < i + 2 := by rw [hj2]; exact Nat.mod_lt _ (by omega)
          obtain ⟨ci, fi⟩ := hr.at_ (j := i + 1) (by omega)
          obtain ⟨cj, fj⟩ := hr.at_ (j := j) (by omega)
          obtain ⟨a, ha⟩ : ∃ a, l.getD (i + 1) 0 = a := ⟨_, rfl⟩
          obtain ⟨b, hb'⟩ : ∃ b, l.getD j 0 = b := ⟨_, rfl⟩
          rw [ha] at ci
          rw [hb'] at cj
          obtain ⟨v', cj'⟩ := cell?_setCell_some (p := ⟨g, i + 1, none⟩) (x := .int .i64 (b : Int)) cj
          have hjn : j < n := by omega
          have hRow : Row (((wr.setCell ⟨g, i + 1, none⟩ (.int .i64 (b : Int))).setCell ⟨g, j, none⟩ (.int .i64 (a : Int))).drew) g (Sh.swp l (i + 1) j) := by
            have h := ((hr.set_ (i := i + 1) (by omega) b).set_ (i := j) (by simp; omega) a).drew
            unfold Sh.swp
            rw [ha, hb']
            exact h
          have Hj := Lib.hid hj
          have Hj2 := Lib.hid hj2
          have Ha := Lib.hid ha
          have Hb := Lib.hid hb'
          have hl' := Lib.hid hl
          clear hl hj hj2 ha hb'
          go_wp2
          have hj3 := Hj.out
          rw [hj3]
          clear hj3
          go_region
          go_wp2
          go_roundw
          case rel => exact ⟨(i : Int), Sh.nx y, Sh.swp l (i + 1) j, by go_num, by unfold Sh.nx; simp [Int.natCast_emod], by omega, by omega, Sh.nx_lt y, by rw [Sh.swp_length]; exact hl'.out, hRow, ((hb.setCell (Nat.le_refl _) _).setCell (Nat.le_refl _) _).drew, by
            rw [← HD2.out, show ((i : Int)).toNat = i from by omega, Sh.draws, ← Hj2.out]; exact Lib.hid rfl⟩
          case measure => simp [intOf]
        · go_wp2
          go_ret2
          have hi0 : iz.toNat = 0 := by omega
          rw [hi0] at hD
          have hl2 : l = Sh.order key n := hD.out
          exact ⟨g, rfl, by rw [← hl2]; exact hr, Hg.out, by rw [← Hg.out]; exact hb⟩

set_option maxHeartbeats 400000 in
theorem draw_bad (key n : Int) (w : World) (h : key < 1 ∨ 2147483646 < key ∨ n < 0 ∨ 256 < n) :
    Calls Tryz.prog 13 #[.int .i64 key, .int .i64 n] w (RetPost (.tuple #[.slice none 0 0, .int .i64 3]) w) := by
  go_enter Tryz.func13, Tryz.ntmps13
  go_wp2
  all_goals first | (go_ret2; exact ⟨rfl, Below.refl _ _⟩) | (exfalso; omega) | (trace_state; sorry)
end Go.Mk
end
section
set_option linter.unusedVariables false
set_option linter.unusedSimpArgs false
open Go Go.Proofs Go.RowKit
namespace Go.Mk
set_option maxHeartbeats 400000 in
theorem when_yes (e : Int) (w : World) : Calls Tryz.prog 17 #[.bool true, .int .i64 e] w fun x w' => x = .returned (.int .i64 e) ∧ w = w' := by
  go_enter Tryz.func17, Tryz.ntmps17
  go_wp2
  go_ret
  exact ⟨rfl, rfl⟩
set_option maxHeartbeats 400000 in
theorem when_no (e : Int) (w : World) : Calls Tryz.prog 17 #[.bool false, .int .i64 e] w fun x w' => x = .returned (.int .i64 0) ∧ w = w' := by
  go_enter Tryz.func17, Tryz.ntmps17
  go_wp2
  go_ret
  exact ⟨rfl, rfl⟩
set_option maxHeartbeats 400000 in
theorem lawFirst_zero (g : Nat) (w : World) (h1 : w.cell? ⟨g, 0, none⟩ = some (.int .i64 0)) (h2 : w.cell? ⟨g, 1, none⟩ = some (.int .i64 0)) :
    Calls Tryz.prog 16 #[.slice (some ⟨g, 0, none⟩) 2 2] w (RetPost (.int .i64 0) w) := by
  go_enter Tryz.func16, Tryz.ntmps16
  go_wp2
  go_loop [3] (fun i => ∃ k : Nat, k ≤ 2 ∧ i = .int .i64 k) (fun i => 2 - (intOf i).toNat)
  case atStart => exact ⟨0, by omega, rfl⟩
  case round =>
    obtain ⟨k, hk, rfl⟩ := hrel
    rcases (show k = 0 ∨ k = 1 ∨ k = 2 by omega) with rfl | rfl | rfl
    · go_wp2
      exact ⟨⟨1, by omega, by go_num⟩, by simp [intOf]⟩
    · go_wp2
      exact ⟨⟨2, by omega, by go_num⟩, by simp [intOf]⟩
    · go_wp2
      go_ret
      exact ⟨rfl, Below.refl _ _⟩
set_option maxHeartbeats 400000 in
theorem lawFirst_second (y : Int) (hy : y ≠ 0) (g : Nat) (w : World) (h1 : w.cell? ⟨g, 0, none⟩ = some (.int .i64 0)) (h2 : w.cell? ⟨g, 1, none⟩ = some (.int .i64 y)) :
    Calls Tryz.prog 16 #[.slice (some ⟨g, 0, none⟩) 2 2] w (RetPost (.int .i64 y) w) := by
  have hb : (y != 0) = true := by rw [bne_iff_ne]; exact hy
  go_enter Tryz.func16, Tryz.ntmps16
  go_wp2
  go_loop [3] (fun i => ∃ k : Nat, k ≤ 1 ∧ i = .int .i64 k) (fun i => 2 - (intOf i).toNat)
  case atStart => exact ⟨0, by omega, rfl⟩
  case round =>
    obtain ⟨k, hk, rfl⟩ := hrel
    rcases (show k = 0 ∨ k = 1 by omega) with rfl | rfl
    · go_wp2
      exact ⟨⟨1, by omega, by go_num⟩, by simp [intOf]⟩
    · go_wp2
      go_ret
      exact ⟨rfl, Below.refl _ _⟩
set_option maxHeartbeats 400000 in
theorem lawFirst_first (x : Int) (hx : x ≠ 0) (g : Nat) (w : World) (h1 : w.cell? ⟨g, 0, none⟩ = some (.int .i64 x)) :
    Calls Tryz.prog 16 #[.slice (some ⟨g, 0, none⟩) 2 2] w (RetPost (.int .i64 x) w) := by
  have hb : (x != 0) = true := by rw [bne_iff_ne]; exact hx
  go_enter Tryz.func16, Tryz.ntmps16
  go_wp2
  go_loop [3] (fun i => i = .int .i64 0) (fun i => 2 - (intOf i).toNat)
  case atStart => rfl
  case round =>
    obtain rfl := hrel
    go_wp2
    go_ret
    exact ⟨rfl, Below.refl _ _⟩
theorem lawFirst_any (x y : Int) (g : Nat) (w : World) (h1 : w.cell? ⟨g, 0, none⟩ = some (.int .i64 x)) (h2 : w.cell? ⟨g, 1, none⟩ = some (.int .i64 y)) :
    Calls Tryz.prog 16 #[.slice (some ⟨g, 0, none⟩) 2 2] w (RetPost (.int .i64 (fst2 x y)) w) := by
  unfold fst2
  by_cases hx : x = 0
  · subst hx
    rw [if_pos rfl]
    by_cases hy : y = 0
    · subst hy; exact lawFirst_zero g w h1 h2
    · exact lawFirst_second y hy g w h1 h2
  · rw [if_neg hx]; exact lawFirst_first x hx g w h1
end Go.Mk
end
