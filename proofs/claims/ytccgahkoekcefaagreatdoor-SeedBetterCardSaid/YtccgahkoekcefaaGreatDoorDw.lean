/-
  Proved: mark.Draw and the reference's Draw return a new slice that holds the drawn order, without an error; out of range, the error 3; the reference's CheckDraw. Conditions: the key is from 1 to the modulus less 1, and there are at most 256 elements.
-/
import Derived.Test.YtccgahkoekcefaaGreatDoorBa
import Derived.Test.YtccgahkoekcefaaGreatDoorSm
import Derived.Deep.LoopGhost
set_option linter.unusedVariables false
set_option linter.unusedSimpArgs false
open Go Go.Proofs Go.RowKit
set_option maxRecDepth 100000
namespace Go.Mk
theorem Row.newI (w : World) (n : Nat) : Row (w.alloc (.cells (madeCells #[.int .i64 0] n) 3)) w.heap.size (List.replicate n 0) := by
  refine ⟨by simp, fun j v hv => ?_⟩
  have hj : j < n := by
    have := (List.getElem?_eq_some_iff.1 hv).1
    simpa using this
  rw [List.getElem?_replicate, if_pos hj] at hv
  obtain rfl := Option.some.inj hv
  simp [madeCells, hj, Nat.mod_one]
set_option maxHeartbeats 400000 in
theorem refCheckDraw_ok (key n : Nat) (w : World) (h1 : 1 ≤ (key : Int)) (h2 : (key : Int) ≤ 2147483646) (h3 : (n : Int) ≤ 256) :
    Calls Tryz.prog 15 #[.int .i64 key, .int .i64 n] w (RetPost (.int .i64 0) w) := by
  have h0 : 0 ≤ (n : Int) := by omega
  go_enter Tryz.func15, Tryz.ntmps15
  go_wp2
  go_ret
  exact ⟨rfl, Below.refl _ _⟩
set_option maxHeartbeats 400000 in
theorem refCheckDraw_bad (key n : Int) (w : World) (h : key < 1 ∨ 2147483646 < key ∨ n < 0 ∨ 256 < n) :
    Calls Tryz.prog 15 #[.int .i64 key, .int .i64 n] w (RetPost (.int .i64 3) w) := by
  go_enter Tryz.func15, Tryz.ntmps15
  go_wp2
  all_goals first | (go_ret; exact ⟨rfl, Below.refl _ _⟩) | (exfalso; omega)

theorem cell?_setCell_some {w : World} {p q : Addr} {x v : Value} (h : w.cell? q = some v) : ∃ v', (w.setCell p x).cell? q = some v' := by
  by_cases e : p = q
  · subst e; exact ⟨x, World.cell?_setCell_same w p x h⟩
  · exact ⟨v, (World.cell?_setCell_other w p q x e).trans h⟩
theorem fill_set (n k : Nat) (h : k < n) : (List.range k ++ List.replicate (n - k) 0).set k k = List.range (k + 1) ++ List.replicate (n - (k + 1)) 0 := by
  obtain ⟨m, rfl⟩ : ∃ m, n = k + 1 + m := ⟨n - (k + 1), by omega⟩
  rw [show k + 1 + m - k = m + 1 from by omega, show k + 1 + m - (k + 1) = m from by omega, List.set_append_right _ _ (by simp)]
  simp [List.replicate_succ, List.range_succ]
def Drawn2 (key n : Nat) (w : World) (e : Ending) (w' : World) : Prop :=
  ∃ g, e = .returned (.slice (some ⟨g, 0, none⟩) n n) ∧ Row w' g (Sh.order key n) ∧ w.heap.size ≤ g ∧ Below w.heap.size w w'

set_option maxHeartbeats 4000000 in
theorem refDraw_any (key n : Nat) (w : World) (h1 : 1 ≤ (key : Int)) (h2 : (key : Int) ≤ 2147483646) (h3 : (n : Int) ≤ 256) :
    Calls Tryz.prog 35 #[.int .i64 key, .int .i64 n] w (Drawn2 key n w) := by
  obtain ⟨i0, hi, hz0, hz1, hz2⟩ := info_parts infoInt
  have hmk : ∀ w : World, (Instr.makeSlice 30 (.int .i64 (n : Int)) (.int .i64 (n : Int))).run Tryz.prog w = .ok (.slice (some ⟨w.heap.size, 0, none⟩) n n) (w.alloc (.cells (madeCells #[.int .i64 0] n) 3)) := by
    intro w
    have := run_make (P := Tryz.prog) w 30 3 i0 (.int .i64 0) Tryz.underlying30 hi hz0 .i64 .i64 n n (by omega) (by omega) (by rw [hz2]; omega) (by omega)
    rw [hz1] at this
    simpa [Value.cells] using this
  clear hi hz0 hz1 hz2
  have hn0 : 0 ≤ (n : Int) := by omega
  go_enter Tryz.func35, Tryz.ntmps35
  go_wp2
  have hrow : Row (w.alloc (.cells (madeCells #[.int .i64 0] n) 3)) w.heap.size (List.replicate n 0) := Row.newI w n
  have hbel : Below w.heap.size w (w.alloc (.cells (madeCells #[.int .i64 0] n) 3)) := (Below.refl _ _).alloc (Nat.le_refl _) _
  obtain ⟨g, hg⟩ : ∃ g, g = w.heap.size := ⟨_, rfl⟩
  rw [← hg] at hrow hbel ⊢
  generalize w.alloc (.cells (madeCells #[.int .i64 0] n) 3) = w1 at hrow hbel ⊢
  have Hg := Lib.hid hg
  clear hmk hg
  go_loopw [6] (fun i wr => ∃ k : Nat, k ≤ n ∧ i = .int .i64 k ∧ Row wr g (List.range k ++ List.replicate (n - k) 0) ∧ Below g w wr) (fun i _ => n - (intOf i).toNat)
  case atStart => exact ⟨0, by omega, rfl, by simpa using hrow, hbel⟩
  case round =>
    obtain ⟨k, hk, rfl, hr, hb⟩ := hrel
    by_cases hlt : k < n
    · obtain ⟨hc, hf⟩ := hr.at_ (j := k) (by simp; omega)
      have hR2 : Row (wr.setCell ⟨g, k, none⟩ (.int .i64 (k : Int))) g (List.range (k + 1) ++ List.replicate (n - (k + 1)) 0) := by rw [← fill_set n k hlt]; exact hr.set_ (by simp; omega) k
      have hB2 : Below g w (wr.setCell ⟨g, k, none⟩ (.int .i64 (k : Int))) := hb.setCell (Nat.le_refl _) _
      obtain ⟨y, hy⟩ : ∃ y, (List.range k ++ List.replicate (n - k) 0).getD k 0 = y := ⟨_, rfl⟩
      rw [hy] at hc
      have hki : (k : Int) < (n : Int) := by omega
      clear hr hb hy hrow hbel
      go_wp2
      exact ⟨⟨k + 1, by omega, by go_num, hR2, hB2⟩, by simp [intOf]; omega⟩
    · have hkn : k = n := by omega
      have hrow2 : Row wr g (List.range n) := by rw [hkn] at hr; simpa using hr
      have hbn : Below g w wr := hb
      go_wp2
      obtain ⟨w2, hw2⟩ : ∃ w2, w2 = wr := ⟨_, rfl⟩
      rw [← hw2] at hrow2 hbn ⊢
      clear hr hb hkn hlt hrow hbel hk hw2
      go_loopw [0, 7] (fun x i wr => ∃ (iz : Int) (y : Nat) (l : List Nat), i = .int .i64 iz ∧ x = .int .i64 (y : Int) ∧ -1 ≤ iz ∧ iz < n ∧ y < 2147483647 ∧ l.length = n ∧ Row wr g l ∧ Below g w wr ∧ Hid (Sh.draws iz.toNat y l = Sh.order key n)) (fun _ i _ => (intOf i).toNat)
      case atStart => exact ⟨(n : Int) - 1, key, List.range n, rfl, rfl, by omega, by omega, by omega, by simp, hrow2, hbn, by
        rw [show ((n : Int) - 1).toNat = n - 1 from by omega]; exact Lib.hid rfl⟩
      case round =>
        obtain ⟨iz, y, l, rfl, rfl, hi1, hi2, hy, hl, hr, hb, hD⟩ := hrel
        by_cases h1 : 1 ≤ iz
        · obtain ⟨i, rfl⟩ : ∃ i : Nat, iz = (i : Int) + 1 := ⟨(iz - 1).toNat, by omega⟩
          have HD2 : Hid (Sh.draws (i + 1) y l = Sh.order key n) := by
            rw [show ((i : Int) + 1).toNat = i + 1 from by omega] at hD
            exact hD
          clear hD
          obtain ⟨j, hj, hj2⟩ : ∃ j : Nat, 69621 * (y : Int) % 2147483647 % ((i : Int) + 1 + 1) = (j : Int) ∧ j = Sh.nx y % (i + 2) := ⟨Sh.nx y % (i + 2), by rw [show (i : Int) + 1 + 1 = ((i + 2 : Nat) : Int) from by omega]; unfold Sh.nx; simp [Int.natCast_emod], rfl⟩
          have hjlt : j < i + 2 := by rw [hj2]; exact Nat.mod_lt _ (by omega)
          obtain ⟨ci, fi⟩ := hr.at_ (j := i + 1) (by omega)
          obtain ⟨cj, fj⟩ := hr.at_ (j := j) (by omega)
          obtain ⟨a, ha⟩ : ∃ a, l.getD (i + 1) 0 = a := ⟨_, rfl⟩
          obtain ⟨b, hb'⟩ : ∃ b, l.getD j 0 = b := ⟨_, rfl⟩
          rw [ha] at ci
          rw [hb'] at cj
          obtain ⟨v', cj'⟩ := cell?_setCell_some (p := ⟨g, i + 1, none⟩) (x := .int .i64 (b : Int)) cj
          have hjn : j < n := by omega
          have hRow : Row (((wr.setCell ⟨g, i + 1, none⟩ (.int .i64 (b : Int))).setCell ⟨g, j, none⟩ (.int .i64 (a : Int))).drew) g (Sh.swp l (i + 1) j) := by
            have h := ((hr.set_ (i := i + 1) (by omega) b).set_ (i := j) (by simp; omega) a).drew
            unfold Sh.swp
            rw [ha, hb']
            exact h
          have Hj := Lib.hid hj
          have Hj2 := Lib.hid hj2
          have Ha := Lib.hid ha
          have Hb := Lib.hid hb'
          have hl' := Lib.hid hl
          clear hl hj hj2 ha hb'
          go_wp2
          have hj3 := Hj.out
          rw [hj3]
          clear hj3
          go_region
          go_wp2
          go_roundw
          case rel => exact ⟨(i : Int), Sh.nx y, Sh.swp l (i + 1) j, by go_num, by unfold Sh.nx; simp [Int.natCast_emod], by omega, by omega, Sh.nx_lt y, by rw [Sh.swp_length]; exact hl'.out, hRow, ((hb.setCell (Nat.le_refl _) _).setCell (Nat.le_refl _) _).drew, by
            rw [← HD2.out, show ((i : Int)).toNat = i from by omega, Sh.draws, ← Hj2.out]; exact Lib.hid rfl⟩
          case measure => simp [intOf]
        · go_wp2
          go_ret
          have hi0 : iz.toNat = 0 := by omega
          rw [hi0] at hD
          have hl2 : l = Sh.order key n := hD.out
          exact ⟨g, rfl, by rw [← hl2]; exact hr, Nat.le_of_eq Hg.out.symm, by rw [← Hg.out]; exact hb⟩
def Drawn (key n : Nat) (w : World) (e : Ending) (w' : World) : Prop :=
  ∃ g, e = .returned (.tuple #[.slice (some ⟨g, 0, none⟩) n n, .int .i64 0]) ∧ Row w' g (Sh.order key n) ∧ g = w.heap.size ∧ Below w.heap.size w w'

set_option maxHeartbeats 400000 in
set_option maxRecDepth 100000 in
theorem draw_any (key n : Nat) (w : World) (h1 : 1 ≤ key) (h2 : key ≤ 2147483646) (h3 : n ≤ 256) :
    Calls Tryz.prog 53 #[.int .i64 key, .int .i64 n] w fun e w' => Drawn key n w e w' := by
  have hb : 1 ≤ (key : Int) ∧ (key : Int) ≤ 2147483646 ∧ 0 ≤ (n : Int) ∧ (n : Int) ≤ 256 := by omega
  obtain ⟨i0, hi, hz0, hz1, hz2⟩ := info_parts infoInt
  have hmk : ∀ w : World, (Instr.makeSlice 30 (.int .i64 (n : Int)) (.int .i64 (n : Int))).run Tryz.prog w = .ok (.slice (some ⟨w.heap.size, 0, none⟩) n n) (w.alloc (.cells (madeCells #[.int .i64 0] n) 3)) := by
    intro w
    have := run_make (P := Tryz.prog) w 30 3 i0 (.int .i64 0) Tryz.underlying30 hi hz0 .i64 .i64 n n (by omega) (by omega) (by rw [hz2]; omega) (by omega)
    rw [hz1] at this
    simpa [Value.cells] using this
  clear hi hz0 hz1 hz2
  clear h1 h2
  obtain ⟨hk1, hk2, hn0, hn3⟩ : 1 ≤ (key : Int) ∧ (key : Int) ≤ 2147483646 ∧ 0 ≤ (n : Int) ∧ (n : Int) ≤ 256 := hb
  go_enter Tryz.func53, Tryz.ntmps53
  go_wp2
  have hrow : Row (w.alloc (.cells (madeCells #[.int .i64 0] n) 3)) w.heap.size (List.replicate n 0) := Row.newI w n
  have hbel : Below w.heap.size w (w.alloc (.cells (madeCells #[.int .i64 0] n) 3)) := (Below.refl _ _).alloc (Nat.le_refl _) _
  obtain ⟨g, hg⟩ : ∃ g, g = w.heap.size := ⟨_, rfl⟩
  rw [← hg] at hrow hbel ⊢
  generalize w.alloc (.cells (madeCells #[.int .i64 0] n) 3) = w1 at hrow hbel ⊢
  have Hg := Lib.hid hg
  clear hmk hg h3
  go_loopw [29] (fun i wr => ∃ k : Nat, k ≤ n ∧ i = .int .i64 k ∧ Row wr g (List.range k ++ List.replicate (n - k) 0) ∧ Below g w wr) (fun i _ => n - (intOf i).toNat)
  case atStart => exact ⟨0, by omega, rfl, by simpa using hrow, hbel⟩
  case round =>
    obtain ⟨k, hk, rfl, hr, hb⟩ := hrel
    by_cases hlt : k < n
    · obtain ⟨hc, hf⟩ := hr.at_ (j := k) (by simp; omega)
      go_wp2
      go_roundw
      case rel => exact ⟨k + 1, by omega, by go_num, by rw [← fill_set n k hlt]; exact hr.set_ (by simp; omega) k, hb.setCell (Nat.le_refl _) _⟩
      case measure => simp [intOf]; omega
    · have hkn : k = n := by omega
      go_wp2
      have hrow2 : Row wr g (List.range n) := by rw [hkn] at hr; simpa using hr
      have hbn : Below g w wr := hb
      obtain ⟨w2, hw2⟩ : ∃ w2, w2 = wr := ⟨_, rfl⟩
      rw [← hw2] at hrow2 hbn ⊢
      clear hr hb hkn hlt hrow hbel hk hw2
      go_loopw [8, 9] (fun x i wr => ∃ (iz : Int) (y : Nat) (l : List Nat), i = .int .i64 iz ∧ x = .int .i64 (y : Int) ∧ -1 ≤ iz ∧ iz < n ∧ y < 2147483647 ∧ l.length = n ∧ Row wr g l ∧ Below g w wr ∧ Hid (Sh.draws iz.toNat y l = Sh.order key n)) (fun _ i _ => (intOf i).toNat)
      case atStart => exact ⟨(n : Int) - 1, key, List.range n, rfl, rfl, by omega, by omega, by omega, by simp, hrow2, hbn, by
        rw [show ((n : Int) - 1).toNat = n - 1 from by omega]; exact Lib.hid rfl⟩
      case round =>
        obtain ⟨iz, y, l, rfl, rfl, hi1, hi2, hy, hl, hr, hb, hD⟩ := hrel
        by_cases h1 : 1 ≤ iz
        · obtain ⟨i, rfl⟩ : ∃ i : Nat, iz = (i : Int) + 1 := ⟨(iz - 1).toNat, by omega⟩
          have HD2 : Hid (Sh.draws (i + 1) y l = Sh.order key n) := by
            rw [show ((i : Int) + 1).toNat = i + 1 from by omega] at hD
            exact hD
          clear hD
          obtain ⟨j, hj, hj2⟩ : ∃ j : Nat, 69621 * (y : Int) % 2147483647 % ((i : Int) + 1 + 1) = (j : Int) ∧ j = Sh.nx y % (i + 2) := ⟨Sh.nx y % (i + 2), by rw [show (i : Int) + 1 + 1 = ((i + 2 : Nat) : Int) from by omega]; unfold Sh.nx; simp [Int.natCast_emod], rfl⟩
          have hjlt : j < i + 2 := by rw [hj2]; exact Nat.mod_lt _ (by omega)
          obtain ⟨ci, fi⟩ := hr.at_ (j := i + 1) (by omega)
          obtain ⟨cj, fj⟩ := hr.at_ (j := j) (by omega)
          obtain ⟨a, ha⟩ : ∃ a, l.getD (i + 1) 0 = a := ⟨_, rfl⟩
          obtain ⟨b, hb'⟩ : ∃ b, l.getD j 0 = b := ⟨_, rfl⟩
          rw [ha] at ci
          rw [hb'] at cj
          obtain ⟨v', cj'⟩ := cell?_setCell_some (p := ⟨g, i + 1, none⟩) (x := .int .i64 (b : Int)) cj
          have hjn : j < n := by omega
          have hRow : Row (((wr.setCell ⟨g, i + 1, none⟩ (.int .i64 (b : Int))).setCell ⟨g, j, none⟩ (.int .i64 (a : Int))).drew) g (Sh.swp l (i + 1) j) := by
            have h := ((hr.set_ (i := i + 1) (by omega) b).set_ (i := j) (by simp; omega) a).drew
            unfold Sh.swp
            rw [ha, hb']
            exact h
          have Hj := Lib.hid hj
          have Hj2 := Lib.hid hj2
          have Ha := Lib.hid ha
          have Hb := Lib.hid hb'
          have hl' := Lib.hid hl
          clear hl hj hj2 ha hb'
          go_wp2
          have hj3 := Hj.out
          rw [hj3]
          clear hj3
          go_region
          go_wp2
          go_roundw
          case rel => exact ⟨(i : Int), Sh.nx y, Sh.swp l (i + 1) j, by go_num, by unfold Sh.nx; simp [Int.natCast_emod], by omega, by omega, Sh.nx_lt y, by rw [Sh.swp_length]; exact hl'.out, hRow, ((hb.setCell (Nat.le_refl _) _).setCell (Nat.le_refl _) _).drew, by
            rw [← HD2.out, show ((i : Int)).toNat = i from by omega, Sh.draws, ← Hj2.out]; exact Lib.hid rfl⟩
          case measure => simp [intOf]
        · go_wp2
          go_ret2
          have hi0 : iz.toNat = 0 := by omega
          rw [hi0] at hD
          have hl2 : l = Sh.order key n := hD.out
          exact ⟨g, rfl, by rw [← hl2]; exact hr, Hg.out, by rw [← Hg.out]; exact hb⟩

set_option maxHeartbeats 400000 in
theorem draw_bad (key n : Int) (w : World) (h : key < 1 ∨ 2147483646 < key ∨ n < 0 ∨ 256 < n) :
    Calls Tryz.prog 53 #[.int .i64 key, .int .i64 n] w (RetPost (.tuple #[.slice none 0 0, .int .i64 3]) w) := by
  go_enter Tryz.func53, Tryz.ntmps53
  go_wp2
  all_goals first | (go_ret2; exact ⟨rfl, Below.refl _ _⟩) | (exfalso; omega)
end Go.Mk
