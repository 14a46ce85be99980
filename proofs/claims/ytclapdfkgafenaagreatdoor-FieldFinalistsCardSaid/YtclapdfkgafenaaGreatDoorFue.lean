/-
  Proved: CheckOwn of the reference returns a plain function of the names and the rows. Conditions: the names and the rows lie where the slices say.
-/
import Derived.Test.YtclapdfkgafenaaGreatDoorFud
set_option linter.unusedVariables false
set_option linter.unusedSimpArgs false
open Go Go.Proofs Go.RowKit Go.Sort
set_option maxRecDepth 100000
namespace Go.Mk
def ownE (N : List ByteArray) (m : Int) (L : List RowR) : Int := if L.length = N.length then (if L.map (·.s) = N then (if m = 0 then 7 else 0) else 10) else 2
set_option maxHeartbeats 4000000 in
theorem r6CheckOwn_any (N : List ByteArray) (nN cN n cap : Nat) (AN A : Option Addr) (t f m : Int) (L : List RowR) (w : World) (hN : TextsZ w AN nN N) (hnN : nN ≤ 1000) (hZ : Rows w A n L) (hn : n ≤ 1000) :
    Calls Tryz.prog 20 #[.agg #[.slice AN nN cN, .int .i64 t, .int .i64 f, .int .i64 m], .slice A n cap] w (RetPost (.int .i64 (ownE N m L)) w) := by
  obtain ⟨bx, hbx⟩ : ∃ bx, w.heap.size = bx := ⟨_, rfl⟩
  obtain ⟨w1, hw1⟩ : ∃ w1, w.alloc (.cells #[.slice AN nN cN, .int .i64 t, .int .i64 f, .int .i64 m] 48) = w1 := ⟨_, rfl⟩
  have hb1 : Below w.heap.size w w1 := by rw [← hw1]; exact balloc _ (Below.refl _ _)
  have hx1 : bx < w1.heap.size := by rw [← hw1, ← hbx]; simp
  have k0 : w1.cell? ⟨bx, 0, none⟩ = some (.slice AN nN cN) := by rw [← hw1, ← hbx]; simp
  have k3 : w1.cell? ⟨bx, 3, none⟩ = some (.int .i64 m) := by rw [← hw1, ← hbx]; simp
  have hni : (n : Int) ≤ 1000 := by omega
  have H1 := Lib.hid (hZ.below hb1)
  have H2 := Lib.hid (hN.below hb1)
  have HL : Hid (L.length = n) := Lib.hid hZ.1
  have HN : Hid (N.length = nN) := Lib.hid hN.1
  have HB1 := Lib.hid hb1
  have HX := Lib.hid (And.intro hx1 (And.intro k0 k3))
  unfold ownE
  rw [HL.out, HN.out]
  by_cases hnm : n = nN
  · have hnmi : (n : Int) = (nN : Int) := by omega
    rw [if_pos hnm]
    have HNM := Lib.hid hnm
    obtain ⟨y, hy⟩ : ∃ y : Int, (if L.map (·.s) = N then (if m = 0 then 7 else 0) else 10) = y := ⟨_, rfl⟩
    rw [hy]
    have HY : Hid ((if (L.map (·.s)).drop 0 = N.drop 0 then (if m = 0 then (7 : Int) else 0) else 10) = y) := Lib.hid (by rw [← hy]; rfl)
    clear hN hZ hy hb1 hnm hx1 k3
    go_enter Tryz.func20, Tryz.ntmps20
    go_wp2
    go_loopw [5] (fun i wr => ∃ k : Nat, k ≤ n ∧ i = .int .i64 k ∧ Hid ((if (L.map (·.s)).drop k = N.drop k then (if m = 0 then (7 : Int) else 0) else 10) = y) ∧ Below w1.heap.size w1 wr) (fun i _ => n - (RowKit.intOf i).toNat)
    case atStart => exact ⟨0, by omega, rfl, HY, Below.refl _ _⟩
    case round =>
      obtain ⟨k, hk, rfl, HK, hb⟩ := hrel
      obtain ⟨hx1, _, k3⟩ := HX.out
      have z0 : wr.cell? ⟨bx, 0, none⟩ = some (.slice AN nN cN) := (hb.cell (p := ⟨bx, 0, none⟩) hx1).trans k0
      have z3 : wr.cell? ⟨bx, 3, none⟩ = some (.int .i64 m) := (hb.cell (p := ⟨bx, 3, none⟩) hx1).trans k3
      have HB := Lib.hid hb
      by_cases hlt : k < n
      · obtain ⟨p1, f1, r, rfl, _, q1, ⟨c1', _, _⟩, _, _⟩ := (H1.out.below hb).at_ hlt
        obtain ⟨p2, f2, x', rfl, _, q2, c2'⟩ := (H2.out.below hb).at_ (by rw [← HNM.out]; exact hlt)
        have hki : (k : Int) < (n : Int) := by omega
        have hk0 : (0 : Int) ≤ (k : Int) := by omega
        have hkt : ((k : Int)).toNat = k := by omega
        have hst := HK.out
        have q3 : (L.map (·.s))[k]? = some r.s := by rw [List.getElem?_map, q1]; rfl
        obtain ⟨e1, e1'⟩ := List.getElem?_eq_some_iff.1 q3
        obtain ⟨e2, e2'⟩ := List.getElem?_eq_some_iff.1 q2
        rw [List.drop_eq_getElem_cons e1, List.drop_eq_getElem_cons e2, e1', e2'] at hst
        obtain ⟨x, hx⟩ : ∃ x, r.s = x := ⟨_, rfl⟩
        rw [hx] at hst c1'
        clear q1 q2 q3 e1 e1' e2 e2' HK hx k0 k3 hb hx1
        by_cases hxx : x = x'
        · subst hxx
          have Hst : Hid ((if (L.map (·.s)).drop (k + 1) = N.drop (k + 1) then (if m = 0 then (7 : Int) else 0) else 10) = y) := Lib.hid (by rw [← hst]; simp)
          have gb : (x.toList == x.toList) = true := by simp
          clear hst H1 H2
          go_wp2_with fail
          go_quiet (fail)
          go_wp2
          exact ⟨⟨k + 1, by omega, by go_num, Hst, below_drewN HB.out _⟩, by simp [RowKit.intOf]; omega⟩
        · have gb : (x.toList == x'.toList) = false := tl_ne hxx
          rw [if_neg (fun q => hxx (List.cons.inj q).1)] at hst
          subst hst
          clear H1 H2
          go_wp2_with fail
          go_quiet (fail)
          go_wp2
          go_ret
          exact ⟨rfl, bstep HB1.out (below_drewN HB.out _)⟩
      · have h0 := HK.out
        rw [List.drop_eq_nil_of_le (by rw [List.length_map, HL.out]; omega), List.drop_eq_nil_of_le (by rw [HN.out, ← HNM.out]; omega), if_pos rfl] at h0
        clear HK hb k0 k3
        by_cases hm : m = 0
        · rw [if_pos hm] at h0
          subst h0 hm
          go_wp2
          go_ret
          exact ⟨rfl, bstep HB1.out HB.out⟩
        · rw [if_neg hm] at h0
          subst h0
          go_wp2
          go_ret
          exact ⟨rfl, bstep HB1.out HB.out⟩
  · have hnmi : ¬ (n : Int) = (nN : Int) := by omega
    rw [if_neg hnm]
    clear hN hZ hb1 hx1 k3
    go_enter Tryz.func20, Tryz.ntmps20
    go_wp2
    go_ret
    exact ⟨rfl, HB1.out⟩
end Go.Mk
