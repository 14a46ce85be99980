/-
  Proved: the two closures of arranged of package field: the number behind which a place stands, and how two places compare. Conditions: the closures' boxes hold what arranged lays there.
-/
import Derived.Test.YtclapdfkgafenaaGreatDoorFpk
import Derived.Test.YtclapdfkgafenaaGreatDoorFei
set_option linter.unusedVariables false
set_option linter.unusedSimpArgs false
open Go Go.Proofs Go.RowKit
set_option maxRecDepth 100000
namespace Go.Mk
def bhd (n : Nat) (p : Plc) : Int := if p.rk = 0 then (n : Int) + 1 else p.rk
set_option maxHeartbeats 2000000 in
theorem fdArrB_any (p : Plc) (b1 : Nat) (A : Option Addr) (n c : Nat) (hn : n ≤ 1000) (w : World) (hlt : b1 < w.heap.size) (hc : w.cell? ⟨b1, 0, none⟩ = some (.slice A n c)) :
    Calls Tryz.prog 99 #[.agg #[.string p.nm, .int .i64 p.rk, .string p.kd, .int .i64 p.vl, .string p.rs], .pointer (some ⟨b1, 0, none⟩)] w (RetPost (.int .i64 (bhd n p)) w) := by
  obtain ⟨n1, r1, k1, v1, t1⟩ := p
  obtain ⟨g, hg⟩ : ∃ g, w.heap.size = g := ⟨_, rfl⟩
  obtain ⟨w1, hw1⟩ : ∃ w1, w.alloc (.cells #[.string n1, .int .i64 r1, .string k1, .int .i64 v1, .string t1] 63) = w1 := ⟨_, rfl⟩
  have hb1 : Below w.heap.size w w1 := by rw [← hw1]; exact balloc _ (Below.refl _ _)
  have c1 : w1.cell? ⟨g, 1, none⟩ = some (.int .i64 r1) := by rw [← hw1, ← hg]; simp
  have cb : w1.cell? ⟨b1, 0, none⟩ = some (.slice A n c) := (hb1.cell (p := ⟨b1, 0, none⟩) hlt).trans hc
  have hni : (n : Int) ≤ 1000 := by omega
  unfold bhd
  dsimp only
  have HB := Lib.hid hb1
  clear hc hb1 hlt
  by_cases h0 : r1 = 0
  · rw [if_pos h0]
    subst h0
    go_enter Tryz.func99, Tryz.ntmps99
    go_wp2
    go_ret
    exact ⟨rfl, HB.out⟩
  · rw [if_neg h0]
    have hne : (r1 == 0) = false := by simp [h0]
    go_enter Tryz.func99, Tryz.ntmps99
    go_wp2
    go_ret
    exact ⟨rfl, HB.out⟩
def ArrH (w1 : World) (b2 b1 g : Nat) (p q : Plc) (w' : World) : Prop :=
  w'.cell? ⟨b2, 0, none⟩ = some (.func (.func 99) #[] #[.pointer (some ⟨b1, 0, none⟩)]) ∧
  w'.cell? ⟨g, 0, none⟩ = some (.string p.nm) ∧ w'.cell? ⟨g, 1, none⟩ = some (.int .i64 p.rk) ∧ w'.cell? ⟨g, 2, none⟩ = some (.string p.kd) ∧ w'.cell? ⟨g, 3, none⟩ = some (.int .i64 p.vl) ∧ w'.cell? ⟨g, 4, none⟩ = some (.string p.rs) ∧
  w'.cell? ⟨g + 1, 0, none⟩ = some (.string q.nm) ∧ w'.cell? ⟨g + 1, 1, none⟩ = some (.int .i64 q.rk) ∧ w'.cell? ⟨g + 1, 2, none⟩ = some (.string q.kd) ∧ w'.cell? ⟨g + 1, 3, none⟩ = some (.int .i64 q.vl) ∧ w'.cell? ⟨g + 1, 4, none⟩ = some (.string q.rs) ∧
  Below w1.heap.size w1 w'
set_option maxHeartbeats 4000000 in
theorem fdArrC_any (p q : Plc) (b2 b1 : Nat) (A : Option Addr) (n c : Nat) (hn : n ≤ 1000) (w : World) (h1 : b1 < w.heap.size) (h2 : b2 < w.heap.size) (hc1 : w.cell? ⟨b1, 0, none⟩ = some (.slice A n c))
    (hc2 : w.cell? ⟨b2, 0, none⟩ = some (.func (.func 99) #[] #[.pointer (some ⟨b1, 0, none⟩)])) :
    Calls Tryz.prog 102 #[p.val, q.val, .pointer (some ⟨b2, 0, none⟩)] w (RetPost (.int .i64 (cmpZ (bhd n p) (bhd n q))) w) := by
  unfold Plc.val
  obtain ⟨n1, r1, k1, v1, t1⟩ := p
  obtain ⟨n2, r2, k2, v2, t2⟩ := q
  dsimp only
  obtain ⟨g, hg⟩ : ∃ g, w.heap.size = g := ⟨_, rfl⟩
  obtain ⟨w1, hw1⟩ : ∃ w1, (w.alloc (.cells #[.string n1, .int .i64 r1, .string k1, .int .i64 v1, .string t1] 63)).alloc (.cells #[.string n2, .int .i64 r2, .string k2, .int .i64 v2, .string t2] 63) = w1 := ⟨_, rfl⟩
  have hb1 : Below w.heap.size w w1 := by rw [← hw1]; exact balloc _ (balloc _ (Below.refl _ _))
  have hs1 : w1.heap.size = g + 1 + 1 := by rw [← hw1, ← hg]; simp
  have x0 : w1.cell? ⟨g, 0, none⟩ = some (.string n1) := by rw [← hw1, ← hg]; simp
  have x1 : w1.cell? ⟨g, 1, none⟩ = some (.int .i64 r1) := by rw [← hw1, ← hg]; simp
  have x2 : w1.cell? ⟨g, 2, none⟩ = some (.string k1) := by rw [← hw1, ← hg]; simp
  have x3 : w1.cell? ⟨g, 3, none⟩ = some (.int .i64 v1) := by rw [← hw1, ← hg]; simp
  have x4 : w1.cell? ⟨g, 4, none⟩ = some (.string t1) := by rw [← hw1, ← hg]; simp
  have y0 : w1.cell? ⟨g + 1, 0, none⟩ = some (.string n2) := by rw [← hw1, ← hg]; simp
  have y1 : w1.cell? ⟨g + 1, 1, none⟩ = some (.int .i64 r2) := by rw [← hw1, ← hg]; simp
  have y2 : w1.cell? ⟨g + 1, 2, none⟩ = some (.string k2) := by rw [← hw1, ← hg]; simp
  have y3 : w1.cell? ⟨g + 1, 3, none⟩ = some (.int .i64 v2) := by rw [← hw1, ← hg]; simp
  have y4 : w1.cell? ⟨g + 1, 4, none⟩ = some (.string t2) := by rw [← hw1, ← hg]; simp
  have cb2 : w1.cell? ⟨b2, 0, none⟩ = some (.func (.func 99) #[] #[.pointer (some ⟨b1, 0, none⟩)]) := (hb1.cell (p := ⟨b2, 0, none⟩) h2).trans hc2
  have cb1 : w1.cell? ⟨b1, 0, none⟩ = some (.slice A n c) := (hb1.cell (p := ⟨b1, 0, none⟩) h1).trans hc1
  have HX : Hid (∀ w', Below w1.heap.size w1 w' → ArrH w1 b2 b1 g ⟨n1, r1, k1, v1, t1⟩ ⟨n2, r2, k2, v2, t2⟩ w') := Lib.hid fun w' hb =>
    ⟨(hb.cell (p := ⟨b2, 0, none⟩) (by show b2 < _; omega)).trans cb2,
     (hb.cell (p := ⟨g, 0, none⟩) (by show g < _; omega)).trans x0, (hb.cell (p := ⟨g, 1, none⟩) (by show g < _; omega)).trans x1, (hb.cell (p := ⟨g, 2, none⟩) (by show g < _; omega)).trans x2, (hb.cell (p := ⟨g, 3, none⟩) (by show g < _; omega)).trans x3, (hb.cell (p := ⟨g, 4, none⟩) (by show g < _; omega)).trans x4,
     (hb.cell (p := ⟨g + 1, 0, none⟩) (by show g + 1 < _; omega)).trans y0, (hb.cell (p := ⟨g + 1, 1, none⟩) (by show g + 1 < _; omega)).trans y1, (hb.cell (p := ⟨g + 1, 2, none⟩) (by show g + 1 < _; omega)).trans y2, (hb.cell (p := ⟨g + 1, 3, none⟩) (by show g + 1 < _; omega)).trans y3, (hb.cell (p := ⟨g + 1, 4, none⟩) (by show g + 1 < _; omega)).trans y4, hb⟩
  have HA : Hid (∀ w', Below w1.heap.size w1 w' → Calls Tryz.prog 99 #[.agg #[.string n1, .int .i64 r1, .string k1, .int .i64 v1, .string t1], .pointer (some ⟨b1, 0, none⟩)] w' (RetPost (.int .i64 (bhd n ⟨n1, r1, k1, v1, t1⟩)) w')) := Lib.hid fun w' hb =>
    fdArrB_any ⟨n1, r1, k1, v1, t1⟩ b1 A n c hn w' (by have := hb.size; omega) ((hb.cell (p := ⟨b1, 0, none⟩) (by show b1 < _; omega)).trans cb1)
  have HB : Hid (∀ w', Below w1.heap.size w1 w' → Calls Tryz.prog 99 #[.agg #[.string n2, .int .i64 r2, .string k2, .int .i64 v2, .string t2], .pointer (some ⟨b1, 0, none⟩)] w' (RetPost (.int .i64 (bhd n ⟨n2, r2, k2, v2, t2⟩)) w')) := Lib.hid fun w' hb =>
    fdArrB_any ⟨n2, r2, k2, v2, t2⟩ b1 A n c hn w' (by have := hb.size; omega) ((hb.cell (p := ⟨b1, 0, none⟩) (by show b1 < _; omega)).trans cb1)
  generalize bhd n ⟨n1, r1, k1, v1, t1⟩ = z1 at *
  generalize bhd n ⟨n2, r2, k2, v2, t2⟩ = z2 at *
  have HB1 := Lib.hid hb1
  clear x0 x1 x2 x3 x4 y0 y1 y2 y3 y4 cb1 cb2 hc1 hc2 hb1 h1 h2 hs1
  go_enter Tryz.func102, Tryz.ntmps102
  go_wp2_with fail
  try rw [hg]
  clear hw1
  unfold ArrH at HX
  refine wp_region_held_drew (S := ArrH w1 b2 b1 g ⟨n1, r1, k1, v1, t1⟩ ⟨n2, r2, k2, v2, t2⟩) (by kernel_rfl) ?_ (fun hHeld => ?_)
  · exact HX.out _ (Below.drew (Below.refl _ _))
  refine wpAnyH_take (i := 0) (oi := _) (v := ?_) rfl (by kernel_rfl) (by kernel_rfl) (by kernel_rfl) (fun _ _ _ h => h) (Or.inl ⟨by rfl, ?_⟩) (by assumption) ?_
  rotate_left
  · rintro w ⟨s0, s1, s2, s3, s4, s5, s6, s7, s8, s9, s10, s11⟩
    go_simp
    try with_reducible rfl
  try simp only [Act.put, zA1, zA2, zA3, zA4, zA5, zA6]
  refine wpAnyH_take (i := 1) (oi := _) (v := ?_) rfl (by kernel_rfl) (by kernel_rfl) (by kernel_rfl) (fun _ _ _ h => h) (Or.inl ⟨by rfl, ?_⟩) (by assumption) ?_
  rotate_left
  · rintro w ⟨s0, s1, s2, s3, s4, s5, s6, s7, s8, s9, s10, s11⟩
    go_simp
    try with_reducible rfl
  try simp only [Act.put, zA1, zA2, zA3, zA4, zA5, zA6]
  refine wpAnyH_take (i := 3) (oi := _) (v := ?_) rfl (by kernel_rfl) (by kernel_rfl) (by kernel_rfl) (fun _ _ _ h => h) (Or.inl ⟨by rfl, ?_⟩) (by assumption) ?_
  rotate_left
  · rintro w ⟨s0, s1, s2, s3, s4, s5, s6, s7, s8, s9, s10, s11⟩
    go_simp
    try with_reducible rfl
  try simp only [Act.put, zA1, zA2, zA3, zA4, zA5, zA6]
  refine wpAnyH_take (i := 4) (oi := _) (v := ?_) rfl (by kernel_rfl) (by kernel_rfl) (by kernel_rfl) (fun _ _ _ h => h) (Or.inl ⟨by rfl, ?_⟩) (by assumption) ?_
  rotate_left
  · rintro w ⟨s0, s1, s2, s3, s4, s5, s6, s7, s8, s9, s10, s11⟩
    go_simp
    try with_reducible rfl
  try simp only [Act.put, zA1, zA2, zA3, zA4, zA5, zA6]
  refine wpAnyH_ready (rs := [2]) (by kernel_rfl) (by simp) ?_
  refine AllReadyH.cons (o := _) rfl (fun K hKK => ?_) AllReadyH.nil
  go_simp
  go_at_call 99
  refine (HA.out _ hHeld.2.2.2.2.2.2.2.2.2.2.2).mono ?_
  rintro e w5 ⟨rfl, hb5⟩
  have hX := HX.out _ (bstep hHeld.2.2.2.2.2.2.2.2.2.2.2 hb5)
  clear hHeld hb5
  go_wp2_with fail
  refine hKK.out _ _ ?_ (fun hHeld => ?_)
  · exact hX
  clear hKK K
  try simp only [Act.put, zA1, zA2, zA3, zA4, zA5, zA6]
  clear hX
  refine wpAnyH_ready (rs := [5]) (by kernel_rfl) (by simp) ?_
  refine AllReadyH.cons (o := _) rfl (fun K hKK => ?_) AllReadyH.nil
  go_simp
  go_at_call 99
  refine (HB.out _ hHeld.2.2.2.2.2.2.2.2.2.2.2).mono ?_
  rintro e w5 ⟨rfl, hb5⟩
  have hX := HX.out _ (bstep hHeld.2.2.2.2.2.2.2.2.2.2.2 hb5)
  clear hHeld hb5
  go_wp2_with fail
  refine hKK.out _ _ ?_ (fun hHeld => ?_)
  · exact hX
  clear hKK K
  try simp only [Act.put, zA1, zA2, zA3, zA4, zA5, zA6]
  clear hX
  refine wpAnyH_ready (rs := [6]) (by kernel_rfl) (by simp) ?_
  refine AllReadyH.cons (o := _) rfl (fun K hKK => ?_) AllReadyH.nil
  go_simp
  go_at_call 103
  refine (cmpInt_any _ _ _).mono ?_
  rintro e w5 ⟨rfl, hb5⟩
  have hX := HX.out _ (bstep hHeld.2.2.2.2.2.2.2.2.2.2.2 hb5)
  clear hHeld hb5
  go_wp2_with fail
  refine hKK.out _ _ ?_ (fun hHeld => ?_)
  · exact hX
  clear hKK K
  try simp only [Act.put, zA1, zA2, zA3, zA4, zA5, zA6]
  clear hX
  refine wpAnyH_take (i := 7) (oi := _) (v := ?_) rfl (by kernel_rfl) (by kernel_rfl) (by kernel_rfl) (fun _ _ _ h => h) (Or.inl ⟨by rfl, ?_⟩) (by assumption) ?_
  rotate_left
  · rintro w ⟨s0, s1, s2, s3, s4, s5, s6, s7, s8, s9, s10, s11⟩
    go_simp
    try with_reducible rfl
  try simp only [Act.put, zA1, zA2, zA3, zA4, zA5, zA6]
  refine wpAnyH_done (by kernel_rfl) ?_ _
  have hX := hHeld.2.2.2.2.2.2.2.2.2.2.2
  go_wp2
  go_ret
  exact ⟨rfl, bstep HB1.out hX⟩
end Go.Mk
