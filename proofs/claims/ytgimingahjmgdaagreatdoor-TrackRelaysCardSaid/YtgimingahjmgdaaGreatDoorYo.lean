/-
  Proved: the law TrackRelays returns true and leaves all that was there. Conditions: the tables that awake and the rational numbers read lie where the program lays them; the arguments lie where the slices say, and have no more bytes than memory.
-/
import Derived.Test.YtgimingahjmgdaaGreatDoorXaw
import Derived.Test.YtgimingahjmgdaaGreatDoorYm
import Derived.Test.YtgimingahjmgdaaGreatDoorNs
set_option linter.unusedVariables false
set_option linter.unusedSimpArgs false
open Go Go.Proofs Go.RowKit
set_option maxRecDepth 100000
namespace Go.Mk
set_option maxHeartbeats 1000000 in
theorem r7Short_any (A : Option Addr) (n cap : Nat) (z b : Int) (w : World) :
    Calls Tryz.prog 8 #[.agg #[.slice A n cap, .int .i64 z, .int .i64 b]] w (RetPost (.bool (decide ((n : Int) ≤ 11))) w) := by
  have hb0 : Below w.heap.size w (w.alloc (.cells #[.slice A n cap, .int .i64 z, .int .i64 b] 26)) := balloc _ (Below.refl _ _)
  go_enter Tryz.func8, Tryz.ntmps8
  go_wp2
  go_ret
  exact ⟨rfl, hb0⟩
/-- The two boxes of a relay that the law makes. -/
def RBox (W : World) (g h : Nat) (A : Option Addr) (n cap : Nat) (z b : Int) (w' : World) : Prop :=
  (w'.cell? ⟨g, 0, none⟩ = some (.slice A n cap) ∧ w'.cell? ⟨g, 1, none⟩ = some (.int .i64 z) ∧ w'.cell? ⟨g, 2, none⟩ = some (.int .i64 b)) ∧
  (w'.cell? ⟨h, 0, none⟩ = some (.slice A n cap) ∧ w'.cell? ⟨h, 1, none⟩ = some (.int .i64 z) ∧ w'.cell? ⟨h, 2, none⟩ = some (.int .i64 b)) ∧
  (g < w'.heap.size ∧ h < w'.heap.size) ∧ Below W.heap.size W w'
theorem RBox.next {W w w' : World} {g h : Nat} {A : Option Addr} {n cap : Nat} {z b : Int} (x : RBox W g h A n cap z b w) (hb : Below w.heap.size w w') : RBox W g h A n cap z b w' := by
  obtain ⟨⟨a0, a1, a2⟩, ⟨b0, b1, b2⟩, ⟨l0, l1⟩, hW⟩ := x
  exact ⟨⟨(hb.cell (p := ⟨g, _, none⟩) l0).trans a0, (hb.cell (p := ⟨g, _, none⟩) l0).trans a1, (hb.cell (p := ⟨g, _, none⟩) l0).trans a2⟩, ⟨(hb.cell (p := ⟨h, _, none⟩) l1).trans b0, (hb.cell (p := ⟨h, _, none⟩) l1).trans b1, (hb.cell (p := ⟨h, _, none⟩) l1).trans b2⟩, ⟨Nat.lt_of_lt_of_le l0 hb.size, Nat.lt_of_lt_of_le l1 hb.size⟩, bstep hW hb⟩
theorem set3 {w : World} {g : Nat} {x y z x' y' z' : Value} (h0 : w.cell? ⟨g, 0, none⟩ = some x') (h1 : w.cell? ⟨g, 1, none⟩ = some y') (h2 : w.cell? ⟨g, 2, none⟩ = some z') :
    (((w.setCell ⟨g, 0, none⟩ x).setCell ⟨g, 1, none⟩ y).setCell ⟨g, 2, none⟩ z).cell? ⟨g, 0, none⟩ = some x ∧ (((w.setCell ⟨g, 0, none⟩ x).setCell ⟨g, 1, none⟩ y).setCell ⟨g, 2, none⟩ z).cell? ⟨g, 1, none⟩ = some y ∧ (((w.setCell ⟨g, 0, none⟩ x).setCell ⟨g, 1, none⟩ y).setCell ⟨g, 2, none⟩ z).cell? ⟨g, 2, none⟩ = some z :=
  ⟨(World.cell?_setCell_other _ _ _ _ (by simp)).trans (set2 h0 h1).1, (World.cell?_setCell_other _ _ _ _ (by simp)).trans (set2 h0 h1).2, World.cell?_setCell_same _ _ _ ((World.cell?_setCell_other _ _ _ _ (by simp)).trans ((World.cell?_setCell_other _ _ _ _ (by simp)).trans h2))⟩
theorem crW_zero {G : List Int} {z b : Int} {L : List (Int × Int)} {f : Int} (hr : relW G z b = 0) (h : (crW G z b L f).2 = 0) : crW G z b L f = (0, 0) := by
  unfold crW at *
  rw [if_neg (by simp [hr])] at *
  unfold runW at *
  split at h
  · cases h
  · rename_i c1
    rw [if_neg c1]
    split at h
    · cases h
    · rename_i c2
      rw [if_neg c2]
      dsimp only at h ⊢
      split at h
      · rename_i c3; exact absurd h c3
      · rename_i c3
        rw [if_neg c3]
        split at h
        · cases h
        · rename_i c4; rw [if_neg c4]
set_option maxHeartbeats 16000000 in
theorem relays_ex1 (G : List Int) (n cap : Nat) (A : Option Addr) (z b : Int) (L : List (Int × Int)) (m cE : Nat) (E : Option Addr) (f : Int) (w : World)
    (hG : IntsZ w A n G) (hn : (n : Int) ≤ 9223372036854775807) (hc : n ≤ cap) (hE : Pairs w E m L) (hm : m * 16 ≤ 140737488355328) (ht : Tabs w) (hT : Gt w) (h1 : 11 < n) :
    Calls Tryz.prog 3 #[.agg #[.slice A n cap, .int .i64 z, .int .i64 b], .slice E m cE, .int .i64 f] w (Yes w) := by
  have h1i : ¬ (n : Int) ≤ 11 := by omega
  obtain ⟨w1, hw1⟩ : ∃ w1, w.alloc (.cells #[.slice A n cap, .int .i64 z, .int .i64 b] 24) = w1 := ⟨_, rfl⟩
  have hB1 : Below w.heap.size w w1 := by rw [← hw1]; exact balloc _ (Below.refl _ _)
  have hs1 : w1.heap.size = w.heap.size + 1 := by rw [← hw1]; simp
  have c0 : w1.cell? ⟨w.heap.size, 0, none⟩ = some (.slice A n cap) := by rw [← hw1]; simp
  have c1 : w1.cell? ⟨w.heap.size, 1, none⟩ = some (.int .i64 z) := by rw [← hw1]; simp
  have c2 : w1.cell? ⟨w.heap.size, 2, none⟩ = some (.int .i64 b) := by rw [← hw1]; simp
  have HS : Hid (∀ w', Below w1.heap.size w1 w' → w'.cell? ⟨w.heap.size, 0, none⟩ = some (.slice A n cap) ∧ w'.cell? ⟨w.heap.size, 1, none⟩ = some (.int .i64 z) ∧ w'.cell? ⟨w.heap.size, 2, none⟩ = some (.int .i64 b) ∧ Below w1.heap.size w1 w') := Lib.hid fun w' hb =>
    ⟨(hb.cell (p := ⟨w.heap.size, 0, none⟩) (by show w.heap.size < _; omega)).trans c0, (hb.cell (p := ⟨w.heap.size, 1, none⟩) (by show w.heap.size < _; omega)).trans c1, (hb.cell (p := ⟨w.heap.size, 2, none⟩) (by show w.heap.size < _; omega)).trans c2, hb⟩
  have HEx : Hid (∀ w', Below w1.heap.size w1 w' → Calls Tryz.prog 7 #[.slice E m cE] w' (fun e w'' => ∃ v, e = .returned v ∧ OwnEx w'' w'.heap.size v L ∧ Below w'.heap.size w' w'')) := Lib.hid fun w' hb => exchanges_any L m cE E w' ((hE.below hB1).below hb) hm
  have HAW : Hid (∀ w', Below w.heap.size w w' → Calls Tryz.prog 9 #[] w' (RetPost (.bool true) w')) := Lib.hid fun w' hb => aw w' (ht.grow hb)
  have HSR := Lib.hid fun w' => r7Short_any A n cap z b w'
  have HGw : Hid (∀ w', Below w.heap.size w w' → IntsZ w' A n G) := Lib.hid fun w' hb => hG.below hb
  have HEw : Hid (∀ w', Below w.heap.size w w' → Pairs w' E m L) := Lib.hid fun w' hb => hE.below hb
  have HTw : Hid (∀ w', Below w.heap.size w w' → Gt w') := Lib.hid fun w' hb => hT.below hb (Nat.le_refl _)
  have HB1 := Lib.hid hB1
  have HLm := Lib.hid hE.1
  have HGn := Lib.hid hG.1
  clear hG hE ht hT hB1 c0 c1 c2
  go_enter Tryz.func3, Tryz.ntmps3
  go_wp2_with fail
  clear hw1
  refine wp_region_held_drew (S := (fun w' => w'.cell? ⟨w.heap.size, 0, none⟩ = some (.slice A n cap) ∧ w'.cell? ⟨w.heap.size, 1, none⟩ = some (.int .i64 z) ∧ w'.cell? ⟨w.heap.size, 2, none⟩ = some (.int .i64 b) ∧ Below w1.heap.size w1 w')) (by kernel_rfl) ?_ (fun hHeld => ?_)
  · exact HS.out _ (Below.drew (Below.refl _ _))
  obtain ⟨wd, hwd⟩ : ∃ wd, World.drew w1 = wd := ⟨_, rfl⟩
  rw [hwd] at hHeld ⊢
  clear hwd
  refine wpAnyH_take (i := 0) (oi := _) (v := ?_) rfl (by kernel_rfl) (by kernel_rfl) (by kernel_rfl) (fun _ _ _ h => h) (Or.inl ⟨by kernel_rfl, ?_⟩) (by assumption) ?_
  rotate_left
  · rintro w ⟨s1, s2, s3, s4⟩
    go_simp
    try with_reducible rfl
  try simp only [Act.put, List.setIfInBounds_toArray, List.set_cons_zero, List.set_cons_succ, List.getElem_toArray, List.getElem_cons_zero, List.getElem_cons_succ]
  refine wpAnyH_take (i := 1) (oi := _) (v := ?_) rfl (by kernel_rfl) (by kernel_rfl) (by kernel_rfl) (fun _ _ _ h => h) (Or.inl ⟨by kernel_rfl, ?_⟩) (by assumption) ?_
  rotate_left
  · rintro w ⟨s1, s2, s3, s4⟩
    go_simp
    try with_reducible rfl
  try simp only [Act.put, List.setIfInBounds_toArray, List.set_cons_zero, List.set_cons_succ, List.getElem_toArray, List.getElem_cons_zero, List.getElem_cons_succ]
  refine wpAnyH_ready (rs := [2, 3]) (by kernel_rfl) (by simp) ?_
  refine AllReadyH.cons (o := _) rfl (fun K hKK => ?_) (AllReadyH.cons (o := _) rfl (fun K hKK => ?_) AllReadyH.nil)
  · skip
    go_simp
    go_at_call 7
    refine (HEx.out _ hHeld.2.2.2).mono ?_
    rintro e w2 ⟨v8, rfl, ho, hb2⟩
    have hNb := hHeld.2.2.2.trans (hb2.mono hHeld.2.2.2.size)
    clear hHeld hb2
    go_wp2_with fail
    refine hKK.out _ _ ?_ (fun hHeld => ?_)
    · exact HS.out _ hNb
    clear hKK K
    try simp only [Act.put, List.setIfInBounds_toArray, List.set_cons_zero, List.set_cons_succ, List.getElem_toArray, List.getElem_cons_zero, List.getElem_cons_succ]
    clear hNb
    refine wpAnyH_ready (rs := [3]) (by kernel_rfl) (by simp) ?_
    refine AllReadyH.cons (o := _) rfl (fun K hKK => ?_) AllReadyH.nil
    go_simp
    obtain ⟨g7, hg7⟩ : ∃ g7, w2.heap.size = g7 := ⟨_, rfl⟩
    obtain ⟨w3, hw3⟩ : ∃ w3, w2.alloc (.cells #[.slice none 0 0, .int .i64 0, .int .i64 0] 26) = w3 := ⟨_, rfl⟩
    have q0 : w3.cell? ⟨g7, 0, none⟩ = some (.slice none 0 0) := by rw [← hw3, ← hg7]; simp
    have r0 : w3.frozen? ⟨g7, 0, none⟩ = false := by rw [← hw3, ← hg7]; simp
    have q1 : w3.cell? ⟨g7, 1, none⟩ = some (.int .i64 0) := by rw [← hw3, ← hg7]; simp
    have r1 : w3.frozen? ⟨g7, 1, none⟩ = false := by rw [← hw3, ← hg7]; simp
    have q2 : w3.cell? ⟨g7, 2, none⟩ = some (.int .i64 0) := by rw [← hw3, ← hg7]; simp
    have r2 : w3.frozen? ⟨g7, 2, none⟩ = false := by rw [← hw3, ← hg7]; simp
    have hs3 : w3.heap.size = g7 + 1 := by rw [← hw3, ← hg7]; simp
    rw [hg7, hw3]
    have hg1 : w1.heap.size ≤ g7 := by rw [← hg7]; exact hHeld.2.2.2.size
    have hNb : Below w1.heap.size w1 w3 := by rw [← hw3]; exact hHeld.2.2.2.alloc (by omega) _
    have hb23 : Below w2.heap.size w2 w3 := by rw [← hw3]; exact balloc _ (Below.refl _ _)
    clear hHeld hw3
    refine hKK.out _ _ ?_ (fun hHeld => ?_)
    · exact HS.out _ hNb
    clear hKK K
    try simp only [Act.put, List.setIfInBounds_toArray, List.set_cons_zero, List.set_cons_succ, List.getElem_toArray, List.getElem_cons_zero, List.getElem_cons_succ]
    clear hNb
    refine wpAnyH_ready (rs := [4]) (by kernel_rfl) (by simp) ?_
    refine AllReadyH.cons (o := _) rfl (fun K hKK => ?_) AllReadyH.nil
    go_simp
    obtain ⟨w9, hw9⟩ : ∃ w9, ((w3.setCell ⟨g7, 0, none⟩ (.slice A n cap)).setCell ⟨g7, 1, none⟩ (.int .i64 z)).setCell ⟨g7, 2, none⟩ (.int .i64 b) = w9 := ⟨_, rfl⟩
    rw [hw9]
    have hs9 : w9.heap.size = w3.heap.size := by rw [← hw9]; simp
    have t0 : w9.cell? ⟨g7, 0, none⟩ = some (.slice A n cap) := by rw [← hw9]; exact (set3 q0 q1 q2).1
    have t1 : w9.cell? ⟨g7, 1, none⟩ = some (.int .i64 z) := by rw [← hw9]; exact (set3 q0 q1 q2).2.1
    have t2 : w9.cell? ⟨g7, 2, none⟩ = some (.int .i64 b) := by rw [← hw9]; exact (set3 q0 q1 q2).2.2
    have hNb : Below w1.heap.size w1 w9 := by rw [← hw9]; exact ((hHeld.2.2.2.setCell (p := ⟨g7, 0, none⟩) hg1 _).setCell (p := ⟨g7, 1, none⟩) hg1 _).setCell (p := ⟨g7, 2, none⟩) hg1 _
    have ho9 : OwnEx w9 wd.heap.size v8 L := own_belowN ho (by rw [← hw9]; exact ((hb23.setCell (p := ⟨g7, 0, none⟩) (by show w2.heap.size ≤ g7; omega) _).setCell (p := ⟨g7, 1, none⟩) (by show w2.heap.size ≤ g7; omega) _).setCell (p := ⟨g7, 2, none⟩) (by show w2.heap.size ≤ g7; omega) _)
    clear hHeld hw9 q0 q1 q2 r0 r1 r2 ho hb23 hg7
    refine hKK.out _ _ ?_ (fun hHeld => ?_)
    · exact HS.out _ hNb
    clear hKK K
    try simp only [Act.put, List.setIfInBounds_toArray, List.set_cons_zero, List.set_cons_succ, List.getElem_toArray, List.getElem_cons_zero, List.getElem_cons_succ]
    clear hNb
    refine wpAnyH_ready (rs := [5]) (by kernel_rfl) (by simp) ?_
    refine AllReadyH.cons (o := _) rfl (fun K hKK => ?_) AllReadyH.nil
    go_simp
    refine hKK.out _ _ ?_ (fun hHeld => ?_)
    · exact hHeld
    clear hKK K
    try simp only [Act.put, List.setIfInBounds_toArray, List.set_cons_zero, List.set_cons_succ, List.getElem_toArray, List.getElem_cons_zero, List.getElem_cons_succ]
    refine wpAnyH_done (by kernel_rfl) ?_ _
    have HR9 : Hid (RBox w w.heap.size g7 A n cap z b w9) := Lib.hid ⟨⟨hHeld.1, hHeld.2.1, hHeld.2.2.1⟩, ⟨t0, t1, t2⟩, ⟨by have := hHeld.2.2.2.size; omega, by omega⟩, HB1.out.trans (hHeld.2.2.2.mono (by omega))⟩
    obtain ⟨AY, cY, rfl, hPY, hnY⟩ := Pairs.of_ownE ho9
    rw [HLm.out] at hPY hnY ⊢
    have HPY : Hid (∀ w', Below w9.heap.size w9 w' → Pairs w' AY m L) := Lib.hid fun w' hb => hPY.below hb
    have HNY := Lib.hid hnY
    clear hHeld ho9 hPY hnY t0 t1 t2 hs9 hs3 hg1 HS HEx
    obtain ⟨⟨a0, a1, a2⟩, ⟨b0, b1, b2⟩, _, _⟩ := HR9.out
    go_wp2_with fail
    refine (HSR.out _).mono ?_
    rintro e w10 ⟨rfl, hb10⟩
    have HR10 := Lib.hid (HR9.out.next hb10)
    have HW10 : Hid (Below w9.heap.size w9 w10) := Lib.hid hb10
    clear a0 a1 a2 b0 b1 b2 hb10
    go_wp2_with fail
    refine (HAW.out _ HR10.out.2.2.2).mono ?_
    rintro e w90 ⟨rfl, hb90⟩
    have hfin := bstep HR10.out.2.2.2 hb90
    clear hb90
    go_wp2
    go_ret
    exact ⟨rfl, hfin⟩
  · skip
    go_simp
    obtain ⟨g7, hg7⟩ : ∃ g7, wd.heap.size = g7 := ⟨_, rfl⟩
    obtain ⟨w3, hw3⟩ : ∃ w3, wd.alloc (.cells #[.slice none 0 0, .int .i64 0, .int .i64 0] 26) = w3 := ⟨_, rfl⟩
    have q0 : w3.cell? ⟨g7, 0, none⟩ = some (.slice none 0 0) := by rw [← hw3, ← hg7]; simp
    have r0 : w3.frozen? ⟨g7, 0, none⟩ = false := by rw [← hw3, ← hg7]; simp
    have q1 : w3.cell? ⟨g7, 1, none⟩ = some (.int .i64 0) := by rw [← hw3, ← hg7]; simp
    have r1 : w3.frozen? ⟨g7, 1, none⟩ = false := by rw [← hw3, ← hg7]; simp
    have q2 : w3.cell? ⟨g7, 2, none⟩ = some (.int .i64 0) := by rw [← hw3, ← hg7]; simp
    have r2 : w3.frozen? ⟨g7, 2, none⟩ = false := by rw [← hw3, ← hg7]; simp
    have hs3 : w3.heap.size = g7 + 1 := by rw [← hw3, ← hg7]; simp
    rw [hg7, hw3]
    have hg1 : w1.heap.size ≤ g7 := by rw [← hg7]; exact hHeld.2.2.2.size
    have hNb : Below w1.heap.size w1 w3 := by rw [← hw3]; exact hHeld.2.2.2.alloc (by omega) _
    clear hHeld hw3
    refine hKK.out _ _ ?_ (fun hHeld => ?_)
    · exact HS.out _ hNb
    clear hKK K
    try simp only [Act.put, List.setIfInBounds_toArray, List.set_cons_zero, List.set_cons_succ, List.getElem_toArray, List.getElem_cons_zero, List.getElem_cons_succ]
    clear hNb
    refine wpAnyH_ready (rs := [2]) (by kernel_rfl) (by simp) ?_
    refine AllReadyH.cons (o := _) rfl (fun K hKK => ?_) AllReadyH.nil
    go_simp
    go_at_call 7
    refine (HEx.out _ hHeld.2.2.2).mono ?_
    rintro e w2 ⟨v8, rfl, ho, hb2⟩
    replace q0 := (hb2.cell (p := ⟨g7, 0, none⟩) (by show g7 < _; omega)).trans q0
    replace r0 := (hb2.frozen (p := ⟨g7, 0, none⟩) (by show g7 < _; omega)).trans r0
    replace q1 := (hb2.cell (p := ⟨g7, 1, none⟩) (by show g7 < _; omega)).trans q1
    replace r1 := (hb2.frozen (p := ⟨g7, 1, none⟩) (by show g7 < _; omega)).trans r1
    replace q2 := (hb2.cell (p := ⟨g7, 2, none⟩) (by show g7 < _; omega)).trans q2
    replace r2 := (hb2.frozen (p := ⟨g7, 2, none⟩) (by show g7 < _; omega)).trans r2
    have hs2 := hb2.size
    have hNb := hHeld.2.2.2.trans (hb2.mono hHeld.2.2.2.size)
    clear hHeld hb2
    go_wp2_with fail
    refine hKK.out _ _ ?_ (fun hHeld => ?_)
    · exact HS.out _ hNb
    clear hKK K
    try simp only [Act.put, List.setIfInBounds_toArray, List.set_cons_zero, List.set_cons_succ, List.getElem_toArray, List.getElem_cons_zero, List.getElem_cons_succ]
    clear hNb
    refine wpAnyH_ready (rs := [4]) (by kernel_rfl) (by simp) ?_
    refine AllReadyH.cons (o := _) rfl (fun K hKK => ?_) AllReadyH.nil
    go_simp
    obtain ⟨w9, hw9⟩ : ∃ w9, ((w2.setCell ⟨g7, 0, none⟩ (.slice A n cap)).setCell ⟨g7, 1, none⟩ (.int .i64 z)).setCell ⟨g7, 2, none⟩ (.int .i64 b) = w9 := ⟨_, rfl⟩
    rw [hw9]
    have hs9 : w9.heap.size = w2.heap.size := by rw [← hw9]; simp
    have t0 : w9.cell? ⟨g7, 0, none⟩ = some (.slice A n cap) := by rw [← hw9]; exact (set3 q0 q1 q2).1
    have t1 : w9.cell? ⟨g7, 1, none⟩ = some (.int .i64 z) := by rw [← hw9]; exact (set3 q0 q1 q2).2.1
    have t2 : w9.cell? ⟨g7, 2, none⟩ = some (.int .i64 b) := by rw [← hw9]; exact (set3 q0 q1 q2).2.2
    have hNb : Below w1.heap.size w1 w9 := by rw [← hw9]; exact ((hHeld.2.2.2.setCell (p := ⟨g7, 0, none⟩) hg1 _).setCell (p := ⟨g7, 1, none⟩) hg1 _).setCell (p := ⟨g7, 2, none⟩) hg1 _
    have ho9 : OwnEx w9 w3.heap.size v8 L := by rw [← hw9]; exact ownsRow_setCell_below (ownsRow_setCell_below (ownsRow_setCell_below ho (a := ⟨g7, 0, none⟩) (by show g7 < _; omega) _) (a := ⟨g7, 1, none⟩) (by show g7 < _; omega) _) (a := ⟨g7, 2, none⟩) (by show g7 < _; omega) _
    have hs99 : g7 < w9.heap.size := by omega
    clear hHeld hw9 q0 q1 q2 r0 r1 r2 ho hg7 hs2
    refine hKK.out _ _ ?_ (fun hHeld => ?_)
    · exact HS.out _ hNb
    clear hKK K
    try simp only [Act.put, List.setIfInBounds_toArray, List.set_cons_zero, List.set_cons_succ, List.getElem_toArray, List.getElem_cons_zero, List.getElem_cons_succ]
    clear hNb
    refine wpAnyH_ready (rs := [5]) (by kernel_rfl) (by simp) ?_
    refine AllReadyH.cons (o := _) rfl (fun K hKK => ?_) AllReadyH.nil
    go_simp
    refine hKK.out _ _ ?_ (fun hHeld => ?_)
    · exact hHeld
    clear hKK K
    try simp only [Act.put, List.setIfInBounds_toArray, List.set_cons_zero, List.set_cons_succ, List.getElem_toArray, List.getElem_cons_zero, List.getElem_cons_succ]
    refine wpAnyH_done (by kernel_rfl) ?_ _
    have HR9 : Hid (RBox w w.heap.size g7 A n cap z b w9) := Lib.hid ⟨⟨hHeld.1, hHeld.2.1, hHeld.2.2.1⟩, ⟨t0, t1, t2⟩, ⟨by have := hHeld.2.2.2.size; omega, by omega⟩, HB1.out.trans (hHeld.2.2.2.mono (by omega))⟩
    obtain ⟨AY, cY, rfl, hPY, hnY⟩ := Pairs.of_ownE ho9
    rw [HLm.out] at hPY hnY ⊢
    have HPY : Hid (∀ w', Below w9.heap.size w9 w' → Pairs w' AY m L) := Lib.hid fun w' hb => hPY.below hb
    have HNY := Lib.hid hnY
    clear hHeld ho9 hPY hnY t0 t1 t2 hs9 hs3 hg1 HS HEx
    obtain ⟨⟨a0, a1, a2⟩, ⟨b0, b1, b2⟩, _, _⟩ := HR9.out
    go_wp2_with fail
    refine (HSR.out _).mono ?_
    rintro e w10 ⟨rfl, hb10⟩
    have HR10 := Lib.hid (HR9.out.next hb10)
    have HW10 : Hid (Below w9.heap.size w9 w10) := Lib.hid hb10
    clear a0 a1 a2 b0 b1 b2 hb10
    go_wp2_with fail
    refine (HAW.out _ HR10.out.2.2.2).mono ?_
    rintro e w90 ⟨rfl, hb90⟩
    have hfin := bstep HR10.out.2.2.2 hb90
    clear hb90
    go_wp2
    go_ret
    exact ⟨rfl, hfin⟩
set_option maxHeartbeats 16000000 in
theorem relays_ex2 (G : List Int) (n cap : Nat) (A : Option Addr) (z b : Int) (L : List (Int × Int)) (m cE : Nat) (E : Option Addr) (f : Int) (w : World)
    (hG : IntsZ w A n G) (hn : (n : Int) ≤ 9223372036854775807) (hc : n ≤ cap) (hE : Pairs w E m L) (hm : m * 16 ≤ 140737488355328) (ht : Tabs w) (hT : Gt w) (h1 : n ≤ 11) (h2 : 12 < m) :
    Calls Tryz.prog 3 #[.agg #[.slice A n cap, .int .i64 z, .int .i64 b], .slice E m cE, .int .i64 f] w (Yes w) := by
  have h1i : (n : Int) ≤ 11 := by omega
  have h2i : (12 : Int) < (m : Int) := by omega
  obtain ⟨w1, hw1⟩ : ∃ w1, w.alloc (.cells #[.slice A n cap, .int .i64 z, .int .i64 b] 24) = w1 := ⟨_, rfl⟩
  have hB1 : Below w.heap.size w w1 := by rw [← hw1]; exact balloc _ (Below.refl _ _)
  have hs1 : w1.heap.size = w.heap.size + 1 := by rw [← hw1]; simp
  have c0 : w1.cell? ⟨w.heap.size, 0, none⟩ = some (.slice A n cap) := by rw [← hw1]; simp
  have c1 : w1.cell? ⟨w.heap.size, 1, none⟩ = some (.int .i64 z) := by rw [← hw1]; simp
  have c2 : w1.cell? ⟨w.heap.size, 2, none⟩ = some (.int .i64 b) := by rw [← hw1]; simp
  have HS : Hid (∀ w', Below w1.heap.size w1 w' → w'.cell? ⟨w.heap.size, 0, none⟩ = some (.slice A n cap) ∧ w'.cell? ⟨w.heap.size, 1, none⟩ = some (.int .i64 z) ∧ w'.cell? ⟨w.heap.size, 2, none⟩ = some (.int .i64 b) ∧ Below w1.heap.size w1 w') := Lib.hid fun w' hb =>
    ⟨(hb.cell (p := ⟨w.heap.size, 0, none⟩) (by show w.heap.size < _; omega)).trans c0, (hb.cell (p := ⟨w.heap.size, 1, none⟩) (by show w.heap.size < _; omega)).trans c1, (hb.cell (p := ⟨w.heap.size, 2, none⟩) (by show w.heap.size < _; omega)).trans c2, hb⟩
  have HEx : Hid (∀ w', Below w1.heap.size w1 w' → Calls Tryz.prog 7 #[.slice E m cE] w' (fun e w'' => ∃ v, e = .returned v ∧ OwnEx w'' w'.heap.size v L ∧ Below w'.heap.size w' w'')) := Lib.hid fun w' hb => exchanges_any L m cE E w' ((hE.below hB1).below hb) hm
  have HAW : Hid (∀ w', Below w.heap.size w w' → Calls Tryz.prog 9 #[] w' (RetPost (.bool true) w')) := Lib.hid fun w' hb => aw w' (ht.grow hb)
  have HSR := Lib.hid fun w' => r7Short_any A n cap z b w'
  have HGw : Hid (∀ w', Below w.heap.size w w' → IntsZ w' A n G) := Lib.hid fun w' hb => hG.below hb
  have HEw : Hid (∀ w', Below w.heap.size w w' → Pairs w' E m L) := Lib.hid fun w' hb => hE.below hb
  have HTw : Hid (∀ w', Below w.heap.size w w' → Gt w') := Lib.hid fun w' hb => hT.below hb (Nat.le_refl _)
  have HB1 := Lib.hid hB1
  have HLm := Lib.hid hE.1
  have HGn := Lib.hid hG.1
  clear hG hE ht hT hB1 c0 c1 c2
  go_enter Tryz.func3, Tryz.ntmps3
  go_wp2_with fail
  clear hw1
  refine wp_region_held_drew (S := (fun w' => w'.cell? ⟨w.heap.size, 0, none⟩ = some (.slice A n cap) ∧ w'.cell? ⟨w.heap.size, 1, none⟩ = some (.int .i64 z) ∧ w'.cell? ⟨w.heap.size, 2, none⟩ = some (.int .i64 b) ∧ Below w1.heap.size w1 w')) (by kernel_rfl) ?_ (fun hHeld => ?_)
  · exact HS.out _ (Below.drew (Below.refl _ _))
  obtain ⟨wd, hwd⟩ : ∃ wd, World.drew w1 = wd := ⟨_, rfl⟩
  rw [hwd] at hHeld ⊢
  clear hwd
  refine wpAnyH_take (i := 0) (oi := _) (v := ?_) rfl (by kernel_rfl) (by kernel_rfl) (by kernel_rfl) (fun _ _ _ h => h) (Or.inl ⟨by kernel_rfl, ?_⟩) (by assumption) ?_
  rotate_left
  · rintro w ⟨s1, s2, s3, s4⟩
    go_simp
    try with_reducible rfl
  try simp only [Act.put, List.setIfInBounds_toArray, List.set_cons_zero, List.set_cons_succ, List.getElem_toArray, List.getElem_cons_zero, List.getElem_cons_succ]
  refine wpAnyH_take (i := 1) (oi := _) (v := ?_) rfl (by kernel_rfl) (by kernel_rfl) (by kernel_rfl) (fun _ _ _ h => h) (Or.inl ⟨by kernel_rfl, ?_⟩) (by assumption) ?_
  rotate_left
  · rintro w ⟨s1, s2, s3, s4⟩
    go_simp
    try with_reducible rfl
  try simp only [Act.put, List.setIfInBounds_toArray, List.set_cons_zero, List.set_cons_succ, List.getElem_toArray, List.getElem_cons_zero, List.getElem_cons_succ]
  refine wpAnyH_ready (rs := [2, 3]) (by kernel_rfl) (by simp) ?_
  refine AllReadyH.cons (o := _) rfl (fun K hKK => ?_) (AllReadyH.cons (o := _) rfl (fun K hKK => ?_) AllReadyH.nil)
  · skip
    go_simp
    go_at_call 7
    refine (HEx.out _ hHeld.2.2.2).mono ?_
    rintro e w2 ⟨v8, rfl, ho, hb2⟩
    have hNb := hHeld.2.2.2.trans (hb2.mono hHeld.2.2.2.size)
    clear hHeld hb2
    go_wp2_with fail
    refine hKK.out _ _ ?_ (fun hHeld => ?_)
    · exact HS.out _ hNb
    clear hKK K
    try simp only [Act.put, List.setIfInBounds_toArray, List.set_cons_zero, List.set_cons_succ, List.getElem_toArray, List.getElem_cons_zero, List.getElem_cons_succ]
    clear hNb
    refine wpAnyH_ready (rs := [3]) (by kernel_rfl) (by simp) ?_
    refine AllReadyH.cons (o := _) rfl (fun K hKK => ?_) AllReadyH.nil
    go_simp
    obtain ⟨g7, hg7⟩ : ∃ g7, w2.heap.size = g7 := ⟨_, rfl⟩
    obtain ⟨w3, hw3⟩ : ∃ w3, w2.alloc (.cells #[.slice none 0 0, .int .i64 0, .int .i64 0] 26) = w3 := ⟨_, rfl⟩
    have q0 : w3.cell? ⟨g7, 0, none⟩ = some (.slice none 0 0) := by rw [← hw3, ← hg7]; simp
    have r0 : w3.frozen? ⟨g7, 0, none⟩ = false := by rw [← hw3, ← hg7]; simp
    have q1 : w3.cell? ⟨g7, 1, none⟩ = some (.int .i64 0) := by rw [← hw3, ← hg7]; simp
    have r1 : w3.frozen? ⟨g7, 1, none⟩ = false := by rw [← hw3, ← hg7]; simp
    have q2 : w3.cell? ⟨g7, 2, none⟩ = some (.int .i64 0) := by rw [← hw3, ← hg7]; simp
    have r2 : w3.frozen? ⟨g7, 2, none⟩ = false := by rw [← hw3, ← hg7]; simp
    have hs3 : w3.heap.size = g7 + 1 := by rw [← hw3, ← hg7]; simp
    rw [hg7, hw3]
    have hg1 : w1.heap.size ≤ g7 := by rw [← hg7]; exact hHeld.2.2.2.size
    have hNb : Below w1.heap.size w1 w3 := by rw [← hw3]; exact hHeld.2.2.2.alloc (by omega) _
    have hb23 : Below w2.heap.size w2 w3 := by rw [← hw3]; exact balloc _ (Below.refl _ _)
    clear hHeld hw3
    refine hKK.out _ _ ?_ (fun hHeld => ?_)
    · exact HS.out _ hNb
    clear hKK K
    try simp only [Act.put, List.setIfInBounds_toArray, List.set_cons_zero, List.set_cons_succ, List.getElem_toArray, List.getElem_cons_zero, List.getElem_cons_succ]
    clear hNb
    refine wpAnyH_ready (rs := [4]) (by kernel_rfl) (by simp) ?_
    refine AllReadyH.cons (o := _) rfl (fun K hKK => ?_) AllReadyH.nil
    go_simp
    obtain ⟨w9, hw9⟩ : ∃ w9, ((w3.setCell ⟨g7, 0, none⟩ (.slice A n cap)).setCell ⟨g7, 1, none⟩ (.int .i64 z)).setCell ⟨g7, 2, none⟩ (.int .i64 b) = w9 := ⟨_, rfl⟩
    rw [hw9]
    have hs9 : w9.heap.size = w3.heap.size := by rw [← hw9]; simp
    have t0 : w9.cell? ⟨g7, 0, none⟩ = some (.slice A n cap) := by rw [← hw9]; exact (set3 q0 q1 q2).1
    have t1 : w9.cell? ⟨g7, 1, none⟩ = some (.int .i64 z) := by rw [← hw9]; exact (set3 q0 q1 q2).2.1
    have t2 : w9.cell? ⟨g7, 2, none⟩ = some (.int .i64 b) := by rw [← hw9]; exact (set3 q0 q1 q2).2.2
    have hNb : Below w1.heap.size w1 w9 := by rw [← hw9]; exact ((hHeld.2.2.2.setCell (p := ⟨g7, 0, none⟩) hg1 _).setCell (p := ⟨g7, 1, none⟩) hg1 _).setCell (p := ⟨g7, 2, none⟩) hg1 _
    have ho9 : OwnEx w9 wd.heap.size v8 L := own_belowN ho (by rw [← hw9]; exact ((hb23.setCell (p := ⟨g7, 0, none⟩) (by show w2.heap.size ≤ g7; omega) _).setCell (p := ⟨g7, 1, none⟩) (by show w2.heap.size ≤ g7; omega) _).setCell (p := ⟨g7, 2, none⟩) (by show w2.heap.size ≤ g7; omega) _)
    clear hHeld hw9 q0 q1 q2 r0 r1 r2 ho hb23 hg7
    refine hKK.out _ _ ?_ (fun hHeld => ?_)
    · exact HS.out _ hNb
    clear hKK K
    try simp only [Act.put, List.setIfInBounds_toArray, List.set_cons_zero, List.set_cons_succ, List.getElem_toArray, List.getElem_cons_zero, List.getElem_cons_succ]
    clear hNb
    refine wpAnyH_ready (rs := [5]) (by kernel_rfl) (by simp) ?_
    refine AllReadyH.cons (o := _) rfl (fun K hKK => ?_) AllReadyH.nil
    go_simp
    refine hKK.out _ _ ?_ (fun hHeld => ?_)
    · exact hHeld
    clear hKK K
    try simp only [Act.put, List.setIfInBounds_toArray, List.set_cons_zero, List.set_cons_succ, List.getElem_toArray, List.getElem_cons_zero, List.getElem_cons_succ]
    refine wpAnyH_done (by kernel_rfl) ?_ _
    have HR9 : Hid (RBox w w.heap.size g7 A n cap z b w9) := Lib.hid ⟨⟨hHeld.1, hHeld.2.1, hHeld.2.2.1⟩, ⟨t0, t1, t2⟩, ⟨by have := hHeld.2.2.2.size; omega, by omega⟩, HB1.out.trans (hHeld.2.2.2.mono (by omega))⟩
    obtain ⟨AY, cY, rfl, hPY, hnY⟩ := Pairs.of_ownE ho9
    rw [HLm.out] at hPY hnY ⊢
    have HPY : Hid (∀ w', Below w9.heap.size w9 w' → Pairs w' AY m L) := Lib.hid fun w' hb => hPY.below hb
    have HNY := Lib.hid hnY
    clear hHeld ho9 hPY hnY t0 t1 t2 hs9 hs3 hg1 HS HEx
    obtain ⟨⟨a0, a1, a2⟩, ⟨b0, b1, b2⟩, _, _⟩ := HR9.out
    go_wp2_with fail
    refine (HSR.out _).mono ?_
    rintro e w10 ⟨rfl, hb10⟩
    have HR10 := Lib.hid (HR9.out.next hb10)
    have HW10 : Hid (Below w9.heap.size w9 w10) := Lib.hid hb10
    clear a0 a1 a2 b0 b1 b2 hb10
    go_wp2_with fail
    refine (HAW.out _ HR10.out.2.2.2).mono ?_
    rintro e w90 ⟨rfl, hb90⟩
    have hfin := bstep HR10.out.2.2.2 hb90
    clear hb90
    go_wp2
    go_ret
    exact ⟨rfl, hfin⟩
  · skip
    go_simp
    obtain ⟨g7, hg7⟩ : ∃ g7, wd.heap.size = g7 := ⟨_, rfl⟩
    obtain ⟨w3, hw3⟩ : ∃ w3, wd.alloc (.cells #[.slice none 0 0, .int .i64 0, .int .i64 0] 26) = w3 := ⟨_, rfl⟩
    have q0 : w3.cell? ⟨g7, 0, none⟩ = some (.slice none 0 0) := by rw [← hw3, ← hg7]; simp
    have r0 : w3.frozen? ⟨g7, 0, none⟩ = false := by rw [← hw3, ← hg7]; simp
    have q1 : w3.cell? ⟨g7, 1, none⟩ = some (.int .i64 0) := by rw [← hw3, ← hg7]; simp
    have r1 : w3.frozen? ⟨g7, 1, none⟩ = false := by rw [← hw3, ← hg7]; simp
    have q2 : w3.cell? ⟨g7, 2, none⟩ = some (.int .i64 0) := by rw [← hw3, ← hg7]; simp
    have r2 : w3.frozen? ⟨g7, 2, none⟩ = false := by rw [← hw3, ← hg7]; simp
    have hs3 : w3.heap.size = g7 + 1 := by rw [← hw3, ← hg7]; simp
    rw [hg7, hw3]
    have hg1 : w1.heap.size ≤ g7 := by rw [← hg7]; exact hHeld.2.2.2.size
    have hNb : Below w1.heap.size w1 w3 := by rw [← hw3]; exact hHeld.2.2.2.alloc (by omega) _
    clear hHeld hw3
    refine hKK.out _ _ ?_ (fun hHeld => ?_)
    · exact HS.out _ hNb
    clear hKK K
    try simp only [Act.put, List.setIfInBounds_toArray, List.set_cons_zero, List.set_cons_succ, List.getElem_toArray, List.getElem_cons_zero, List.getElem_cons_succ]
    clear hNb
    refine wpAnyH_ready (rs := [2]) (by kernel_rfl) (by simp) ?_
    refine AllReadyH.cons (o := _) rfl (fun K hKK => ?_) AllReadyH.nil
    go_simp
    go_at_call 7
    refine (HEx.out _ hHeld.2.2.2).mono ?_
    rintro e w2 ⟨v8, rfl, ho, hb2⟩
    replace q0 := (hb2.cell (p := ⟨g7, 0, none⟩) (by show g7 < _; omega)).trans q0
    replace r0 := (hb2.frozen (p := ⟨g7, 0, none⟩) (by show g7 < _; omega)).trans r0
    replace q1 := (hb2.cell (p := ⟨g7, 1, none⟩) (by show g7 < _; omega)).trans q1
    replace r1 := (hb2.frozen (p := ⟨g7, 1, none⟩) (by show g7 < _; omega)).trans r1
    replace q2 := (hb2.cell (p := ⟨g7, 2, none⟩) (by show g7 < _; omega)).trans q2
    replace r2 := (hb2.frozen (p := ⟨g7, 2, none⟩) (by show g7 < _; omega)).trans r2
    have hs2 := hb2.size
    have hNb := hHeld.2.2.2.trans (hb2.mono hHeld.2.2.2.size)
    clear hHeld hb2
    go_wp2_with fail
    refine hKK.out _ _ ?_ (fun hHeld => ?_)
    · exact HS.out _ hNb
    clear hKK K
    try simp only [Act.put, List.setIfInBounds_toArray, List.set_cons_zero, List.set_cons_succ, List.getElem_toArray, List.getElem_cons_zero, List.getElem_cons_succ]
    clear hNb
    refine wpAnyH_ready (rs := [4]) (by kernel_rfl) (by simp) ?_
    refine AllReadyH.cons (o := _) rfl (fun K hKK => ?_) AllReadyH.nil
    go_simp
    obtain ⟨w9, hw9⟩ : ∃ w9, ((w2.setCell ⟨g7, 0, none⟩ (.slice A n cap)).setCell ⟨g7, 1, none⟩ (.int .i64 z)).setCell ⟨g7, 2, none⟩ (.int .i64 b) = w9 := ⟨_, rfl⟩
    rw [hw9]
    have hs9 : w9.heap.size = w2.heap.size := by rw [← hw9]; simp
    have t0 : w9.cell? ⟨g7, 0, none⟩ = some (.slice A n cap) := by rw [← hw9]; exact (set3 q0 q1 q2).1
    have t1 : w9.cell? ⟨g7, 1, none⟩ = some (.int .i64 z) := by rw [← hw9]; exact (set3 q0 q1 q2).2.1
    have t2 : w9.cell? ⟨g7, 2, none⟩ = some (.int .i64 b) := by rw [← hw9]; exact (set3 q0 q1 q2).2.2
    have hNb : Below w1.heap.size w1 w9 := by rw [← hw9]; exact ((hHeld.2.2.2.setCell (p := ⟨g7, 0, none⟩) hg1 _).setCell (p := ⟨g7, 1, none⟩) hg1 _).setCell (p := ⟨g7, 2, none⟩) hg1 _
    have ho9 : OwnEx w9 w3.heap.size v8 L := by rw [← hw9]; exact ownsRow_setCell_below (ownsRow_setCell_below (ownsRow_setCell_below ho (a := ⟨g7, 0, none⟩) (by show g7 < _; omega) _) (a := ⟨g7, 1, none⟩) (by show g7 < _; omega) _) (a := ⟨g7, 2, none⟩) (by show g7 < _; omega) _
    have hs99 : g7 < w9.heap.size := by omega
    clear hHeld hw9 q0 q1 q2 r0 r1 r2 ho hg7 hs2
    refine hKK.out _ _ ?_ (fun hHeld => ?_)
    · exact HS.out _ hNb
    clear hKK K
    try simp only [Act.put, List.setIfInBounds_toArray, List.set_cons_zero, List.set_cons_succ, List.getElem_toArray, List.getElem_cons_zero, List.getElem_cons_succ]
    clear hNb
    refine wpAnyH_ready (rs := [5]) (by kernel_rfl) (by simp) ?_
    refine AllReadyH.cons (o := _) rfl (fun K hKK => ?_) AllReadyH.nil
    go_simp
    refine hKK.out _ _ ?_ (fun hHeld => ?_)
    · exact hHeld
    clear hKK K
    try simp only [Act.put, List.setIfInBounds_toArray, List.set_cons_zero, List.set_cons_succ, List.getElem_toArray, List.getElem_cons_zero, List.getElem_cons_succ]
    refine wpAnyH_done (by kernel_rfl) ?_ _
    have HR9 : Hid (RBox w w.heap.size g7 A n cap z b w9) := Lib.hid ⟨⟨hHeld.1, hHeld.2.1, hHeld.2.2.1⟩, ⟨t0, t1, t2⟩, ⟨by have := hHeld.2.2.2.size; omega, by omega⟩, HB1.out.trans (hHeld.2.2.2.mono (by omega))⟩
    obtain ⟨AY, cY, rfl, hPY, hnY⟩ := Pairs.of_ownE ho9
    rw [HLm.out] at hPY hnY ⊢
    have HPY : Hid (∀ w', Below w9.heap.size w9 w' → Pairs w' AY m L) := Lib.hid fun w' hb => hPY.below hb
    have HNY := Lib.hid hnY
    clear hHeld ho9 hPY hnY t0 t1 t2 hs9 hs3 hg1 HS HEx
    obtain ⟨⟨a0, a1, a2⟩, ⟨b0, b1, b2⟩, _, _⟩ := HR9.out
    go_wp2_with fail
    refine (HSR.out _).mono ?_
    rintro e w10 ⟨rfl, hb10⟩
    have HR10 := Lib.hid (HR9.out.next hb10)
    have HW10 : Hid (Below w9.heap.size w9 w10) := Lib.hid hb10
    clear a0 a1 a2 b0 b1 b2 hb10
    go_wp2_with fail
    refine (HAW.out _ HR10.out.2.2.2).mono ?_
    rintro e w90 ⟨rfl, hb90⟩
    have hfin := bstep HR10.out.2.2.2 hb90
    clear hb90
    go_wp2
    go_ret
    exact ⟨rfl, hfin⟩
set_option maxHeartbeats 16000000 in
theorem relays_A (G : List Int) (n cap : Nat) (A : Option Addr) (z b : Int) (L : List (Int × Int)) (m cE : Nat) (E : Option Addr) (f : Int) (w : World)
    (hG : IntsZ w A n G) (hn : (n : Int) ≤ 9223372036854775807) (hc : n ≤ cap) (hE : Pairs w E m L) (hm : m * 16 ≤ 140737488355328) (ht : Tabs w) (hT : Gt w) (h1 : n ≤ 11) (h2 : m ≤ 12) (h3 : relW G z b ≠ 0) :
    Calls Tryz.prog 3 #[.agg #[.slice A n cap, .int .i64 z, .int .i64 b], .slice E m cE, .int .i64 f] w (Yes w) := by
  have h1i : (n : Int) ≤ 11 := by omega
  have h2i : ¬ (12 : Int) < (m : Int) := by omega
  have h2j : (m : Int) ≤ 12 := by omega
  have HCR : Hid (∀ w', Below w.heap.size w w' → Calls Tryz.prog 10 #[.agg #[.slice A n cap, .int .i64 z, .int .i64 b]] w' (RetPost (.int .i64 (relW G z b)) w')) := Lib.hid fun w' hb => r7CheckRelay_any G n cap A z b w' (hG.below hb) hn
  have HTC : Hid (∀ w', Below w.heap.size w w' → Calls Tryz.prog 15 #[.agg #[.slice A n cap, .int .i64 z, .int .i64 b]] w' (RetPost (.int .i64 (relW G z b)) w')) := Lib.hid fun w' hb => trCheckRelay_any G n cap A z b w' (hG.below hb) hn hc
  have HRU : Hid (∀ w', Below w.heap.size w w' → Calls Tryz.prog 12 #[.agg #[.slice A n cap, .int .i64 z, .int .i64 b], .slice E m cE, .int .i64 f] w' (RetPost (.tuple #[.int .i64 (crW G z b L f).1, .int .i64 (crW G z b L f).2]) w')) := Lib.hid fun w' hb => trCheckRun_any G n cap A z b L m cE E f w' (hG.below hb) (by omega) hc (hE.below hb) (by omega)
  have HZO : Hid (∀ w', Below w.heap.size w w' → Calls Tryz.prog 11 #[.agg #[.slice A n cap, .int .i64 z, .int .i64 b]] w' (RetPost (.tuple #[.slice none 0 0, .int .i64 (relW G z b)]) w')) := Lib.hid fun w' hb => trZones_bad G n cap A z b w' (hG.below hb) hn hc h3
  have HLE : Hid (∀ w', Below w.heap.size w w' → Calls Tryz.prog 13 #[.agg #[.slice A n cap, .int .i64 z, .int .i64 b], .slice E m cE, .int .i64 f] w' (RetPost (.tuple #[.slice none 0 0, .int .i64 (crW G z b L f).2]) w')) := Lib.hid fun w' hb => trLegs_bad G n cap A z b L m cE E f w' (hG.below hb) (by omega) hc (hE.below hb) (by omega) (by unfold crW; rw [if_pos h3]; exact h3)
  have HSP : Hid (∀ w', Below w.heap.size w w' → Calls Tryz.prog 14 #[.agg #[.slice A n cap, .int .i64 z, .int .i64 b], .slice E m cE, .int .i64 f] w' (RetPost (.tuple #[.slice none 0 0, .int .i64 (crW G z b L f).2]) w')) := Lib.hid fun w' hb => trSplits_bad G n cap A z b L m cE E f w' (hG.below hb) (by omega) hc (hE.below hb) (by omega) (by unfold crW; rw [if_pos h3]; exact h3)
  have hcr : crW G z b L f = (0, relW G z b) := by unfold crW; rw [if_pos h3]
  rw [hcr] at HRU HLE HSP
  have hne : (relW G z b != 0) = true := by rw [bne_iff_ne]; exact h3
  have hez : (relW G z b == 0) = false := by rw [beq_eq_false_iff_ne]; exact h3
  have hee : (relW G z b != relW G z b) = false := by simp
  have hsz := fun w => sameZ_any [] none none 0 0 0 w (by decide) (ints_none w) (ints_none w)
  have hst := fun w => sameT_any [] none none 0 0 0 w (by decide) (texts_none w) (texts_none w)
  generalize relW G z b = rel at *
  clear hcr
  obtain ⟨w1, hw1⟩ : ∃ w1, w.alloc (.cells #[.slice A n cap, .int .i64 z, .int .i64 b] 24) = w1 := ⟨_, rfl⟩
  have hB1 : Below w.heap.size w w1 := by rw [← hw1]; exact balloc _ (Below.refl _ _)
  have hs1 : w1.heap.size = w.heap.size + 1 := by rw [← hw1]; simp
  have c0 : w1.cell? ⟨w.heap.size, 0, none⟩ = some (.slice A n cap) := by rw [← hw1]; simp
  have c1 : w1.cell? ⟨w.heap.size, 1, none⟩ = some (.int .i64 z) := by rw [← hw1]; simp
  have c2 : w1.cell? ⟨w.heap.size, 2, none⟩ = some (.int .i64 b) := by rw [← hw1]; simp
  have HS : Hid (∀ w', Below w1.heap.size w1 w' → w'.cell? ⟨w.heap.size, 0, none⟩ = some (.slice A n cap) ∧ w'.cell? ⟨w.heap.size, 1, none⟩ = some (.int .i64 z) ∧ w'.cell? ⟨w.heap.size, 2, none⟩ = some (.int .i64 b) ∧ Below w1.heap.size w1 w') := Lib.hid fun w' hb =>
    ⟨(hb.cell (p := ⟨w.heap.size, 0, none⟩) (by show w.heap.size < _; omega)).trans c0, (hb.cell (p := ⟨w.heap.size, 1, none⟩) (by show w.heap.size < _; omega)).trans c1, (hb.cell (p := ⟨w.heap.size, 2, none⟩) (by show w.heap.size < _; omega)).trans c2, hb⟩
  have HEx : Hid (∀ w', Below w1.heap.size w1 w' → Calls Tryz.prog 7 #[.slice E m cE] w' (fun e w'' => ∃ v, e = .returned v ∧ OwnEx w'' w'.heap.size v L ∧ Below w'.heap.size w' w'')) := Lib.hid fun w' hb => exchanges_any L m cE E w' ((hE.below hB1).below hb) hm
  have HAW : Hid (∀ w', Below w.heap.size w w' → Calls Tryz.prog 9 #[] w' (RetPost (.bool true) w')) := Lib.hid fun w' hb => aw w' (ht.grow hb)
  have HSR := Lib.hid fun w' => r7Short_any A n cap z b w'
  have HGw : Hid (∀ w', Below w.heap.size w w' → IntsZ w' A n G) := Lib.hid fun w' hb => hG.below hb
  have HEw : Hid (∀ w', Below w.heap.size w w' → Pairs w' E m L) := Lib.hid fun w' hb => hE.below hb
  have HTw : Hid (∀ w', Below w.heap.size w w' → Gt w') := Lib.hid fun w' hb => hT.below hb (Nat.le_refl _)
  have HB1 := Lib.hid hB1
  have HLm := Lib.hid hE.1
  have HGn := Lib.hid hG.1
  clear hG hE ht hT hB1 c0 c1 c2
  go_enter Tryz.func3, Tryz.ntmps3
  go_wp2_with fail
  clear hw1
  refine wp_region_held_drew (S := (fun w' => w'.cell? ⟨w.heap.size, 0, none⟩ = some (.slice A n cap) ∧ w'.cell? ⟨w.heap.size, 1, none⟩ = some (.int .i64 z) ∧ w'.cell? ⟨w.heap.size, 2, none⟩ = some (.int .i64 b) ∧ Below w1.heap.size w1 w')) (by kernel_rfl) ?_ (fun hHeld => ?_)
  · exact HS.out _ (Below.drew (Below.refl _ _))
  obtain ⟨wd, hwd⟩ : ∃ wd, World.drew w1 = wd := ⟨_, rfl⟩
  rw [hwd] at hHeld ⊢
  clear hwd
  refine wpAnyH_take (i := 0) (oi := _) (v := ?_) rfl (by kernel_rfl) (by kernel_rfl) (by kernel_rfl) (fun _ _ _ h => h) (Or.inl ⟨by kernel_rfl, ?_⟩) (by assumption) ?_
  rotate_left
  · rintro w ⟨s1, s2, s3, s4⟩
    go_simp
    try with_reducible rfl
  try simp only [Act.put, List.setIfInBounds_toArray, List.set_cons_zero, List.set_cons_succ, List.getElem_toArray, List.getElem_cons_zero, List.getElem_cons_succ]
  refine wpAnyH_take (i := 1) (oi := _) (v := ?_) rfl (by kernel_rfl) (by kernel_rfl) (by kernel_rfl) (fun _ _ _ h => h) (Or.inl ⟨by kernel_rfl, ?_⟩) (by assumption) ?_
  rotate_left
  · rintro w ⟨s1, s2, s3, s4⟩
    go_simp
    try with_reducible rfl
  try simp only [Act.put, List.setIfInBounds_toArray, List.set_cons_zero, List.set_cons_succ, List.getElem_toArray, List.getElem_cons_zero, List.getElem_cons_succ]
  refine wpAnyH_ready (rs := [2, 3]) (by kernel_rfl) (by simp) ?_
  refine AllReadyH.cons (o := _) rfl (fun K hKK => ?_) (AllReadyH.cons (o := _) rfl (fun K hKK => ?_) AllReadyH.nil)
  · skip
    go_simp
    go_at_call 7
    refine (HEx.out _ hHeld.2.2.2).mono ?_
    rintro e w2 ⟨v8, rfl, ho, hb2⟩
    have hNb := hHeld.2.2.2.trans (hb2.mono hHeld.2.2.2.size)
    clear hHeld hb2
    go_wp2_with fail
    refine hKK.out _ _ ?_ (fun hHeld => ?_)
    · exact HS.out _ hNb
    clear hKK K
    try simp only [Act.put, List.setIfInBounds_toArray, List.set_cons_zero, List.set_cons_succ, List.getElem_toArray, List.getElem_cons_zero, List.getElem_cons_succ]
    clear hNb
    refine wpAnyH_ready (rs := [3]) (by kernel_rfl) (by simp) ?_
    refine AllReadyH.cons (o := _) rfl (fun K hKK => ?_) AllReadyH.nil
    go_simp
    obtain ⟨g7, hg7⟩ : ∃ g7, w2.heap.size = g7 := ⟨_, rfl⟩
    obtain ⟨w3, hw3⟩ : ∃ w3, w2.alloc (.cells #[.slice none 0 0, .int .i64 0, .int .i64 0] 26) = w3 := ⟨_, rfl⟩
    have q0 : w3.cell? ⟨g7, 0, none⟩ = some (.slice none 0 0) := by rw [← hw3, ← hg7]; simp
    have r0 : w3.frozen? ⟨g7, 0, none⟩ = false := by rw [← hw3, ← hg7]; simp
    have q1 : w3.cell? ⟨g7, 1, none⟩ = some (.int .i64 0) := by rw [← hw3, ← hg7]; simp
    have r1 : w3.frozen? ⟨g7, 1, none⟩ = false := by rw [← hw3, ← hg7]; simp
    have q2 : w3.cell? ⟨g7, 2, none⟩ = some (.int .i64 0) := by rw [← hw3, ← hg7]; simp
    have r2 : w3.frozen? ⟨g7, 2, none⟩ = false := by rw [← hw3, ← hg7]; simp
    have hs3 : w3.heap.size = g7 + 1 := by rw [← hw3, ← hg7]; simp
    rw [hg7, hw3]
    have hg1 : w1.heap.size ≤ g7 := by rw [← hg7]; exact hHeld.2.2.2.size
    have hNb : Below w1.heap.size w1 w3 := by rw [← hw3]; exact hHeld.2.2.2.alloc (by omega) _
    have hb23 : Below w2.heap.size w2 w3 := by rw [← hw3]; exact balloc _ (Below.refl _ _)
    clear hHeld hw3
    refine hKK.out _ _ ?_ (fun hHeld => ?_)
    · exact HS.out _ hNb
    clear hKK K
    try simp only [Act.put, List.setIfInBounds_toArray, List.set_cons_zero, List.set_cons_succ, List.getElem_toArray, List.getElem_cons_zero, List.getElem_cons_succ]
    clear hNb
    refine wpAnyH_ready (rs := [4]) (by kernel_rfl) (by simp) ?_
    refine AllReadyH.cons (o := _) rfl (fun K hKK => ?_) AllReadyH.nil
    go_simp
    obtain ⟨w9, hw9⟩ : ∃ w9, ((w3.setCell ⟨g7, 0, none⟩ (.slice A n cap)).setCell ⟨g7, 1, none⟩ (.int .i64 z)).setCell ⟨g7, 2, none⟩ (.int .i64 b) = w9 := ⟨_, rfl⟩
    rw [hw9]
    have hs9 : w9.heap.size = w3.heap.size := by rw [← hw9]; simp
    have t0 : w9.cell? ⟨g7, 0, none⟩ = some (.slice A n cap) := by rw [← hw9]; exact (set3 q0 q1 q2).1
    have t1 : w9.cell? ⟨g7, 1, none⟩ = some (.int .i64 z) := by rw [← hw9]; exact (set3 q0 q1 q2).2.1
    have t2 : w9.cell? ⟨g7, 2, none⟩ = some (.int .i64 b) := by rw [← hw9]; exact (set3 q0 q1 q2).2.2
    have hNb : Below w1.heap.size w1 w9 := by rw [← hw9]; exact ((hHeld.2.2.2.setCell (p := ⟨g7, 0, none⟩) hg1 _).setCell (p := ⟨g7, 1, none⟩) hg1 _).setCell (p := ⟨g7, 2, none⟩) hg1 _
    have ho9 : OwnEx w9 wd.heap.size v8 L := own_belowN ho (by rw [← hw9]; exact ((hb23.setCell (p := ⟨g7, 0, none⟩) (by show w2.heap.size ≤ g7; omega) _).setCell (p := ⟨g7, 1, none⟩) (by show w2.heap.size ≤ g7; omega) _).setCell (p := ⟨g7, 2, none⟩) (by show w2.heap.size ≤ g7; omega) _)
    clear hHeld hw9 q0 q1 q2 r0 r1 r2 ho hb23 hg7
    refine hKK.out _ _ ?_ (fun hHeld => ?_)
    · exact HS.out _ hNb
    clear hKK K
    try simp only [Act.put, List.setIfInBounds_toArray, List.set_cons_zero, List.set_cons_succ, List.getElem_toArray, List.getElem_cons_zero, List.getElem_cons_succ]
    clear hNb
    refine wpAnyH_ready (rs := [5]) (by kernel_rfl) (by simp) ?_
    refine AllReadyH.cons (o := _) rfl (fun K hKK => ?_) AllReadyH.nil
    go_simp
    refine hKK.out _ _ ?_ (fun hHeld => ?_)
    · exact hHeld
    clear hKK K
    try simp only [Act.put, List.setIfInBounds_toArray, List.set_cons_zero, List.set_cons_succ, List.getElem_toArray, List.getElem_cons_zero, List.getElem_cons_succ]
    refine wpAnyH_done (by kernel_rfl) ?_ _
    have HR9 : Hid (RBox w w.heap.size g7 A n cap z b w9) := Lib.hid ⟨⟨hHeld.1, hHeld.2.1, hHeld.2.2.1⟩, ⟨t0, t1, t2⟩, ⟨by have := hHeld.2.2.2.size; omega, by omega⟩, HB1.out.trans (hHeld.2.2.2.mono (by omega))⟩
    obtain ⟨AY, cY, rfl, hPY, hnY⟩ := Pairs.of_ownE ho9
    rw [HLm.out] at hPY hnY ⊢
    have HPY : Hid (∀ w', Below w9.heap.size w9 w' → Pairs w' AY m L) := Lib.hid fun w' hb => hPY.below hb
    have HNY := Lib.hid hnY
    clear hHeld ho9 hPY hnY t0 t1 t2 hs9 hs3 hg1 HS HEx
    obtain ⟨⟨a0, a1, a2⟩, ⟨b0, b1, b2⟩, _, _⟩ := HR9.out
    go_wp2_with fail
    refine (HSR.out _).mono ?_
    rintro e w10 ⟨rfl, hb10⟩
    have HR10 := Lib.hid (HR9.out.next hb10)
    have HW10 : Hid (Below w9.heap.size w9 w10) := Lib.hid hb10
    clear a0 a1 a2 b0 b1 b2 hb10
    obtain ⟨⟨a0, a1, a2⟩, ⟨b0, b1, b2⟩, _, _⟩ := HR10.out
    go_wp2_with fail
    refine (HCR.out _ HR10.out.2.2.2).mono ?_
    rintro e w11 ⟨rfl, hb11⟩
    have HR11 := Lib.hid (HR10.out.next hb11)
    have HW11 := Lib.hid (bstep HW10.out hb11)
    clear a0 a1 a2 b0 b1 b2 hb11
    obtain ⟨⟨a0, a1, a2⟩, ⟨b0, b1, b2⟩, _, _⟩ := HR11.out
    go_wp2_with fail
    refine (HZO.out _ HR11.out.2.2.2).mono ?_
    rintro e w12 ⟨rfl, hb12⟩
    have HR12 := Lib.hid (HR11.out.next hb12)
    have HW12 := Lib.hid (bstep HW11.out hb12)
    clear a0 a1 a2 b0 b1 b2 hb12
    obtain ⟨⟨a0, a1, a2⟩, ⟨b0, b1, b2⟩, _, _⟩ := HR12.out
    go_wp2_with fail
    refine (HRU.out _ HR12.out.2.2.2).mono ?_
    rintro e w13 ⟨rfl, hb13⟩
    have HR13 := Lib.hid (HR12.out.next hb13)
    have HW13 := Lib.hid (bstep HW12.out hb13)
    clear a0 a1 a2 b0 b1 b2 hb13
    obtain ⟨⟨a0, a1, a2⟩, ⟨b0, b1, b2⟩, _, _⟩ := HR13.out
    go_wp2_with fail
    refine (HLE.out _ HR13.out.2.2.2).mono ?_
    rintro e w14 ⟨rfl, hb14⟩
    have HR14 := Lib.hid (HR13.out.next hb14)
    have HW14 := Lib.hid (bstep HW13.out hb14)
    clear a0 a1 a2 b0 b1 b2 hb14
    obtain ⟨⟨a0, a1, a2⟩, ⟨b0, b1, b2⟩, _, _⟩ := HR14.out
    go_wp2_with fail
    refine (HSP.out _ HR14.out.2.2.2).mono ?_
    rintro e w15 ⟨rfl, hb15⟩
    have HR15 := Lib.hid (HR14.out.next hb15)
    have HW15 := Lib.hid (bstep HW14.out hb15)
    clear a0 a1 a2 b0 b1 b2 hb15
    obtain ⟨⟨a0, a1, a2⟩, ⟨b0, b1, b2⟩, _, _⟩ := HR15.out
    go_wp2_with fail
    refine (HTC.out _ HR15.out.2.2.2).mono ?_
    rintro e w16 ⟨rfl, hb16⟩
    have HR16 := Lib.hid (HR15.out.next hb16)
    have HW16 := Lib.hid (bstep HW15.out hb16)
    clear a0 a1 a2 b0 b1 b2 hb16
    go_wp2
    go_loopw [110] (fun i wr => i = .int .i64 0 ∧ Below w16.heap.size w16 wr) (fun i _ => 0)
    case atStart => exact ⟨rfl, Below.refl _ _⟩
    case round =>
      obtain ⟨rfl, hbl⟩ := hrel
      have HR17 := Lib.hid (HR16.out.next hbl)
      clear hbl
      go_wp2_with fail
      refine (hsz _).mono ?_
      rintro e w18 ⟨rfl, hb18⟩
      have HR18 := Lib.hid (HR17.out.next hb18)
      clear hb18
      go_wp2_with fail
      refine (hst _).mono ?_
      rintro e w19 ⟨rfl, hb19⟩
      have HR19 := Lib.hid (HR18.out.next hb19)
      clear hb19
      go_wp2_with fail
      refine (HAW.out _ HR19.out.2.2.2).mono ?_
      rintro e w90 ⟨rfl, hb90⟩
      have hfin := bstep HR19.out.2.2.2 hb90
      clear hb90
      go_wp2
      go_ret
      exact ⟨rfl, hfin⟩
  · skip
    go_simp
    obtain ⟨g7, hg7⟩ : ∃ g7, wd.heap.size = g7 := ⟨_, rfl⟩
    obtain ⟨w3, hw3⟩ : ∃ w3, wd.alloc (.cells #[.slice none 0 0, .int .i64 0, .int .i64 0] 26) = w3 := ⟨_, rfl⟩
    have q0 : w3.cell? ⟨g7, 0, none⟩ = some (.slice none 0 0) := by rw [← hw3, ← hg7]; simp
    have r0 : w3.frozen? ⟨g7, 0, none⟩ = false := by rw [← hw3, ← hg7]; simp
    have q1 : w3.cell? ⟨g7, 1, none⟩ = some (.int .i64 0) := by rw [← hw3, ← hg7]; simp
    have r1 : w3.frozen? ⟨g7, 1, none⟩ = false := by rw [← hw3, ← hg7]; simp
    have q2 : w3.cell? ⟨g7, 2, none⟩ = some (.int .i64 0) := by rw [← hw3, ← hg7]; simp
    have r2 : w3.frozen? ⟨g7, 2, none⟩ = false := by rw [← hw3, ← hg7]; simp
    have hs3 : w3.heap.size = g7 + 1 := by rw [← hw3, ← hg7]; simp
    rw [hg7, hw3]
    have hg1 : w1.heap.size ≤ g7 := by rw [← hg7]; exact hHeld.2.2.2.size
    have hNb : Below w1.heap.size w1 w3 := by rw [← hw3]; exact hHeld.2.2.2.alloc (by omega) _
    clear hHeld hw3
    refine hKK.out _ _ ?_ (fun hHeld => ?_)
    · exact HS.out _ hNb
    clear hKK K
    try simp only [Act.put, List.setIfInBounds_toArray, List.set_cons_zero, List.set_cons_succ, List.getElem_toArray, List.getElem_cons_zero, List.getElem_cons_succ]
    clear hNb
    refine wpAnyH_ready (rs := [2]) (by kernel_rfl) (by simp) ?_
    refine AllReadyH.cons (o := _) rfl (fun K hKK => ?_) AllReadyH.nil
    go_simp
    go_at_call 7
    refine (HEx.out _ hHeld.2.2.2).mono ?_
    rintro e w2 ⟨v8, rfl, ho, hb2⟩
    replace q0 := (hb2.cell (p := ⟨g7, 0, none⟩) (by show g7 < _; omega)).trans q0
    replace r0 := (hb2.frozen (p := ⟨g7, 0, none⟩) (by show g7 < _; omega)).trans r0
    replace q1 := (hb2.cell (p := ⟨g7, 1, none⟩) (by show g7 < _; omega)).trans q1
    replace r1 := (hb2.frozen (p := ⟨g7, 1, none⟩) (by show g7 < _; omega)).trans r1
    replace q2 := (hb2.cell (p := ⟨g7, 2, none⟩) (by show g7 < _; omega)).trans q2
    replace r2 := (hb2.frozen (p := ⟨g7, 2, none⟩) (by show g7 < _; omega)).trans r2
    have hs2 := hb2.size
    have hNb := hHeld.2.2.2.trans (hb2.mono hHeld.2.2.2.size)
    clear hHeld hb2
    go_wp2_with fail
    refine hKK.out _ _ ?_ (fun hHeld => ?_)
    · exact HS.out _ hNb
    clear hKK K
    try simp only [Act.put, List.setIfInBounds_toArray, List.set_cons_zero, List.set_cons_succ, List.getElem_toArray, List.getElem_cons_zero, List.getElem_cons_succ]
    clear hNb
    refine wpAnyH_ready (rs := [4]) (by kernel_rfl) (by simp) ?_
    refine AllReadyH.cons (o := _) rfl (fun K hKK => ?_) AllReadyH.nil
    go_simp
    obtain ⟨w9, hw9⟩ : ∃ w9, ((w2.setCell ⟨g7, 0, none⟩ (.slice A n cap)).setCell ⟨g7, 1, none⟩ (.int .i64 z)).setCell ⟨g7, 2, none⟩ (.int .i64 b) = w9 := ⟨_, rfl⟩
    rw [hw9]
    have hs9 : w9.heap.size = w2.heap.size := by rw [← hw9]; simp
    have t0 : w9.cell? ⟨g7, 0, none⟩ = some (.slice A n cap) := by rw [← hw9]; exact (set3 q0 q1 q2).1
    have t1 : w9.cell? ⟨g7, 1, none⟩ = some (.int .i64 z) := by rw [← hw9]; exact (set3 q0 q1 q2).2.1
    have t2 : w9.cell? ⟨g7, 2, none⟩ = some (.int .i64 b) := by rw [← hw9]; exact (set3 q0 q1 q2).2.2
    have hNb : Below w1.heap.size w1 w9 := by rw [← hw9]; exact ((hHeld.2.2.2.setCell (p := ⟨g7, 0, none⟩) hg1 _).setCell (p := ⟨g7, 1, none⟩) hg1 _).setCell (p := ⟨g7, 2, none⟩) hg1 _
    have ho9 : OwnEx w9 w3.heap.size v8 L := by rw [← hw9]; exact ownsRow_setCell_below (ownsRow_setCell_below (ownsRow_setCell_below ho (a := ⟨g7, 0, none⟩) (by show g7 < _; omega) _) (a := ⟨g7, 1, none⟩) (by show g7 < _; omega) _) (a := ⟨g7, 2, none⟩) (by show g7 < _; omega) _
    have hs99 : g7 < w9.heap.size := by omega
    clear hHeld hw9 q0 q1 q2 r0 r1 r2 ho hg7 hs2
    refine hKK.out _ _ ?_ (fun hHeld => ?_)
    · exact HS.out _ hNb
    clear hKK K
    try simp only [Act.put, List.setIfInBounds_toArray, List.set_cons_zero, List.set_cons_succ, List.getElem_toArray, List.getElem_cons_zero, List.getElem_cons_succ]
    clear hNb
    refine wpAnyH_ready (rs := [5]) (by kernel_rfl) (by simp) ?_
    refine AllReadyH.cons (o := _) rfl (fun K hKK => ?_) AllReadyH.nil
    go_simp
    refine hKK.out _ _ ?_ (fun hHeld => ?_)
    · exact hHeld
    clear hKK K
    try simp only [Act.put, List.setIfInBounds_toArray, List.set_cons_zero, List.set_cons_succ, List.getElem_toArray, List.getElem_cons_zero, List.getElem_cons_succ]
    refine wpAnyH_done (by kernel_rfl) ?_ _
    have HR9 : Hid (RBox w w.heap.size g7 A n cap z b w9) := Lib.hid ⟨⟨hHeld.1, hHeld.2.1, hHeld.2.2.1⟩, ⟨t0, t1, t2⟩, ⟨by have := hHeld.2.2.2.size; omega, by omega⟩, HB1.out.trans (hHeld.2.2.2.mono (by omega))⟩
    obtain ⟨AY, cY, rfl, hPY, hnY⟩ := Pairs.of_ownE ho9
    rw [HLm.out] at hPY hnY ⊢
    have HPY : Hid (∀ w', Below w9.heap.size w9 w' → Pairs w' AY m L) := Lib.hid fun w' hb => hPY.below hb
    have HNY := Lib.hid hnY
    clear hHeld ho9 hPY hnY t0 t1 t2 hs9 hs3 hg1 HS HEx
    obtain ⟨⟨a0, a1, a2⟩, ⟨b0, b1, b2⟩, _, _⟩ := HR9.out
    go_wp2_with fail
    refine (HSR.out _).mono ?_
    rintro e w10 ⟨rfl, hb10⟩
    have HR10 := Lib.hid (HR9.out.next hb10)
    have HW10 : Hid (Below w9.heap.size w9 w10) := Lib.hid hb10
    clear a0 a1 a2 b0 b1 b2 hb10
    obtain ⟨⟨a0, a1, a2⟩, ⟨b0, b1, b2⟩, _, _⟩ := HR10.out
    go_wp2_with fail
    refine (HCR.out _ HR10.out.2.2.2).mono ?_
    rintro e w11 ⟨rfl, hb11⟩
    have HR11 := Lib.hid (HR10.out.next hb11)
    have HW11 := Lib.hid (bstep HW10.out hb11)
    clear a0 a1 a2 b0 b1 b2 hb11
    obtain ⟨⟨a0, a1, a2⟩, ⟨b0, b1, b2⟩, _, _⟩ := HR11.out
    go_wp2_with fail
    refine (HZO.out _ HR11.out.2.2.2).mono ?_
    rintro e w12 ⟨rfl, hb12⟩
    have HR12 := Lib.hid (HR11.out.next hb12)
    have HW12 := Lib.hid (bstep HW11.out hb12)
    clear a0 a1 a2 b0 b1 b2 hb12
    obtain ⟨⟨a0, a1, a2⟩, ⟨b0, b1, b2⟩, _, _⟩ := HR12.out
    go_wp2_with fail
    refine (HRU.out _ HR12.out.2.2.2).mono ?_
    rintro e w13 ⟨rfl, hb13⟩
    have HR13 := Lib.hid (HR12.out.next hb13)
    have HW13 := Lib.hid (bstep HW12.out hb13)
    clear a0 a1 a2 b0 b1 b2 hb13
    obtain ⟨⟨a0, a1, a2⟩, ⟨b0, b1, b2⟩, _, _⟩ := HR13.out
    go_wp2_with fail
    refine (HLE.out _ HR13.out.2.2.2).mono ?_
    rintro e w14 ⟨rfl, hb14⟩
    have HR14 := Lib.hid (HR13.out.next hb14)
    have HW14 := Lib.hid (bstep HW13.out hb14)
    clear a0 a1 a2 b0 b1 b2 hb14
    obtain ⟨⟨a0, a1, a2⟩, ⟨b0, b1, b2⟩, _, _⟩ := HR14.out
    go_wp2_with fail
    refine (HSP.out _ HR14.out.2.2.2).mono ?_
    rintro e w15 ⟨rfl, hb15⟩
    have HR15 := Lib.hid (HR14.out.next hb15)
    have HW15 := Lib.hid (bstep HW14.out hb15)
    clear a0 a1 a2 b0 b1 b2 hb15
    obtain ⟨⟨a0, a1, a2⟩, ⟨b0, b1, b2⟩, _, _⟩ := HR15.out
    go_wp2_with fail
    refine (HTC.out _ HR15.out.2.2.2).mono ?_
    rintro e w16 ⟨rfl, hb16⟩
    have HR16 := Lib.hid (HR15.out.next hb16)
    have HW16 := Lib.hid (bstep HW15.out hb16)
    clear a0 a1 a2 b0 b1 b2 hb16
    go_wp2
    go_loopw [110] (fun i wr => i = .int .i64 0 ∧ Below w16.heap.size w16 wr) (fun i _ => 0)
    case atStart => exact ⟨rfl, Below.refl _ _⟩
    case round =>
      obtain ⟨rfl, hbl⟩ := hrel
      have HR17 := Lib.hid (HR16.out.next hbl)
      clear hbl
      go_wp2_with fail
      refine (hsz _).mono ?_
      rintro e w18 ⟨rfl, hb18⟩
      have HR18 := Lib.hid (HR17.out.next hb18)
      clear hb18
      go_wp2_with fail
      refine (hst _).mono ?_
      rintro e w19 ⟨rfl, hb19⟩
      have HR19 := Lib.hid (HR18.out.next hb19)
      clear hb19
      go_wp2_with fail
      refine (HAW.out _ HR19.out.2.2.2).mono ?_
      rintro e w90 ⟨rfl, hb90⟩
      have hfin := bstep HR19.out.2.2.2 hb90
      clear hb90
      go_wp2
      go_ret
      exact ⟨rfl, hfin⟩
set_option maxHeartbeats 16000000 in
theorem relays_B (G : List Int) (n cap : Nat) (A : Option Addr) (z b : Int) (L : List (Int × Int)) (m cE : Nat) (E : Option Addr) (f : Int) (w : World)
    (hG : IntsZ w A n G) (hn : (n : Int) ≤ 9223372036854775807) (hc : n ≤ cap) (hE : Pairs w E m L) (hm : m * 16 ≤ 140737488355328) (ht : Tabs w) (hT : Gt w) (h1 : n ≤ 11) (h2 : m ≤ 12) (h3 : relW G z b = 0) (h4 : (crW G z b L f).2 ≠ 0) :
    Calls Tryz.prog 3 #[.agg #[.slice A n cap, .int .i64 z, .int .i64 b], .slice E m cE, .int .i64 f] w (Yes w) := by
  have h1i : (n : Int) ≤ 11 := by omega
  have h2i : ¬ (12 : Int) < (m : Int) := by omega
  have h2j : (m : Int) ≤ 12 := by omega
  obtain ⟨zl, hnz, hz1, hz7⟩ := relW_len h3
  rw [hG.1] at hnz
  have hGl : G.length - 1 = zl := by rw [hG.1]; omega
  have HCR : Hid (∀ w', Below w.heap.size w w' → Calls Tryz.prog 10 #[.agg #[.slice A n cap, .int .i64 z, .int .i64 b]] w' (RetPost (.int .i64 (relW G z b)) w')) := Lib.hid fun w' hb => r7CheckRelay_any G n cap A z b w' (hG.below hb) hn
  have HTC : Hid (∀ w', Below w.heap.size w w' → Calls Tryz.prog 15 #[.agg #[.slice A n cap, .int .i64 z, .int .i64 b]] w' (RetPost (.int .i64 (relW G z b)) w')) := Lib.hid fun w' hb => trCheckRelay_any G n cap A z b w' (hG.below hb) hn hc
  have HRU : Hid (∀ w', Below w.heap.size w w' → Calls Tryz.prog 12 #[.agg #[.slice A n cap, .int .i64 z, .int .i64 b], .slice E m cE, .int .i64 f] w' (RetPost (.tuple #[.int .i64 (crW G z b L f).1, .int .i64 (crW G z b L f).2]) w')) := Lib.hid fun w' hb => trCheckRun_any G n cap A z b L m cE E f w' (hG.below hb) (by omega) hc (hE.below hb) (by omega)
  have HZO : Hid (∀ w', Below w.heap.size w w' → Calls Tryz.prog 11 #[.agg #[.slice A n cap, .int .i64 z, .int .i64 b]] w' (fun e w'' => ∃ v B, e = .returned (.tuple #[v, .int .i64 0]) ∧ w'.heap.size ≤ B ∧ OwnPairs w'' B v (zonesW z b (G.take zl) 0) ∧ Below w'.heap.size w' w'')) := Lib.hid fun w' hb => by subst hnz; exact trZones_ok G zl cap A z b w' (hG.below hb) (by omega) hc h3
  have HRZ : Hid (∀ w', Below w.heap.size w w' → Calls Tryz.prog 16 #[.agg #[.slice A n cap, .int .i64 z, .int .i64 b]] w' (fun e w'' => ∃ v, e = .returned v ∧ OwnPairs w'' (w'.heap.size + 1) v (zonesW z b (G.take zl) 0) ∧ Below w'.heap.size w' w'')) := Lib.hid fun w' hb => by subst hnz; exact r7Zones_any G zl cap A z b w' (hG.below hb) (by omega)
  have hcr : crW G z b L f = runW L (zonesW z b (G.take zl) 0) f := by unfold crW; rw [if_neg (by simp [h3]), hGl]
  have HRR : Hid (∀ (w' : World) (AY : Option Addr) (cY : Nat), Below w.heap.size w w' → Pairs w' AY m L → Calls Tryz.prog 17 #[.agg #[.slice A n cap, .int .i64 z, .int .i64 b], .slice AY m cY, .int .i64 f] w' (RetPost (.tuple #[.int .i64 (crW G z b L f).1, .int .i64 (crW G z b L f).2]) w')) := Lib.hid fun w' AY cY hb hY => by subst hnz; rw [hcr]; exact r7CheckRun_any G zl cap A z b L m cY AY f w' (hG.below hb) (by omega) hY (by omega) hz1
  have hZl : (zonesW z b (G.take zl) 0).length = zl := by rw [← hGl]; exact zonesT_len z b G
  obtain ⟨Z, hZ⟩ : ∃ Z, zonesW z b (G.take zl) 0 = Z := ⟨_, rfl⟩
  rw [hZ] at HZO HRZ hZl
  have HZL := Lib.hid hZl
  clear hZ hcr hZl hGl
  have HLE : Hid (∀ w', Below w.heap.size w w' → Calls Tryz.prog 13 #[.agg #[.slice A n cap, .int .i64 z, .int .i64 b], .slice E m cE, .int .i64 f] w' (RetPost (.tuple #[.slice none 0 0, .int .i64 (crW G z b L f).2]) w')) := Lib.hid fun w' hb => trLegs_bad G n cap A z b L m cE E f w' (hG.below hb) (by omega) hc (hE.below hb) (by omega) h4
  have HSP : Hid (∀ w', Below w.heap.size w w' → Calls Tryz.prog 14 #[.agg #[.slice A n cap, .int .i64 z, .int .i64 b], .slice E m cE, .int .i64 f] w' (RetPost (.tuple #[.slice none 0 0, .int .i64 (crW G z b L f).2]) w')) := Lib.hid fun w' hb => trSplits_bad G n cap A z b L m cE E f w' (hG.below hb) (by omega) hc (hE.below hb) (by omega) h4
  have HNZ := Lib.hid hnz
  clear hnz
  obtain ⟨ca, hca⟩ : ∃ x, (crW G z b L f).1 = x := ⟨_, rfl⟩
  obtain ⟨ce, hce⟩ : ∃ x, (crW G z b L f).2 = x := ⟨_, rfl⟩
  rw [hca, hce] at HRU HRR
  rw [hce] at HLE HSP h4
  rw [h3] at HCR HTC
  have hne : (ce != 0) = true := by rw [bne_iff_ne]; exact h4
  have hez : (ce == 0) = false := by rw [beq_eq_false_iff_ne]; exact h4
  have hee : (ce != ce) = false := by simp
  have hsz := fun w => sameZ_any [] none none 0 0 0 w (by decide) (ints_none w) (ints_none w)
  have hst := fun w => sameT_any [] none none 0 0 0 w (by decide) (texts_none w) (texts_none w)
  clear hca hce
  obtain ⟨w1, hw1⟩ : ∃ w1, w.alloc (.cells #[.slice A n cap, .int .i64 z, .int .i64 b] 24) = w1 := ⟨_, rfl⟩
  have hB1 : Below w.heap.size w w1 := by rw [← hw1]; exact balloc _ (Below.refl _ _)
  have hs1 : w1.heap.size = w.heap.size + 1 := by rw [← hw1]; simp
  have c0 : w1.cell? ⟨w.heap.size, 0, none⟩ = some (.slice A n cap) := by rw [← hw1]; simp
  have c1 : w1.cell? ⟨w.heap.size, 1, none⟩ = some (.int .i64 z) := by rw [← hw1]; simp
  have c2 : w1.cell? ⟨w.heap.size, 2, none⟩ = some (.int .i64 b) := by rw [← hw1]; simp
  have HS : Hid (∀ w', Below w1.heap.size w1 w' → w'.cell? ⟨w.heap.size, 0, none⟩ = some (.slice A n cap) ∧ w'.cell? ⟨w.heap.size, 1, none⟩ = some (.int .i64 z) ∧ w'.cell? ⟨w.heap.size, 2, none⟩ = some (.int .i64 b) ∧ Below w1.heap.size w1 w') := Lib.hid fun w' hb =>
    ⟨(hb.cell (p := ⟨w.heap.size, 0, none⟩) (by show w.heap.size < _; omega)).trans c0, (hb.cell (p := ⟨w.heap.size, 1, none⟩) (by show w.heap.size < _; omega)).trans c1, (hb.cell (p := ⟨w.heap.size, 2, none⟩) (by show w.heap.size < _; omega)).trans c2, hb⟩
  have HEx : Hid (∀ w', Below w1.heap.size w1 w' → Calls Tryz.prog 7 #[.slice E m cE] w' (fun e w'' => ∃ v, e = .returned v ∧ OwnEx w'' w'.heap.size v L ∧ Below w'.heap.size w' w'')) := Lib.hid fun w' hb => exchanges_any L m cE E w' ((hE.below hB1).below hb) hm
  have HAW : Hid (∀ w', Below w.heap.size w w' → Calls Tryz.prog 9 #[] w' (RetPost (.bool true) w')) := Lib.hid fun w' hb => aw w' (ht.grow hb)
  have HSR := Lib.hid fun w' => r7Short_any A n cap z b w'
  have HGw : Hid (∀ w', Below w.heap.size w w' → IntsZ w' A n G) := Lib.hid fun w' hb => hG.below hb
  have HEw : Hid (∀ w', Below w.heap.size w w' → Pairs w' E m L) := Lib.hid fun w' hb => hE.below hb
  have HTw : Hid (∀ w', Below w.heap.size w w' → Gt w') := Lib.hid fun w' hb => hT.below hb (Nat.le_refl _)
  have HB1 := Lib.hid hB1
  have HLm := Lib.hid hE.1
  have HGn := Lib.hid hG.1
  clear hG hE ht hT hB1 c0 c1 c2
  go_enter Tryz.func3, Tryz.ntmps3
  go_wp2_with fail
  clear hw1
  refine wp_region_held_drew (S := (fun w' => w'.cell? ⟨w.heap.size, 0, none⟩ = some (.slice A n cap) ∧ w'.cell? ⟨w.heap.size, 1, none⟩ = some (.int .i64 z) ∧ w'.cell? ⟨w.heap.size, 2, none⟩ = some (.int .i64 b) ∧ Below w1.heap.size w1 w')) (by kernel_rfl) ?_ (fun hHeld => ?_)
  · exact HS.out _ (Below.drew (Below.refl _ _))
  obtain ⟨wd, hwd⟩ : ∃ wd, World.drew w1 = wd := ⟨_, rfl⟩
  rw [hwd] at hHeld ⊢
  clear hwd
  refine wpAnyH_take (i := 0) (oi := _) (v := ?_) rfl (by kernel_rfl) (by kernel_rfl) (by kernel_rfl) (fun _ _ _ h => h) (Or.inl ⟨by kernel_rfl, ?_⟩) (by assumption) ?_
  rotate_left
  · rintro w ⟨s1, s2, s3, s4⟩
    go_simp
    try with_reducible rfl
  try simp only [Act.put, List.setIfInBounds_toArray, List.set_cons_zero, List.set_cons_succ, List.getElem_toArray, List.getElem_cons_zero, List.getElem_cons_succ]
  refine wpAnyH_take (i := 1) (oi := _) (v := ?_) rfl (by kernel_rfl) (by kernel_rfl) (by kernel_rfl) (fun _ _ _ h => h) (Or.inl ⟨by kernel_rfl, ?_⟩) (by assumption) ?_
  rotate_left
  · rintro w ⟨s1, s2, s3, s4⟩
    go_simp
    try with_reducible rfl
  try simp only [Act.put, List.setIfInBounds_toArray, List.set_cons_zero, List.set_cons_succ, List.getElem_toArray, List.getElem_cons_zero, List.getElem_cons_succ]
  refine wpAnyH_ready (rs := [2, 3]) (by kernel_rfl) (by simp) ?_
  refine AllReadyH.cons (o := _) rfl (fun K hKK => ?_) (AllReadyH.cons (o := _) rfl (fun K hKK => ?_) AllReadyH.nil)
  · skip
    go_simp
    go_at_call 7
    refine (HEx.out _ hHeld.2.2.2).mono ?_
    rintro e w2 ⟨v8, rfl, ho, hb2⟩
    have hNb := hHeld.2.2.2.trans (hb2.mono hHeld.2.2.2.size)
    clear hHeld hb2
    go_wp2_with fail
    refine hKK.out _ _ ?_ (fun hHeld => ?_)
    · exact HS.out _ hNb
    clear hKK K
    try simp only [Act.put, List.setIfInBounds_toArray, List.set_cons_zero, List.set_cons_succ, List.getElem_toArray, List.getElem_cons_zero, List.getElem_cons_succ]
    clear hNb
    refine wpAnyH_ready (rs := [3]) (by kernel_rfl) (by simp) ?_
    refine AllReadyH.cons (o := _) rfl (fun K hKK => ?_) AllReadyH.nil
    go_simp
    obtain ⟨g7, hg7⟩ : ∃ g7, w2.heap.size = g7 := ⟨_, rfl⟩
    obtain ⟨w3, hw3⟩ : ∃ w3, w2.alloc (.cells #[.slice none 0 0, .int .i64 0, .int .i64 0] 26) = w3 := ⟨_, rfl⟩
    have q0 : w3.cell? ⟨g7, 0, none⟩ = some (.slice none 0 0) := by rw [← hw3, ← hg7]; simp
    have r0 : w3.frozen? ⟨g7, 0, none⟩ = false := by rw [← hw3, ← hg7]; simp
    have q1 : w3.cell? ⟨g7, 1, none⟩ = some (.int .i64 0) := by rw [← hw3, ← hg7]; simp
    have r1 : w3.frozen? ⟨g7, 1, none⟩ = false := by rw [← hw3, ← hg7]; simp
    have q2 : w3.cell? ⟨g7, 2, none⟩ = some (.int .i64 0) := by rw [← hw3, ← hg7]; simp
    have r2 : w3.frozen? ⟨g7, 2, none⟩ = false := by rw [← hw3, ← hg7]; simp
    have hs3 : w3.heap.size = g7 + 1 := by rw [← hw3, ← hg7]; simp
    rw [hg7, hw3]
    have hg1 : w1.heap.size ≤ g7 := by rw [← hg7]; exact hHeld.2.2.2.size
    have hNb : Below w1.heap.size w1 w3 := by rw [← hw3]; exact hHeld.2.2.2.alloc (by omega) _
    have hb23 : Below w2.heap.size w2 w3 := by rw [← hw3]; exact balloc _ (Below.refl _ _)
    clear hHeld hw3
    refine hKK.out _ _ ?_ (fun hHeld => ?_)
    · exact HS.out _ hNb
    clear hKK K
    try simp only [Act.put, List.setIfInBounds_toArray, List.set_cons_zero, List.set_cons_succ, List.getElem_toArray, List.getElem_cons_zero, List.getElem_cons_succ]
    clear hNb
    refine wpAnyH_ready (rs := [4]) (by kernel_rfl) (by simp) ?_
    refine AllReadyH.cons (o := _) rfl (fun K hKK => ?_) AllReadyH.nil
    go_simp
    obtain ⟨w9, hw9⟩ : ∃ w9, ((w3.setCell ⟨g7, 0, none⟩ (.slice A n cap)).setCell ⟨g7, 1, none⟩ (.int .i64 z)).setCell ⟨g7, 2, none⟩ (.int .i64 b) = w9 := ⟨_, rfl⟩
    rw [hw9]
    have hs9 : w9.heap.size = w3.heap.size := by rw [← hw9]; simp
    have t0 : w9.cell? ⟨g7, 0, none⟩ = some (.slice A n cap) := by rw [← hw9]; exact (set3 q0 q1 q2).1
    have t1 : w9.cell? ⟨g7, 1, none⟩ = some (.int .i64 z) := by rw [← hw9]; exact (set3 q0 q1 q2).2.1
    have t2 : w9.cell? ⟨g7, 2, none⟩ = some (.int .i64 b) := by rw [← hw9]; exact (set3 q0 q1 q2).2.2
    have hNb : Below w1.heap.size w1 w9 := by rw [← hw9]; exact ((hHeld.2.2.2.setCell (p := ⟨g7, 0, none⟩) hg1 _).setCell (p := ⟨g7, 1, none⟩) hg1 _).setCell (p := ⟨g7, 2, none⟩) hg1 _
    have ho9 : OwnEx w9 wd.heap.size v8 L := own_belowN ho (by rw [← hw9]; exact ((hb23.setCell (p := ⟨g7, 0, none⟩) (by show w2.heap.size ≤ g7; omega) _).setCell (p := ⟨g7, 1, none⟩) (by show w2.heap.size ≤ g7; omega) _).setCell (p := ⟨g7, 2, none⟩) (by show w2.heap.size ≤ g7; omega) _)
    clear hHeld hw9 q0 q1 q2 r0 r1 r2 ho hb23 hg7
    refine hKK.out _ _ ?_ (fun hHeld => ?_)
    · exact HS.out _ hNb
    clear hKK K
    try simp only [Act.put, List.setIfInBounds_toArray, List.set_cons_zero, List.set_cons_succ, List.getElem_toArray, List.getElem_cons_zero, List.getElem_cons_succ]
    clear hNb
    refine wpAnyH_ready (rs := [5]) (by kernel_rfl) (by simp) ?_
    refine AllReadyH.cons (o := _) rfl (fun K hKK => ?_) AllReadyH.nil
    go_simp
    refine hKK.out _ _ ?_ (fun hHeld => ?_)
    · exact hHeld
    clear hKK K
    try simp only [Act.put, List.setIfInBounds_toArray, List.set_cons_zero, List.set_cons_succ, List.getElem_toArray, List.getElem_cons_zero, List.getElem_cons_succ]
    refine wpAnyH_done (by kernel_rfl) ?_ _
    have HR9 : Hid (RBox w w.heap.size g7 A n cap z b w9) := Lib.hid ⟨⟨hHeld.1, hHeld.2.1, hHeld.2.2.1⟩, ⟨t0, t1, t2⟩, ⟨by have := hHeld.2.2.2.size; omega, by omega⟩, HB1.out.trans (hHeld.2.2.2.mono (by omega))⟩
    obtain ⟨AY, cY, rfl, hPY, hnY⟩ := Pairs.of_ownE ho9
    rw [HLm.out] at hPY hnY ⊢
    have HPY : Hid (∀ w', Below w9.heap.size w9 w' → Pairs w' AY m L) := Lib.hid fun w' hb => hPY.below hb
    have HNY := Lib.hid hnY
    clear hHeld ho9 hPY hnY t0 t1 t2 hs9 hs3 hg1 HS HEx
    obtain ⟨⟨a0, a1, a2⟩, ⟨b0, b1, b2⟩, _, _⟩ := HR9.out
    go_wp2_with fail
    refine (HSR.out _).mono ?_
    rintro e w10 ⟨rfl, hb10⟩
    have HR10 := Lib.hid (HR9.out.next hb10)
    have HW10 : Hid (Below w9.heap.size w9 w10) := Lib.hid hb10
    clear a0 a1 a2 b0 b1 b2 hb10
    obtain ⟨⟨a0, a1, a2⟩, ⟨b0, b1, b2⟩, _, _⟩ := HR10.out
    go_wp2_with fail
    refine (HCR.out _ HR10.out.2.2.2).mono ?_
    rintro e w11 ⟨rfl, hb11⟩
    have HR11 := Lib.hid (HR10.out.next hb11)
    have HW11 := Lib.hid (bstep HW10.out hb11)
    clear a0 a1 a2 b0 b1 b2 hb11
    obtain ⟨⟨a0, a1, a2⟩, ⟨b0, b1, b2⟩, _, _⟩ := HR11.out
    go_wp2_with fail
    refine (HZO.out _ HR11.out.2.2.2).mono ?_
    rintro e w12 ⟨vz, Bz, rfl, hBz, hoz, hb12⟩
    have HR12 := Lib.hid (HR11.out.next hb12)
    have HW12 := Lib.hid (bstep HW11.out hb12)
    have HV12x12 : Hid (Below w12.heap.size w12 w12) := Lib.hid (Below.refl _ _)
    obtain ⟨AZ, cZ, rfl, hPZ⟩ := Pairs.of_own hoz
    rw [HZL.out] at hPZ ⊢
    have HPZ : Hid (∀ w', Below w12.heap.size w12 w' → Pairs w' AZ zl Z) := Lib.hid fun w' hb => hPZ.below hb
    clear hoz hPZ hBz
    clear a0 a1 a2 b0 b1 b2 hb12
    obtain ⟨⟨a0, a1, a2⟩, ⟨b0, b1, b2⟩, _, _⟩ := HR12.out
    go_wp2_with fail
    refine (HRU.out _ HR12.out.2.2.2).mono ?_
    rintro e w13 ⟨rfl, hb13⟩
    have HR13 := Lib.hid (HR12.out.next hb13)
    have HW13 := Lib.hid (bstep HW12.out hb13)
    have HV12x13 : Hid (Below w12.heap.size w12 w13) := Lib.hid (bstep HV12x12.out hb13)
    clear HV12x12
    clear a0 a1 a2 b0 b1 b2 hb13
    obtain ⟨⟨a0, a1, a2⟩, ⟨b0, b1, b2⟩, _, _⟩ := HR13.out
    go_wp2_with fail
    refine (HLE.out _ HR13.out.2.2.2).mono ?_
    rintro e w14 ⟨rfl, hb14⟩
    have HR14 := Lib.hid (HR13.out.next hb14)
    have HW14 := Lib.hid (bstep HW13.out hb14)
    have HV12x14 : Hid (Below w12.heap.size w12 w14) := Lib.hid (bstep HV12x13.out hb14)
    clear HV12x13
    clear a0 a1 a2 b0 b1 b2 hb14
    obtain ⟨⟨a0, a1, a2⟩, ⟨b0, b1, b2⟩, _, _⟩ := HR14.out
    go_wp2_with fail
    refine (HSP.out _ HR14.out.2.2.2).mono ?_
    rintro e w15 ⟨rfl, hb15⟩
    have HR15 := Lib.hid (HR14.out.next hb15)
    have HW15 := Lib.hid (bstep HW14.out hb15)
    have HV12x15 : Hid (Below w12.heap.size w12 w15) := Lib.hid (bstep HV12x14.out hb15)
    clear HV12x14
    clear a0 a1 a2 b0 b1 b2 hb15
    obtain ⟨⟨a0, a1, a2⟩, ⟨b0, b1, b2⟩, _, _⟩ := HR15.out
    go_wp2_with fail
    refine (HTC.out _ HR15.out.2.2.2).mono ?_
    rintro e w16 ⟨rfl, hb16⟩
    have HR16 := Lib.hid (HR15.out.next hb16)
    have HW16 := Lib.hid (bstep HW15.out hb16)
    have HV12x16 : Hid (Below w12.heap.size w12 w16) := Lib.hid (bstep HV12x15.out hb16)
    clear HV12x15
    clear a0 a1 a2 b0 b1 b2 hb16
    obtain ⟨⟨a0, a1, a2⟩, ⟨b0, b1, b2⟩, _, _⟩ := HR16.out
    go_wp2_with fail
    refine (HRZ.out _ HR16.out.2.2.2).mono ?_
    rintro e w17 ⟨vz2, rfl, hoz2, hb17⟩
    obtain ⟨AZ2, cZ2, rfl, hPZ2⟩ := Pairs.of_own hoz2
    rw [HZL.out] at hPZ2 ⊢
    have HPZ2 : Hid (∀ w', Below w17.heap.size w17 w' → Pairs w' AZ2 zl Z) := Lib.hid fun w' hb => hPZ2.below hb
    have HR17 := Lib.hid (HR16.out.next hb17)
    have HW17 := Lib.hid (bstep HW16.out hb17)
    have HB17 := Lib.hid hb17
    clear hoz2 hPZ2 a0 a1 a2 b0 b1 b2 hb17
    obtain ⟨⟨a0, a1, a2⟩, ⟨b0, b1, b2⟩, _, _⟩ := HR17.out
    go_wp2_with fail
    refine (HRR.out _ AY cY HR17.out.2.2.2 (HPY.out _ HW17.out)).mono ?_
    rintro e w18 ⟨rfl, hb18⟩
    have HR18 := Lib.hid (HR17.out.next hb18)
    have HW18 := Lib.hid (bstep HW17.out hb18)
    have HB18 := Lib.hid hb18
    have HZ18 : Hid (∀ w', Below w18.heap.size w18 w' → Pairs w' AZ zl Z ∧ Pairs w' AZ2 zl Z) := Lib.hid fun w' hb => ⟨(HPZ.out _ (bstep (bstep HV12x16.out HB17.out) hb18)).below hb, (HPZ2.out _ hb18).below hb⟩
    clear a0 a1 a2 b0 b1 b2 hb18
    go_wp2
    go_loopw [110] (fun i wr => ∃ k : Nat, k ≤ zl ∧ i = .int .i64 k ∧ Below w18.heap.size w18 wr) (fun i _ => zl - (intOf i).toNat)
    case atStart => exact ⟨0, by omega, rfl, Below.refl _ _⟩
    case round =>
      obtain ⟨k, hk, rfl, hbl⟩ := hrel
      by_cases hlt : k < zl
      · obtain ⟨hp1, hp2⟩ := HZ18.out _ hbl
        obtain ⟨bz, oz, p, rfl, hbz, hp, x0, x1⟩ := hp1.at_ hlt
        obtain ⟨by2, oy2, p2, rfl, hby, hp2', y0, y1⟩ := hp2.at_ hlt
        obtain rfl : p = p2 := Option.some.inj (hp.symm.trans hp2')
        have hki : (k : Int) < (zl : Int) := by omega
        have hk0 : (0 : Int) ≤ (k : Int) := by omega
        have hkt : ((k : Int)).toNat = k := by omega
        clear hp1 hp2 hp hp2'
        go_wp2_with fail
        refine wp_region_held_drew (S := (fun w' => w'.cell? ⟨bz, oz + k * 2, none⟩ = some (.int .i64 p.1) ∧ w'.cell? ⟨bz, oz + k * 2 + 1, none⟩ = some (.int .i64 p.2) ∧ w'.cell? ⟨by2, oy2 + k * 2, none⟩ = some (.int .i64 p.1) ∧ w'.cell? ⟨by2, oy2 + k * 2 + 1, none⟩ = some (.int .i64 p.2) ∧ Below wr.heap.size wr w')) (by kernel_rfl) ?_ (fun hHeld => ?_)
        · exact ⟨x0, x1, y0, y1, Below.drew (Below.refl _ _)⟩
        obtain ⟨wd, hwd⟩ : ∃ wd, World.drew wr = wd := ⟨_, rfl⟩
        rw [hwd] at hHeld ⊢
        clear hwd
        refine wpAnyH_take (i := 0) (oi := _) (v := ?_) rfl (by kernel_rfl) (by kernel_rfl) (by kernel_rfl) (fun _ _ _ h => h) (Or.inl ⟨by kernel_rfl, ?_⟩) (by assumption) ?_
        rotate_left
        · rintro w ⟨s1, s2, s3, s4, s5⟩
          go_simp
          try with_reducible rfl
        try simp only [Act.put, List.setIfInBounds_toArray, List.set_cons_zero, List.set_cons_succ, List.getElem_toArray, List.getElem_cons_zero, List.getElem_cons_succ]
        refine wpAnyH_take (i := 1) (oi := _) (v := ?_) rfl (by kernel_rfl) (by kernel_rfl) (by kernel_rfl) (fun _ _ _ h => h) (Or.inl ⟨by kernel_rfl, ?_⟩) (by assumption) ?_
        rotate_left
        · rintro w ⟨s1, s2, s3, s4, s5⟩
          go_simp
          try with_reducible rfl
        try simp only [Act.put, List.setIfInBounds_toArray, List.set_cons_zero, List.set_cons_succ, List.getElem_toArray, List.getElem_cons_zero, List.getElem_cons_succ]
        refine wpAnyH_take (i := 2) (oi := _) (v := ?_) rfl (by kernel_rfl) (by kernel_rfl) (by kernel_rfl) (fun _ _ _ h => h) (Or.inl ⟨by kernel_rfl, ?_⟩) (by assumption) ?_
        rotate_left
        · rintro w ⟨s1, s2, s3, s4, s5⟩
          go_simp
          try with_reducible rfl
        try simp only [Act.put, List.setIfInBounds_toArray, List.set_cons_zero, List.set_cons_succ, List.getElem_toArray, List.getElem_cons_zero, List.getElem_cons_succ]
        refine wpAnyH_take (i := 3) (oi := _) (v := ?_) rfl (by kernel_rfl) (by kernel_rfl) (by kernel_rfl) (fun _ _ _ h => h) (Or.inl ⟨by kernel_rfl, ?_⟩) (by assumption) ?_
        rotate_left
        · rintro w ⟨s1, s2, s3, s4, s5⟩
          go_simp
          try with_reducible rfl
        try simp only [Act.put, List.setIfInBounds_toArray, List.set_cons_zero, List.set_cons_succ, List.getElem_toArray, List.getElem_cons_zero, List.getElem_cons_succ]
        refine wpAnyH_take (i := 4) (oi := _) (v := ?_) rfl (by kernel_rfl) (by kernel_rfl) (by kernel_rfl) (fun _ _ _ h => h) (Or.inl ⟨by kernel_rfl, ?_⟩) (by assumption) ?_
        rotate_left
        · rintro w ⟨s1, s2, s3, s4, s5⟩
          go_simp
          try with_reducible rfl
        try simp only [Act.put, List.setIfInBounds_toArray, List.set_cons_zero, List.set_cons_succ, List.getElem_toArray, List.getElem_cons_zero, List.getElem_cons_succ]
        refine wpAnyH_take (i := 5) (oi := _) (v := ?_) rfl (by kernel_rfl) (by kernel_rfl) (by kernel_rfl) (fun _ _ _ h => h) (Or.inl ⟨by kernel_rfl, ?_⟩) (by assumption) ?_
        rotate_left
        · rintro w ⟨s1, s2, s3, s4, s5⟩
          go_simp
          try with_reducible rfl
        try simp only [Act.put, List.setIfInBounds_toArray, List.set_cons_zero, List.set_cons_succ, List.getElem_toArray, List.getElem_cons_zero, List.getElem_cons_succ]
        refine wpAnyH_take (i := 6) (oi := _) (v := ?_) rfl (by kernel_rfl) (by kernel_rfl) (by kernel_rfl) (fun _ _ _ h => h) (Or.inl ⟨by kernel_rfl, ?_⟩) (by assumption) ?_
        rotate_left
        · rintro w ⟨s1, s2, s3, s4, s5⟩
          go_simp
          try with_reducible rfl
        try simp only [Act.put, List.setIfInBounds_toArray, List.set_cons_zero, List.set_cons_succ, List.getElem_toArray, List.getElem_cons_zero, List.getElem_cons_succ]
        refine wpAnyH_take (i := 7) (oi := _) (v := ?_) rfl (by kernel_rfl) (by kernel_rfl) (by kernel_rfl) (fun _ _ _ h => h) (Or.inl ⟨by kernel_rfl, ?_⟩) (by assumption) ?_
        rotate_left
        · rintro w ⟨s1, s2, s3, s4, s5⟩
          go_simp
          try with_reducible rfl
        try simp only [Act.put, List.setIfInBounds_toArray, List.set_cons_zero, List.set_cons_succ, List.getElem_toArray, List.getElem_cons_zero, List.getElem_cons_succ]
        refine wpAnyH_take (i := 8) (oi := _) (v := ?_) rfl (by kernel_rfl) (by kernel_rfl) (by kernel_rfl) (fun _ _ _ h => h) (Or.inl ⟨by kernel_rfl, ?_⟩) (by assumption) ?_
        rotate_left
        · rintro w ⟨s1, s2, s3, s4, s5⟩
          go_simp
          try simp only [equalPairX, Result.andThen_ok, Bool.not_true]
          try with_reducible rfl
        try simp only [Act.put, List.setIfInBounds_toArray, List.set_cons_zero, List.set_cons_succ, List.getElem_toArray, List.getElem_cons_zero, List.getElem_cons_succ]
        refine wpAnyH_done (by kernel_rfl) ?_ _
        have hb99 := hbl.trans (hHeld.2.2.2.2.mono hbl.size)
        clear hHeld
        go_wp2
        go_roundw
        case rel => exact ⟨k + 1, by omega, by go_num, hb99⟩
        case measure => simp [intOf]; omega
      · have hki : ¬ (k : Int) < (zl : Int) := by omega
        have HR19 := Lib.hid (HR18.out.next hbl)
        have HW19 := Lib.hid (bstep HW18.out hbl)
        clear hbl
        go_wp2_with fail
        refine (hsz _).mono ?_
        rintro e w20 ⟨rfl, hb20⟩
        have HR20 := Lib.hid (HR19.out.next hb20)
        clear hb20
        go_wp2_with fail
        refine (hst _).mono ?_
        rintro e w21 ⟨rfl, hb21⟩
        have HR21 := Lib.hid (HR20.out.next hb21)
        clear hb21
        go_wp2_with fail
        refine (HAW.out _ HR21.out.2.2.2).mono ?_
        rintro e w90 ⟨rfl, hb90⟩
        have hfin := bstep HR21.out.2.2.2 hb90
        clear hb90
        go_wp2
        go_ret
        exact ⟨rfl, hfin⟩
  · skip
    go_simp
    obtain ⟨g7, hg7⟩ : ∃ g7, wd.heap.size = g7 := ⟨_, rfl⟩
    obtain ⟨w3, hw3⟩ : ∃ w3, wd.alloc (.cells #[.slice none 0 0, .int .i64 0, .int .i64 0] 26) = w3 := ⟨_, rfl⟩
    have q0 : w3.cell? ⟨g7, 0, none⟩ = some (.slice none 0 0) := by rw [← hw3, ← hg7]; simp
    have r0 : w3.frozen? ⟨g7, 0, none⟩ = false := by rw [← hw3, ← hg7]; simp
    have q1 : w3.cell? ⟨g7, 1, none⟩ = some (.int .i64 0) := by rw [← hw3, ← hg7]; simp
    have r1 : w3.frozen? ⟨g7, 1, none⟩ = false := by rw [← hw3, ← hg7]; simp
    have q2 : w3.cell? ⟨g7, 2, none⟩ = some (.int .i64 0) := by rw [← hw3, ← hg7]; simp
    have r2 : w3.frozen? ⟨g7, 2, none⟩ = false := by rw [← hw3, ← hg7]; simp
    have hs3 : w3.heap.size = g7 + 1 := by rw [← hw3, ← hg7]; simp
    rw [hg7, hw3]
    have hg1 : w1.heap.size ≤ g7 := by rw [← hg7]; exact hHeld.2.2.2.size
    have hNb : Below w1.heap.size w1 w3 := by rw [← hw3]; exact hHeld.2.2.2.alloc (by omega) _
    clear hHeld hw3
    refine hKK.out _ _ ?_ (fun hHeld => ?_)
    · exact HS.out _ hNb
    clear hKK K
    try simp only [Act.put, List.setIfInBounds_toArray, List.set_cons_zero, List.set_cons_succ, List.getElem_toArray, List.getElem_cons_zero, List.getElem_cons_succ]
    clear hNb
    refine wpAnyH_ready (rs := [2]) (by kernel_rfl) (by simp) ?_
    refine AllReadyH.cons (o := _) rfl (fun K hKK => ?_) AllReadyH.nil
    go_simp
    go_at_call 7
    refine (HEx.out _ hHeld.2.2.2).mono ?_
    rintro e w2 ⟨v8, rfl, ho, hb2⟩
    replace q0 := (hb2.cell (p := ⟨g7, 0, none⟩) (by show g7 < _; omega)).trans q0
    replace r0 := (hb2.frozen (p := ⟨g7, 0, none⟩) (by show g7 < _; omega)).trans r0
    replace q1 := (hb2.cell (p := ⟨g7, 1, none⟩) (by show g7 < _; omega)).trans q1
    replace r1 := (hb2.frozen (p := ⟨g7, 1, none⟩) (by show g7 < _; omega)).trans r1
    replace q2 := (hb2.cell (p := ⟨g7, 2, none⟩) (by show g7 < _; omega)).trans q2
    replace r2 := (hb2.frozen (p := ⟨g7, 2, none⟩) (by show g7 < _; omega)).trans r2
    have hs2 := hb2.size
    have hNb := hHeld.2.2.2.trans (hb2.mono hHeld.2.2.2.size)
    clear hHeld hb2
    go_wp2_with fail
    refine hKK.out _ _ ?_ (fun hHeld => ?_)
    · exact HS.out _ hNb
    clear hKK K
    try simp only [Act.put, List.setIfInBounds_toArray, List.set_cons_zero, List.set_cons_succ, List.getElem_toArray, List.getElem_cons_zero, List.getElem_cons_succ]
    clear hNb
    refine wpAnyH_ready (rs := [4]) (by kernel_rfl) (by simp) ?_
    refine AllReadyH.cons (o := _) rfl (fun K hKK => ?_) AllReadyH.nil
    go_simp
    obtain ⟨w9, hw9⟩ : ∃ w9, ((w2.setCell ⟨g7, 0, none⟩ (.slice A n cap)).setCell ⟨g7, 1, none⟩ (.int .i64 z)).setCell ⟨g7, 2, none⟩ (.int .i64 b) = w9 := ⟨_, rfl⟩
    rw [hw9]
    have hs9 : w9.heap.size = w2.heap.size := by rw [← hw9]; simp
    have t0 : w9.cell? ⟨g7, 0, none⟩ = some (.slice A n cap) := by rw [← hw9]; exact (set3 q0 q1 q2).1
    have t1 : w9.cell? ⟨g7, 1, none⟩ = some (.int .i64 z) := by rw [← hw9]; exact (set3 q0 q1 q2).2.1
    have t2 : w9.cell? ⟨g7, 2, none⟩ = some (.int .i64 b) := by rw [← hw9]; exact (set3 q0 q1 q2).2.2
    have hNb : Below w1.heap.size w1 w9 := by rw [← hw9]; exact ((hHeld.2.2.2.setCell (p := ⟨g7, 0, none⟩) hg1 _).setCell (p := ⟨g7, 1, none⟩) hg1 _).setCell (p := ⟨g7, 2, none⟩) hg1 _
    have ho9 : OwnEx w9 w3.heap.size v8 L := by rw [← hw9]; exact ownsRow_setCell_below (ownsRow_setCell_below (ownsRow_setCell_below ho (a := ⟨g7, 0, none⟩) (by show g7 < _; omega) _) (a := ⟨g7, 1, none⟩) (by show g7 < _; omega) _) (a := ⟨g7, 2, none⟩) (by show g7 < _; omega) _
    have hs99 : g7 < w9.heap.size := by omega
    clear hHeld hw9 q0 q1 q2 r0 r1 r2 ho hg7 hs2
    refine hKK.out _ _ ?_ (fun hHeld => ?_)
    · exact HS.out _ hNb
    clear hKK K
    try simp only [Act.put, List.setIfInBounds_toArray, List.set_cons_zero, List.set_cons_succ, List.getElem_toArray, List.getElem_cons_zero, List.getElem_cons_succ]
    clear hNb
    refine wpAnyH_ready (rs := [5]) (by kernel_rfl) (by simp) ?_
    refine AllReadyH.cons (o := _) rfl (fun K hKK => ?_) AllReadyH.nil
    go_simp
    refine hKK.out _ _ ?_ (fun hHeld => ?_)
    · exact hHeld
    clear hKK K
    try simp only [Act.put, List.setIfInBounds_toArray, List.set_cons_zero, List.set_cons_succ, List.getElem_toArray, List.getElem_cons_zero, List.getElem_cons_succ]
    refine wpAnyH_done (by kernel_rfl) ?_ _
    have HR9 : Hid (RBox w w.heap.size g7 A n cap z b w9) := Lib.hid ⟨⟨hHeld.1, hHeld.2.1, hHeld.2.2.1⟩, ⟨t0, t1, t2⟩, ⟨by have := hHeld.2.2.2.size; omega, by omega⟩, HB1.out.trans (hHeld.2.2.2.mono (by omega))⟩
    obtain ⟨AY, cY, rfl, hPY, hnY⟩ := Pairs.of_ownE ho9
    rw [HLm.out] at hPY hnY ⊢
    have HPY : Hid (∀ w', Below w9.heap.size w9 w' → Pairs w' AY m L) := Lib.hid fun w' hb => hPY.below hb
    have HNY := Lib.hid hnY
    clear hHeld ho9 hPY hnY t0 t1 t2 hs9 hs3 hg1 HS HEx
    obtain ⟨⟨a0, a1, a2⟩, ⟨b0, b1, b2⟩, _, _⟩ := HR9.out
    go_wp2_with fail
    refine (HSR.out _).mono ?_
    rintro e w10 ⟨rfl, hb10⟩
    have HR10 := Lib.hid (HR9.out.next hb10)
    have HW10 : Hid (Below w9.heap.size w9 w10) := Lib.hid hb10
    clear a0 a1 a2 b0 b1 b2 hb10
    obtain ⟨⟨a0, a1, a2⟩, ⟨b0, b1, b2⟩, _, _⟩ := HR10.out
    go_wp2_with fail
    refine (HCR.out _ HR10.out.2.2.2).mono ?_
    rintro e w11 ⟨rfl, hb11⟩
    have HR11 := Lib.hid (HR10.out.next hb11)
    have HW11 := Lib.hid (bstep HW10.out hb11)
    clear a0 a1 a2 b0 b1 b2 hb11
    obtain ⟨⟨a0, a1, a2⟩, ⟨b0, b1, b2⟩, _, _⟩ := HR11.out
    go_wp2_with fail
    refine (HZO.out _ HR11.out.2.2.2).mono ?_
    rintro e w12 ⟨vz, Bz, rfl, hBz, hoz, hb12⟩
    have HR12 := Lib.hid (HR11.out.next hb12)
    have HW12 := Lib.hid (bstep HW11.out hb12)
    have HV12x12 : Hid (Below w12.heap.size w12 w12) := Lib.hid (Below.refl _ _)
    obtain ⟨AZ, cZ, rfl, hPZ⟩ := Pairs.of_own hoz
    rw [HZL.out] at hPZ ⊢
    have HPZ : Hid (∀ w', Below w12.heap.size w12 w' → Pairs w' AZ zl Z) := Lib.hid fun w' hb => hPZ.below hb
    clear hoz hPZ hBz
    clear a0 a1 a2 b0 b1 b2 hb12
    obtain ⟨⟨a0, a1, a2⟩, ⟨b0, b1, b2⟩, _, _⟩ := HR12.out
    go_wp2_with fail
    refine (HRU.out _ HR12.out.2.2.2).mono ?_
    rintro e w13 ⟨rfl, hb13⟩
    have HR13 := Lib.hid (HR12.out.next hb13)
    have HW13 := Lib.hid (bstep HW12.out hb13)
    have HV12x13 : Hid (Below w12.heap.size w12 w13) := Lib.hid (bstep HV12x12.out hb13)
    clear HV12x12
    clear a0 a1 a2 b0 b1 b2 hb13
    obtain ⟨⟨a0, a1, a2⟩, ⟨b0, b1, b2⟩, _, _⟩ := HR13.out
    go_wp2_with fail
    refine (HLE.out _ HR13.out.2.2.2).mono ?_
    rintro e w14 ⟨rfl, hb14⟩
    have HR14 := Lib.hid (HR13.out.next hb14)
    have HW14 := Lib.hid (bstep HW13.out hb14)
    have HV12x14 : Hid (Below w12.heap.size w12 w14) := Lib.hid (bstep HV12x13.out hb14)
    clear HV12x13
    clear a0 a1 a2 b0 b1 b2 hb14
    obtain ⟨⟨a0, a1, a2⟩, ⟨b0, b1, b2⟩, _, _⟩ := HR14.out
    go_wp2_with fail
    refine (HSP.out _ HR14.out.2.2.2).mono ?_
    rintro e w15 ⟨rfl, hb15⟩
    have HR15 := Lib.hid (HR14.out.next hb15)
    have HW15 := Lib.hid (bstep HW14.out hb15)
    have HV12x15 : Hid (Below w12.heap.size w12 w15) := Lib.hid (bstep HV12x14.out hb15)
    clear HV12x14
    clear a0 a1 a2 b0 b1 b2 hb15
    obtain ⟨⟨a0, a1, a2⟩, ⟨b0, b1, b2⟩, _, _⟩ := HR15.out
    go_wp2_with fail
    refine (HTC.out _ HR15.out.2.2.2).mono ?_
    rintro e w16 ⟨rfl, hb16⟩
    have HR16 := Lib.hid (HR15.out.next hb16)
    have HW16 := Lib.hid (bstep HW15.out hb16)
    have HV12x16 : Hid (Below w12.heap.size w12 w16) := Lib.hid (bstep HV12x15.out hb16)
    clear HV12x15
    clear a0 a1 a2 b0 b1 b2 hb16
    obtain ⟨⟨a0, a1, a2⟩, ⟨b0, b1, b2⟩, _, _⟩ := HR16.out
    go_wp2_with fail
    refine (HRZ.out _ HR16.out.2.2.2).mono ?_
    rintro e w17 ⟨vz2, rfl, hoz2, hb17⟩
    obtain ⟨AZ2, cZ2, rfl, hPZ2⟩ := Pairs.of_own hoz2
    rw [HZL.out] at hPZ2 ⊢
    have HPZ2 : Hid (∀ w', Below w17.heap.size w17 w' → Pairs w' AZ2 zl Z) := Lib.hid fun w' hb => hPZ2.below hb
    have HR17 := Lib.hid (HR16.out.next hb17)
    have HW17 := Lib.hid (bstep HW16.out hb17)
    have HB17 := Lib.hid hb17
    clear hoz2 hPZ2 a0 a1 a2 b0 b1 b2 hb17
    obtain ⟨⟨a0, a1, a2⟩, ⟨b0, b1, b2⟩, _, _⟩ := HR17.out
    go_wp2_with fail
    refine (HRR.out _ AY cY HR17.out.2.2.2 (HPY.out _ HW17.out)).mono ?_
    rintro e w18 ⟨rfl, hb18⟩
    have HR18 := Lib.hid (HR17.out.next hb18)
    have HW18 := Lib.hid (bstep HW17.out hb18)
    have HB18 := Lib.hid hb18
    have HZ18 : Hid (∀ w', Below w18.heap.size w18 w' → Pairs w' AZ zl Z ∧ Pairs w' AZ2 zl Z) := Lib.hid fun w' hb => ⟨(HPZ.out _ (bstep (bstep HV12x16.out HB17.out) hb18)).below hb, (HPZ2.out _ hb18).below hb⟩
    clear a0 a1 a2 b0 b1 b2 hb18
    go_wp2
    go_loopw [110] (fun i wr => ∃ k : Nat, k ≤ zl ∧ i = .int .i64 k ∧ Below w18.heap.size w18 wr) (fun i _ => zl - (intOf i).toNat)
    case atStart => exact ⟨0, by omega, rfl, Below.refl _ _⟩
    case round =>
      obtain ⟨k, hk, rfl, hbl⟩ := hrel
      by_cases hlt : k < zl
      · obtain ⟨hp1, hp2⟩ := HZ18.out _ hbl
        obtain ⟨bz, oz, p, rfl, hbz, hp, x0, x1⟩ := hp1.at_ hlt
        obtain ⟨by2, oy2, p2, rfl, hby, hp2', y0, y1⟩ := hp2.at_ hlt
        obtain rfl : p = p2 := Option.some.inj (hp.symm.trans hp2')
        have hki : (k : Int) < (zl : Int) := by omega
        have hk0 : (0 : Int) ≤ (k : Int) := by omega
        have hkt : ((k : Int)).toNat = k := by omega
        clear hp1 hp2 hp hp2'
        go_wp2_with fail
        refine wp_region_held_drew (S := (fun w' => w'.cell? ⟨bz, oz + k * 2, none⟩ = some (.int .i64 p.1) ∧ w'.cell? ⟨bz, oz + k * 2 + 1, none⟩ = some (.int .i64 p.2) ∧ w'.cell? ⟨by2, oy2 + k * 2, none⟩ = some (.int .i64 p.1) ∧ w'.cell? ⟨by2, oy2 + k * 2 + 1, none⟩ = some (.int .i64 p.2) ∧ Below wr.heap.size wr w')) (by kernel_rfl) ?_ (fun hHeld => ?_)
        · exact ⟨x0, x1, y0, y1, Below.drew (Below.refl _ _)⟩
        obtain ⟨wd, hwd⟩ : ∃ wd, World.drew wr = wd := ⟨_, rfl⟩
        rw [hwd] at hHeld ⊢
        clear hwd
        refine wpAnyH_take (i := 0) (oi := _) (v := ?_) rfl (by kernel_rfl) (by kernel_rfl) (by kernel_rfl) (fun _ _ _ h => h) (Or.inl ⟨by kernel_rfl, ?_⟩) (by assumption) ?_
        rotate_left
        · rintro w ⟨s1, s2, s3, s4, s5⟩
          go_simp
          try with_reducible rfl
        try simp only [Act.put, List.setIfInBounds_toArray, List.set_cons_zero, List.set_cons_succ, List.getElem_toArray, List.getElem_cons_zero, List.getElem_cons_succ]
        refine wpAnyH_take (i := 1) (oi := _) (v := ?_) rfl (by kernel_rfl) (by kernel_rfl) (by kernel_rfl) (fun _ _ _ h => h) (Or.inl ⟨by kernel_rfl, ?_⟩) (by assumption) ?_
        rotate_left
        · rintro w ⟨s1, s2, s3, s4, s5⟩
          go_simp
          try with_reducible rfl
        try simp only [Act.put, List.setIfInBounds_toArray, List.set_cons_zero, List.set_cons_succ, List.getElem_toArray, List.getElem_cons_zero, List.getElem_cons_succ]
        refine wpAnyH_take (i := 2) (oi := _) (v := ?_) rfl (by kernel_rfl) (by kernel_rfl) (by kernel_rfl) (fun _ _ _ h => h) (Or.inl ⟨by kernel_rfl, ?_⟩) (by assumption) ?_
        rotate_left
        · rintro w ⟨s1, s2, s3, s4, s5⟩
          go_simp
          try with_reducible rfl
        try simp only [Act.put, List.setIfInBounds_toArray, List.set_cons_zero, List.set_cons_succ, List.getElem_toArray, List.getElem_cons_zero, List.getElem_cons_succ]
        refine wpAnyH_take (i := 3) (oi := _) (v := ?_) rfl (by kernel_rfl) (by kernel_rfl) (by kernel_rfl) (fun _ _ _ h => h) (Or.inl ⟨by kernel_rfl, ?_⟩) (by assumption) ?_
        rotate_left
        · rintro w ⟨s1, s2, s3, s4, s5⟩
          go_simp
          try with_reducible rfl
        try simp only [Act.put, List.setIfInBounds_toArray, List.set_cons_zero, List.set_cons_succ, List.getElem_toArray, List.getElem_cons_zero, List.getElem_cons_succ]
        refine wpAnyH_take (i := 4) (oi := _) (v := ?_) rfl (by kernel_rfl) (by kernel_rfl) (by kernel_rfl) (fun _ _ _ h => h) (Or.inl ⟨by kernel_rfl, ?_⟩) (by assumption) ?_
        rotate_left
        · rintro w ⟨s1, s2, s3, s4, s5⟩
          go_simp
          try with_reducible rfl
        try simp only [Act.put, List.setIfInBounds_toArray, List.set_cons_zero, List.set_cons_succ, List.getElem_toArray, List.getElem_cons_zero, List.getElem_cons_succ]
        refine wpAnyH_take (i := 5) (oi := _) (v := ?_) rfl (by kernel_rfl) (by kernel_rfl) (by kernel_rfl) (fun _ _ _ h => h) (Or.inl ⟨by kernel_rfl, ?_⟩) (by assumption) ?_
        rotate_left
        · rintro w ⟨s1, s2, s3, s4, s5⟩
          go_simp
          try with_reducible rfl
        try simp only [Act.put, List.setIfInBounds_toArray, List.set_cons_zero, List.set_cons_succ, List.getElem_toArray, List.getElem_cons_zero, List.getElem_cons_succ]
        refine wpAnyH_take (i := 6) (oi := _) (v := ?_) rfl (by kernel_rfl) (by kernel_rfl) (by kernel_rfl) (fun _ _ _ h => h) (Or.inl ⟨by kernel_rfl, ?_⟩) (by assumption) ?_
        rotate_left
        · rintro w ⟨s1, s2, s3, s4, s5⟩
          go_simp
          try with_reducible rfl
        try simp only [Act.put, List.setIfInBounds_toArray, List.set_cons_zero, List.set_cons_succ, List.getElem_toArray, List.getElem_cons_zero, List.getElem_cons_succ]
        refine wpAnyH_take (i := 7) (oi := _) (v := ?_) rfl (by kernel_rfl) (by kernel_rfl) (by kernel_rfl) (fun _ _ _ h => h) (Or.inl ⟨by kernel_rfl, ?_⟩) (by assumption) ?_
        rotate_left
        · rintro w ⟨s1, s2, s3, s4, s5⟩
          go_simp
          try with_reducible rfl
        try simp only [Act.put, List.setIfInBounds_toArray, List.set_cons_zero, List.set_cons_succ, List.getElem_toArray, List.getElem_cons_zero, List.getElem_cons_succ]
        refine wpAnyH_take (i := 8) (oi := _) (v := ?_) rfl (by kernel_rfl) (by kernel_rfl) (by kernel_rfl) (fun _ _ _ h => h) (Or.inl ⟨by kernel_rfl, ?_⟩) (by assumption) ?_
        rotate_left
        · rintro w ⟨s1, s2, s3, s4, s5⟩
          go_simp
          try simp only [equalPairX, Result.andThen_ok, Bool.not_true]
          try with_reducible rfl
        try simp only [Act.put, List.setIfInBounds_toArray, List.set_cons_zero, List.set_cons_succ, List.getElem_toArray, List.getElem_cons_zero, List.getElem_cons_succ]
        refine wpAnyH_done (by kernel_rfl) ?_ _
        have hb99 := hbl.trans (hHeld.2.2.2.2.mono hbl.size)
        clear hHeld
        go_wp2
        go_roundw
        case rel => exact ⟨k + 1, by omega, by go_num, hb99⟩
        case measure => simp [intOf]; omega
      · have hki : ¬ (k : Int) < (zl : Int) := by omega
        have HR19 := Lib.hid (HR18.out.next hbl)
        have HW19 := Lib.hid (bstep HW18.out hbl)
        clear hbl
        go_wp2_with fail
        refine (hsz _).mono ?_
        rintro e w20 ⟨rfl, hb20⟩
        have HR20 := Lib.hid (HR19.out.next hb20)
        clear hb20
        go_wp2_with fail
        refine (hst _).mono ?_
        rintro e w21 ⟨rfl, hb21⟩
        have HR21 := Lib.hid (HR20.out.next hb21)
        clear hb21
        go_wp2_with fail
        refine (HAW.out _ HR21.out.2.2.2).mono ?_
        rintro e w90 ⟨rfl, hb90⟩
        have hfin := bstep HR21.out.2.2.2 hb90
        clear hb90
        go_wp2
        go_ret
        exact ⟨rfl, hfin⟩
set_option maxHeartbeats 16000000 in
theorem relays_C (G : List Int) (n cap : Nat) (A : Option Addr) (z b : Int) (L : List (Int × Int)) (m cE : Nat) (E : Option Addr) (f : Int) (w : World)
    (hG : IntsZ w A n G) (hn : (n : Int) ≤ 9223372036854775807) (hc : n ≤ cap) (hE : Pairs w E m L) (hm : m * 16 ≤ 140737488355328) (ht : Tabs w) (hT : Gt w) (h1 : n ≤ 11) (h2 : m ≤ 12) (h3 : relW G z b = 0) (h4 : (crW G z b L f).2 = 0) :
    Calls Tryz.prog 3 #[.agg #[.slice A n cap, .int .i64 z, .int .i64 b], .slice E m cE, .int .i64 f] w (Yes w) := by
  have h1i : (n : Int) ≤ 11 := by omega
  have h2i : ¬ (12 : Int) < (m : Int) := by omega
  have h2j : (m : Int) ≤ 12 := by omega
  obtain ⟨zl, hnz, hz1, hz7⟩ := relW_len h3
  rw [hG.1] at hnz
  have hGl : G.length - 1 = zl := by rw [hG.1]; omega
  have HCR : Hid (∀ w', Below w.heap.size w w' → Calls Tryz.prog 10 #[.agg #[.slice A n cap, .int .i64 z, .int .i64 b]] w' (RetPost (.int .i64 (relW G z b)) w')) := Lib.hid fun w' hb => r7CheckRelay_any G n cap A z b w' (hG.below hb) hn
  have HTC : Hid (∀ w', Below w.heap.size w w' → Calls Tryz.prog 15 #[.agg #[.slice A n cap, .int .i64 z, .int .i64 b]] w' (RetPost (.int .i64 (relW G z b)) w')) := Lib.hid fun w' hb => trCheckRelay_any G n cap A z b w' (hG.below hb) hn hc
  have HRU : Hid (∀ w', Below w.heap.size w w' → Calls Tryz.prog 12 #[.agg #[.slice A n cap, .int .i64 z, .int .i64 b], .slice E m cE, .int .i64 f] w' (RetPost (.tuple #[.int .i64 (crW G z b L f).1, .int .i64 (crW G z b L f).2]) w')) := Lib.hid fun w' hb => trCheckRun_any G n cap A z b L m cE E f w' (hG.below hb) (by omega) hc (hE.below hb) (by omega)
  have HZO : Hid (∀ w', Below w.heap.size w w' → Calls Tryz.prog 11 #[.agg #[.slice A n cap, .int .i64 z, .int .i64 b]] w' (fun e w'' => ∃ v B, e = .returned (.tuple #[v, .int .i64 0]) ∧ w'.heap.size ≤ B ∧ OwnPairs w'' B v (zonesW z b (G.take zl) 0) ∧ Below w'.heap.size w' w'')) := Lib.hid fun w' hb => by subst hnz; exact trZones_ok G zl cap A z b w' (hG.below hb) (by omega) hc h3
  have HRZ : Hid (∀ w', Below w.heap.size w w' → Calls Tryz.prog 16 #[.agg #[.slice A n cap, .int .i64 z, .int .i64 b]] w' (fun e w'' => ∃ v, e = .returned v ∧ OwnPairs w'' (w'.heap.size + 1) v (zonesW z b (G.take zl) 0) ∧ Below w'.heap.size w' w'')) := Lib.hid fun w' hb => by subst hnz; exact r7Zones_any G zl cap A z b w' (hG.below hb) (by omega)
  have hcr : crW G z b L f = runW L (zonesW z b (G.take zl) 0) f := by unfold crW; rw [if_neg (by simp [h3]), hGl]
  have HRR : Hid (∀ (w' : World) (AY : Option Addr) (cY : Nat), Below w.heap.size w w' → Pairs w' AY m L → Calls Tryz.prog 17 #[.agg #[.slice A n cap, .int .i64 z, .int .i64 b], .slice AY m cY, .int .i64 f] w' (RetPost (.tuple #[.int .i64 (crW G z b L f).1, .int .i64 (crW G z b L f).2]) w')) := Lib.hid fun w' AY cY hb hY => by subst hnz; rw [hcr]; exact r7CheckRun_any G zl cap A z b L m cY AY f w' (hG.below hb) (by omega) hY (by omega) hz1
  have hZl : (zonesW z b (G.take zl) 0).length = zl := by rw [← hGl]; exact zonesT_len z b G
  obtain ⟨Z, hZ⟩ : ∃ Z, zonesW z b (G.take zl) 0 = Z := ⟨_, rfl⟩
  rw [hZ] at HZO HRZ hZl
  have HZL := Lib.hid hZl
  clear hZ hcr hZl hGl
  have hz := crW_zero h3 h4
  obtain ⟨hmn, hok⟩ := crW_ok h3 hz
  rw [hE.1, hG.1] at hmn
  have HLE : Hid (∀ w', Below w.heap.size w w' → Calls Tryz.prog 13 #[.agg #[.slice A n cap, .int .i64 z, .int .i64 b], .slice E m cE, .int .i64 f] w' (fun e w'' => ∃ v B, e = .returned (.tuple #[v, .int .i64 0]) ∧ w'.heap.size ≤ B ∧ OwnV w'' B 3 v ((gapF (0, 0) (L ++ [(sumW G 0, f)])).map legV) ∧ Below w'.heap.size w' w'')) := Lib.hid fun w' hb => trLegs_ok G n cap A z b L m cE E f w' (hG.below hb) (by omega) hc (hE.below hb) hmn hz
  have HSP : Hid (∀ w', Below w.heap.size w w' → Calls Tryz.prog 14 #[.agg #[.slice A n cap, .int .i64 z, .int .i64 b], .slice E m cE, .int .i64 f] w' (fun e w'' => ∃ v B, e = .returned (.tuple #[v, .int .i64 0]) ∧ w'.heap.size ≤ B ∧ OwnV w'' B 70 v ((gapF (0, 0) (L ++ [(sumW G 0, f)])).map spdV) ∧ Below w'.heap.size w' w'')) := Lib.hid fun w' hb => trSplits_ok G n cap A z b L m cE E f w' (hG.below hb) (by omega) hc (hE.below hb) hmn hz hok (hT.below hb (Nat.le_refl _))
  have HRL : Hid (∀ (w' : World) (AY : Option Addr) (cY : Nat), Below w.heap.size w w' → Pairs w' AY m L → (AY = none → m = 0 ∧ cY = 0) → Calls Tryz.prog 18 #[.agg #[.slice A n cap, .int .i64 z, .int .i64 b], .slice AY m cY, .int .i64 f] w' (fun e w'' => ∃ v, e = .returned v ∧ OwnV w'' w'.heap.size 3 v ((gapF (0, 0) (L ++ [(sumW G 0, f)])).map legV) ∧ Below w'.heap.size w' w'')) := Lib.hid fun w' AY cY hb hY hN => r7Legs_any G n cap A z b L m cY AY f w' (hG.below hb) (by omega) hY (by omega) hN
  have HRS : Hid (∀ (w' : World) (AY : Option Addr) (cY : Nat), Below w.heap.size w w' → Pairs w' AY m L → (AY = none → m = 0 ∧ cY = 0) → Calls Tryz.prog 19 #[.agg #[.slice A n cap, .int .i64 z, .int .i64 b], .slice AY m cY, .int .i64 f] w' (fun e w'' => ∃ v, e = .returned v ∧ OwnV w'' w'.heap.size 70 v ((gapF (0, 0) (L ++ [(sumW G 0, f)])).map spdV) ∧ Below w'.heap.size w' w'')) := Lib.hid fun w' AY cY hb hY hN => r7Splits_any G n cap A z b L m cY AY f w' (hG.below hb) (by omega) hY (by omega) hN hok
  have hml : (gapF (0, 0) (L ++ [(sumW G 0, f)])).length = n := by rw [gapF_len, List.length_append, hE.1]; simpa using hmn
  obtain ⟨M, hM⟩ : ∃ M, (gapF (0, 0) (L ++ [(sumW G 0, f)])) = M := ⟨_, rfl⟩
  rw [hM] at HLE HSP HRL HRS hml
  have HML := Lib.hid hml
  rw [hz] at HRU HRR
  rw [h3] at HCR HTC
  have HNZ := Lib.hid hnz
  have hn300 : n ≤ 300 := by omega
  clear hnz hmn hml hM hok hz
  obtain ⟨w1, hw1⟩ : ∃ w1, w.alloc (.cells #[.slice A n cap, .int .i64 z, .int .i64 b] 24) = w1 := ⟨_, rfl⟩
  have hB1 : Below w.heap.size w w1 := by rw [← hw1]; exact balloc _ (Below.refl _ _)
  have hs1 : w1.heap.size = w.heap.size + 1 := by rw [← hw1]; simp
  have c0 : w1.cell? ⟨w.heap.size, 0, none⟩ = some (.slice A n cap) := by rw [← hw1]; simp
  have c1 : w1.cell? ⟨w.heap.size, 1, none⟩ = some (.int .i64 z) := by rw [← hw1]; simp
  have c2 : w1.cell? ⟨w.heap.size, 2, none⟩ = some (.int .i64 b) := by rw [← hw1]; simp
  have HS : Hid (∀ w', Below w1.heap.size w1 w' → w'.cell? ⟨w.heap.size, 0, none⟩ = some (.slice A n cap) ∧ w'.cell? ⟨w.heap.size, 1, none⟩ = some (.int .i64 z) ∧ w'.cell? ⟨w.heap.size, 2, none⟩ = some (.int .i64 b) ∧ Below w1.heap.size w1 w') := Lib.hid fun w' hb =>
    ⟨(hb.cell (p := ⟨w.heap.size, 0, none⟩) (by show w.heap.size < _; omega)).trans c0, (hb.cell (p := ⟨w.heap.size, 1, none⟩) (by show w.heap.size < _; omega)).trans c1, (hb.cell (p := ⟨w.heap.size, 2, none⟩) (by show w.heap.size < _; omega)).trans c2, hb⟩
  have HEx : Hid (∀ w', Below w1.heap.size w1 w' → Calls Tryz.prog 7 #[.slice E m cE] w' (fun e w'' => ∃ v, e = .returned v ∧ OwnEx w'' w'.heap.size v L ∧ Below w'.heap.size w' w'')) := Lib.hid fun w' hb => exchanges_any L m cE E w' ((hE.below hB1).below hb) hm
  have HAW : Hid (∀ w', Below w.heap.size w w' → Calls Tryz.prog 9 #[] w' (RetPost (.bool true) w')) := Lib.hid fun w' hb => aw w' (ht.grow hb)
  have HSR := Lib.hid fun w' => r7Short_any A n cap z b w'
  have HGw : Hid (∀ w', Below w.heap.size w w' → IntsZ w' A n G) := Lib.hid fun w' hb => hG.below hb
  have HEw : Hid (∀ w', Below w.heap.size w w' → Pairs w' E m L) := Lib.hid fun w' hb => hE.below hb
  have HTw : Hid (∀ w', Below w.heap.size w w' → Gt w') := Lib.hid fun w' hb => hT.below hb (Nat.le_refl _)
  have HB1 := Lib.hid hB1
  have HLm := Lib.hid hE.1
  have HGn := Lib.hid hG.1
  clear hG hE ht hT hB1 c0 c1 c2
  go_enter Tryz.func3, Tryz.ntmps3
  go_wp2_with fail
  clear hw1
  refine wp_region_held_drew (S := (fun w' => w'.cell? ⟨w.heap.size, 0, none⟩ = some (.slice A n cap) ∧ w'.cell? ⟨w.heap.size, 1, none⟩ = some (.int .i64 z) ∧ w'.cell? ⟨w.heap.size, 2, none⟩ = some (.int .i64 b) ∧ Below w1.heap.size w1 w')) (by kernel_rfl) ?_ (fun hHeld => ?_)
  · exact HS.out _ (Below.drew (Below.refl _ _))
  obtain ⟨wd, hwd⟩ : ∃ wd, World.drew w1 = wd := ⟨_, rfl⟩
  rw [hwd] at hHeld ⊢
  clear hwd
  refine wpAnyH_take (i := 0) (oi := _) (v := ?_) rfl (by kernel_rfl) (by kernel_rfl) (by kernel_rfl) (fun _ _ _ h => h) (Or.inl ⟨by kernel_rfl, ?_⟩) (by assumption) ?_
  rotate_left
  · rintro w ⟨s1, s2, s3, s4⟩
    go_simp
    try with_reducible rfl
  try simp only [Act.put, List.setIfInBounds_toArray, List.set_cons_zero, List.set_cons_succ, List.getElem_toArray, List.getElem_cons_zero, List.getElem_cons_succ]
  refine wpAnyH_take (i := 1) (oi := _) (v := ?_) rfl (by kernel_rfl) (by kernel_rfl) (by kernel_rfl) (fun _ _ _ h => h) (Or.inl ⟨by kernel_rfl, ?_⟩) (by assumption) ?_
  rotate_left
  · rintro w ⟨s1, s2, s3, s4⟩
    go_simp
    try with_reducible rfl
  try simp only [Act.put, List.setIfInBounds_toArray, List.set_cons_zero, List.set_cons_succ, List.getElem_toArray, List.getElem_cons_zero, List.getElem_cons_succ]
  refine wpAnyH_ready (rs := [2, 3]) (by kernel_rfl) (by simp) ?_
  refine AllReadyH.cons (o := _) rfl (fun K hKK => ?_) (AllReadyH.cons (o := _) rfl (fun K hKK => ?_) AllReadyH.nil)
  · skip
    go_simp
    go_at_call 7
    refine (HEx.out _ hHeld.2.2.2).mono ?_
    rintro e w2 ⟨v8, rfl, ho, hb2⟩
    have hNb := hHeld.2.2.2.trans (hb2.mono hHeld.2.2.2.size)
    clear hHeld hb2
    go_wp2_with fail
    refine hKK.out _ _ ?_ (fun hHeld => ?_)
    · exact HS.out _ hNb
    clear hKK K
    try simp only [Act.put, List.setIfInBounds_toArray, List.set_cons_zero, List.set_cons_succ, List.getElem_toArray, List.getElem_cons_zero, List.getElem_cons_succ]
    clear hNb
    refine wpAnyH_ready (rs := [3]) (by kernel_rfl) (by simp) ?_
    refine AllReadyH.cons (o := _) rfl (fun K hKK => ?_) AllReadyH.nil
    go_simp
    obtain ⟨g7, hg7⟩ : ∃ g7, w2.heap.size = g7 := ⟨_, rfl⟩
    obtain ⟨w3, hw3⟩ : ∃ w3, w2.alloc (.cells #[.slice none 0 0, .int .i64 0, .int .i64 0] 26) = w3 := ⟨_, rfl⟩
    have q0 : w3.cell? ⟨g7, 0, none⟩ = some (.slice none 0 0) := by rw [← hw3, ← hg7]; simp
    have r0 : w3.frozen? ⟨g7, 0, none⟩ = false := by rw [← hw3, ← hg7]; simp
    have q1 : w3.cell? ⟨g7, 1, none⟩ = some (.int .i64 0) := by rw [← hw3, ← hg7]; simp
    have r1 : w3.frozen? ⟨g7, 1, none⟩ = false := by rw [← hw3, ← hg7]; simp
    have q2 : w3.cell? ⟨g7, 2, none⟩ = some (.int .i64 0) := by rw [← hw3, ← hg7]; simp
    have r2 : w3.frozen? ⟨g7, 2, none⟩ = false := by rw [← hw3, ← hg7]; simp
    have hs3 : w3.heap.size = g7 + 1 := by rw [← hw3, ← hg7]; simp
    rw [hg7, hw3]
    have hg1 : w1.heap.size ≤ g7 := by rw [← hg7]; exact hHeld.2.2.2.size
    have hNb : Below w1.heap.size w1 w3 := by rw [← hw3]; exact hHeld.2.2.2.alloc (by omega) _
    have hb23 : Below w2.heap.size w2 w3 := by rw [← hw3]; exact balloc _ (Below.refl _ _)
    clear hHeld hw3
    refine hKK.out _ _ ?_ (fun hHeld => ?_)
    · exact HS.out _ hNb
    clear hKK K
    try simp only [Act.put, List.setIfInBounds_toArray, List.set_cons_zero, List.set_cons_succ, List.getElem_toArray, List.getElem_cons_zero, List.getElem_cons_succ]
    clear hNb
    refine wpAnyH_ready (rs := [4]) (by kernel_rfl) (by simp) ?_
    refine AllReadyH.cons (o := _) rfl (fun K hKK => ?_) AllReadyH.nil
    go_simp
    obtain ⟨w9, hw9⟩ : ∃ w9, ((w3.setCell ⟨g7, 0, none⟩ (.slice A n cap)).setCell ⟨g7, 1, none⟩ (.int .i64 z)).setCell ⟨g7, 2, none⟩ (.int .i64 b) = w9 := ⟨_, rfl⟩
    rw [hw9]
    have hs9 : w9.heap.size = w3.heap.size := by rw [← hw9]; simp
    have t0 : w9.cell? ⟨g7, 0, none⟩ = some (.slice A n cap) := by rw [← hw9]; exact (set3 q0 q1 q2).1
    have t1 : w9.cell? ⟨g7, 1, none⟩ = some (.int .i64 z) := by rw [← hw9]; exact (set3 q0 q1 q2).2.1
    have t2 : w9.cell? ⟨g7, 2, none⟩ = some (.int .i64 b) := by rw [← hw9]; exact (set3 q0 q1 q2).2.2
    have hNb : Below w1.heap.size w1 w9 := by rw [← hw9]; exact ((hHeld.2.2.2.setCell (p := ⟨g7, 0, none⟩) hg1 _).setCell (p := ⟨g7, 1, none⟩) hg1 _).setCell (p := ⟨g7, 2, none⟩) hg1 _
    have ho9 : OwnEx w9 wd.heap.size v8 L := own_belowN ho (by rw [← hw9]; exact ((hb23.setCell (p := ⟨g7, 0, none⟩) (by show w2.heap.size ≤ g7; omega) _).setCell (p := ⟨g7, 1, none⟩) (by show w2.heap.size ≤ g7; omega) _).setCell (p := ⟨g7, 2, none⟩) (by show w2.heap.size ≤ g7; omega) _)
    clear hHeld hw9 q0 q1 q2 r0 r1 r2 ho hb23 hg7
    refine hKK.out _ _ ?_ (fun hHeld => ?_)
    · exact HS.out _ hNb
    clear hKK K
    try simp only [Act.put, List.setIfInBounds_toArray, List.set_cons_zero, List.set_cons_succ, List.getElem_toArray, List.getElem_cons_zero, List.getElem_cons_succ]
    clear hNb
    refine wpAnyH_ready (rs := [5]) (by kernel_rfl) (by simp) ?_
    refine AllReadyH.cons (o := _) rfl (fun K hKK => ?_) AllReadyH.nil
    go_simp
    refine hKK.out _ _ ?_ (fun hHeld => ?_)
    · exact hHeld
    clear hKK K
    try simp only [Act.put, List.setIfInBounds_toArray, List.set_cons_zero, List.set_cons_succ, List.getElem_toArray, List.getElem_cons_zero, List.getElem_cons_succ]
    refine wpAnyH_done (by kernel_rfl) ?_ _
    have HR9 : Hid (RBox w w.heap.size g7 A n cap z b w9) := Lib.hid ⟨⟨hHeld.1, hHeld.2.1, hHeld.2.2.1⟩, ⟨t0, t1, t2⟩, ⟨by have := hHeld.2.2.2.size; omega, by omega⟩, HB1.out.trans (hHeld.2.2.2.mono (by omega))⟩
    obtain ⟨AY, cY, rfl, hPY, hnY⟩ := Pairs.of_ownE ho9
    rw [HLm.out] at hPY hnY ⊢
    have HPY : Hid (∀ w', Below w9.heap.size w9 w' → Pairs w' AY m L) := Lib.hid fun w' hb => hPY.below hb
    have HNY := Lib.hid hnY
    clear hHeld ho9 hPY hnY t0 t1 t2 hs9 hs3 hg1 HS HEx
    obtain ⟨⟨a0, a1, a2⟩, ⟨b0, b1, b2⟩, _, _⟩ := HR9.out
    go_wp2_with fail
    refine (HSR.out _).mono ?_
    rintro e w10 ⟨rfl, hb10⟩
    have HR10 := Lib.hid (HR9.out.next hb10)
    have HW10 : Hid (Below w9.heap.size w9 w10) := Lib.hid hb10
    clear a0 a1 a2 b0 b1 b2 hb10
    obtain ⟨⟨a0, a1, a2⟩, ⟨b0, b1, b2⟩, _, _⟩ := HR10.out
    go_wp2_with fail
    refine (HCR.out _ HR10.out.2.2.2).mono ?_
    rintro e w11 ⟨rfl, hb11⟩
    have HR11 := Lib.hid (HR10.out.next hb11)
    have HW11 := Lib.hid (bstep HW10.out hb11)
    clear a0 a1 a2 b0 b1 b2 hb11
    obtain ⟨⟨a0, a1, a2⟩, ⟨b0, b1, b2⟩, _, _⟩ := HR11.out
    go_wp2_with fail
    refine (HZO.out _ HR11.out.2.2.2).mono ?_
    rintro e w12 ⟨vz, Bz, rfl, hBz, hoz, hb12⟩
    have HR12 := Lib.hid (HR11.out.next hb12)
    have HW12 := Lib.hid (bstep HW11.out hb12)
    have HV12x12 : Hid (Below w12.heap.size w12 w12) := Lib.hid (Below.refl _ _)
    obtain ⟨AZ, cZ, rfl, hPZ⟩ := Pairs.of_own hoz
    rw [HZL.out] at hPZ ⊢
    have HPZ : Hid (∀ w', Below w12.heap.size w12 w' → Pairs w' AZ zl Z) := Lib.hid fun w' hb => hPZ.below hb
    clear hoz hPZ hBz
    clear a0 a1 a2 b0 b1 b2 hb12
    obtain ⟨⟨a0, a1, a2⟩, ⟨b0, b1, b2⟩, _, _⟩ := HR12.out
    go_wp2_with fail
    refine (HRU.out _ HR12.out.2.2.2).mono ?_
    rintro e w13 ⟨rfl, hb13⟩
    have HR13 := Lib.hid (HR12.out.next hb13)
    have HW13 := Lib.hid (bstep HW12.out hb13)
    have HV12x13 : Hid (Below w12.heap.size w12 w13) := Lib.hid (bstep HV12x12.out hb13)
    clear HV12x12
    clear a0 a1 a2 b0 b1 b2 hb13
    obtain ⟨⟨a0, a1, a2⟩, ⟨b0, b1, b2⟩, _, _⟩ := HR13.out
    go_wp2_with fail
    refine (HLE.out _ HR13.out.2.2.2).mono ?_
    rintro e w14 ⟨vl, Bl, rfl, hBl, hol, hb14⟩
    have HR14 := Lib.hid (HR13.out.next hb14)
    have HW14 := Lib.hid (bstep HW13.out hb14)
    have HV12x14 : Hid (Below w12.heap.size w12 w14) := Lib.hid (bstep HV12x13.out hb14)
    clear HV12x13
    have HV14x14 : Hid (Below w14.heap.size w14 w14) := Lib.hid (Below.refl _ _)
    obtain ⟨AL, cL, rfl, hPL⟩ := ints_ofV hol
    rw [HML.out] at hPL ⊢
    have HPL : Hid (∀ w', Below w14.heap.size w14 w' → IntsZ w' AL n (M.map Prod.snd)) := Lib.hid fun w' hb => hPL.below hb
    clear hol hPL hBl
    clear a0 a1 a2 b0 b1 b2 hb14
    obtain ⟨⟨a0, a1, a2⟩, ⟨b0, b1, b2⟩, _, _⟩ := HR14.out
    go_wp2_with fail
    refine (HSP.out _ HR14.out.2.2.2).mono ?_
    rintro e w15 ⟨vs, Bs, rfl, hBs, hos, hb15⟩
    have HR15 := Lib.hid (HR14.out.next hb15)
    have HW15 := Lib.hid (bstep HW14.out hb15)
    have HV12x15 : Hid (Below w12.heap.size w12 w15) := Lib.hid (bstep HV12x14.out hb15)
    clear HV12x14
    have HV14x15 : Hid (Below w14.heap.size w14 w15) := Lib.hid (bstep HV14x14.out hb15)
    clear HV14x14
    have HV15x15 : Hid (Below w15.heap.size w15 w15) := Lib.hid (Below.refl _ _)
    obtain ⟨AS, cS, rfl, hPS⟩ := rats_ofV hos
    rw [HML.out] at hPS ⊢
    have HPS : Hid (∀ w', Below w15.heap.size w15 w' → TextR w' AS n (M.map ratG)) := Lib.hid fun w' hb => hPS.below hb
    clear hos hPS hBs
    clear a0 a1 a2 b0 b1 b2 hb15
    obtain ⟨⟨a0, a1, a2⟩, ⟨b0, b1, b2⟩, _, _⟩ := HR15.out
    go_wp2_with fail
    refine (HTC.out _ HR15.out.2.2.2).mono ?_
    rintro e w16 ⟨rfl, hb16⟩
    have HR16 := Lib.hid (HR15.out.next hb16)
    have HW16 := Lib.hid (bstep HW15.out hb16)
    have HV12x16 : Hid (Below w12.heap.size w12 w16) := Lib.hid (bstep HV12x15.out hb16)
    clear HV12x15
    have HV14x16 : Hid (Below w14.heap.size w14 w16) := Lib.hid (bstep HV14x15.out hb16)
    clear HV14x15
    have HV15x16 : Hid (Below w15.heap.size w15 w16) := Lib.hid (bstep HV15x15.out hb16)
    clear HV15x15
    clear a0 a1 a2 b0 b1 b2 hb16
    obtain ⟨⟨a0, a1, a2⟩, ⟨b0, b1, b2⟩, _, _⟩ := HR16.out
    go_wp2_with fail
    refine (HRZ.out _ HR16.out.2.2.2).mono ?_
    rintro e w17 ⟨vz2, rfl, hoz2, hb17⟩
    obtain ⟨AZ2, cZ2, rfl, hPZ2⟩ := Pairs.of_own hoz2
    rw [HZL.out] at hPZ2 ⊢
    have HPZ2 : Hid (∀ w', Below w17.heap.size w17 w' → Pairs w' AZ2 zl Z) := Lib.hid fun w' hb => hPZ2.below hb
    have HR17 := Lib.hid (HR16.out.next hb17)
    have HW17 := Lib.hid (bstep HW16.out hb17)
    have HB17 := Lib.hid hb17
    clear hoz2 hPZ2 a0 a1 a2 b0 b1 b2 hb17
    obtain ⟨⟨a0, a1, a2⟩, ⟨b0, b1, b2⟩, _, _⟩ := HR17.out
    go_wp2_with fail
    refine (HRR.out _ AY cY HR17.out.2.2.2 (HPY.out _ HW17.out)).mono ?_
    rintro e w18 ⟨rfl, hb18⟩
    have HR18 := Lib.hid (HR17.out.next hb18)
    have HW18 := Lib.hid (bstep HW17.out hb18)
    have HB18 := Lib.hid hb18
    have HZ18 : Hid (∀ w', Below w18.heap.size w18 w' → Pairs w' AZ zl Z ∧ Pairs w' AZ2 zl Z) := Lib.hid fun w' hb => ⟨(HPZ.out _ (bstep (bstep HV12x16.out HB17.out) hb18)).below hb, (HPZ2.out _ hb18).below hb⟩
    clear a0 a1 a2 b0 b1 b2 hb18
    go_wp2
    go_loopw [110] (fun i wr => ∃ k : Nat, k ≤ zl ∧ i = .int .i64 k ∧ Below w18.heap.size w18 wr) (fun i _ => zl - (intOf i).toNat)
    case atStart => exact ⟨0, by omega, rfl, Below.refl _ _⟩
    case round =>
      obtain ⟨k, hk, rfl, hbl⟩ := hrel
      by_cases hlt : k < zl
      · obtain ⟨hp1, hp2⟩ := HZ18.out _ hbl
        obtain ⟨bz, oz, p, rfl, hbz, hp, x0, x1⟩ := hp1.at_ hlt
        obtain ⟨by2, oy2, p2, rfl, hby, hp2', y0, y1⟩ := hp2.at_ hlt
        obtain rfl : p = p2 := Option.some.inj (hp.symm.trans hp2')
        have hki : (k : Int) < (zl : Int) := by omega
        have hk0 : (0 : Int) ≤ (k : Int) := by omega
        have hkt : ((k : Int)).toNat = k := by omega
        clear hp1 hp2 hp hp2'
        go_wp2_with fail
        refine wp_region_held_drew (S := (fun w' => w'.cell? ⟨bz, oz + k * 2, none⟩ = some (.int .i64 p.1) ∧ w'.cell? ⟨bz, oz + k * 2 + 1, none⟩ = some (.int .i64 p.2) ∧ w'.cell? ⟨by2, oy2 + k * 2, none⟩ = some (.int .i64 p.1) ∧ w'.cell? ⟨by2, oy2 + k * 2 + 1, none⟩ = some (.int .i64 p.2) ∧ Below wr.heap.size wr w')) (by kernel_rfl) ?_ (fun hHeld => ?_)
        · exact ⟨x0, x1, y0, y1, Below.drew (Below.refl _ _)⟩
        obtain ⟨wd, hwd⟩ : ∃ wd, World.drew wr = wd := ⟨_, rfl⟩
        rw [hwd] at hHeld ⊢
        clear hwd
        refine wpAnyH_take (i := 0) (oi := _) (v := ?_) rfl (by kernel_rfl) (by kernel_rfl) (by kernel_rfl) (fun _ _ _ h => h) (Or.inl ⟨by kernel_rfl, ?_⟩) (by assumption) ?_
        rotate_left
        · rintro w ⟨s1, s2, s3, s4, s5⟩
          go_simp
          try with_reducible rfl
        try simp only [Act.put, List.setIfInBounds_toArray, List.set_cons_zero, List.set_cons_succ, List.getElem_toArray, List.getElem_cons_zero, List.getElem_cons_succ]
        refine wpAnyH_take (i := 1) (oi := _) (v := ?_) rfl (by kernel_rfl) (by kernel_rfl) (by kernel_rfl) (fun _ _ _ h => h) (Or.inl ⟨by kernel_rfl, ?_⟩) (by assumption) ?_
        rotate_left
        · rintro w ⟨s1, s2, s3, s4, s5⟩
          go_simp
          try with_reducible rfl
        try simp only [Act.put, List.setIfInBounds_toArray, List.set_cons_zero, List.set_cons_succ, List.getElem_toArray, List.getElem_cons_zero, List.getElem_cons_succ]
        refine wpAnyH_take (i := 2) (oi := _) (v := ?_) rfl (by kernel_rfl) (by kernel_rfl) (by kernel_rfl) (fun _ _ _ h => h) (Or.inl ⟨by kernel_rfl, ?_⟩) (by assumption) ?_
        rotate_left
        · rintro w ⟨s1, s2, s3, s4, s5⟩
          go_simp
          try with_reducible rfl
        try simp only [Act.put, List.setIfInBounds_toArray, List.set_cons_zero, List.set_cons_succ, List.getElem_toArray, List.getElem_cons_zero, List.getElem_cons_succ]
        refine wpAnyH_take (i := 3) (oi := _) (v := ?_) rfl (by kernel_rfl) (by kernel_rfl) (by kernel_rfl) (fun _ _ _ h => h) (Or.inl ⟨by kernel_rfl, ?_⟩) (by assumption) ?_
        rotate_left
        · rintro w ⟨s1, s2, s3, s4, s5⟩
          go_simp
          try with_reducible rfl
        try simp only [Act.put, List.setIfInBounds_toArray, List.set_cons_zero, List.set_cons_succ, List.getElem_toArray, List.getElem_cons_zero, List.getElem_cons_succ]
        refine wpAnyH_take (i := 4) (oi := _) (v := ?_) rfl (by kernel_rfl) (by kernel_rfl) (by kernel_rfl) (fun _ _ _ h => h) (Or.inl ⟨by kernel_rfl, ?_⟩) (by assumption) ?_
        rotate_left
        · rintro w ⟨s1, s2, s3, s4, s5⟩
          go_simp
          try with_reducible rfl
        try simp only [Act.put, List.setIfInBounds_toArray, List.set_cons_zero, List.set_cons_succ, List.getElem_toArray, List.getElem_cons_zero, List.getElem_cons_succ]
        refine wpAnyH_take (i := 5) (oi := _) (v := ?_) rfl (by kernel_rfl) (by kernel_rfl) (by kernel_rfl) (fun _ _ _ h => h) (Or.inl ⟨by kernel_rfl, ?_⟩) (by assumption) ?_
        rotate_left
        · rintro w ⟨s1, s2, s3, s4, s5⟩
          go_simp
          try with_reducible rfl
        try simp only [Act.put, List.setIfInBounds_toArray, List.set_cons_zero, List.set_cons_succ, List.getElem_toArray, List.getElem_cons_zero, List.getElem_cons_succ]
        refine wpAnyH_take (i := 6) (oi := _) (v := ?_) rfl (by kernel_rfl) (by kernel_rfl) (by kernel_rfl) (fun _ _ _ h => h) (Or.inl ⟨by kernel_rfl, ?_⟩) (by assumption) ?_
        rotate_left
        · rintro w ⟨s1, s2, s3, s4, s5⟩
          go_simp
          try with_reducible rfl
        try simp only [Act.put, List.setIfInBounds_toArray, List.set_cons_zero, List.set_cons_succ, List.getElem_toArray, List.getElem_cons_zero, List.getElem_cons_succ]
        refine wpAnyH_take (i := 7) (oi := _) (v := ?_) rfl (by kernel_rfl) (by kernel_rfl) (by kernel_rfl) (fun _ _ _ h => h) (Or.inl ⟨by kernel_rfl, ?_⟩) (by assumption) ?_
        rotate_left
        · rintro w ⟨s1, s2, s3, s4, s5⟩
          go_simp
          try with_reducible rfl
        try simp only [Act.put, List.setIfInBounds_toArray, List.set_cons_zero, List.set_cons_succ, List.getElem_toArray, List.getElem_cons_zero, List.getElem_cons_succ]
        refine wpAnyH_take (i := 8) (oi := _) (v := ?_) rfl (by kernel_rfl) (by kernel_rfl) (by kernel_rfl) (fun _ _ _ h => h) (Or.inl ⟨by kernel_rfl, ?_⟩) (by assumption) ?_
        rotate_left
        · rintro w ⟨s1, s2, s3, s4, s5⟩
          go_simp
          try simp only [equalPairX, Result.andThen_ok, Bool.not_true]
          try with_reducible rfl
        try simp only [Act.put, List.setIfInBounds_toArray, List.set_cons_zero, List.set_cons_succ, List.getElem_toArray, List.getElem_cons_zero, List.getElem_cons_succ]
        refine wpAnyH_done (by kernel_rfl) ?_ _
        have hb99 := hbl.trans (hHeld.2.2.2.2.mono hbl.size)
        clear hHeld
        go_wp2
        go_roundw
        case rel => exact ⟨k + 1, by omega, by go_num, hb99⟩
        case measure => simp [intOf]; omega
      · have hki : ¬ (k : Int) < (zl : Int) := by omega
        have HR19 := Lib.hid (HR18.out.next hbl)
        have HW19 := Lib.hid (bstep HW18.out hbl)
        have hPL19 := HPL.out _ (bstep (bstep (bstep HV14x16.out HB17.out) HB18.out) hbl)
        have hPS19 := HPS.out _ (bstep (bstep (bstep HV15x16.out HB17.out) HB18.out) hbl)
        clear hbl
        go_wp2_with fail
        have HS2 : Hid (∀ w', Below wr.heap.size wr w' → w'.cell? ⟨g7, 0, none⟩ = some (.slice A n cap) ∧ w'.cell? ⟨g7, 1, none⟩ = some (.int .i64 z) ∧ w'.cell? ⟨g7, 2, none⟩ = some (.int .i64 b) ∧ Below wr.heap.size wr w') := Lib.hid fun w' hb => ⟨(HR19.out.next hb).2.1.1, (HR19.out.next hb).2.1.2.1, (HR19.out.next hb).2.1.2.2, hb⟩
        refine wp_region_held_drew (S := (fun w' => w'.cell? ⟨g7, 0, none⟩ = some (.slice A n cap) ∧ w'.cell? ⟨g7, 1, none⟩ = some (.int .i64 z) ∧ w'.cell? ⟨g7, 2, none⟩ = some (.int .i64 b) ∧ Below wr.heap.size wr w')) (by kernel_rfl) ?_ (fun hHeld => ?_)
        · exact HS2.out _ (Below.drew (Below.refl _ _))
        obtain ⟨wd, hwd⟩ : ∃ wd, World.drew wr = wd := ⟨_, rfl⟩
        rw [hwd] at hHeld ⊢
        clear hwd
        refine wpAnyH_take (i := 0) (oi := _) (v := ?_) rfl (by kernel_rfl) (by kernel_rfl) (by kernel_rfl) (fun _ _ _ h => h) (Or.inl ⟨by kernel_rfl, ?_⟩) (by assumption) ?_
        rotate_left
        · rintro w ⟨s1, s2, s3, s4⟩
          go_simp
          try with_reducible rfl
        try simp only [Act.put, List.setIfInBounds_toArray, List.set_cons_zero, List.set_cons_succ, List.getElem_toArray, List.getElem_cons_zero, List.getElem_cons_succ]
        refine wpAnyH_take (i := 1) (oi := _) (v := ?_) rfl (by kernel_rfl) (by kernel_rfl) (by kernel_rfl) (fun _ _ _ h => h) (Or.inl ⟨by kernel_rfl, ?_⟩) (by assumption) ?_
        rotate_left
        · rintro w ⟨s1, s2, s3, s4⟩
          go_simp
          try with_reducible rfl
        try simp only [Act.put, List.setIfInBounds_toArray, List.set_cons_zero, List.set_cons_succ, List.getElem_toArray, List.getElem_cons_zero, List.getElem_cons_succ]
        refine wpAnyH_take (i := 2) (oi := _) (v := ?_) rfl (by kernel_rfl) (by kernel_rfl) (by kernel_rfl) (fun _ _ _ h => h) (Or.inl ⟨by kernel_rfl, ?_⟩) (by assumption) ?_
        rotate_left
        · rintro w ⟨s1, s2, s3, s4⟩
          go_simp
          try with_reducible rfl
        try simp only [Act.put, List.setIfInBounds_toArray, List.set_cons_zero, List.set_cons_succ, List.getElem_toArray, List.getElem_cons_zero, List.getElem_cons_succ]
        refine wpAnyH_take (i := 4) (oi := _) (v := ?_) rfl (by kernel_rfl) (by kernel_rfl) (by kernel_rfl) (fun _ _ _ h => h) (Or.inl ⟨by kernel_rfl, ?_⟩) (by assumption) ?_
        rotate_left
        · rintro w ⟨s1, s2, s3, s4⟩
          go_simp
          try with_reducible rfl
        try simp only [Act.put, List.setIfInBounds_toArray, List.set_cons_zero, List.set_cons_succ, List.getElem_toArray, List.getElem_cons_zero, List.getElem_cons_succ]
        refine wpAnyH_take (i := 5) (oi := _) (v := ?_) rfl (by kernel_rfl) (by kernel_rfl) (by kernel_rfl) (fun _ _ _ h => h) (Or.inl ⟨by kernel_rfl, ?_⟩) (by assumption) ?_
        rotate_left
        · rintro w ⟨s1, s2, s3, s4⟩
          go_simp
          try with_reducible rfl
        try simp only [Act.put, List.setIfInBounds_toArray, List.set_cons_zero, List.set_cons_succ, List.getElem_toArray, List.getElem_cons_zero, List.getElem_cons_succ]
        refine wpAnyH_take (i := 6) (oi := _) (v := ?_) rfl (by kernel_rfl) (by kernel_rfl) (by kernel_rfl) (fun _ _ _ h => h) (Or.inl ⟨by kernel_rfl, ?_⟩) (by assumption) ?_
        rotate_left
        · rintro w ⟨s1, s2, s3, s4⟩
          go_simp
          try with_reducible rfl
        try simp only [Act.put, List.setIfInBounds_toArray, List.set_cons_zero, List.set_cons_succ, List.getElem_toArray, List.getElem_cons_zero, List.getElem_cons_succ]
        refine wpAnyH_ready (rs := [3]) (by kernel_rfl) (by simp) ?_
        refine AllReadyH.cons (o := _) rfl (fun K hKK => ?_) AllReadyH.nil
        go_simp
        go_at_call 18
        refine (HRL.out _ AY cY (HR19.out.next hHeld.2.2.2).2.2.2 (HPY.out _ (bstep HW19.out hHeld.2.2.2)) HNY.out).mono ?_
        rintro e w20 ⟨vl2, rfl, hol2, hbw20⟩
        obtain ⟨AL2, cL2, rfl, hAL2⟩ := ints_ofV hol2
        rw [HML.out] at hAL2 ⊢
        have hNb := bstep hHeld.2.2.2 hbw20
        clear hHeld hol2
        go_wp2_with fail
        refine hKK.out _ _ ?_ (fun hHeld => ?_)
        · exact HS2.out _ hNb
        clear hKK K
        try simp only [Act.put, List.setIfInBounds_toArray, List.set_cons_zero, List.set_cons_succ, List.getElem_toArray, List.getElem_cons_zero, List.getElem_cons_succ]
        clear hNb
        clear hbw20
        refine wpAnyH_ready (rs := [7]) (by kernel_rfl) (by simp) ?_
        refine AllReadyH.cons (o := _) rfl (fun K hKK => ?_) AllReadyH.nil
        go_simp
        go_at_call 19
        refine (HRS.out _ AY cY (HR19.out.next hHeld.2.2.2).2.2.2 (HPY.out _ (bstep HW19.out hHeld.2.2.2)) HNY.out).mono ?_
        rintro e w21 ⟨vs2, rfl, hos2, hbw21⟩
        obtain ⟨AS2, cS2, rfl, hAS2⟩ := rats_ofV hos2
        rw [HML.out] at hAS2 ⊢
        have hNb := bstep hHeld.2.2.2 hbw21
        replace hAL2 := hAL2.below hbw21
        clear hHeld hos2
        go_wp2_with fail
        refine hKK.out _ _ ?_ (fun hHeld => ?_)
        · exact HS2.out _ hNb
        clear hKK K
        try simp only [Act.put, List.setIfInBounds_toArray, List.set_cons_zero, List.set_cons_succ, List.getElem_toArray, List.getElem_cons_zero, List.getElem_cons_succ]
        clear hNb
        clear hbw21
        refine wpAnyH_ready (rs := [8]) (by kernel_rfl) (by simp) ?_
        refine AllReadyH.cons (o := _) rfl (fun K hKK => ?_) AllReadyH.nil
        go_simp
        refine hKK.out _ _ ?_ (fun hHeld => ?_)
        · exact hHeld
        clear hKK K
        try simp only [Act.put, List.setIfInBounds_toArray, List.set_cons_zero, List.set_cons_succ, List.getElem_toArray, List.getElem_cons_zero, List.getElem_cons_succ]
        refine wpAnyH_ready (rs := [9]) (by kernel_rfl) (by simp) ?_
        refine AllReadyH.cons (o := _) rfl (fun K hKK => ?_) AllReadyH.nil
        go_simp
        refine hKK.out _ _ ?_ (fun hHeld => ?_)
        · exact hHeld
        clear hKK K
        try simp only [Act.put, List.setIfInBounds_toArray, List.set_cons_zero, List.set_cons_succ, List.getElem_toArray, List.getElem_cons_zero, List.getElem_cons_succ]
        refine wpAnyH_done (by kernel_rfl) ?_ _
        have hsz := sameZ_any (M.map Prod.snd) AL AL2 n cL cL2 w21 hn300 (hPL19.below hHeld.2.2.2) hAL2
        have HR21 := Lib.hid (HR19.out.next hHeld.2.2.2)
        have HST : Hid (∀ w', Below w21.heap.size w21 w' → Calls Tryz.prog 21 #[.slice AS n cS, .slice AS2 n cS2] w' (RetPost (.bool true) w')) := Lib.hid fun w' hb => sameT_any (M.map ratG) AS AS2 n cS cS2 w' hn300 ((hPS19.below hHeld.2.2.2).below hb) (hAS2.below hb)
        clear hHeld hAL2 hAS2 hPL19 hPS19 HS2
        go_wp2_with fail
        refine hsz.mono ?_
        rintro e w22 ⟨rfl, hb22⟩
        have HR22 := Lib.hid (HR21.out.next hb22)
        have hst := HST.out _ hb22
        clear hb22 hsz
        go_wp2_with fail
        refine hst.mono ?_
        rintro e w23 ⟨rfl, hb23⟩
        have HR23 := Lib.hid (HR22.out.next hb23)
        clear hb23 hst
        go_wp2_with fail
        refine (HAW.out _ HR23.out.2.2.2).mono ?_
        rintro e w90 ⟨rfl, hb90⟩
        have hfin := bstep HR23.out.2.2.2 hb90
        clear hb90
        go_wp2
        go_ret
        exact ⟨rfl, hfin⟩
  · skip
    go_simp
    obtain ⟨g7, hg7⟩ : ∃ g7, wd.heap.size = g7 := ⟨_, rfl⟩
    obtain ⟨w3, hw3⟩ : ∃ w3, wd.alloc (.cells #[.slice none 0 0, .int .i64 0, .int .i64 0] 26) = w3 := ⟨_, rfl⟩
    have q0 : w3.cell? ⟨g7, 0, none⟩ = some (.slice none 0 0) := by rw [← hw3, ← hg7]; simp
    have r0 : w3.frozen? ⟨g7, 0, none⟩ = false := by rw [← hw3, ← hg7]; simp
    have q1 : w3.cell? ⟨g7, 1, none⟩ = some (.int .i64 0) := by rw [← hw3, ← hg7]; simp
    have r1 : w3.frozen? ⟨g7, 1, none⟩ = false := by rw [← hw3, ← hg7]; simp
    have q2 : w3.cell? ⟨g7, 2, none⟩ = some (.int .i64 0) := by rw [← hw3, ← hg7]; simp
    have r2 : w3.frozen? ⟨g7, 2, none⟩ = false := by rw [← hw3, ← hg7]; simp
    have hs3 : w3.heap.size = g7 + 1 := by rw [← hw3, ← hg7]; simp
    rw [hg7, hw3]
    have hg1 : w1.heap.size ≤ g7 := by rw [← hg7]; exact hHeld.2.2.2.size
    have hNb : Below w1.heap.size w1 w3 := by rw [← hw3]; exact hHeld.2.2.2.alloc (by omega) _
    clear hHeld hw3
    refine hKK.out _ _ ?_ (fun hHeld => ?_)
    · exact HS.out _ hNb
    clear hKK K
    try simp only [Act.put, List.setIfInBounds_toArray, List.set_cons_zero, List.set_cons_succ, List.getElem_toArray, List.getElem_cons_zero, List.getElem_cons_succ]
    clear hNb
    refine wpAnyH_ready (rs := [2]) (by kernel_rfl) (by simp) ?_
    refine AllReadyH.cons (o := _) rfl (fun K hKK => ?_) AllReadyH.nil
    go_simp
    go_at_call 7
    refine (HEx.out _ hHeld.2.2.2).mono ?_
    rintro e w2 ⟨v8, rfl, ho, hb2⟩
    replace q0 := (hb2.cell (p := ⟨g7, 0, none⟩) (by show g7 < _; omega)).trans q0
    replace r0 := (hb2.frozen (p := ⟨g7, 0, none⟩) (by show g7 < _; omega)).trans r0
    replace q1 := (hb2.cell (p := ⟨g7, 1, none⟩) (by show g7 < _; omega)).trans q1
    replace r1 := (hb2.frozen (p := ⟨g7, 1, none⟩) (by show g7 < _; omega)).trans r1
    replace q2 := (hb2.cell (p := ⟨g7, 2, none⟩) (by show g7 < _; omega)).trans q2
    replace r2 := (hb2.frozen (p := ⟨g7, 2, none⟩) (by show g7 < _; omega)).trans r2
    have hs2 := hb2.size
    have hNb := hHeld.2.2.2.trans (hb2.mono hHeld.2.2.2.size)
    clear hHeld hb2
    go_wp2_with fail
    refine hKK.out _ _ ?_ (fun hHeld => ?_)
    · exact HS.out _ hNb
    clear hKK K
    try simp only [Act.put, List.setIfInBounds_toArray, List.set_cons_zero, List.set_cons_succ, List.getElem_toArray, List.getElem_cons_zero, List.getElem_cons_succ]
    clear hNb
    refine wpAnyH_ready (rs := [4]) (by kernel_rfl) (by simp) ?_
    refine AllReadyH.cons (o := _) rfl (fun K hKK => ?_) AllReadyH.nil
    go_simp
    obtain ⟨w9, hw9⟩ : ∃ w9, ((w2.setCell ⟨g7, 0, none⟩ (.slice A n cap)).setCell ⟨g7, 1, none⟩ (.int .i64 z)).setCell ⟨g7, 2, none⟩ (.int .i64 b) = w9 := ⟨_, rfl⟩
    rw [hw9]
    have hs9 : w9.heap.size = w2.heap.size := by rw [← hw9]; simp
    have t0 : w9.cell? ⟨g7, 0, none⟩ = some (.slice A n cap) := by rw [← hw9]; exact (set3 q0 q1 q2).1
    have t1 : w9.cell? ⟨g7, 1, none⟩ = some (.int .i64 z) := by rw [← hw9]; exact (set3 q0 q1 q2).2.1
    have t2 : w9.cell? ⟨g7, 2, none⟩ = some (.int .i64 b) := by rw [← hw9]; exact (set3 q0 q1 q2).2.2
    have hNb : Below w1.heap.size w1 w9 := by rw [← hw9]; exact ((hHeld.2.2.2.setCell (p := ⟨g7, 0, none⟩) hg1 _).setCell (p := ⟨g7, 1, none⟩) hg1 _).setCell (p := ⟨g7, 2, none⟩) hg1 _
    have ho9 : OwnEx w9 w3.heap.size v8 L := by rw [← hw9]; exact ownsRow_setCell_below (ownsRow_setCell_below (ownsRow_setCell_below ho (a := ⟨g7, 0, none⟩) (by show g7 < _; omega) _) (a := ⟨g7, 1, none⟩) (by show g7 < _; omega) _) (a := ⟨g7, 2, none⟩) (by show g7 < _; omega) _
    have hs99 : g7 < w9.heap.size := by omega
    clear hHeld hw9 q0 q1 q2 r0 r1 r2 ho hg7 hs2
    refine hKK.out _ _ ?_ (fun hHeld => ?_)
    · exact HS.out _ hNb
    clear hKK K
    try simp only [Act.put, List.setIfInBounds_toArray, List.set_cons_zero, List.set_cons_succ, List.getElem_toArray, List.getElem_cons_zero, List.getElem_cons_succ]
    clear hNb
    refine wpAnyH_ready (rs := [5]) (by kernel_rfl) (by simp) ?_
    refine AllReadyH.cons (o := _) rfl (fun K hKK => ?_) AllReadyH.nil
    go_simp
    refine hKK.out _ _ ?_ (fun hHeld => ?_)
    · exact hHeld
    clear hKK K
    try simp only [Act.put, List.setIfInBounds_toArray, List.set_cons_zero, List.set_cons_succ, List.getElem_toArray, List.getElem_cons_zero, List.getElem_cons_succ]
    refine wpAnyH_done (by kernel_rfl) ?_ _
    have HR9 : Hid (RBox w w.heap.size g7 A n cap z b w9) := Lib.hid ⟨⟨hHeld.1, hHeld.2.1, hHeld.2.2.1⟩, ⟨t0, t1, t2⟩, ⟨by have := hHeld.2.2.2.size; omega, by omega⟩, HB1.out.trans (hHeld.2.2.2.mono (by omega))⟩
    obtain ⟨AY, cY, rfl, hPY, hnY⟩ := Pairs.of_ownE ho9
    rw [HLm.out] at hPY hnY ⊢
    have HPY : Hid (∀ w', Below w9.heap.size w9 w' → Pairs w' AY m L) := Lib.hid fun w' hb => hPY.below hb
    have HNY := Lib.hid hnY
    clear hHeld ho9 hPY hnY t0 t1 t2 hs9 hs3 hg1 HS HEx
    obtain ⟨⟨a0, a1, a2⟩, ⟨b0, b1, b2⟩, _, _⟩ := HR9.out
    go_wp2_with fail
    refine (HSR.out _).mono ?_
    rintro e w10 ⟨rfl, hb10⟩
    have HR10 := Lib.hid (HR9.out.next hb10)
    have HW10 : Hid (Below w9.heap.size w9 w10) := Lib.hid hb10
    clear a0 a1 a2 b0 b1 b2 hb10
    obtain ⟨⟨a0, a1, a2⟩, ⟨b0, b1, b2⟩, _, _⟩ := HR10.out
    go_wp2_with fail
    refine (HCR.out _ HR10.out.2.2.2).mono ?_
    rintro e w11 ⟨rfl, hb11⟩
    have HR11 := Lib.hid (HR10.out.next hb11)
    have HW11 := Lib.hid (bstep HW10.out hb11)
    clear a0 a1 a2 b0 b1 b2 hb11
    obtain ⟨⟨a0, a1, a2⟩, ⟨b0, b1, b2⟩, _, _⟩ := HR11.out
    go_wp2_with fail
    refine (HZO.out _ HR11.out.2.2.2).mono ?_
    rintro e w12 ⟨vz, Bz, rfl, hBz, hoz, hb12⟩
    have HR12 := Lib.hid (HR11.out.next hb12)
    have HW12 := Lib.hid (bstep HW11.out hb12)
    have HV12x12 : Hid (Below w12.heap.size w12 w12) := Lib.hid (Below.refl _ _)
    obtain ⟨AZ, cZ, rfl, hPZ⟩ := Pairs.of_own hoz
    rw [HZL.out] at hPZ ⊢
    have HPZ : Hid (∀ w', Below w12.heap.size w12 w' → Pairs w' AZ zl Z) := Lib.hid fun w' hb => hPZ.below hb
    clear hoz hPZ hBz
    clear a0 a1 a2 b0 b1 b2 hb12
    obtain ⟨⟨a0, a1, a2⟩, ⟨b0, b1, b2⟩, _, _⟩ := HR12.out
    go_wp2_with fail
    refine (HRU.out _ HR12.out.2.2.2).mono ?_
    rintro e w13 ⟨rfl, hb13⟩
    have HR13 := Lib.hid (HR12.out.next hb13)
    have HW13 := Lib.hid (bstep HW12.out hb13)
    have HV12x13 : Hid (Below w12.heap.size w12 w13) := Lib.hid (bstep HV12x12.out hb13)
    clear HV12x12
    clear a0 a1 a2 b0 b1 b2 hb13
    obtain ⟨⟨a0, a1, a2⟩, ⟨b0, b1, b2⟩, _, _⟩ := HR13.out
    go_wp2_with fail
    refine (HLE.out _ HR13.out.2.2.2).mono ?_
    rintro e w14 ⟨vl, Bl, rfl, hBl, hol, hb14⟩
    have HR14 := Lib.hid (HR13.out.next hb14)
    have HW14 := Lib.hid (bstep HW13.out hb14)
    have HV12x14 : Hid (Below w12.heap.size w12 w14) := Lib.hid (bstep HV12x13.out hb14)
    clear HV12x13
    have HV14x14 : Hid (Below w14.heap.size w14 w14) := Lib.hid (Below.refl _ _)
    obtain ⟨AL, cL, rfl, hPL⟩ := ints_ofV hol
    rw [HML.out] at hPL ⊢
    have HPL : Hid (∀ w', Below w14.heap.size w14 w' → IntsZ w' AL n (M.map Prod.snd)) := Lib.hid fun w' hb => hPL.below hb
    clear hol hPL hBl
    clear a0 a1 a2 b0 b1 b2 hb14
    obtain ⟨⟨a0, a1, a2⟩, ⟨b0, b1, b2⟩, _, _⟩ := HR14.out
    go_wp2_with fail
    refine (HSP.out _ HR14.out.2.2.2).mono ?_
    rintro e w15 ⟨vs, Bs, rfl, hBs, hos, hb15⟩
    have HR15 := Lib.hid (HR14.out.next hb15)
    have HW15 := Lib.hid (bstep HW14.out hb15)
    have HV12x15 : Hid (Below w12.heap.size w12 w15) := Lib.hid (bstep HV12x14.out hb15)
    clear HV12x14
    have HV14x15 : Hid (Below w14.heap.size w14 w15) := Lib.hid (bstep HV14x14.out hb15)
    clear HV14x14
    have HV15x15 : Hid (Below w15.heap.size w15 w15) := Lib.hid (Below.refl _ _)
    obtain ⟨AS, cS, rfl, hPS⟩ := rats_ofV hos
    rw [HML.out] at hPS ⊢
    have HPS : Hid (∀ w', Below w15.heap.size w15 w' → TextR w' AS n (M.map ratG)) := Lib.hid fun w' hb => hPS.below hb
    clear hos hPS hBs
    clear a0 a1 a2 b0 b1 b2 hb15
    obtain ⟨⟨a0, a1, a2⟩, ⟨b0, b1, b2⟩, _, _⟩ := HR15.out
    go_wp2_with fail
    refine (HTC.out _ HR15.out.2.2.2).mono ?_
    rintro e w16 ⟨rfl, hb16⟩
    have HR16 := Lib.hid (HR15.out.next hb16)
    have HW16 := Lib.hid (bstep HW15.out hb16)
    have HV12x16 : Hid (Below w12.heap.size w12 w16) := Lib.hid (bstep HV12x15.out hb16)
    clear HV12x15
    have HV14x16 : Hid (Below w14.heap.size w14 w16) := Lib.hid (bstep HV14x15.out hb16)
    clear HV14x15
    have HV15x16 : Hid (Below w15.heap.size w15 w16) := Lib.hid (bstep HV15x15.out hb16)
    clear HV15x15
    clear a0 a1 a2 b0 b1 b2 hb16
    obtain ⟨⟨a0, a1, a2⟩, ⟨b0, b1, b2⟩, _, _⟩ := HR16.out
    go_wp2_with fail
    refine (HRZ.out _ HR16.out.2.2.2).mono ?_
    rintro e w17 ⟨vz2, rfl, hoz2, hb17⟩
    obtain ⟨AZ2, cZ2, rfl, hPZ2⟩ := Pairs.of_own hoz2
    rw [HZL.out] at hPZ2 ⊢
    have HPZ2 : Hid (∀ w', Below w17.heap.size w17 w' → Pairs w' AZ2 zl Z) := Lib.hid fun w' hb => hPZ2.below hb
    have HR17 := Lib.hid (HR16.out.next hb17)
    have HW17 := Lib.hid (bstep HW16.out hb17)
    have HB17 := Lib.hid hb17
    clear hoz2 hPZ2 a0 a1 a2 b0 b1 b2 hb17
    obtain ⟨⟨a0, a1, a2⟩, ⟨b0, b1, b2⟩, _, _⟩ := HR17.out
    go_wp2_with fail
    refine (HRR.out _ AY cY HR17.out.2.2.2 (HPY.out _ HW17.out)).mono ?_
    rintro e w18 ⟨rfl, hb18⟩
    have HR18 := Lib.hid (HR17.out.next hb18)
    have HW18 := Lib.hid (bstep HW17.out hb18)
    have HB18 := Lib.hid hb18
    have HZ18 : Hid (∀ w', Below w18.heap.size w18 w' → Pairs w' AZ zl Z ∧ Pairs w' AZ2 zl Z) := Lib.hid fun w' hb => ⟨(HPZ.out _ (bstep (bstep HV12x16.out HB17.out) hb18)).below hb, (HPZ2.out _ hb18).below hb⟩
    clear a0 a1 a2 b0 b1 b2 hb18
    go_wp2
    go_loopw [110] (fun i wr => ∃ k : Nat, k ≤ zl ∧ i = .int .i64 k ∧ Below w18.heap.size w18 wr) (fun i _ => zl - (intOf i).toNat)
    case atStart => exact ⟨0, by omega, rfl, Below.refl _ _⟩
    case round =>
      obtain ⟨k, hk, rfl, hbl⟩ := hrel
      by_cases hlt : k < zl
      · obtain ⟨hp1, hp2⟩ := HZ18.out _ hbl
        obtain ⟨bz, oz, p, rfl, hbz, hp, x0, x1⟩ := hp1.at_ hlt
        obtain ⟨by2, oy2, p2, rfl, hby, hp2', y0, y1⟩ := hp2.at_ hlt
        obtain rfl : p = p2 := Option.some.inj (hp.symm.trans hp2')
        have hki : (k : Int) < (zl : Int) := by omega
        have hk0 : (0 : Int) ≤ (k : Int) := by omega
        have hkt : ((k : Int)).toNat = k := by omega
        clear hp1 hp2 hp hp2'
        go_wp2_with fail
        refine wp_region_held_drew (S := (fun w' => w'.cell? ⟨bz, oz + k * 2, none⟩ = some (.int .i64 p.1) ∧ w'.cell? ⟨bz, oz + k * 2 + 1, none⟩ = some (.int .i64 p.2) ∧ w'.cell? ⟨by2, oy2 + k * 2, none⟩ = some (.int .i64 p.1) ∧ w'.cell? ⟨by2, oy2 + k * 2 + 1, none⟩ = some (.int .i64 p.2) ∧ Below wr.heap.size wr w')) (by kernel_rfl) ?_ (fun hHeld => ?_)
        · exact ⟨x0, x1, y0, y1, Below.drew (Below.refl _ _)⟩
        obtain ⟨wd, hwd⟩ : ∃ wd, World.drew wr = wd := ⟨_, rfl⟩
        rw [hwd] at hHeld ⊢
        clear hwd
        refine wpAnyH_take (i := 0) (oi := _) (v := ?_) rfl (by kernel_rfl) (by kernel_rfl) (by kernel_rfl) (fun _ _ _ h => h) (Or.inl ⟨by kernel_rfl, ?_⟩) (by assumption) ?_
        rotate_left
        · rintro w ⟨s1, s2, s3, s4, s5⟩
          go_simp
          try with_reducible rfl
        try simp only [Act.put, List.setIfInBounds_toArray, List.set_cons_zero, List.set_cons_succ, List.getElem_toArray, List.getElem_cons_zero, List.getElem_cons_succ]
        refine wpAnyH_take (i := 1) (oi := _) (v := ?_) rfl (by kernel_rfl) (by kernel_rfl) (by kernel_rfl) (fun _ _ _ h => h) (Or.inl ⟨by kernel_rfl, ?_⟩) (by assumption) ?_
        rotate_left
        · rintro w ⟨s1, s2, s3, s4, s5⟩
          go_simp
          try with_reducible rfl
        try simp only [Act.put, List.setIfInBounds_toArray, List.set_cons_zero, List.set_cons_succ, List.getElem_toArray, List.getElem_cons_zero, List.getElem_cons_succ]
        refine wpAnyH_take (i := 2) (oi := _) (v := ?_) rfl (by kernel_rfl) (by kernel_rfl) (by kernel_rfl) (fun _ _ _ h => h) (Or.inl ⟨by kernel_rfl, ?_⟩) (by assumption) ?_
        rotate_left
        · rintro w ⟨s1, s2, s3, s4, s5⟩
          go_simp
          try with_reducible rfl
        try simp only [Act.put, List.setIfInBounds_toArray, List.set_cons_zero, List.set_cons_succ, List.getElem_toArray, List.getElem_cons_zero, List.getElem_cons_succ]
        refine wpAnyH_take (i := 3) (oi := _) (v := ?_) rfl (by kernel_rfl) (by kernel_rfl) (by kernel_rfl) (fun _ _ _ h => h) (Or.inl ⟨by kernel_rfl, ?_⟩) (by assumption) ?_
        rotate_left
        · rintro w ⟨s1, s2, s3, s4, s5⟩
          go_simp
          try with_reducible rfl
        try simp only [Act.put, List.setIfInBounds_toArray, List.set_cons_zero, List.set_cons_succ, List.getElem_toArray, List.getElem_cons_zero, List.getElem_cons_succ]
        refine wpAnyH_take (i := 4) (oi := _) (v := ?_) rfl (by kernel_rfl) (by kernel_rfl) (by kernel_rfl) (fun _ _ _ h => h) (Or.inl ⟨by kernel_rfl, ?_⟩) (by assumption) ?_
        rotate_left
        · rintro w ⟨s1, s2, s3, s4, s5⟩
          go_simp
          try with_reducible rfl
        try simp only [Act.put, List.setIfInBounds_toArray, List.set_cons_zero, List.set_cons_succ, List.getElem_toArray, List.getElem_cons_zero, List.getElem_cons_succ]
        refine wpAnyH_take (i := 5) (oi := _) (v := ?_) rfl (by kernel_rfl) (by kernel_rfl) (by kernel_rfl) (fun _ _ _ h => h) (Or.inl ⟨by kernel_rfl, ?_⟩) (by assumption) ?_
        rotate_left
        · rintro w ⟨s1, s2, s3, s4, s5⟩
          go_simp
          try with_reducible rfl
        try simp only [Act.put, List.setIfInBounds_toArray, List.set_cons_zero, List.set_cons_succ, List.getElem_toArray, List.getElem_cons_zero, List.getElem_cons_succ]
        refine wpAnyH_take (i := 6) (oi := _) (v := ?_) rfl (by kernel_rfl) (by kernel_rfl) (by kernel_rfl) (fun _ _ _ h => h) (Or.inl ⟨by kernel_rfl, ?_⟩) (by assumption) ?_
        rotate_left
        · rintro w ⟨s1, s2, s3, s4, s5⟩
          go_simp
          try with_reducible rfl
        try simp only [Act.put, List.setIfInBounds_toArray, List.set_cons_zero, List.set_cons_succ, List.getElem_toArray, List.getElem_cons_zero, List.getElem_cons_succ]
        refine wpAnyH_take (i := 7) (oi := _) (v := ?_) rfl (by kernel_rfl) (by kernel_rfl) (by kernel_rfl) (fun _ _ _ h => h) (Or.inl ⟨by kernel_rfl, ?_⟩) (by assumption) ?_
        rotate_left
        · rintro w ⟨s1, s2, s3, s4, s5⟩
          go_simp
          try with_reducible rfl
        try simp only [Act.put, List.setIfInBounds_toArray, List.set_cons_zero, List.set_cons_succ, List.getElem_toArray, List.getElem_cons_zero, List.getElem_cons_succ]
        refine wpAnyH_take (i := 8) (oi := _) (v := ?_) rfl (by kernel_rfl) (by kernel_rfl) (by kernel_rfl) (fun _ _ _ h => h) (Or.inl ⟨by kernel_rfl, ?_⟩) (by assumption) ?_
        rotate_left
        · rintro w ⟨s1, s2, s3, s4, s5⟩
          go_simp
          try simp only [equalPairX, Result.andThen_ok, Bool.not_true]
          try with_reducible rfl
        try simp only [Act.put, List.setIfInBounds_toArray, List.set_cons_zero, List.set_cons_succ, List.getElem_toArray, List.getElem_cons_zero, List.getElem_cons_succ]
        refine wpAnyH_done (by kernel_rfl) ?_ _
        have hb99 := hbl.trans (hHeld.2.2.2.2.mono hbl.size)
        clear hHeld
        go_wp2
        go_roundw
        case rel => exact ⟨k + 1, by omega, by go_num, hb99⟩
        case measure => simp [intOf]; omega
      · have hki : ¬ (k : Int) < (zl : Int) := by omega
        have HR19 := Lib.hid (HR18.out.next hbl)
        have HW19 := Lib.hid (bstep HW18.out hbl)
        have hPL19 := HPL.out _ (bstep (bstep (bstep HV14x16.out HB17.out) HB18.out) hbl)
        have hPS19 := HPS.out _ (bstep (bstep (bstep HV15x16.out HB17.out) HB18.out) hbl)
        clear hbl
        go_wp2_with fail
        have HS2 : Hid (∀ w', Below wr.heap.size wr w' → w'.cell? ⟨g7, 0, none⟩ = some (.slice A n cap) ∧ w'.cell? ⟨g7, 1, none⟩ = some (.int .i64 z) ∧ w'.cell? ⟨g7, 2, none⟩ = some (.int .i64 b) ∧ Below wr.heap.size wr w') := Lib.hid fun w' hb => ⟨(HR19.out.next hb).2.1.1, (HR19.out.next hb).2.1.2.1, (HR19.out.next hb).2.1.2.2, hb⟩
        refine wp_region_held_drew (S := (fun w' => w'.cell? ⟨g7, 0, none⟩ = some (.slice A n cap) ∧ w'.cell? ⟨g7, 1, none⟩ = some (.int .i64 z) ∧ w'.cell? ⟨g7, 2, none⟩ = some (.int .i64 b) ∧ Below wr.heap.size wr w')) (by kernel_rfl) ?_ (fun hHeld => ?_)
        · exact HS2.out _ (Below.drew (Below.refl _ _))
        obtain ⟨wd, hwd⟩ : ∃ wd, World.drew wr = wd := ⟨_, rfl⟩
        rw [hwd] at hHeld ⊢
        clear hwd
        refine wpAnyH_take (i := 0) (oi := _) (v := ?_) rfl (by kernel_rfl) (by kernel_rfl) (by kernel_rfl) (fun _ _ _ h => h) (Or.inl ⟨by kernel_rfl, ?_⟩) (by assumption) ?_
        rotate_left
        · rintro w ⟨s1, s2, s3, s4⟩
          go_simp
          try with_reducible rfl
        try simp only [Act.put, List.setIfInBounds_toArray, List.set_cons_zero, List.set_cons_succ, List.getElem_toArray, List.getElem_cons_zero, List.getElem_cons_succ]
        refine wpAnyH_take (i := 1) (oi := _) (v := ?_) rfl (by kernel_rfl) (by kernel_rfl) (by kernel_rfl) (fun _ _ _ h => h) (Or.inl ⟨by kernel_rfl, ?_⟩) (by assumption) ?_
        rotate_left
        · rintro w ⟨s1, s2, s3, s4⟩
          go_simp
          try with_reducible rfl
        try simp only [Act.put, List.setIfInBounds_toArray, List.set_cons_zero, List.set_cons_succ, List.getElem_toArray, List.getElem_cons_zero, List.getElem_cons_succ]
        refine wpAnyH_take (i := 2) (oi := _) (v := ?_) rfl (by kernel_rfl) (by kernel_rfl) (by kernel_rfl) (fun _ _ _ h => h) (Or.inl ⟨by kernel_rfl, ?_⟩) (by assumption) ?_
        rotate_left
        · rintro w ⟨s1, s2, s3, s4⟩
          go_simp
          try with_reducible rfl
        try simp only [Act.put, List.setIfInBounds_toArray, List.set_cons_zero, List.set_cons_succ, List.getElem_toArray, List.getElem_cons_zero, List.getElem_cons_succ]
        refine wpAnyH_take (i := 4) (oi := _) (v := ?_) rfl (by kernel_rfl) (by kernel_rfl) (by kernel_rfl) (fun _ _ _ h => h) (Or.inl ⟨by kernel_rfl, ?_⟩) (by assumption) ?_
        rotate_left
        · rintro w ⟨s1, s2, s3, s4⟩
          go_simp
          try with_reducible rfl
        try simp only [Act.put, List.setIfInBounds_toArray, List.set_cons_zero, List.set_cons_succ, List.getElem_toArray, List.getElem_cons_zero, List.getElem_cons_succ]
        refine wpAnyH_take (i := 5) (oi := _) (v := ?_) rfl (by kernel_rfl) (by kernel_rfl) (by kernel_rfl) (fun _ _ _ h => h) (Or.inl ⟨by kernel_rfl, ?_⟩) (by assumption) ?_
        rotate_left
        · rintro w ⟨s1, s2, s3, s4⟩
          go_simp
          try with_reducible rfl
        try simp only [Act.put, List.setIfInBounds_toArray, List.set_cons_zero, List.set_cons_succ, List.getElem_toArray, List.getElem_cons_zero, List.getElem_cons_succ]
        refine wpAnyH_take (i := 6) (oi := _) (v := ?_) rfl (by kernel_rfl) (by kernel_rfl) (by kernel_rfl) (fun _ _ _ h => h) (Or.inl ⟨by kernel_rfl, ?_⟩) (by assumption) ?_
        rotate_left
        · rintro w ⟨s1, s2, s3, s4⟩
          go_simp
          try with_reducible rfl
        try simp only [Act.put, List.setIfInBounds_toArray, List.set_cons_zero, List.set_cons_succ, List.getElem_toArray, List.getElem_cons_zero, List.getElem_cons_succ]
        refine wpAnyH_ready (rs := [3]) (by kernel_rfl) (by simp) ?_
        refine AllReadyH.cons (o := _) rfl (fun K hKK => ?_) AllReadyH.nil
        go_simp
        go_at_call 18
        refine (HRL.out _ AY cY (HR19.out.next hHeld.2.2.2).2.2.2 (HPY.out _ (bstep HW19.out hHeld.2.2.2)) HNY.out).mono ?_
        rintro e w20 ⟨vl2, rfl, hol2, hbw20⟩
        obtain ⟨AL2, cL2, rfl, hAL2⟩ := ints_ofV hol2
        rw [HML.out] at hAL2 ⊢
        have hNb := bstep hHeld.2.2.2 hbw20
        clear hHeld hol2
        go_wp2_with fail
        refine hKK.out _ _ ?_ (fun hHeld => ?_)
        · exact HS2.out _ hNb
        clear hKK K
        try simp only [Act.put, List.setIfInBounds_toArray, List.set_cons_zero, List.set_cons_succ, List.getElem_toArray, List.getElem_cons_zero, List.getElem_cons_succ]
        clear hNb
        clear hbw20
        refine wpAnyH_ready (rs := [7]) (by kernel_rfl) (by simp) ?_
        refine AllReadyH.cons (o := _) rfl (fun K hKK => ?_) AllReadyH.nil
        go_simp
        go_at_call 19
        refine (HRS.out _ AY cY (HR19.out.next hHeld.2.2.2).2.2.2 (HPY.out _ (bstep HW19.out hHeld.2.2.2)) HNY.out).mono ?_
        rintro e w21 ⟨vs2, rfl, hos2, hbw21⟩
        obtain ⟨AS2, cS2, rfl, hAS2⟩ := rats_ofV hos2
        rw [HML.out] at hAS2 ⊢
        have hNb := bstep hHeld.2.2.2 hbw21
        replace hAL2 := hAL2.below hbw21
        clear hHeld hos2
        go_wp2_with fail
        refine hKK.out _ _ ?_ (fun hHeld => ?_)
        · exact HS2.out _ hNb
        clear hKK K
        try simp only [Act.put, List.setIfInBounds_toArray, List.set_cons_zero, List.set_cons_succ, List.getElem_toArray, List.getElem_cons_zero, List.getElem_cons_succ]
        clear hNb
        clear hbw21
        refine wpAnyH_ready (rs := [8]) (by kernel_rfl) (by simp) ?_
        refine AllReadyH.cons (o := _) rfl (fun K hKK => ?_) AllReadyH.nil
        go_simp
        refine hKK.out _ _ ?_ (fun hHeld => ?_)
        · exact hHeld
        clear hKK K
        try simp only [Act.put, List.setIfInBounds_toArray, List.set_cons_zero, List.set_cons_succ, List.getElem_toArray, List.getElem_cons_zero, List.getElem_cons_succ]
        refine wpAnyH_ready (rs := [9]) (by kernel_rfl) (by simp) ?_
        refine AllReadyH.cons (o := _) rfl (fun K hKK => ?_) AllReadyH.nil
        go_simp
        refine hKK.out _ _ ?_ (fun hHeld => ?_)
        · exact hHeld
        clear hKK K
        try simp only [Act.put, List.setIfInBounds_toArray, List.set_cons_zero, List.set_cons_succ, List.getElem_toArray, List.getElem_cons_zero, List.getElem_cons_succ]
        refine wpAnyH_done (by kernel_rfl) ?_ _
        have hsz := sameZ_any (M.map Prod.snd) AL AL2 n cL cL2 w21 hn300 (hPL19.below hHeld.2.2.2) hAL2
        have HR21 := Lib.hid (HR19.out.next hHeld.2.2.2)
        have HST : Hid (∀ w', Below w21.heap.size w21 w' → Calls Tryz.prog 21 #[.slice AS n cS, .slice AS2 n cS2] w' (RetPost (.bool true) w')) := Lib.hid fun w' hb => sameT_any (M.map ratG) AS AS2 n cS cS2 w' hn300 ((hPS19.below hHeld.2.2.2).below hb) (hAS2.below hb)
        clear hHeld hAL2 hAS2 hPL19 hPS19 HS2
        go_wp2_with fail
        refine hsz.mono ?_
        rintro e w22 ⟨rfl, hb22⟩
        have HR22 := Lib.hid (HR21.out.next hb22)
        have hst := HST.out _ hb22
        clear hb22 hsz
        go_wp2_with fail
        refine hst.mono ?_
        rintro e w23 ⟨rfl, hb23⟩
        have HR23 := Lib.hid (HR22.out.next hb23)
        clear hb23 hst
        go_wp2_with fail
        refine (HAW.out _ HR23.out.2.2.2).mono ?_
        rintro e w90 ⟨rfl, hb90⟩
        have hfin := bstep HR23.out.2.2.2 hb90
        clear hb90
        go_wp2
        go_ret
        exact ⟨rfl, hfin⟩
theorem relays_any (G : List Int) (n cap : Nat) (A : Option Addr) (z b : Int) (L : List (Int × Int)) (m cE : Nat) (E : Option Addr) (f : Int) (w : World)
    (hG : IntsZ w A n G) (hn : (n : Int) ≤ 9223372036854775807) (hc : n ≤ cap) (hE : Pairs w E m L) (hm : m * 16 ≤ 140737488355328) (ht : Tabs w) (hT : Gt w) :
    Calls Tryz.prog 3 #[.agg #[.slice A n cap, .int .i64 z, .int .i64 b], .slice E m cE, .int .i64 f] w (Yes w) := by
  by_cases h1 : n ≤ 11
  · by_cases h2 : m ≤ 12
    · by_cases h3 : relW G z b = 0
      · by_cases h4 : (crW G z b L f).2 = 0
        · exact relays_C G n cap A z b L m cE E f w hG hn hc hE hm ht hT h1 h2 h3 h4
        · exact relays_B G n cap A z b L m cE E f w hG hn hc hE hm ht hT h1 h2 h3 h4
      · exact relays_A G n cap A z b L m cE E f w hG hn hc hE hm ht hT h1 h2 h3
    · exact relays_ex2 G n cap A z b L m cE E f w hG hn hc hE hm ht hT h1 (by omega)
  · exact relays_ex1 G n cap A z b L m cE E f w hG hn hc hE hm ht hT (by omega)
end Go.Mk
