/-
  Proved: the law MarkChecks returns true where the marks can be compared. Conditions: the tables that awake reads lie where the program lays them; the callees by their values.
-/
import Derived.Test.YtgcofpejbjfhaaaGreatDoorLw
import Derived.Test.YtgcofpejbjfhaaaGreatDoorRj
import Derived.Deep.DeepCutAuto
set_option linter.unusedVariables false
set_option linter.unusedSimpArgs false
open Go Go.Proofs Go.RowKit
set_option maxRecDepth 100000
namespace Go.Mk

set_option maxHeartbeats 16000000 in
theorem checks_e (s1 r1 s2 r2 n k q : ByteArray) (v1 v2 x er wv we : Int) (w : World) (ht : Tabs w) (hn : n.size ≤ 40)
    (hB1 : ∀ w, Calls Tryz.prog 18 #[.agg #[.string s1, .int .i64 v1, .string r1]] w (RetPost (.bool true) w)) (hB2 : ∀ w, Calls Tryz.prog 18 #[.agg #[.string s2, .int .i64 v2, .string r2]] w (RetPost (.bool true) w))
    (c : Int) (g1 : (s1.toList == s2.toList) = false) (g2 : (s1.toList == [110, 111, 110, 101]) = true) (hCmp : ∀ w, Calls Tryz.prog 23 #[.agg #[.string s1, .int .i64 v1, .string r1], .agg #[.string s2, .int .i64 v2, .string r2]] w (RetPost (.int .i64 c) w))
    (hC1 : ∀ w, Calls Tryz.prog 19 #[.agg #[.string s1, .int .i64 v1, .string r1]] w (RetPost (.int .i64 0) w)) (hC2 : ∀ w, Calls Tryz.prog 19 #[.agg #[.string s2, .int .i64 v2, .string r2]] w (RetPost (.int .i64 0) w))
    (hM : ∀ w, 15 ≤ w.heap.size → Calls Tryz.prog 20 #[.agg #[.string s1, .int .i64 v1, .string r1]] w (RetPost (.int .i64 0) w))
    (hP : ∀ w, 15 ≤ w.heap.size → Calls Tryz.prog 21 #[.agg #[.string s1, .int .i64 v1, .string r1], .agg #[.string s2, .int .i64 v2, .string r2]] w (RetPost (.tuple #[.int .i64 c, .int .i64 0]) w))
    (hR : ∀ w, 15 ≤ w.heap.size → Calls Tryz.prog 24 #[.agg #[.string s1, .int .i64 v1, .string r1], .string n] w (RetPost (.tuple #[.agg #[.string k, .int .i64 x, .string q], .int .i64 er]) w))
    (hRR : ∀ w, Calls Tryz.prog 25 #[.agg #[.string s1, .int .i64 v1, .string r1], .string n] w (RetPost (.tuple #[.agg #[.string k, .int .i64 x, .string q], .int .i64 er]) w))
    (hWd : ∀ w, Calls Tryz.prog 26 #[.int .i64 v2] w (RetPost (.tuple #[.int .i64 wv, .int .i64 we]) w))
    (hwind : (v2 < -9999 ∧ wv = 0 ∧ we = 3) ∨ (¬ v2 < -9999 ∧ 9999 < v2 ∧ wv = 0 ∧ we = 3) ∨ (¬ v2 < -9999 ∧ ¬ 9999 < v2 ∧ we = 0 ∧ ∀ w, Calls Tryz.prog 27 #[.int .i64 v2] w (RetPost (.int .i64 wv) w))) :
    Calls Tryz.prog 4 #[.agg #[.string s1, .int .i64 v1, .string r1], .agg #[.string s2, .int .i64 v2, .string r2], .string n] w (Yes w) := by
  have he : fst2 0 0 = 0 := rfl
  have hW : Below w.heap.size w ((w.alloc (.cells #[.string s1, .int .i64 v1, .string r1] 38)).alloc (.cells #[.string s2, .int .i64 v2, .string r2] 38)) := ((Below.refl w.heap.size w).alloc (Nat.le_refl _) _).alloc (by simp) _
  have hX1 : Box ((w.alloc (.cells #[.string s1, .int .i64 v1, .string r1] 38)).alloc (.cells #[.string s2, .int .i64 v2, .string r2] 38)) w.heap.size s1 v1 r1 := (Box.new w s1 v1 r1).below ((Below.refl _ _).alloc (Nat.le_refl _) _) (by simp)
  have hX2 : Box ((w.alloc (.cells #[.string s1, .int .i64 v1, .string r1] 38)).alloc (.cells #[.string s2, .int .i64 v2, .string r2] 38)) (w.heap.size + 1) s2 v2 r2 := Box.new' _ _ s2 v2 r2 (by simp)
  have hsz : w.heap.size + 1 < ((w.alloc (.cells #[.string s1, .int .i64 v1, .string r1] 38)).alloc (.cells #[.string s2, .int .i64 v2, .string r2] 38)).heap.size := by simp
  go_enter Tryz.func4, Tryz.ntmps4
  go_wp2_with fail
  generalize (w.alloc (.cells #[.string s1, .int .i64 v1, .string r1] 38)).alloc (.cells #[.string s2, .int .i64 v2, .string r2] 38) = w0 at hW hX1 hX2 hsz ⊢
  have HT : Hid (∀ w', Below w0.heap.size w0 w' → Tabs w') := fun w' h => (ht.grow hW).grow h
  have HW : Hid (Below w.heap.size w w0) := hW
  have HX1 : Hid (Box w0 w.heap.size s1 v1 r1) := hX1
  have HX2 : Hid (Box w0 (w.heap.size + 1) s2 v2 r2) := hX2
  obtain ⟨a0, a1, a2⟩ := hX1
  obtain ⟨b0, b1, b2⟩ := hX2
  have hb0 : Below w0.heap.size w0 w0 := Below.refl _ _
  clear hW ht
  have hn40 : ¬ 40 < (n.size : Int) := by omega
  have hnm : (n.size : Int) ≤ 9223372036854775807 := by omega
  go_upto_region 3 with (first | (go_at_call 8; ((with_reducible refine (aw _ (HT.out _ hb0)).mono ?_)); rintro e wa ⟨rfl, hbn⟩; have hb0 := hb0.trans (hbn.mono hb0.size); clear a0 a1 a2 b0 b1 b2 hbn; obtain ⟨a0, a1, a2⟩ := HX1.out.below hb0 (by omega); obtain ⟨b0, b1, b2⟩ := HX2.out.below hb0 hsz) | (go_at_call 18; ((with_reducible refine (hB1 _).mono ?_)); rintro e wb ⟨rfl, hbn⟩; have hb0 := hb0.trans (hbn.mono hb0.size); clear a0 a1 a2 b0 b1 b2 hbn; obtain ⟨a0, a1, a2⟩ := HX1.out.below hb0 (by omega); obtain ⟨b0, b1, b2⟩ := HX2.out.below hb0 hsz) | (go_at_call 18; ((with_reducible refine (hB2 _).mono ?_)); rintro e wc ⟨rfl, hbn⟩; have hb0 := hb0.trans (hbn.mono hb0.size); clear a0 a1 a2 b0 b1 b2 hbn; obtain ⟨a0, a1, a2⟩ := HX1.out.below hb0 (by omega); obtain ⟨b0, b1, b2⟩ := HX2.out.below hb0 hsz))
  go_cut [7, 8] (fun x7 x8 wx => x7 = .int .i64 0 ∧ x8 = .int .i64 0 ∧ Below w0.heap.size w0 wx)
  case first =>
    go_region_with (first | (go_at_call 19; ((with_reducible refine (hC1 _).mono ?_)); rintro e wd ⟨rfl, hbn⟩; have hb0 := (show Below w0.heap.size w0 wd from (by first | exact hb0.trans (hbn.mono hb0.size) | exact hb0.drew.trans (hbn.mono hb0.size))); clear a0 a1 a2 b0 b1 b2 hbn; obtain ⟨a0, a1, a2⟩ := HX1.out.below hb0 (by omega); obtain ⟨b0, b1, b2⟩ := HX2.out.below hb0 hsz) | (go_at_call 19; ((with_reducible refine (hC2 _).mono ?_)); rintro e we ⟨rfl, hbn⟩; have hb0 := (show Below w0.heap.size w0 we from (by first | exact hb0.trans (hbn.mono hb0.size) | exact hb0.drew.trans (hbn.mono hb0.size))); clear a0 a1 a2 b0 b1 b2 hbn; obtain ⟨a0, a1, a2⟩ := HX1.out.below hb0 (by omega); obtain ⟨b0, b1, b2⟩ := HX2.out.below hb0 hsz))
    all_goals (go_wp2_with fail; go_meet; exact ⟨rfl, rfl, by first | exact hb0 | exact hb0.drew⟩)
  case rest =>
  obtain ⟨rfl, rfl, hbg⟩ := hcut
  clear hB1 hB2 hC1 hC2
  obtain ⟨wg, rfl⟩ : ∃ wg : World, wg = wc := ⟨_, rfl⟩
  have hzg : w.heap.size + 1 < wg.heap.size := by have := hbg.size; omega
  clear a0 a1 a2 b0 b1 b2 hb0
  have hb0 := hbg
  clear hbg
  obtain ⟨a0, a1, a2⟩ := HX1.out.below hb0 (by omega)
  obtain ⟨b0, b1, b2⟩ := HX2.out.below hb0 hsz
  go_wp2_with fail
  refine (hM _ (HT.out _ hb0).1).mono ?_
  rintro e wm ⟨rfl, hbn⟩
  have hzwm : wg.heap.size ≤ wm.heap.size := hbn.size
  have ha : Box wm w.heap.size s1 v1 r1 := Box.below ⟨a0, a1, a2⟩ hbn (by omega)
  have hb : Box wm (w.heap.size + 1) s2 v2 r2 := Box.below ⟨b0, b1, b2⟩ hbn (by omega)
  clear a0 a1 a2 b0 b1 b2
  obtain ⟨a0, a1, a2⟩ := ha
  obtain ⟨b0, b1, b2⟩ := hb
  have hLawm : w.heap.size < wm.heap.size := by omega
  have hLbwm : (w.heap.size + 1) < wm.heap.size := by omega
  have hb0 := hb0.trans (hbn.mono hb0.size)
  clear hbn
  go_wp2_with fail
  refine (hP _ (HT.out _ hb0).1).mono ?_
  rintro e wp ⟨rfl, hbn⟩
  have hzwp : wm.heap.size ≤ wp.heap.size := hbn.size
  have ha : Box wp w.heap.size s1 v1 r1 := Box.below ⟨a0, a1, a2⟩ hbn (by omega)
  have hb : Box wp (w.heap.size + 1) s2 v2 r2 := Box.below ⟨b0, b1, b2⟩ hbn (by omega)
  clear a0 a1 a2 b0 b1 b2
  obtain ⟨a0, a1, a2⟩ := ha
  obtain ⟨b0, b1, b2⟩ := hb
  have hLawp : w.heap.size < wp.heap.size := by omega
  have hLbwp : (w.heap.size + 1) < wp.heap.size := by omega
  have hb0 := hb0.trans (hbn.mono hb0.size)
  clear hbn
  go_wp2_with fail
  have hL := lawFirst_any 0 0 wp.heap.size (wp.alloc (.cells #[.int .i64 0, .int .i64 0] 3)) (by simp) (by simp)
  rw [he] at hL
  have hbm : Below w0.heap.size w0 (wp.alloc (.cells #[.int .i64 0, .int .i64 0] 3)) := hb0.alloc hb0.size _
  have ha : Box (wp.alloc (.cells #[.int .i64 0, .int .i64 0] 3)) w.heap.size s1 v1 r1 := Box.below ⟨a0, a1, a2⟩ ((Below.refl wp.heap.size wp).alloc (Nat.le_refl _) _) (by omega)
  have hb : Box (wp.alloc (.cells #[.int .i64 0, .int .i64 0] 3)) (w.heap.size + 1) s2 v2 r2 := Box.below ⟨b0, b1, b2⟩ ((Below.refl wp.heap.size wp).alloc (Nat.le_refl _) _) (by omega)
  have hzm : (wp.alloc (.cells #[.int .i64 0, .int .i64 0] 3)).heap.size = wp.heap.size + 1 := by simp
  clear a0 a1 a2 b0 b1 b2 hb0
  generalize wp.alloc (.cells #[.int .i64 0, .int .i64 0] 3) = wq at hL hbm hzm ha hb ⊢
  have hzwq : wp.heap.size < wq.heap.size := by omega
  clear hzm
  have hLawq : w.heap.size < wq.heap.size := by omega
  have hLbwq : (w.heap.size + 1) < wq.heap.size := by omega
  obtain ⟨a0, a1, a2⟩ := ha
  obtain ⟨b0, b1, b2⟩ := hb
  have hb0 := hbm
  clear hbm
  refine (hL).mono ?_
  rintro e wf ⟨rfl, hbn⟩
  have hzwf : wq.heap.size ≤ wf.heap.size := hbn.size
  have ha : Box wf w.heap.size s1 v1 r1 := Box.below ⟨a0, a1, a2⟩ hbn (by omega)
  have hb : Box wf (w.heap.size + 1) s2 v2 r2 := Box.below ⟨b0, b1, b2⟩ hbn (by omega)
  clear a0 a1 a2 b0 b1 b2
  obtain ⟨a0, a1, a2⟩ := ha
  obtain ⟨b0, b1, b2⟩ := hb
  have hLawf : w.heap.size < wf.heap.size := by omega
  have hLbwf : (w.heap.size + 1) < wf.heap.size := by omega
  have hb0 := hb0.trans (hbn.mono hb0.size)
  clear hbn
  clear hL
  go_wp2_with (first | (go_at_call 15; ((with_reducible refine (when_no 13 _).mono ?_)); rintro e wv ⟨rfl, rfl⟩) | (go_at_call 23; ((with_reducible refine (hCmp _).mono ?_)); rintro e wh ⟨rfl, hbn⟩; have hb0 := (show Below w0.heap.size w0 wh from (by first | exact hb0.trans (hbn.mono hb0.size) | exact hb0.drew.trans (hbn.mono hb0.size))); clear a0 a1 a2 b0 b1 b2 hbn; obtain ⟨a0, a1, a2⟩ := HX1.out.below hb0 (by omega); obtain ⟨b0, b1, b2⟩ := HX2.out.below hb0 hsz) | (go_at_call 22; ((with_reducible refine (integer_ok c _).mono ?_)); rintro e wv ⟨rfl, rfl⟩))
  have hTg := (HT.out _ hb0).1
  refine (hR _ hTg).mono ?_
  rintro e wr ⟨rfl, hbn⟩
  have hb0 := hb0.trans (hbn.mono hb0.size)
  clear hbn a0 a1 a2 b0 b1 b2 hTg
  have hW0r : w0.heap.size ≤ wr.heap.size := hb0.size
  have hzr : w.heap.size + 1 < wr.heap.size := by omega
  have hzr' : w.heap.size < wr.heap.size := by omega
  obtain ⟨a0, a1, a2⟩ := HX1.out.below hb0 (by omega)
  obtain ⟨b0, b1, b2⟩ := HX2.out.below hb0 hsz
  go_wp2_with fail
  have hbm : Below w0.heap.size w0 ((wr.alloc (.cells #[.string k, .int .i64 x, .string q] 38)).alloc (.cells #[.string ⟨#[]⟩, .int .i64 0, .string ⟨#[]⟩] 38)) := (hb0.alloc hb0.size _).alloc (by have := hb0.size; simp; omega) _
  have hc : Box ((wr.alloc (.cells #[.string k, .int .i64 x, .string q] 38)).alloc (.cells #[.string ⟨#[]⟩, .int .i64 0, .string ⟨#[]⟩] 38)) wr.heap.size k x q := (Box.new wr k x q).below (K := wr.heap.size + 1) ((Below.refl _ _).alloc (by simp) _) (by omega)
  have hd : Box ((wr.alloc (.cells #[.string k, .int .i64 x, .string q] 38)).alloc (.cells #[.string ⟨#[]⟩, .int .i64 0, .string ⟨#[]⟩] 38)) (wr.heap.size + 1) ⟨#[]⟩ 0 ⟨#[]⟩ := Box.new' _ _ _ _ _ (by simp)
  have hfz : ∀ o, ((wr.alloc (.cells #[.string k, .int .i64 x, .string q] 38)).alloc (.cells #[.string ⟨#[]⟩, .int .i64 0, .string ⟨#[]⟩] 38)).frozen? ⟨wr.heap.size + 1, o, none⟩ = false := fun o => by simp
  have hzm : ((wr.alloc (.cells #[.string k, .int .i64 x, .string q] 38)).alloc (.cells #[.string ⟨#[]⟩, .int .i64 0, .string ⟨#[]⟩] 38)).heap.size = wr.heap.size + 2 := by simp
  clear a0 a1 a2 b0 b1 b2 hb0
  generalize ((wr.alloc (.cells #[.string k, .int .i64 x, .string q] 38)).alloc (.cells #[.string ⟨#[]⟩, .int .i64 0, .string ⟨#[]⟩] 38)) = wz at hbm hc hd hfz hzm ⊢
  have hb0 := hbm
  clear hbm
  have hLd : wr.heap.size + 1 < wz.heap.size := by omega
  have hLc : wr.heap.size < wz.heap.size := by omega
  clear hzm
  obtain ⟨a0, a1, a2⟩ := HX1.out.below hb0 (by omega)
  obtain ⟨b0, b1, b2⟩ := HX2.out.below hb0 hsz
  obtain ⟨c0, c1, c2⟩ := hc
  obtain ⟨d0, d1, d2⟩ := hd
  refine (hRR _).mono ?_
  rintro e wy ⟨rfl, hbn⟩
  have hc : Box wy wr.heap.size k x q := Box.below ⟨c0, c1, c2⟩ hbn hLc
  have hd : Box wy (wr.heap.size + 1) ⟨#[]⟩ 0 ⟨#[]⟩ := Box.below ⟨d0, d1, d2⟩ hbn hLd
  have hfy : ∀ o, wy.frozen? ⟨wr.heap.size + 1, o, none⟩ = false := fun o => by rw [hbn.frozen (p := ⟨wr.heap.size + 1, o, none⟩) hLd]; exact hfz o
  have hLe : wr.heap.size + 1 < wy.heap.size := by have := hbn.size; omega
  have hLf : wr.heap.size < wy.heap.size := by omega
  have hb0 := hb0.trans (hbn.mono hb0.size)
  clear a0 a1 a2 b0 b1 b2 c0 c1 c2 d0 d1 d2 hbn hfz
  obtain ⟨a0, a1, a2⟩ := HX1.out.below hb0 (by omega)
  obtain ⟨b0, b1, b2⟩ := HX2.out.below hb0 hsz
  obtain ⟨c0, c1, c2⟩ := hc
  obtain ⟨d0, d1, d2⟩ := hd
  go_wp2_with fail
  have hbm : Below w0.heap.size w0 (((wy.setCell ⟨wr.heap.size + 1, 0, none⟩ (.string k)).setCell ⟨wr.heap.size + 1, 1, none⟩ (.int .i64 x)).setCell ⟨wr.heap.size + 1, 2, none⟩ (.string q)) := (((hb0.setCell (by show _ ≤ wr.heap.size + 1; omega) _).setCell (by show _ ≤ wr.heap.size + 1; omega) _).setCell (by show _ ≤ wr.heap.size + 1; omega) _)
  have hc : Box (((wy.setCell ⟨wr.heap.size + 1, 0, none⟩ (.string k)).setCell ⟨wr.heap.size + 1, 1, none⟩ (.int .i64 x)).setCell ⟨wr.heap.size + 1, 2, none⟩ (.string q)) wr.heap.size k x q := Box.far (Box.far (Box.far ⟨c0, c1, c2⟩ (by show wr.heap.size + 1 ≠ _; omega) _) (by show wr.heap.size + 1 ≠ _; omega) _) (by show wr.heap.size + 1 ≠ _; omega) _
  have hd : Box (((wy.setCell ⟨wr.heap.size + 1, 0, none⟩ (.string k)).setCell ⟨wr.heap.size + 1, 1, none⟩ (.int .i64 x)).setCell ⟨wr.heap.size + 1, 2, none⟩ (.string q)) (wr.heap.size + 1) k x q := Box.set3 ⟨d0, d1, d2⟩
  have hzm : (((wy.setCell ⟨wr.heap.size + 1, 0, none⟩ (.string k)).setCell ⟨wr.heap.size + 1, 1, none⟩ (.int .i64 x)).setCell ⟨wr.heap.size + 1, 2, none⟩ (.string q)).heap.size = wy.heap.size := by simp
  clear a0 a1 a2 b0 b1 b2 c0 c1 c2 d0 d1 d2 hb0 hfy
  generalize (((wy.setCell ⟨wr.heap.size + 1, 0, none⟩ (.string k)).setCell ⟨wr.heap.size + 1, 1, none⟩ (.int .i64 x)).setCell ⟨wr.heap.size + 1, 2, none⟩ (.string q)) = wx at hbm hc hd hzm ⊢
  have hb0 := hbm
  clear hbm
  have hLg : wr.heap.size + 1 < wx.heap.size := by omega
  have hLh : wr.heap.size < wx.heap.size := by omega
  clear hzm
  obtain ⟨a0, a1, a2⟩ := HX1.out.below hb0 (by omega)
  obtain ⟨b0, b1, b2⟩ := HX2.out.below hb0 hsz
  obtain ⟨c0, c1, c2⟩ := hc
  obtain ⟨d0, d1, d2⟩ := hd
  refine (hWd _).mono ?_
  rintro e wu ⟨rfl, hbn⟩
  have hc : Box wu wr.heap.size k x q := Box.below ⟨c0, c1, c2⟩ hbn hLh
  have hd : Box wu (wr.heap.size + 1) k x q := Box.below ⟨d0, d1, d2⟩ hbn hLg
  have hb0 := hb0.trans (hbn.mono hb0.size)
  have hLv : wr.heap.size + 1 < wu.heap.size := by have := hbn.size; omega
  have hLu : wr.heap.size < wu.heap.size := by omega
  clear a0 a1 a2 b0 b1 b2 c0 c1 c2 d0 d1 d2 hbn
  obtain ⟨a0, a1, a2⟩ := HX1.out.below hb0 (by omega)
  obtain ⟨b0, b1, b2⟩ := HX2.out.below hb0 hsz
  obtain ⟨c0, c1, c2⟩ := hc
  obtain ⟨d0, d1, d2⟩ := hd
  have h33 : ((3 : Int) != 0) = true := by decide
  rcases hwind with ⟨q1, rfl, rfl⟩ | ⟨q1, q2, rfl, rfl⟩ | ⟨q1, q2, rfl, hRW⟩
  · go_wp2_with (first | (go_at_call 15; ((with_reducible refine (when_yes 3 _).mono ?_)); rintro e wv ⟨rfl, rfl⟩) | (go_at_call 22; ((with_reducible refine (integer_bad 3 h33 _).mono ?_)); rintro e wv ⟨rfl, rfl⟩))
    go_ret
    exact ⟨rfl, HW.out.trans (hb0.mono HW.out.size)⟩
  · go_wp2_with (first | (go_at_call 15; ((with_reducible refine (when_yes 3 _).mono ?_)); rintro e wv ⟨rfl, rfl⟩) | (go_at_call 22; ((with_reducible refine (integer_bad 3 h33 _).mono ?_)); rintro e wv ⟨rfl, rfl⟩))
    go_ret
    exact ⟨rfl, HW.out.trans (hb0.mono HW.out.size)⟩
  · have hWN : ∀ w, Calls Tryz.prog 15 #[.bool (decide (v2 < -9999) || decide (9999 < v2)), .int .i64 3] w fun x w' => x = .returned (.int .i64 0) ∧ w = w' := fun w => by
      rw [show (decide (v2 < -9999) || decide (9999 < v2)) = false from by simp; omega]
      exact when_no 3 w
    go_wp2_with (go_at_call 15; ((with_reducible refine (hWN _).mono ?_)); rintro e wv ⟨rfl, rfl⟩)
    refine (hRW _).mono ?_
    rintro e wo ⟨rfl, hbn⟩
    have hc : Box wo wr.heap.size k x q := Box.below ⟨c0, c1, c2⟩ hbn hLu
    have hd : Box wo (wr.heap.size + 1) k x q := Box.below ⟨d0, d1, d2⟩ hbn hLv
    have hb0 := hb0.trans (hbn.mono hb0.size)
    clear a0 a1 a2 b0 b1 b2 c0 c1 c2 d0 d1 d2 hbn
    obtain ⟨c0, c1, c2⟩ := hc
    obtain ⟨d0, d1, d2⟩ := hd
    go_wp2_with (go_at_call 22; ((with_reducible refine (integer_ok wv _).mono ?_)); rintro e w8 ⟨rfl, rfl⟩)
    go_ret
    exact ⟨rfl, HW.out.trans (hb0.mono HW.out.size)⟩
end Go.Mk
