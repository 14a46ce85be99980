/-
  Proved: the law MarkRounds returns true where nothing has an error, for lengths. Condition: the tables that awake reads lie where the program lays them; the callees by their values.
-/
import Derived.Test.YtgcofpejbjfhaaaGreatDoorMr2
open Go Go.Proofs Go.RowKit
set_option maxRecDepth 100000
namespace Go.Mk

set_option maxHeartbeats 8000000 in
theorem rounds_main_length (s r1 r2 kS : ByteArray) (v1 v2 x y st c d f m wd : Int) (n : ByteArray) (w : World) (ht : Tabs w) (hn : n.size ≤ 40) (hk : (s.toList == [110, 111, 110, 101]) = false) (hp : (s.toList == [112, 111, 105, 110, 116, 115]) = false)
    (hB1 : ∀ w, Calls Tryz.prog 18 #[.agg #[.string s, .int .i64 v1, .string r1]] w (RetPost (.bool true) w)) (hB2 : ∀ w, Calls Tryz.prog 18 #[.agg #[.string s, .int .i64 v2, .string r2]] w (RetPost (.bool true) w))
    (hC1 : ∀ w, Calls Tryz.prog 19 #[.agg #[.string s, .int .i64 v1, .string r1]] w (RetPost (.int .i64 0) w)) (hC2 : ∀ w, Calls Tryz.prog 19 #[.agg #[.string s, .int .i64 v2, .string r2]] w (RetPost (.int .i64 0) w))
    (hlen : (s.toList == [108, 101, 110, 103, 116, 104]) = true) (hv0 : 0 ≤ v1) (hv1 : v1 ≤ 863999999) (hx0 : 0 ≤ x) (hx1 : x ≤ 863999999) (hs0 : 1 ≤ st) (hs1 : st ≤ 1000) (hxs : x % st = 0) (ha1 : x ≤ v1) (ha2 : v1 < x + st)
    (hc : 0 ≤ c) (hdf : (d = -1 ∧ f = -1) ∨ (d = -1 ∧ f = 0) ∨ (d = 0 ∧ f = 0) ∨ (d = 1 ∧ f = 0) ∨ (d = 1 ∧ f = 1)) (hm : v1 % 19999 = m) (hm0 : 0 ≤ m) (hm1 : m < 19999) (hw1 : m - 9999 ≤ 10 * wd) (hw2 : 10 * (wd - 1) < m - 9999)
    (hR1 : ∀ w, 15 ≤ w.heap.size → Calls Tryz.prog 24 #[.agg #[.string s, .int .i64 v1, .string r1], .string n] w (RetPost (.tuple #[.agg #[.string s, .int .i64 x, .string r1], .int .i64 0]) w))
    (hR2 : ∀ w, 15 ≤ w.heap.size → Calls Tryz.prog 24 #[.agg #[.string s, .int .i64 v2, .string r2], .string n] w (RetPost (.tuple #[.agg #[.string s, .int .i64 y, .string r2], .int .i64 0]) w))
    (hR3 : ∀ w, 15 ≤ w.heap.size → Calls Tryz.prog 24 #[.agg #[.string s, .int .i64 x, .string r1], .string n] w (RetPost (.tuple #[.agg #[.string s, .int .i64 x, .string r1], .int .i64 0]) w))
    (hP1 : ∀ w, 15 ≤ w.heap.size → Calls Tryz.prog 21 #[.agg #[.string s, .int .i64 x, .string r1], .agg #[.string s, .int .i64 v1, .string r1]] w (RetPost (.tuple #[.int .i64 c, .int .i64 0]) w))
    (hP2 : ∀ w, 15 ≤ w.heap.size → Calls Tryz.prog 21 #[.agg #[.string s, .int .i64 v1, .string r1], .agg #[.string s, .int .i64 v2, .string r2]] w (RetPost (.tuple #[.int .i64 d, .int .i64 0]) w))
    (hP3 : ∀ w, 15 ≤ w.heap.size → Calls Tryz.prog 21 #[.agg #[.string s, .int .i64 x, .string r1], .agg #[.string s, .int .i64 y, .string r2]] w (RetPost (.tuple #[.int .i64 f, .int .i64 0]) w))
    (hWd : ∀ w, Calls Tryz.prog 26 #[.int .i64 (m - 9999)] w (RetPost (.tuple #[.int .i64 wd, .int .i64 0]) w))
    (hS : ∀ w, Calls Tryz.prog 31 #[.string n] w fun e w' => e = .returned (.tuple #[.int .i64 st, .string kS]) ∧ w = w') :
    Calls Tryz.prog 6 #[.agg #[.string s, .int .i64 v1, .string r1], .agg #[.string s, .int .i64 v2, .string r2], .string n] w (Yes w) := by
  have hst : (st == 0) = false := beq_eq_false_iff_ne.2 (by omega)
  have hW : Below w.heap.size w ((w.alloc (.cells #[.string s, .int .i64 v1, .string r1] 38)).alloc (.cells #[.string s, .int .i64 v2, .string r2] 38)) := ((Below.refl w.heap.size w).alloc (Nat.le_refl _) _).alloc (by simp) _
  have hX1 : Box ((w.alloc (.cells #[.string s, .int .i64 v1, .string r1] 38)).alloc (.cells #[.string s, .int .i64 v2, .string r2] 38)) w.heap.size s v1 r1 := (Box.new w s v1 r1).below ((Below.refl _ _).alloc (Nat.le_refl _) _) (by simp)
  have hX2 : Box ((w.alloc (.cells #[.string s, .int .i64 v1, .string r1] 38)).alloc (.cells #[.string s, .int .i64 v2, .string r2] 38)) (w.heap.size + 1) s v2 r2 := Box.new' _ _ s v2 r2 (by simp)
  have hsz : w.heap.size + 1 < ((w.alloc (.cells #[.string s, .int .i64 v1, .string r1] 38)).alloc (.cells #[.string s, .int .i64 v2, .string r2] 38)).heap.size := by simp
  go_enter Tryz.func6, Tryz.ntmps6
  go_wp2_with fail
  generalize (w.alloc (.cells #[.string s, .int .i64 v1, .string r1] 38)).alloc (.cells #[.string s, .int .i64 v2, .string r2] 38) = w0 at hW hX1 hX2 hsz ⊢
  have HT : Hid (∀ w', Below w0.heap.size w0 w' → Tabs w') := fun w' h => (ht.grow hW).grow h
  have HW : Hid (Below w.heap.size w w0) := hW
  have HX1 : Hid (Box w0 w.heap.size s v1 r1) := hX1
  have HX2 : Hid (Box w0 (w.heap.size + 1) s v2 r2) := hX2
  obtain ⟨a0, a1, a2⟩ := hX1
  obtain ⟨b0, b1, b2⟩ := hX2
  have hb0 : Below w0.heap.size w0 w0 := Below.refl _ _
  clear hW ht
  have hn40 : ¬ 40 < (n.size : Int) := by omega
  have hnm : (n.size : Int) ≤ 9223372036854775807 := by omega
  have heq : (s.toList == s.toList) = true := by simp
  go_wp2_with (first | (go_at_call 8; ((with_reducible refine (aw _ (HT.out _ hb0)).mono ?_)); rintro e wa ⟨rfl, hbn⟩; have hb0 := hb0.trans (hbn.mono hb0.size); clear a0 a1 a2 b0 b1 b2 hbn; obtain ⟨a0, a1, a2⟩ := HX1.out.below hb0 (by omega); obtain ⟨b0, b1, b2⟩ := HX2.out.below hb0 hsz) | (go_at_call 18; ((with_reducible refine (hB1 _).mono ?_)); rintro e wb ⟨rfl, hbn⟩; have hb0 := hb0.trans (hbn.mono hb0.size); clear a0 a1 a2 b0 b1 b2 hbn; obtain ⟨a0, a1, a2⟩ := HX1.out.below hb0 (by omega); obtain ⟨b0, b1, b2⟩ := HX2.out.below hb0 hsz) | (go_at_call 18; ((with_reducible refine (hB2 _).mono ?_)); rintro e wc ⟨rfl, hbn⟩; have hb0 := hb0.trans (hbn.mono hb0.size); clear a0 a1 a2 b0 b1 b2 hbn; obtain ⟨a0, a1, a2⟩ := HX1.out.below hb0 (by omega); obtain ⟨b0, b1, b2⟩ := HX2.out.below hb0 hsz) | (go_at_call 19; ((with_reducible refine (hC1 _).mono ?_)); rintro e wd ⟨rfl, hbn⟩; have hb0 := hb0.trans (hbn.mono hb0.size); clear a0 a1 a2 b0 b1 b2 hbn; obtain ⟨a0, a1, a2⟩ := HX1.out.below hb0 (by omega); obtain ⟨b0, b1, b2⟩ := HX2.out.below hb0 hsz) | (go_at_call 19; ((with_reducible refine (hC2 _).mono ?_)); rintro e wg ⟨rfl, hbn⟩; have hb0 := hb0.trans (hbn.mono hb0.size); clear a0 a1 a2 b0 b1 b2 hbn; obtain ⟨a0, a1, a2⟩ := HX1.out.below hb0 (by omega); obtain ⟨b0, b1, b2⟩ := HX2.out.below hb0 hsz))
  have hzg : w.heap.size + 1 < wg.heap.size := by have := hb0.size; omega
  clear hB1 hB2 hC1 hC2 HX1 HX2
  refine (hR1 _ (HT.out _ hb0).1).mono ?_
  rintro e wr ⟨rfl, hbn⟩
  have hzwr : wg.heap.size ≤ wr.heap.size := hbn.size
  have ha : Box wr w.heap.size s v1 r1 := Box.below ⟨a0, a1, a2⟩ hbn (by omega)
  have hb : Box wr (w.heap.size + 1) s v2 r2 := Box.below ⟨b0, b1, b2⟩ hbn (by omega)
  clear a0 a1 a2 b0 b1 b2
  obtain ⟨a0, a1, a2⟩ := ha
  obtain ⟨b0, b1, b2⟩ := hb
  have hLawr : w.heap.size < wr.heap.size := by omega
  have hLbwr : (w.heap.size + 1) < wr.heap.size := by omega
  have hb0 := hb0.trans (hbn.mono hb0.size)
  clear hbn
  go_wp2_with fail
  have hbm : Below w0.heap.size w0 (wr.alloc (.cells #[.string s, .int .i64 x, .string r1] 38)) := hb0.alloc hb0.size _
  have ha : Box (wr.alloc (.cells #[.string s, .int .i64 x, .string r1] 38)) w.heap.size s v1 r1 := Box.below ⟨a0, a1, a2⟩ ((Below.refl wr.heap.size wr).alloc (Nat.le_refl _) _) (by omega)
  have hb : Box (wr.alloc (.cells #[.string s, .int .i64 x, .string r1] 38)) (w.heap.size + 1) s v2 r2 := Box.below ⟨b0, b1, b2⟩ ((Below.refl wr.heap.size wr).alloc (Nat.le_refl _) _) (by omega)
  have hc : Box (wr.alloc (.cells #[.string s, .int .i64 x, .string r1] 38)) wr.heap.size s x r1 := Box.new wr s x r1
  have hzm : (wr.alloc (.cells #[.string s, .int .i64 x, .string r1] 38)).heap.size = wr.heap.size + 1 := by simp
  clear a0 a1 a2 b0 b1 b2 hb0
  generalize wr.alloc (.cells #[.string s, .int .i64 x, .string r1] 38) = wm at hbm hzm ha hb hc ⊢
  have hzwm : wr.heap.size < wm.heap.size := by omega
  clear hzm
  have hLawm : w.heap.size < wm.heap.size := by omega
  have hLbwm : (w.heap.size + 1) < wm.heap.size := by omega
  obtain ⟨a0, a1, a2⟩ := ha
  obtain ⟨b0, b1, b2⟩ := hb
  obtain ⟨c0, c1, c2⟩ := hc
  have hb0 := hbm
  clear hbm
  refine (hR2 _ (HT.out _ hb0).1).mono ?_
  rintro e wt ⟨rfl, hbn⟩
  have hzwt : wm.heap.size ≤ wt.heap.size := hbn.size
  have ha : Box wt w.heap.size s v1 r1 := Box.below ⟨a0, a1, a2⟩ hbn (by omega)
  have hb : Box wt (w.heap.size + 1) s v2 r2 := Box.below ⟨b0, b1, b2⟩ hbn (by omega)
  have hc : Box wt wr.heap.size s x r1 := Box.below ⟨c0, c1, c2⟩ hbn (by omega)
  clear a0 a1 a2 b0 b1 b2 c0 c1 c2
  obtain ⟨a0, a1, a2⟩ := ha
  obtain ⟨b0, b1, b2⟩ := hb
  obtain ⟨c0, c1, c2⟩ := hc
  have hLawt : w.heap.size < wt.heap.size := by omega
  have hLbwt : (w.heap.size + 1) < wt.heap.size := by omega
  have hLcwt : wr.heap.size < wt.heap.size := by omega
  have hb0 := hb0.trans (hbn.mono hb0.size)
  clear hbn
  go_wp2_with fail
  have hbm : Below w0.heap.size w0 (wt.alloc (.cells #[.string s, .int .i64 y, .string r2] 38)) := hb0.alloc hb0.size _
  have ha : Box (wt.alloc (.cells #[.string s, .int .i64 y, .string r2] 38)) w.heap.size s v1 r1 := Box.below ⟨a0, a1, a2⟩ ((Below.refl wt.heap.size wt).alloc (Nat.le_refl _) _) (by omega)
  have hb : Box (wt.alloc (.cells #[.string s, .int .i64 y, .string r2] 38)) (w.heap.size + 1) s v2 r2 := Box.below ⟨b0, b1, b2⟩ ((Below.refl wt.heap.size wt).alloc (Nat.le_refl _) _) (by omega)
  have hc : Box (wt.alloc (.cells #[.string s, .int .i64 y, .string r2] 38)) wr.heap.size s x r1 := Box.below ⟨c0, c1, c2⟩ ((Below.refl wt.heap.size wt).alloc (Nat.le_refl _) _) (by omega)
  have hd : Box (wt.alloc (.cells #[.string s, .int .i64 y, .string r2] 38)) wt.heap.size s y r2 := Box.new wt s y r2
  have hzm : (wt.alloc (.cells #[.string s, .int .i64 y, .string r2] 38)).heap.size = wt.heap.size + 1 := by simp
  clear a0 a1 a2 b0 b1 b2 c0 c1 c2 hb0
  generalize wt.alloc (.cells #[.string s, .int .i64 y, .string r2] 38) = wu at hbm hzm ha hb hc hd ⊢
  have hzwu : wt.heap.size < wu.heap.size := by omega
  clear hzm
  have hLawu : w.heap.size < wu.heap.size := by omega
  have hLbwu : (w.heap.size + 1) < wu.heap.size := by omega
  have hLcwu : wr.heap.size < wu.heap.size := by omega
  obtain ⟨a0, a1, a2⟩ := ha
  obtain ⟨b0, b1, b2⟩ := hb
  obtain ⟨c0, c1, c2⟩ := hc
  obtain ⟨d0, d1, d2⟩ := hd
  have hb0 := hbm
  clear hbm
  refine (hS _).mono ?_
  rintro e w9 ⟨rfl, rfl⟩
  go_wp2_with fail
  refine (hR3 _ (HT.out _ hb0).1).mono ?_
  rintro e wv ⟨rfl, hbn⟩
  have hzwv : wu.heap.size ≤ wv.heap.size := hbn.size
  have ha : Box wv w.heap.size s v1 r1 := Box.below ⟨a0, a1, a2⟩ hbn (by omega)
  have hb : Box wv (w.heap.size + 1) s v2 r2 := Box.below ⟨b0, b1, b2⟩ hbn (by omega)
  have hc : Box wv wr.heap.size s x r1 := Box.below ⟨c0, c1, c2⟩ hbn (by omega)
  have hd : Box wv wt.heap.size s y r2 := Box.below ⟨d0, d1, d2⟩ hbn (by omega)
  clear a0 a1 a2 b0 b1 b2 c0 c1 c2 d0 d1 d2
  obtain ⟨a0, a1, a2⟩ := ha
  obtain ⟨b0, b1, b2⟩ := hb
  obtain ⟨c0, c1, c2⟩ := hc
  obtain ⟨d0, d1, d2⟩ := hd
  have hLawv : w.heap.size < wv.heap.size := by omega
  have hLbwv : (w.heap.size + 1) < wv.heap.size := by omega
  have hLcwv : wr.heap.size < wv.heap.size := by omega
  have hLdwv : wt.heap.size < wv.heap.size := by omega
  have hb0 := hb0.trans (hbn.mono hb0.size)
  clear hbn
  go_wp2_with fail
  have hbm : Below w0.heap.size w0 (wv.alloc (.cells #[.string s, .int .i64 x, .string r1] 38)) := hb0.alloc hb0.size _
  have ha : Box (wv.alloc (.cells #[.string s, .int .i64 x, .string r1] 38)) w.heap.size s v1 r1 := Box.below ⟨a0, a1, a2⟩ ((Below.refl wv.heap.size wv).alloc (Nat.le_refl _) _) (by omega)
  have hb : Box (wv.alloc (.cells #[.string s, .int .i64 x, .string r1] 38)) (w.heap.size + 1) s v2 r2 := Box.below ⟨b0, b1, b2⟩ ((Below.refl wv.heap.size wv).alloc (Nat.le_refl _) _) (by omega)
  have hc : Box (wv.alloc (.cells #[.string s, .int .i64 x, .string r1] 38)) wr.heap.size s x r1 := Box.below ⟨c0, c1, c2⟩ ((Below.refl wv.heap.size wv).alloc (Nat.le_refl _) _) (by omega)
  have hd : Box (wv.alloc (.cells #[.string s, .int .i64 x, .string r1] 38)) wt.heap.size s y r2 := Box.below ⟨d0, d1, d2⟩ ((Below.refl wv.heap.size wv).alloc (Nat.le_refl _) _) (by omega)
  have he : Box (wv.alloc (.cells #[.string s, .int .i64 x, .string r1] 38)) wv.heap.size s x r1 := Box.new wv s x r1
  have hzm : (wv.alloc (.cells #[.string s, .int .i64 x, .string r1] 38)).heap.size = wv.heap.size + 1 := by simp
  clear a0 a1 a2 b0 b1 b2 c0 c1 c2 d0 d1 d2 hb0
  generalize wv.alloc (.cells #[.string s, .int .i64 x, .string r1] 38) = wk at hbm hzm ha hb hc hd he ⊢
  have hzwk : wv.heap.size < wk.heap.size := by omega
  clear hzm
  have hLawk : w.heap.size < wk.heap.size := by omega
  have hLbwk : (w.heap.size + 1) < wk.heap.size := by omega
  have hLcwk : wr.heap.size < wk.heap.size := by omega
  have hLdwk : wt.heap.size < wk.heap.size := by omega
  obtain ⟨a0, a1, a2⟩ := ha
  obtain ⟨b0, b1, b2⟩ := hb
  obtain ⟨c0, c1, c2⟩ := hc
  obtain ⟨d0, d1, d2⟩ := hd
  obtain ⟨e0, e1, e2⟩ := he
  have hb0 := hbm
  clear hbm
  refine (hP1 _ (HT.out _ hb0).1).mono ?_
  rintro e w4 ⟨rfl, hbn⟩
  have hzw4 : wk.heap.size ≤ w4.heap.size := hbn.size
  have ha : Box w4 w.heap.size s v1 r1 := Box.below ⟨a0, a1, a2⟩ hbn (by omega)
  have hb : Box w4 (w.heap.size + 1) s v2 r2 := Box.below ⟨b0, b1, b2⟩ hbn (by omega)
  have hc : Box w4 wr.heap.size s x r1 := Box.below ⟨c0, c1, c2⟩ hbn (by omega)
  have hd : Box w4 wt.heap.size s y r2 := Box.below ⟨d0, d1, d2⟩ hbn (by omega)
  have he : Box w4 wv.heap.size s x r1 := Box.below ⟨e0, e1, e2⟩ hbn (by omega)
  clear a0 a1 a2 b0 b1 b2 c0 c1 c2 d0 d1 d2 e0 e1 e2
  obtain ⟨a0, a1, a2⟩ := ha
  obtain ⟨b0, b1, b2⟩ := hb
  obtain ⟨c0, c1, c2⟩ := hc
  obtain ⟨d0, d1, d2⟩ := hd
  obtain ⟨e0, e1, e2⟩ := he
  have hLaw4 : w.heap.size < w4.heap.size := by omega
  have hLbw4 : (w.heap.size + 1) < w4.heap.size := by omega
  have hLcw4 : wr.heap.size < w4.heap.size := by omega
  have hLdw4 : wt.heap.size < w4.heap.size := by omega
  have hLew4 : wv.heap.size < w4.heap.size := by omega
  have hb0 := hb0.trans (hbn.mono hb0.size)
  clear hbn
  go_wp2_with fail
  refine (hP2 _ (HT.out _ hb0).1).mono ?_
  rintro e w5 ⟨rfl, hbn⟩
  have hzw5 : w4.heap.size ≤ w5.heap.size := hbn.size
  have ha : Box w5 w.heap.size s v1 r1 := Box.below ⟨a0, a1, a2⟩ hbn (by omega)
  have hb : Box w5 (w.heap.size + 1) s v2 r2 := Box.below ⟨b0, b1, b2⟩ hbn (by omega)
  have hc : Box w5 wr.heap.size s x r1 := Box.below ⟨c0, c1, c2⟩ hbn (by omega)
  have hd : Box w5 wt.heap.size s y r2 := Box.below ⟨d0, d1, d2⟩ hbn (by omega)
  have he : Box w5 wv.heap.size s x r1 := Box.below ⟨e0, e1, e2⟩ hbn (by omega)
  clear a0 a1 a2 b0 b1 b2 c0 c1 c2 d0 d1 d2 e0 e1 e2
  obtain ⟨a0, a1, a2⟩ := ha
  obtain ⟨b0, b1, b2⟩ := hb
  obtain ⟨c0, c1, c2⟩ := hc
  obtain ⟨d0, d1, d2⟩ := hd
  obtain ⟨e0, e1, e2⟩ := he
  have hLaw5 : w.heap.size < w5.heap.size := by omega
  have hLbw5 : (w.heap.size + 1) < w5.heap.size := by omega
  have hLcw5 : wr.heap.size < w5.heap.size := by omega
  have hLdw5 : wt.heap.size < w5.heap.size := by omega
  have hLew5 : wv.heap.size < w5.heap.size := by omega
  have hb0 := hb0.trans (hbn.mono hb0.size)
  clear hbn
  go_wp2_with fail
  refine (hP3 _ (HT.out _ hb0).1).mono ?_
  rintro e w6 ⟨rfl, hbn⟩
  have hzw6 : w5.heap.size ≤ w6.heap.size := hbn.size
  have ha : Box w6 w.heap.size s v1 r1 := Box.below ⟨a0, a1, a2⟩ hbn (by omega)
  have hb : Box w6 (w.heap.size + 1) s v2 r2 := Box.below ⟨b0, b1, b2⟩ hbn (by omega)
  have hc : Box w6 wr.heap.size s x r1 := Box.below ⟨c0, c1, c2⟩ hbn (by omega)
  have hd : Box w6 wt.heap.size s y r2 := Box.below ⟨d0, d1, d2⟩ hbn (by omega)
  have he : Box w6 wv.heap.size s x r1 := Box.below ⟨e0, e1, e2⟩ hbn (by omega)
  clear a0 a1 a2 b0 b1 b2 c0 c1 c2 d0 d1 d2 e0 e1 e2
  obtain ⟨a0, a1, a2⟩ := ha
  obtain ⟨b0, b1, b2⟩ := hb
  obtain ⟨c0, c1, c2⟩ := hc
  obtain ⟨d0, d1, d2⟩ := hd
  obtain ⟨e0, e1, e2⟩ := he
  have hLaw6 : w.heap.size < w6.heap.size := by omega
  have hLbw6 : (w.heap.size + 1) < w6.heap.size := by omega
  have hLcw6 : wr.heap.size < w6.heap.size := by omega
  have hLdw6 : wt.heap.size < w6.heap.size := by omega
  have hLew6 : wv.heap.size < w6.heap.size := by omega
  have hb0 := hb0.trans (hbn.mono hb0.size)
  clear hbn
  have hbF := HW.out.trans (hb0.mono HW.out.size)
  rcases hdf with ⟨rfl, rfl⟩ | ⟨rfl, rfl⟩ | ⟨rfl, rfl⟩ | ⟨rfl, rfl⟩ | ⟨rfl, rfl⟩
  all_goals
    go_wp2_with fail
    refine (hWd _).mono ?_
    rintro e w7 ⟨rfl, hb7⟩
    have hbG := hbF.trans (hb7.mono hbF.size)
    clear hb7 hbF hb0 HT HW
    go_wp2
    go_ret
    exact ⟨rfl, hbG⟩
end Go.Mk
