/-
  Proved: the law MarkRounds returns true where a rounding has an error, and where it has none. Condition: the tables that awake reads lie where the program lays them.
-/
import Derived.Test.YtgcofpejbjfhaaaGreatDoorLw
open Go Go.Proofs Go.RowKit
set_option maxRecDepth 100000
namespace Go.Mk

theorem below_same {B : Nat} {w w' : World} (h : w = w') : Below B w w' := h ▸ Below.refl B w
set_option maxHeartbeats 400000 in
theorem ok_any (e : Int) (w : World) (h : e = 0 ∨ e = 13 ∨ e = 4) : Calls Tryz.prog 32 #[.int .i64 e] w fun x w' => x = .returned (.bool true) ∧ w = w' := by
  rcases h with rfl | rfl | rfl <;>
  · go_enter Tryz.func32, Tryz.ntmps32
    go_wp2
    go_ret
    exact ⟨rfl, rfl⟩

set_option maxHeartbeats 4000000 in
theorem rounds_err (s r1 r2 k1 q1 k2 q2 kS : ByteArray) (v1 v2 x1 x2 e1 e2 st : Int) (n : ByteArray) (w : World) (ht : Tabs w) (hn : n.size ≤ 40) (hk : (s.toList == [110, 111, 110, 101]) = false) (hp : (s.toList == [112, 111, 105, 110, 116, 115]) = false)
    (hB1 : ∀ w, Calls Tryz.prog 18 #[.agg #[.string s, .int .i64 v1, .string r1]] w (RetPost (.bool true) w)) (hB2 : ∀ w, Calls Tryz.prog 18 #[.agg #[.string s, .int .i64 v2, .string r2]] w (RetPost (.bool true) w))
    (hC1 : ∀ w, Calls Tryz.prog 19 #[.agg #[.string s, .int .i64 v1, .string r1]] w (RetPost (.int .i64 0) w)) (hC2 : ∀ w, Calls Tryz.prog 19 #[.agg #[.string s, .int .i64 v2, .string r2]] w (RetPost (.int .i64 0) w))
    (hR1 : ∀ w, 15 ≤ w.heap.size → Calls Tryz.prog 24 #[.agg #[.string s, .int .i64 v1, .string r1], .string n] w (RetPost (.tuple #[.agg #[.string k1, .int .i64 x1, .string q1], .int .i64 e1]) w))
    (hR2 : ∀ w, 15 ≤ w.heap.size → Calls Tryz.prog 24 #[.agg #[.string s, .int .i64 v2, .string r2], .string n] w (RetPost (.tuple #[.agg #[.string k2, .int .i64 x2, .string q2], .int .i64 e2]) w))
    (hS : ∀ w, Calls Tryz.prog 31 #[.string n] w fun e w' => e = .returned (.tuple #[.int .i64 st, .string kS]) ∧ w = w')
    (h1 : e1 = 0 ∨ e1 = 13 ∨ e1 = 4) (h2 : e2 = 0 ∨ e2 = 13 ∨ e2 = 4) (hne : (e1 != 0) = true ∨ e1 = 0 ∧ (e2 != 0) = true) :
    Calls Tryz.prog 6 #[.agg #[.string s, .int .i64 v1, .string r1], .agg #[.string s, .int .i64 v2, .string r2], .string n] w (Yes w) := by
  have ho1 := fun w => ok_any e1 w h1
  have ho2 := fun w => ok_any e2 w h2
  clear h1 h2
  have hW : Below w.heap.size w ((w.alloc (.cells #[.string s, .int .i64 v1, .string r1] 38)).alloc (.cells #[.string s, .int .i64 v2, .string r2] 38)) := ((Below.refl w.heap.size w).alloc (Nat.le_refl _) _).alloc (by simp) _
  have hX1 : Box ((w.alloc (.cells #[.string s, .int .i64 v1, .string r1] 38)).alloc (.cells #[.string s, .int .i64 v2, .string r2] 38)) w.heap.size s v1 r1 := (Box.new w s v1 r1).below ((Below.refl _ _).alloc (Nat.le_refl _) _) (by simp)
  have hX2 : Box ((w.alloc (.cells #[.string s, .int .i64 v1, .string r1] 38)).alloc (.cells #[.string s, .int .i64 v2, .string r2] 38)) (w.heap.size + 1) s v2 r2 := Box.new' _ _ s v2 r2 (by simp)
  have hsz : w.heap.size + 1 < ((w.alloc (.cells #[.string s, .int .i64 v1, .string r1] 38)).alloc (.cells #[.string s, .int .i64 v2, .string r2] 38)).heap.size := by simp
  go_enter Tryz.func6, Tryz.ntmps6
  go_wp2_with fail
  generalize (w.alloc (.cells #[.string s, .int .i64 v1, .string r1] 38)).alloc (.cells #[.string s, .int .i64 v2, .string r2] 38) = w0 at hW hX1 hX2 hsz ⊢
  have HT : Hid (∀ w', Below w0.heap.size w0 w' → Tabs w') := fun w' h => (ht.grow hW).grow h
  have HW : Hid (Below w.heap.size w w0) := hW
  have HX1 : Hid (Box w0 w.heap.size s v1 r1) := hX1
  have HX2 : Hid (Box w0 (w.heap.size + 1) s v2 r2) := hX2
  obtain ⟨a0, a1, a2⟩ := hX1
  obtain ⟨b0, b1, b2⟩ := hX2
  have hb0 : Below w0.heap.size w0 w0 := Below.refl _ _
  clear hW ht
  have hn40 : ¬ 40 < (n.size : Int) := by omega
  have hnm : (n.size : Int) ≤ 9223372036854775807 := by omega
  have heq : (s.toList == s.toList) = true := by simp
  go_wp2_with (first | (go_at_call 8; ((with_reducible refine (aw _ (HT.out _ hb0)).mono ?_)); rintro e wa ⟨rfl, hbn⟩; have hb0 := hb0.trans (hbn.mono hb0.size); clear a0 a1 a2 b0 b1 b2 hbn; obtain ⟨a0, a1, a2⟩ := HX1.out.below hb0 (by omega); obtain ⟨b0, b1, b2⟩ := HX2.out.below hb0 hsz) | (go_at_call 18; ((with_reducible refine (hB1 _).mono ?_)); rintro e wb ⟨rfl, hbn⟩; have hb0 := hb0.trans (hbn.mono hb0.size); clear a0 a1 a2 b0 b1 b2 hbn; obtain ⟨a0, a1, a2⟩ := HX1.out.below hb0 (by omega); obtain ⟨b0, b1, b2⟩ := HX2.out.below hb0 hsz) | (go_at_call 18; ((with_reducible refine (hB2 _).mono ?_)); rintro e wc ⟨rfl, hbn⟩; have hb0 := hb0.trans (hbn.mono hb0.size); clear a0 a1 a2 b0 b1 b2 hbn; obtain ⟨a0, a1, a2⟩ := HX1.out.below hb0 (by omega); obtain ⟨b0, b1, b2⟩ := HX2.out.below hb0 hsz) | (go_at_call 19; ((with_reducible refine (hC1 _).mono ?_)); rintro e wd ⟨rfl, hbn⟩; have hb0 := hb0.trans (hbn.mono hb0.size); clear a0 a1 a2 b0 b1 b2 hbn; obtain ⟨a0, a1, a2⟩ := HX1.out.below hb0 (by omega); obtain ⟨b0, b1, b2⟩ := HX2.out.below hb0 hsz) | (go_at_call 19; ((with_reducible refine (hC2 _).mono ?_)); rintro e wg ⟨rfl, hbn⟩; have hb0 := hb0.trans (hbn.mono hb0.size); clear a0 a1 a2 b0 b1 b2 hbn; obtain ⟨a0, a1, a2⟩ := HX1.out.below hb0 (by omega); obtain ⟨b0, b1, b2⟩ := HX2.out.below hb0 hsz))
  have hzg : w.heap.size + 1 < wg.heap.size := by have := hb0.size; omega
  clear hB1 hB2 hC1 hC2 HX1 HX2
  refine (hR1 _ (HT.out _ hb0).1).mono ?_
  rintro e wr ⟨rfl, hbn⟩
  have hzwr : wg.heap.size ≤ wr.heap.size := hbn.size
  have ha : Box wr w.heap.size s v1 r1 := Box.below ⟨a0, a1, a2⟩ hbn (by omega)
  have hb : Box wr (w.heap.size + 1) s v2 r2 := Box.below ⟨b0, b1, b2⟩ hbn (by omega)
  clear a0 a1 a2 b0 b1 b2
  obtain ⟨a0, a1, a2⟩ := ha
  obtain ⟨b0, b1, b2⟩ := hb
  have hLawr : w.heap.size < wr.heap.size := by omega
  have hLbwr : (w.heap.size + 1) < wr.heap.size := by omega
  have hb0 := hb0.trans (hbn.mono hb0.size)
  clear hbn
  go_wp2_with fail
  have hbm : Below w0.heap.size w0 (wr.alloc (.cells #[.string k1, .int .i64 x1, .string q1] 38)) := hb0.alloc hb0.size _
  have ha : Box (wr.alloc (.cells #[.string k1, .int .i64 x1, .string q1] 38)) w.heap.size s v1 r1 := Box.below ⟨a0, a1, a2⟩ ((Below.refl wr.heap.size wr).alloc (Nat.le_refl _) _) (by omega)
  have hb : Box (wr.alloc (.cells #[.string k1, .int .i64 x1, .string q1] 38)) (w.heap.size + 1) s v2 r2 := Box.below ⟨b0, b1, b2⟩ ((Below.refl wr.heap.size wr).alloc (Nat.le_refl _) _) (by omega)
  have hc : Box (wr.alloc (.cells #[.string k1, .int .i64 x1, .string q1] 38)) wr.heap.size k1 x1 q1 := Box.new wr k1 x1 q1
  have hzm : (wr.alloc (.cells #[.string k1, .int .i64 x1, .string q1] 38)).heap.size = wr.heap.size + 1 := by simp
  clear a0 a1 a2 b0 b1 b2 hb0
  generalize wr.alloc (.cells #[.string k1, .int .i64 x1, .string q1] 38) = wm at hbm hzm ha hb hc ⊢
  have hzwm : wr.heap.size < wm.heap.size := by omega
  clear hzm
  have hLawm : w.heap.size < wm.heap.size := by omega
  have hLbwm : (w.heap.size + 1) < wm.heap.size := by omega
  obtain ⟨a0, a1, a2⟩ := ha
  obtain ⟨b0, b1, b2⟩ := hb
  obtain ⟨c0, c1, c2⟩ := hc
  have hb0 := hbm
  clear hbm
  refine (hR2 _ (HT.out _ hb0).1).mono ?_
  rintro e wt ⟨rfl, hbn⟩
  have hzwt : wm.heap.size ≤ wt.heap.size := hbn.size
  have ha : Box wt w.heap.size s v1 r1 := Box.below ⟨a0, a1, a2⟩ hbn (by omega)
  have hb : Box wt (w.heap.size + 1) s v2 r2 := Box.below ⟨b0, b1, b2⟩ hbn (by omega)
  have hc : Box wt wr.heap.size k1 x1 q1 := Box.below ⟨c0, c1, c2⟩ hbn (by omega)
  clear a0 a1 a2 b0 b1 b2 c0 c1 c2
  obtain ⟨a0, a1, a2⟩ := ha
  obtain ⟨b0, b1, b2⟩ := hb
  obtain ⟨c0, c1, c2⟩ := hc
  have hLawt : w.heap.size < wt.heap.size := by omega
  have hLbwt : (w.heap.size + 1) < wt.heap.size := by omega
  have hLcwt : wr.heap.size < wt.heap.size := by omega
  have hb0 := hb0.trans (hbn.mono hb0.size)
  clear hbn
  go_wp2_with fail
  have hbm : Below w0.heap.size w0 (wt.alloc (.cells #[.string k2, .int .i64 x2, .string q2] 38)) := hb0.alloc hb0.size _
  have ha : Box (wt.alloc (.cells #[.string k2, .int .i64 x2, .string q2] 38)) w.heap.size s v1 r1 := Box.below ⟨a0, a1, a2⟩ ((Below.refl wt.heap.size wt).alloc (Nat.le_refl _) _) (by omega)
  have hb : Box (wt.alloc (.cells #[.string k2, .int .i64 x2, .string q2] 38)) (w.heap.size + 1) s v2 r2 := Box.below ⟨b0, b1, b2⟩ ((Below.refl wt.heap.size wt).alloc (Nat.le_refl _) _) (by omega)
  have hc : Box (wt.alloc (.cells #[.string k2, .int .i64 x2, .string q2] 38)) wr.heap.size k1 x1 q1 := Box.below ⟨c0, c1, c2⟩ ((Below.refl wt.heap.size wt).alloc (Nat.le_refl _) _) (by omega)
  have hd : Box (wt.alloc (.cells #[.string k2, .int .i64 x2, .string q2] 38)) wt.heap.size k2 x2 q2 := Box.new wt k2 x2 q2
  have hzm : (wt.alloc (.cells #[.string k2, .int .i64 x2, .string q2] 38)).heap.size = wt.heap.size + 1 := by simp
  clear a0 a1 a2 b0 b1 b2 c0 c1 c2 hb0
  generalize wt.alloc (.cells #[.string k2, .int .i64 x2, .string q2] 38) = wu at hbm hzm ha hb hc hd ⊢
  have hzwu : wt.heap.size < wu.heap.size := by omega
  clear hzm
  have hLawu : w.heap.size < wu.heap.size := by omega
  have hLbwu : (w.heap.size + 1) < wu.heap.size := by omega
  have hLcwu : wr.heap.size < wu.heap.size := by omega
  obtain ⟨a0, a1, a2⟩ := ha
  obtain ⟨b0, b1, b2⟩ := hb
  obtain ⟨c0, c1, c2⟩ := hc
  obtain ⟨d0, d1, d2⟩ := hd
  have hb0 := hbm
  clear hbm
  refine (hS _).mono ?_
  rintro e w9 ⟨rfl, rfl⟩
  rcases hne with h | ⟨rfl, h⟩
  all_goals
    go_wp2_with (go_at_call 32; ((first | (with_reducible refine (ho1 _).mono ?_) | (with_reducible refine (ho2 _).mono ?_))); rintro e wx ⟨rfl, rfl⟩)
    go_ret
    exact ⟨rfl, HW.out.trans (hb0.mono HW.out.size)⟩
end Go.Mk
