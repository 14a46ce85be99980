/-
  Proved: mark.Round rounds a mark of a kind. Condition: the heap holds the program's variables.
-/
import Derived.Test.YtgcofpejbjfhaaaGreatDoorRn
open Go Go.Proofs Go.RowKit
set_option maxRecDepth 100000
namespace Go.Mk

set_option maxHeartbeats 1000000 in
theorem Round_roundUp_large (s r n k : ByteArray) (v st x : Int) (w : World) (hg : 15 ≤ w.heap.size) (he : chk s v r = 0) (hc : cls n = ((k, st), true)) (hfb : fitsB k s = true)
    (lo hi : Int) (f2 f3 f5 f6 : Nat) (hE : Entry s (.agg #[.int .i64 lo, .int .i64 hi, .func (.func f2) #[] #[], .func (.func f3) #[] #[], .func (.func 83) #[] #[], .func (.func f5) #[] #[], .func (.func f6) #[] #[]]) true)
    (hv0 : 0 ≤ v) (hv1 : v ≤ 900000000) (hs0 : 1 ≤ st) (hs1 : st ≤ 1000) (hx : v + st - 1 - (v + st - 1) % st = x) (hl : hi < x) :
    Calls Tryz.prog 24 #[.agg #[.string s, .int .i64 v, .string r], .string n] w (RetPost (.tuple #[.agg #[.string ⟨#[]⟩, .int .i64 0, .string ⟨#[]⟩], .int .i64 4]) w) := by
  have hrd := fun w => roundUp_any v st w hv0 (by omega) hs0 hs1
  rw [hx] at hrd
  clear hx
  go_enter Tryz.func24, Tryz.ntmps24
  go_wp2_with fail
  refine (kinds_any _ (by simp; omega)).mono ?_
  rintro e w1 ⟨B, rfl, hB, hK, hb1⟩
  have hz1 : w.heap.size + 1 < w1.heap.size := by have := hb1.size; simp at this; omega
  have hbw : Below w.heap.size w w1 := (((Below.refl w.heap.size w).alloc (Nat.le_refl _) _).alloc (by simp) _).trans (hb1.mono (by simp; omega))
  obtain ⟨a0, a1, a2⟩ : Box w1 w.heap.size s v r := (Box.new w s v r).below (((Below.refl _ _).alloc (Nat.le_refl _) _).trans (hb1.mono (by simp))) (by simp)
  obtain ⟨z0, z1, z2⟩ : Box w1 (w.heap.size + 1) ⟨#[]⟩ 0 ⟨#[]⟩ := (Box.new' _ _ ⟨#[]⟩ 0 ⟨#[]⟩ (by simp)).below hb1 (by simp)
  have HK : Hid (∀ w', Below w1.heap.size w1 w' → Kinds w' B) := fun w' h => hK.grow h
  have hf := bcell hb1
  have f1 : ∀ o, w1.frozen? ⟨w.heap.size, o, none⟩ = false := fun o => by rw [hf.2 _ _ (by simp; omega)]; simp
  have f2 : ∀ o, w1.frozen? ⟨w.heap.size + 1, o, none⟩ = false := fun o => by rw [hf.2 _ _ (by simp)]; simp
  have hcA : Calls Tryz.prog 49 #[.map (some B), .agg #[.string s, .int .i64 v, .string r]] w1 (CkPost 0 w1) := by rw [← he]; exact checkMark_any s r v B w1 hK
  clear hb1 hK hB hf
  go_wp2_with fail
  refine hcA.mono ?_
  rintro e w2 ⟨rfl, hb2⟩
  clear hcA
  have hK2 : Kinds w2 B := HK.out _ hb2
  have g1 : ∀ o, w2.frozen? ⟨w.heap.size, o, none⟩ = false := fun o => by rw [hb2.frozen (p := ⟨w.heap.size, o, none⟩) (by show w.heap.size < _; omega)]; exact f1 o
  have g2 : ∀ o, w2.frozen? ⟨w.heap.size + 1, o, none⟩ = false := fun o => by rw [hb2.frozen (p := ⟨w.heap.size + 1, o, none⟩) hz1]; exact f2 o
  obtain ⟨c0, c1, c2⟩ : Box w2 w.heap.size s v r := Box.below ⟨a0, a1, a2⟩ hb2 (by omega)
  obtain ⟨y0, y1, y2⟩ : Box w2 (w.heap.size + 1) ⟨#[]⟩ 0 ⟨#[]⟩ := Box.below ⟨z0, z1, z2⟩ hb2 (by omega)
  have hz2 : w.heap.size + 1 < w2.heap.size := by have := hb2.size; omega
  have hbw2 : Below w.heap.size w w2 := hbw.trans (hb2.mono hbw.size)
  clear a0 a1 a2 z0 z1 z2 f1 f2 HK hb2 hbw
  have hcl := classOf_is n k st true hc
  go_wp2_with fail
  refine (hcl _).mono ?_
  rintro e w3 ⟨rfl, hb3⟩
  clear hcl
  have hK3 : Kinds w3 B := hK2.grow hb3
  have i1 : ∀ o, w3.frozen? ⟨w.heap.size, o, none⟩ = false := fun o => by rw [hb3.frozen (p := ⟨w.heap.size, o, none⟩) (by show w.heap.size < _; omega)]; exact g1 o
  have i2 : ∀ o, w3.frozen? ⟨w.heap.size + 1, o, none⟩ = false := fun o => by rw [hb3.frozen (p := ⟨w.heap.size + 1, o, none⟩) hz2]; exact g2 o
  obtain ⟨d0, d1, d2⟩ : Box w3 w.heap.size s v r := Box.below ⟨c0, c1, c2⟩ hb3 (by omega)
  obtain ⟨x0, x1, x2⟩ : Box w3 (w.heap.size + 1) ⟨#[]⟩ 0 ⟨#[]⟩ := Box.below ⟨y0, y1, y2⟩ hb3 (by omega)
  have hz3 : w.heap.size + 1 < w3.heap.size := by have := hb3.size; omega
  have hbw3 : Below w.heap.size w w3 := hbw2.trans (hb3.mono hbw2.size)
  clear c0 c1 c2 y0 y1 y2 g1 g2 hb3 hbw2 hK2
  have hft := fits_any k s st
  rw [hfb] at hft
  have hb9 : Below w.heap.size w (w3.alloc (.cells #[.string k, .int .i64 st] 99)) := hbw3.alloc hbw3.size _
  have j1 : ∀ o, (w3.alloc (.cells #[.string k, .int .i64 st] 99)).frozen? ⟨w.heap.size, o, none⟩ = false := fun o => by rw [((Below.refl w3.heap.size w3).alloc (Nat.le_refl _) _).frozen (p := ⟨w.heap.size, o, none⟩) (by show w.heap.size < _; omega)]; exact i1 o
  have j2 : ∀ o, (w3.alloc (.cells #[.string k, .int .i64 st] 99)).frozen? ⟨w.heap.size + 1, o, none⟩ = false := fun o => by rw [((Below.refl w3.heap.size w3).alloc (Nat.le_refl _) _).frozen (p := ⟨w.heap.size + 1, o, none⟩) hz3]; exact i2 o
  have hXa : Box (w3.alloc (.cells #[.string k, .int .i64 st] 99)) w.heap.size s v r := Box.below ⟨d0, d1, d2⟩ ((Below.refl w3.heap.size w3).alloc (Nat.le_refl _) _) (by omega)
  have hXb : Box (w3.alloc (.cells #[.string k, .int .i64 st] 99)) (w.heap.size + 1) ⟨#[]⟩ 0 ⟨#[]⟩ := Box.below ⟨x0, x1, x2⟩ ((Below.refl w3.heap.size w3).alloc (Nat.le_refl _) _) (by omega)
  have hXc : (w3.alloc (.cells #[.string k, .int .i64 st] 99)).cell? ⟨w3.heap.size, 1, none⟩ = some (.int .i64 st) := by simp
  have hXd : (w3.alloc (.cells #[.string k, .int .i64 st] 99)).cell? ⟨w3.heap.size, 0, none⟩ = some (.string k) := by simp
  have hXk : Kinds (w3.alloc (.cells #[.string k, .int .i64 st] 99)) B := hK3.grow ((Below.refl _ _).alloc (Nat.le_refl _) _)
  have hz3' : w.heap.size < w3.heap.size := by omega
  go_wp2_with fail
  refine (hft _).mono ?_
  rintro e w4 ⟨rfl, hb4⟩
  have hs4 := hb4.size
  have hK4 : Kinds w4 B := hXk.grow hb4
  have l1 : ∀ o, w4.frozen? ⟨w.heap.size, o, none⟩ = false := fun o => by rw [hb4.frozen (p := ⟨w.heap.size, o, none⟩) (by show w.heap.size < _; simp; omega)]; exact j1 o
  have l2 : ∀ o, w4.frozen? ⟨w.heap.size + 1, o, none⟩ = false := fun o => by rw [hb4.frozen (p := ⟨w.heap.size + 1, o, none⟩) (by show w.heap.size + 1 < _; simp; omega)]; exact j2 o
  obtain ⟨d0, d1, d2⟩ : Box w4 w.heap.size s v r := Box.below hXa hb4 (by simp; omega)
  obtain ⟨x0, x1, x2⟩ : Box w4 (w.heap.size + 1) ⟨#[]⟩ 0 ⟨#[]⟩ := Box.below hXb hb4 (by simp; omega)
  have hst : w4.cell? ⟨w3.heap.size, 1, none⟩ = some (.int .i64 st) := (hb4.cell (p := ⟨w3.heap.size, 1, none⟩) (by simp)).trans hXc
  have hkk : w4.cell? ⟨w3.heap.size, 0, none⟩ = some (.string k) := (hb4.cell (p := ⟨w3.heap.size, 0, none⟩) (by simp)).trans hXd
  have hz4 : w.heap.size + 1 < w4.heap.size := by simp at hs4; omega
  have hz4' : w.heap.size < w4.heap.size := by omega
  have hz5 : w3.heap.size < w4.heap.size := by simp at hs4; omega
  have hbw4 : Below w.heap.size w w4 := hb9.trans (hb4.mono hb9.size)
  clear j1 j2 i1 i2 hXa hXb hXc hXd hXk hb9 hb4 hK3 hbw3 hft hs4
  have HK5 : Hid (∀ o, Kinds (w4.alloc o) B) := fun o => hK4.grow ((Below.refl _ _).alloc (Nat.le_refl _) o)
  go_wp2_with (at_lookup; refine wpList_look _ rfl _ _ false rfl B s _ _ rfl rfl (by first | exact hK4 | exact HK5.out _) hE ?_)
  refine (hrd _).mono ?_
  rintro e w' ⟨rfl, rfl⟩
  go_wp2
  have hBx : Below w.heap.size w ((((w4.setCell ⟨w.heap.size, 1, none⟩ (.int .i64 x)).setCell ⟨w.heap.size + 1, 0, none⟩ (.string ⟨#[]⟩)).setCell ⟨w.heap.size + 1, 1, none⟩ (.int .i64 0)).setCell ⟨w.heap.size + 1, 2, none⟩ (.string ⟨#[]⟩)) :=
    ((((hbw4.setCell (Nat.le_refl _) _).setCell (by show _ ≤ w.heap.size + 1; omega) _).setCell (by show _ ≤ w.heap.size + 1; omega) _).setCell (by show _ ≤ w.heap.size + 1; omega) _)
  obtain ⟨q0, q1, q2⟩ : Box (((((w4.setCell ⟨w.heap.size, 1, none⟩ (.int .i64 x)).setCell ⟨w.heap.size + 1, 0, none⟩ (.string ⟨#[]⟩)).setCell ⟨w.heap.size + 1, 1, none⟩ (.int .i64 0)).setCell ⟨w.heap.size + 1, 2, none⟩ (.string ⟨#[]⟩)).alloc (.cells #[.int .i64 lo, .int .i64 hi, .func (.func f2) #[] #[], .func (.func f3) #[] #[], .func (.func 83) #[] #[], .func (.func f5) #[] #[], .func (.func f6) #[] #[]] 97)) (w.heap.size + 1) ⟨#[]⟩ 0 ⟨#[]⟩ :=
    Box.below (Box.set3 (Box.far ⟨x0, x1, x2⟩ (by show w.heap.size ≠ _; omega) _)) ((Below.refl _ _).alloc (Nat.le_refl _) _) (by simp; omega)
  exact bodyPost_ret (v := .tuple #[.agg #[.string ⟨#[]⟩, .int .i64 0, .string ⟨#[]⟩], .int .i64 4]) (by simp [results, Tryz.results24, go_sem, q0, q1, q2]) rfl ⟨rfl, hBx.alloc hBx.size _⟩

set_option maxHeartbeats 1000000 in
theorem Round_roundUp_ok (s r n k : ByteArray) (v st x : Int) (w : World) (hg : 15 ≤ w.heap.size) (he : chk s v r = 0) (hc : cls n = ((k, st), true)) (hfb : fitsB k s = true)
    (lo hi : Int) (f2 f3 f5 f6 : Nat) (hE : Entry s (.agg #[.int .i64 lo, .int .i64 hi, .func (.func f2) #[] #[], .func (.func f3) #[] #[], .func (.func 83) #[] #[], .func (.func f5) #[] #[], .func (.func f6) #[] #[]]) true)
    (hv0 : 0 ≤ v) (hv1 : v ≤ 900000000) (hs0 : 1 ≤ st) (hs1 : st ≤ 1000) (hx : v + st - 1 - (v + st - 1) % st = x) (hl : ¬ hi < x) :
    Calls Tryz.prog 24 #[.agg #[.string s, .int .i64 v, .string r], .string n] w (RetPost (.tuple #[.agg #[.string s, .int .i64 x, .string r], .int .i64 0]) w) := by
  have hrd := fun w => roundUp_any v st w hv0 (by omega) hs0 hs1
  rw [hx] at hrd
  clear hx
  go_enter Tryz.func24, Tryz.ntmps24
  go_wp2_with fail
  refine (kinds_any _ (by simp; omega)).mono ?_
  rintro e w1 ⟨B, rfl, hB, hK, hb1⟩
  have hz1 : w.heap.size + 1 < w1.heap.size := by have := hb1.size; simp at this; omega
  have hbw : Below w.heap.size w w1 := (((Below.refl w.heap.size w).alloc (Nat.le_refl _) _).alloc (by simp) _).trans (hb1.mono (by simp; omega))
  obtain ⟨a0, a1, a2⟩ : Box w1 w.heap.size s v r := (Box.new w s v r).below (((Below.refl _ _).alloc (Nat.le_refl _) _).trans (hb1.mono (by simp))) (by simp)
  obtain ⟨z0, z1, z2⟩ : Box w1 (w.heap.size + 1) ⟨#[]⟩ 0 ⟨#[]⟩ := (Box.new' _ _ ⟨#[]⟩ 0 ⟨#[]⟩ (by simp)).below hb1 (by simp)
  have HK : Hid (∀ w', Below w1.heap.size w1 w' → Kinds w' B) := fun w' h => hK.grow h
  have hf := bcell hb1
  have f1 : ∀ o, w1.frozen? ⟨w.heap.size, o, none⟩ = false := fun o => by rw [hf.2 _ _ (by simp; omega)]; simp
  have f2 : ∀ o, w1.frozen? ⟨w.heap.size + 1, o, none⟩ = false := fun o => by rw [hf.2 _ _ (by simp)]; simp
  have hcA : Calls Tryz.prog 49 #[.map (some B), .agg #[.string s, .int .i64 v, .string r]] w1 (CkPost 0 w1) := by rw [← he]; exact checkMark_any s r v B w1 hK
  clear hb1 hK hB hf
  go_wp2_with fail
  refine hcA.mono ?_
  rintro e w2 ⟨rfl, hb2⟩
  clear hcA
  have hK2 : Kinds w2 B := HK.out _ hb2
  have g1 : ∀ o, w2.frozen? ⟨w.heap.size, o, none⟩ = false := fun o => by rw [hb2.frozen (p := ⟨w.heap.size, o, none⟩) (by show w.heap.size < _; omega)]; exact f1 o
  have g2 : ∀ o, w2.frozen? ⟨w.heap.size + 1, o, none⟩ = false := fun o => by rw [hb2.frozen (p := ⟨w.heap.size + 1, o, none⟩) hz1]; exact f2 o
  obtain ⟨c0, c1, c2⟩ : Box w2 w.heap.size s v r := Box.below ⟨a0, a1, a2⟩ hb2 (by omega)
  obtain ⟨y0, y1, y2⟩ : Box w2 (w.heap.size + 1) ⟨#[]⟩ 0 ⟨#[]⟩ := Box.below ⟨z0, z1, z2⟩ hb2 (by omega)
  have hz2 : w.heap.size + 1 < w2.heap.size := by have := hb2.size; omega
  have hbw2 : Below w.heap.size w w2 := hbw.trans (hb2.mono hbw.size)
  clear a0 a1 a2 z0 z1 z2 f1 f2 HK hb2 hbw
  have hcl := classOf_is n k st true hc
  go_wp2_with fail
  refine (hcl _).mono ?_
  rintro e w3 ⟨rfl, hb3⟩
  clear hcl
  have hK3 : Kinds w3 B := hK2.grow hb3
  have i1 : ∀ o, w3.frozen? ⟨w.heap.size, o, none⟩ = false := fun o => by rw [hb3.frozen (p := ⟨w.heap.size, o, none⟩) (by show w.heap.size < _; omega)]; exact g1 o
  have i2 : ∀ o, w3.frozen? ⟨w.heap.size + 1, o, none⟩ = false := fun o => by rw [hb3.frozen (p := ⟨w.heap.size + 1, o, none⟩) hz2]; exact g2 o
  obtain ⟨d0, d1, d2⟩ : Box w3 w.heap.size s v r := Box.below ⟨c0, c1, c2⟩ hb3 (by omega)
  obtain ⟨x0, x1, x2⟩ : Box w3 (w.heap.size + 1) ⟨#[]⟩ 0 ⟨#[]⟩ := Box.below ⟨y0, y1, y2⟩ hb3 (by omega)
  have hz3 : w.heap.size + 1 < w3.heap.size := by have := hb3.size; omega
  have hbw3 : Below w.heap.size w w3 := hbw2.trans (hb3.mono hbw2.size)
  clear c0 c1 c2 y0 y1 y2 g1 g2 hb3 hbw2 hK2
  have hft := fits_any k s st
  rw [hfb] at hft
  have hb9 : Below w.heap.size w (w3.alloc (.cells #[.string k, .int .i64 st] 99)) := hbw3.alloc hbw3.size _
  have j1 : ∀ o, (w3.alloc (.cells #[.string k, .int .i64 st] 99)).frozen? ⟨w.heap.size, o, none⟩ = false := fun o => by rw [((Below.refl w3.heap.size w3).alloc (Nat.le_refl _) _).frozen (p := ⟨w.heap.size, o, none⟩) (by show w.heap.size < _; omega)]; exact i1 o
  have j2 : ∀ o, (w3.alloc (.cells #[.string k, .int .i64 st] 99)).frozen? ⟨w.heap.size + 1, o, none⟩ = false := fun o => by rw [((Below.refl w3.heap.size w3).alloc (Nat.le_refl _) _).frozen (p := ⟨w.heap.size + 1, o, none⟩) hz3]; exact i2 o
  have hXa : Box (w3.alloc (.cells #[.string k, .int .i64 st] 99)) w.heap.size s v r := Box.below ⟨d0, d1, d2⟩ ((Below.refl w3.heap.size w3).alloc (Nat.le_refl _) _) (by omega)
  have hXb : Box (w3.alloc (.cells #[.string k, .int .i64 st] 99)) (w.heap.size + 1) ⟨#[]⟩ 0 ⟨#[]⟩ := Box.below ⟨x0, x1, x2⟩ ((Below.refl w3.heap.size w3).alloc (Nat.le_refl _) _) (by omega)
  have hXc : (w3.alloc (.cells #[.string k, .int .i64 st] 99)).cell? ⟨w3.heap.size, 1, none⟩ = some (.int .i64 st) := by simp
  have hXd : (w3.alloc (.cells #[.string k, .int .i64 st] 99)).cell? ⟨w3.heap.size, 0, none⟩ = some (.string k) := by simp
  have hXk : Kinds (w3.alloc (.cells #[.string k, .int .i64 st] 99)) B := hK3.grow ((Below.refl _ _).alloc (Nat.le_refl _) _)
  have hz3' : w.heap.size < w3.heap.size := by omega
  go_wp2_with fail
  refine (hft _).mono ?_
  rintro e w4 ⟨rfl, hb4⟩
  have hs4 := hb4.size
  have hK4 : Kinds w4 B := hXk.grow hb4
  have l1 : ∀ o, w4.frozen? ⟨w.heap.size, o, none⟩ = false := fun o => by rw [hb4.frozen (p := ⟨w.heap.size, o, none⟩) (by show w.heap.size < _; simp; omega)]; exact j1 o
  have l2 : ∀ o, w4.frozen? ⟨w.heap.size + 1, o, none⟩ = false := fun o => by rw [hb4.frozen (p := ⟨w.heap.size + 1, o, none⟩) (by show w.heap.size + 1 < _; simp; omega)]; exact j2 o
  obtain ⟨d0, d1, d2⟩ : Box w4 w.heap.size s v r := Box.below hXa hb4 (by simp; omega)
  obtain ⟨x0, x1, x2⟩ : Box w4 (w.heap.size + 1) ⟨#[]⟩ 0 ⟨#[]⟩ := Box.below hXb hb4 (by simp; omega)
  have hst : w4.cell? ⟨w3.heap.size, 1, none⟩ = some (.int .i64 st) := (hb4.cell (p := ⟨w3.heap.size, 1, none⟩) (by simp)).trans hXc
  have hkk : w4.cell? ⟨w3.heap.size, 0, none⟩ = some (.string k) := (hb4.cell (p := ⟨w3.heap.size, 0, none⟩) (by simp)).trans hXd
  have hz4 : w.heap.size + 1 < w4.heap.size := by simp at hs4; omega
  have hz4' : w.heap.size < w4.heap.size := by omega
  have hz5 : w3.heap.size < w4.heap.size := by simp at hs4; omega
  have hbw4 : Below w.heap.size w w4 := hb9.trans (hb4.mono hb9.size)
  clear j1 j2 i1 i2 hXa hXb hXc hXd hXk hb9 hb4 hK3 hbw3 hft hs4
  have HK5 : Hid (∀ o, Kinds (w4.alloc o) B) := fun o => hK4.grow ((Below.refl _ _).alloc (Nat.le_refl _) o)
  go_wp2_with (at_lookup; refine wpList_look _ rfl _ _ false rfl B s _ _ rfl rfl (by first | exact hK4 | exact HK5.out _) hE ?_)
  refine (hrd _).mono ?_
  rintro e w' ⟨rfl, rfl⟩
  go_wp2
  have hBx : Below w.heap.size w ((((w4.setCell ⟨w.heap.size, 1, none⟩ (.int .i64 x)).setCell ⟨w.heap.size + 1, 0, none⟩ (.string s)).setCell ⟨w.heap.size + 1, 1, none⟩ (.int .i64 x)).setCell ⟨w.heap.size + 1, 2, none⟩ (.string r)) :=
    ((((hbw4.setCell (Nat.le_refl _) _).setCell (by show _ ≤ w.heap.size + 1; omega) _).setCell (by show _ ≤ w.heap.size + 1; omega) _).setCell (by show _ ≤ w.heap.size + 1; omega) _)
  obtain ⟨q0, q1, q2⟩ : Box (((((w4.setCell ⟨w.heap.size, 1, none⟩ (.int .i64 x)).setCell ⟨w.heap.size + 1, 0, none⟩ (.string s)).setCell ⟨w.heap.size + 1, 1, none⟩ (.int .i64 x)).setCell ⟨w.heap.size + 1, 2, none⟩ (.string r)).alloc (.cells #[.int .i64 lo, .int .i64 hi, .func (.func f2) #[] #[], .func (.func f3) #[] #[], .func (.func 83) #[] #[], .func (.func f5) #[] #[], .func (.func f6) #[] #[]] 97)) (w.heap.size + 1) s x r :=
    Box.below (Box.set3 (Box.far ⟨x0, x1, x2⟩ (by show w.heap.size ≠ _; omega) _)) ((Below.refl _ _).alloc (Nat.le_refl _) _) (by simp; omega)
  exact bodyPost_ret (v := .tuple #[.agg #[.string s, .int .i64 x, .string r], .int .i64 0]) (by simp [results, Tryz.results24, go_sem, q0, q1, q2]) rfl ⟨rfl, hBx.alloc hBx.size _⟩
end Go.Mk
