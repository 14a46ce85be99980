/-
  Proved: plain facts on places in the order of their ranks: the stable order, told by the numbers of the places, is the one that takes each rank in turn. No condition beside those named.
  Proved: slices.SortedStableFunc of slices.Values of places by arranged's comparison, and arranged of package field: the places in the order of their ranks, in new memory. Conditions: there are at most 40 places, with ranks from 0 to their number, in cells that lie where the slice says.
-/
import Derived.Test.YtclapdfkgafenaaGreatDoorFpl
section
set_option linter.unusedVariables false
set_option linter.unusedSimpArgs false
open Go Go.Proofs Go.RowKit
set_option maxRecDepth 100000
namespace Go.Mk
def toks (n : Nat) : List Int := (List.range n).map fun (i : Nat) => (i : Int)
def ltK (key : Int → Int) (x y : Int) : Prop := key x < key y ∨ (key x = key y ∧ x < y)
theorem ltK_ord (key : Int → Int) : Ord (ltK key) where
  trans := by intro x y z h k; unfold ltK at *; omega
  irr := by intro x h; unfold ltK at h; omega
  tri := by intro x y h; unfold ltK; omega
theorem toks_len (n : Nat) : (toks n).length = n := by simp [toks]
theorem toks_mem {n : Nat} {x : Int} : x ∈ toks n ↔ 0 ≤ x ∧ x < n := by
  unfold toks
  rw [List.mem_map]
  constructor
  · rintro ⟨i, hi, rfl⟩
    have := List.mem_range.1 hi
    omega
  · rintro ⟨h1, h2⟩
    exact ⟨x.toNat, List.mem_range.2 (by omega), by omega⟩
theorem toks_pw (n : Nat) : (toks n).Pairwise fun x y => x < y := by
  unfold toks
  rw [List.pairwise_map]
  exact List.pairwise_lt_range.imp (fun h => by omega)
theorem toks_nodup (n : Nat) : (toks n).Nodup := (toks_pw n).imp (fun h => by omega)
theorem toks_at {n i : Nat} (h : i < n) : ga (toks n) i = i := by
  unfold ga toks
  rw [List.getD_eq_getElem?_getD, List.getElem?_map, List.getElem?_range h]; rfl
def byKey (key : Int → Int) (n m : Nat) : List Int := (List.range m).flatMap fun (r : Nat) => (toks n).filter fun i => decide (key i = (r : Int) + 1)
theorem byKey_pw (key : Int → Int) (n m : Nat) : (byKey key n m).Pairwise (ltK key) := by
  unfold byKey
  rw [List.pairwise_flatMap]
  refine ⟨fun r _ => ?_, ?_⟩
  · have h1 : ((toks n).filter fun i => decide (key i = (r : Int) + 1)).Pairwise (fun x y => x < y) := (toks_pw n).sublist List.filter_sublist
    refine List.Pairwise.imp_of_mem (fun {x y} hx hy h => ?_) h1
    have a := (List.mem_filter.1 hx).2
    have b := (List.mem_filter.1 hy).2
    simp at a b
    exact .inr ⟨by omega, h⟩
  · refine List.Pairwise.imp_of_mem (fun {a b} _ _ h x hx y hy => ?_) List.pairwise_lt_range
    have q1 := (List.mem_filter.1 hx).2
    have q2 := (List.mem_filter.1 hy).2
    simp at q1 q2
    exact .inl (by omega)
theorem byKey_perm (key : Int → Int) (n m : Nat) (h : ∀ x ∈ toks n, 1 ≤ key x ∧ key x ≤ m) : (byKey key n m).Perm (toks n) := by
  refine (List.perm_ext_iff_of_nodup ?_ (toks_nodup n)).2 fun x => ?_
  · exact (byKey_pw key n m).imp (fun {a b} h e => by subst e; exact (ltK_ord key).irr h)
  · unfold byKey
    rw [List.mem_flatMap]
    constructor
    · rintro ⟨r, _, hx⟩
      exact (List.mem_filter.1 hx).1
    · intro hx
      obtain ⟨h1, h2⟩ := h x hx
      exact ⟨(key x - 1).toNat, List.mem_range.2 (by omega), List.mem_filter.2 ⟨hx, by simp; omega⟩⟩
def arrL (n : Nat) (L : List Plc) : List Plc := (List.range (n + 1)).flatMap fun (r : Nat) => L.filter fun p => decide (bhd n p = (r : Int) + 1)
def plF (L : List Plc) (i : Int) : Plc := L.getD i.toNat ⟨⟨#[]⟩, 0, ⟨#[]⟩, 0, ⟨#[]⟩⟩
theorem plF_toks (L : List Plc) : (toks L.length).map (plF L) = L := by
  apply List.ext_getElem?
  intro i
  unfold toks
  rw [List.map_map, List.getElem?_map]
  by_cases h : i < L.length
  · rw [List.getElem?_range h]
    simp [plF, h]
  · rw [List.getElem?_eq_none (by simp; omega), List.getElem?_eq_none (by omega)]
    rfl
theorem byKey_arr (L : List Plc) (n : Nat) (hn : L.length = n) : (byKey (fun i => bhd n (plF L i)) n (n + 1)).map (plF L) = arrL n L := by
  unfold byKey arrL
  rw [List.map_flatMap]
  congr 1
  funext r
  conv => rhs; rw [← plF_toks L, List.filter_map]
  rw [hn]
  rfl
theorem arr_of (L : List Plc) (n : Nat) (hn : L.length = n) (hr : ∀ p ∈ L, 0 ≤ p.rk ∧ p.rk ≤ n) {M : List Int} (hp : M.Perm (toks n)) (hs : Srt (ltK fun i => bhd n (plF L i)) M 0 n) : M.map (plF L) = arrL n L := by
  have hl : M.length = n := by rw [hp.length_eq, toks_len]
  have h1 : M.Pairwise (ltK fun i => bhd n (plF L i)) := pw_of_srt (by rw [hl]; exact hs)
  have h2 := byKey_perm (fun i => bhd n (plF L i)) n (n + 1) (fun x hx => by
    have h3 := toks_mem.1 hx
    have h4 : x.toNat < L.length := by omega
    have h5 : plF L x ∈ L := by unfold plF; rw [List.getD_eq_getElem?_getD, List.getElem?_eq_getElem h4]; exact List.getElem_mem h4
    have h6 := hr _ h5
    unfold bhd
    split <;> omega)
  rw [pw_unique (ltK_ord _) (hp.trans h2.symm) h1 (byKey_pw _ _ _), byKey_arr L n hn]
theorem cmpZ_neg (a b : Int) : cmpZ a b < 0 ↔ a < b := by
  unfold cmpZ
  split
  · simp_all
  · split <;> simp_all
end Go.Mk
end
section
set_option linter.unusedVariables false
set_option linter.unusedSimpArgs false
open Go Go.Proofs Go.RowKit
set_option maxRecDepth 100000
namespace Go.Mk
set_option maxHeartbeats 1000000 in
theorem insertP_nil (b2 : Nat) (w : World) : Calls Tryz.prog 256 #[.slice none 0 0, .int .i64 0, .int .i64 0, cmpP b2] w (fun e w' => e = .returned (.tuple #[]) ∧ w' = w) := by
  unfold cmpP
  go_enter Tryz.func256, Tryz.ntmps256
  go_wp2
  go_loopw [8] (fun i wr => i = .int .i64 1 ∧ wr = w) (fun _ _ => 0)
  case atStart => exact ⟨rfl, rfl⟩
  case round =>
    obtain ⟨rfl, rfl⟩ := hrel
    go_wp2
    go_end0
    exact ⟨rfl, rfl⟩
set_option maxHeartbeats 1000000 in
theorem stableP_nil (b2 : Nat) (w : World) : Calls Tryz.prog 205 #[.slice none 0 0, .int .i64 0, cmpP b2] w (fun e w' => e = .returned (.tuple #[]) ∧ w' = w) := by
  have hI := insertP_nil b2
  unfold cmpP at *
  go_enter Tryz.func205, Tryz.ntmps205
  go_wp2
  go_loopw [7, 8] (fun a b wr => a = .int .i64 0 ∧ b = .int .i64 20 ∧ wr = w) (fun _ _ _ => 0)
  case atStart => exact ⟨rfl, rfl, rfl⟩
  case round =>
    obtain ⟨rfl, rfl, rfl⟩ := hrel
    go_wp2_with fail
    refine (hI _).mono ?_
    rintro e w5 ⟨rfl, rfl⟩
    go_wp2
    go_loopw [6, 7, 8] (fun s a b wz => s = .int .i64 20 ∧ (∃ x y, a = .int .i64 x ∧ b = .int .i64 y) ∧ wz = w5) (fun _ _ _ _ => 0)
    case atStart => exact ⟨rfl, ⟨_, _, rfl, rfl⟩, rfl⟩
    case round =>
      obtain ⟨rfl, ⟨x, y, rfl, rfl⟩, rfl⟩ := hrel
      go_wp2
      go_end0
      exact ⟨rfl, rfl⟩
set_option maxHeartbeats 1000000 in
theorem sortStableP_nil (b2 : Nat) (w : World) : Calls Tryz.prog 162 #[.slice none 0 0, cmpP b2] w (fun e w' => e = .returned (.tuple #[]) ∧ w' = w) := by
  have hI := stableP_nil b2
  unfold cmpP at *
  go_enter Tryz.func162, Tryz.ntmps162
  go_wp2_with fail
  refine (hI _).mono ?_
  rintro e w5 ⟨rfl, rfl⟩
  go_wp2
  go_end0
  exact ⟨rfl, rfl⟩
theorem RowP.of_own {w : World} {B g cap : Nat} {L : List Plc} (h : OwnPlcs w B (.slice (some ⟨g, 0, none⟩) L.length cap) L) : RowP (plF L) w B g L.length cap (toks L.length) :=
  ⟨toks_len _, by rw [plF_toks]; exact h⟩
theorem sortPl_any (L : List Plc) (n : Nat) (hn : L.length = n) (h40 : n ≤ 40) (hr : ∀ p ∈ L, 0 ≤ p.rk ∧ p.rk ≤ n) (B : Nat) (v : Value) (b2 b1 : Nat) (A : Option Addr) (c : Nat) (w : World) (hv : OwnPlcs w B v L) (hb1 : b1 < B) (hb2 : b2 < B) (hBw : B ≤ w.heap.size)
    (hc1 : w.cell? ⟨b1, 0, none⟩ = some (.slice A n c)) (hc2 : w.cell? ⟨b2, 0, none⟩ = some (.func (.func 99) #[] #[.pointer (some ⟨b1, 0, none⟩)])) :
    Calls Tryz.prog 162 #[v, cmpP b2] w (fun e w' => e = .returned (.tuple #[]) ∧ OwnPlcs w' B v (arrL n L) ∧ Below B w w') := by
  rcases hv.2 with ⟨rfl, h0⟩ | ⟨g, cap, cur, rfl, hBg, hrest⟩
  · obtain rfl : L = [] := List.length_eq_zero_iff.1 h0
    obtain rfl : n = 0 := hn.symm
    refine (sortStableP_nil b2 w).mono ?_
    rintro e w' ⟨rfl, rfl⟩
    exact ⟨rfl, hv, Below.refl _ _⟩
  · have hRow := RowP.of_own hv
    rw [hn] at hRow
    have hlt := hRow.lt
    have hC : CmpP (plF L) w g b2 (fun x y => cmpZ (bhd n (plF L x)) (bhd n (plF L y))) (toks n) := fun w' hg x y _ _ =>
      fdArrC_any (plF L x) (plF L y) b2 b1 A n c (by omega) w' (by have := hg.size; omega) (by have := hg.size; omega)
        ((World.cell?_of_block (a := ⟨b1, 0, none⟩) (hg.block b1 (by omega) (by simp; omega))).trans hc1)
        ((World.cell?_of_block (a := ⟨b2, 0, none⟩) (hg.block b2 (by omega) (by simp; omega))).trans hc2)
    have hK := sortStableP_any (plF L) (ltK_ord (fun i => bhd n (plF L i))) (fun x y => cmpZ (bhd n (plF L x)) (bhd n (plF L y))) (toks n) B g n cap b2 w hRow (toks_nodup n) h40 hC
      (fun p q h1 h2 => by
        rw [toks_at h2, toks_at (by omega : p < n), cmpZ_neg]
        unfold ltK
        dsimp only
        omega)
    rw [hn]
    refine hK.mono ?_
    rintro e w' ⟨M, rfl, hp, hs, hrow, hg⟩
    have hM := arr_of L n hn hr hp.perm hs
    have hl : (arrL n L).length = n := by rw [← hM, List.length_map, hp.len, toks_len]
    refine ⟨rfl, ?_, ?_⟩
    · unfold OwnPlcs
      rw [hl, ← hM]
      exact hrow.2
    · exact (Below.refl B w).grown hg hBw (fun r e => by cases e; exact hBg)
set_option maxHeartbeats 2000000 in
theorem sortedStable_any (L : List Plc) (n : Nat) (h40 : n ≤ 40) (hr : ∀ p ∈ L, 0 ≤ p.rk ∧ p.rk ≤ n) (b3 b2 b1 : Nat) (A : Option Addr) (c : Nat) (w : World) (hZ : PlcsZ w A n L) (hb1 : b1 < w.heap.size) (hb2 : b2 < w.heap.size) (hb3 : b3 < w.heap.size)
    (hc1 : w.cell? ⟨b1, 0, none⟩ = some (.slice A n c)) (hc2 : w.cell? ⟨b2, 0, none⟩ = some (.func (.func 99) #[] #[.pointer (some ⟨b1, 0, none⟩)])) (hc3 : w.cell? ⟨b3, 0, none⟩ = some (.slice A n c)) :
    Calls Tryz.prog 100 #[.func (.func 163) #[] #[.pointer (some ⟨b3, 0, none⟩)], cmpP b2] w (fun e w' => ∃ v, e = .returned v ∧ OwnPlcs w' w.heap.size v (arrL n L) ∧ Below w.heap.size w w') := by
  have hCo := collectP_any b3 n c A L (by omega) w hZ hb3 hc3
  have hS : Hid (∀ (v : Value) (w' : World), OwnPlcs w' w.heap.size v L → Below w.heap.size w w' → Calls Tryz.prog 162 #[v, cmpP b2] w' (fun e w2 => e = .returned (.tuple #[]) ∧ OwnPlcs w2 w.heap.size v (arrL n L) ∧ Below w.heap.size w' w2)) := Lib.hid fun v w' ho hb =>
    sortPl_any L n hZ.1 h40 hr w.heap.size v b2 b1 A c w' ho hb1 hb2 hb.size ((hb.cell (p := ⟨b1, 0, none⟩) hb1).trans hc1) ((hb.cell (p := ⟨b2, 0, none⟩) hb2).trans hc2)
  unfold cmpP at *
  clear hZ hc1 hc2 hc3 hb1 hb2 hb3 hr
  go_enter Tryz.func100, Tryz.ntmps100
  go_wp2_with fail
  refine hCo.mono ?_
  rintro e w2 ⟨v, rfl, ho, hb⟩
  have hSS := hS.out v w2 ho hb
  clear ho hCo
  go_wp2_with fail
  refine hSS.mono ?_
  rintro e w3 ⟨rfl, ho3, hb3⟩
  have HO := Lib.hid (And.intro ho3 (hb.trans hb3))
  clear ho3 hb3 hb hSS
  go_wp2
  go_ret
  exact ⟨_, rfl, HO.out⟩
set_option maxHeartbeats 2000000 in
theorem fdArranged_any (L : List Plc) (n : Nat) (h40 : n ≤ 40) (hr : ∀ p ∈ L, 0 ≤ p.rk ∧ p.rk ≤ n) (A : Option Addr) (c : Nat) (w : World) (hZ : PlcsZ w A n L) :
    Calls Tryz.prog 38 #[.slice A n c] w (fun e w' => ∃ v, e = .returned v ∧ OwnPlcs w' w.heap.size v (arrL n L) ∧ Below w.heap.size w w') := by
  obtain ⟨w1, hw1⟩ : ∃ w1, w.alloc (.cells #[.slice A n c] 25) = w1 := ⟨_, rfl⟩
  have hb1 : Below w.heap.size w w1 := by rw [← hw1]; exact balloc _ (Below.refl _ _)
  have hs1 : w1.heap.size = w.heap.size + 1 := by rw [← hw1]; simp
  have x0 : w1.cell? ⟨w.heap.size, 0, none⟩ = some (.slice A n c) := by rw [← hw1]; simp
  obtain ⟨w2, hw2⟩ : ∃ w2, w1.alloc (.cells #[.func (.func 99) #[] #[.pointer (some ⟨w.heap.size, 0, none⟩)]] 175) = w2 := ⟨_, rfl⟩
  have hb2 : Below w.heap.size w w2 := by rw [← hw2]; exact hb1.alloc hb1.size _
  have hs2 : w2.heap.size = w1.heap.size + 1 := by rw [← hw2]; simp
  have y0 : w2.cell? ⟨w.heap.size, 0, none⟩ = some (.slice A n c) := by
    rw [← hw2]
    exact ((balloc _ (Below.refl w1.heap.size w1)).cell (p := ⟨w.heap.size, 0, none⟩) (by show w.heap.size < _; omega)).trans x0
  have y1 : w2.cell? ⟨w1.heap.size, 0, none⟩ = some (.func (.func 99) #[] #[.pointer (some ⟨w.heap.size, 0, none⟩)]) := by rw [← hw2]; simp
  have hV := fun w' => slValuesP_any A n c w'
  have hS : Hid (Calls Tryz.prog 100 #[.func (.func 163) #[] #[.pointer (some ⟨w2.heap.size, 0, none⟩)], .func (.func 102) #[] #[.pointer (some ⟨w1.heap.size, 0, none⟩)]] (w2.alloc (.cells #[.slice A n c] 25)) (fun e w'' => ∃ v, e = .returned v ∧ OwnPlcs w'' w.heap.size v (arrL n L) ∧ Below w.heap.size w w'')) := Lib.hid (by
    have hb3 : Below w2.heap.size w2 (w2.alloc (.cells #[.slice A n c] 25)) := balloc _ (Below.refl _ _)
    have hb4 : Below w.heap.size w (w2.alloc (.cells #[.slice A n c] 25)) := hb2.alloc hb2.size _
    refine (sortedStable_any L n h40 hr w2.heap.size w1.heap.size w.heap.size A c _ (hZ.below hb4) (by simp; omega) (by simp; omega) (by simp) ((hb3.cell (p := ⟨w.heap.size, 0, none⟩) (by show w.heap.size < _; omega)).trans y0) ((hb3.cell (p := ⟨w1.heap.size, 0, none⟩) (by show w1.heap.size < _; omega)).trans y1) (by simp)).mono ?_
    rintro e w5 ⟨v, rfl, ho, hb5⟩
    refine ⟨v, rfl, ?_, bstep hb4 hb5⟩
    unfold OwnPlcs at *
    refine ⟨ho.1, ?_⟩
    rcases ho.2 with q | ⟨g', cap, cur, a, b, c'⟩
    · exact .inl q
    · exact .inr ⟨g', cap, cur, a, Nat.le_trans hb4.size b, c'⟩)
  have hst : (store ⟨w1.heap.size, 0, none⟩ (.func (.func 99) #[] #[.pointer (some ⟨w.heap.size, 0, none⟩)])).run Tryz.prog (w1.alloc (.cells #[.nilFunc] 175)) = .ok () w2 := by
    rw [run_store _ _ _ _ _ rfl]
    have e1 : (w1.alloc (.cells #[.nilFunc] 175)).cell? ⟨w1.heap.size, 0, none⟩ = some .nilFunc := by simp
    have e2 : (w1.alloc (.cells #[.nilFunc] 175)).frozen? ⟨w1.heap.size, 0, none⟩ = false := by simp
    rw [e1]
    dsimp only
    rw [if_neg (by rw [e2]; decide), World.setCell_alloc_new]
    exact congrArg _ hw2
  have Y0 := y0
  clear hZ hr hb1 hb2 x0 y1 hs1 hs2 y0
  go_enter Tryz.func38, Tryz.ntmps38
  go_wp2_with fail
  refine (hV _).mono ?_
  rintro e w5 ⟨rfl, rfl⟩
  go_wp2_with fail
  refine hS.out.mono ?_
  rintro e w6 ⟨v, rfl, h5⟩
  have H5 := Lib.hid h5
  clear h5
  go_wp2
  go_ret
  exact ⟨_, rfl, H5.out⟩
end Go.Mk
end
