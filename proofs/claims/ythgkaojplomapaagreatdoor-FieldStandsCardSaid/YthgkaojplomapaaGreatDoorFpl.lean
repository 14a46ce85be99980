/-
  Proved: the two closures of arranged of package field: the number behind which a place stands, and how two
  Proved: plain facts on places in the order of their ranks: the stable order, told by the numbers of the
  Proved: slices.SortedStableFunc of slices.Values of places by arranged's comparison, and arranged of package
-/
import Derived.Test.YthgkaojplomapaaGreatDoorFph
import Derived.Test.YthgkaojplomapaaGreatDoorFee
set_option maxHeartbeats 32000000
set_option linter.unusedVariables false
set_option linter.unusedSimpArgs false
open Go Go.Proofs Go.RowKit
set_option maxRecDepth 100000
section
namespace Go.Mk
def bhd (n : Nat) (p : Plc) : Int := if p.rk = 0 then (n : Int) + 1 else p.rk
theorem fdArrB_any (p : Plc) (b1 : Nat) (A : Option Addr) (n c : Nat) (hn : n ≤ 1000) (w : World) (hlt : b1 < w.heap.size) (hc : w.cell? ⟨b1, 0, none⟩ = some (.slice A n c)) :
  Calls Tryz.prog 104 #[.agg #[.string p.nm, .int .i64 p.rk, .string p.kd, .int .i64 p.vl, .string p.rs], .pointer (some ⟨b1, 0, none⟩)] w (RetPost (.int .i64 (bhd n p)) w) := by
 obtain ⟨n1, r1, k1, v1, t1⟩ := p
 obtain ⟨g, hg⟩ : ∃ g, w.heap.size = g := ⟨_, rfl⟩
 obtain ⟨w1, hw1⟩ : ∃ w1, w.alloc (.cells #[.string n1, .int .i64 r1, .string k1, .int .i64 v1, .string t1] 61) = w1 := ⟨_, rfl⟩
 have hb1 : Below w.heap.size w w1 := by rw [← hw1]; exact balloc _ (Below.refl _ _)
 have c1 : w1.cell? ⟨g, 1, none⟩ = some (.int .i64 r1) := by rw [← hw1, ← hg]; simp
 have cb : w1.cell? ⟨b1, 0, none⟩ = some (.slice A n c) := (hb1.cell (p := ⟨b1, 0, none⟩) hlt).trans hc
 have hni : (n : Int) ≤ 1000 := by omega
 unfold bhd
 dsimp only
 have HB := Lib.hid hb1
 clear hc hb1 hlt
 by_cases h0 : r1 = 0
 ·rw [if_pos h0]
  subst h0
  go_enter Tryz.func104, Tryz.ntmps104
  go_wp2
  go_ret
  exact ⟨rfl, HB.out⟩
 ·rw [if_neg h0]
  have hne : (r1 == 0) = false := by simp [h0]
  go_enter Tryz.func104, Tryz.ntmps104
  go_wp2
  go_ret
  exact ⟨rfl, HB.out⟩
def ArrH (w1 : World) (b2 b1 g : Nat) (p q : Plc) (w' : World) : Prop :=
 w'.cell? ⟨b2, 0, none⟩ = some (.func (.func 104) #[] #[.pointer (some ⟨b1, 0, none⟩)]) ∧
 w'.cell? ⟨g, 0, none⟩ = some (.string p.nm) ∧ w'.cell? ⟨g, 1, none⟩ = some (.int .i64 p.rk) ∧ w'.cell? ⟨g, 2, none⟩ = some (.string p.kd) ∧ w'.cell? ⟨g, 3, none⟩ = some (.int .i64 p.vl) ∧ w'.cell? ⟨g, 4, none⟩ = some (.string p.rs) ∧
 w'.cell? ⟨g + 1, 0, none⟩ = some (.string q.nm) ∧ w'.cell? ⟨g + 1, 1, none⟩ = some (.int .i64 q.rk) ∧ w'.cell? ⟨g + 1, 2, none⟩ = some (.string q.kd) ∧ w'.cell? ⟨g + 1, 3, none⟩ = some (.int .i64 q.vl) ∧ w'.cell? ⟨g + 1, 4, none⟩ = some (.string q.rs) ∧
 Below w1.heap.size w1 w'
theorem fdArrC_any (p q : Plc) (b2 b1 : Nat) (A : Option Addr) (n c : Nat) (hn : n ≤ 1000) (w : World) (h1 : b1 < w.heap.size) (h2 : b2 < w.heap.size) (hc1 : w.cell? ⟨b1, 0, none⟩ = some (.slice A n c))
    (hc2 : w.cell? ⟨b2, 0, none⟩ = some (.func (.func 104) #[] #[.pointer (some ⟨b1, 0, none⟩)])) :
    Calls Tryz.prog 107 #[p.val, q.val, .pointer (some ⟨b2, 0, none⟩)] w (RetPost (.int .i64 (cmpZ (bhd n p) (bhd n q))) w) := by
  unfold Plc.val
  obtain ⟨n1, r1, k1, v1, t1⟩ := p
  obtain ⟨n2, r2, k2, v2, t2⟩ := q
  dsimp only
  obtain ⟨g, hg⟩ : ∃ g, w.heap.size = g := ⟨_, rfl⟩
  obtain ⟨w1, hw1⟩ : ∃ w1, (w.alloc (.cells #[.string n1, .int .i64 r1, .string k1, .int .i64 v1, .string t1] 61)).alloc (.cells #[.string n2, .int .i64 r2, .string k2, .int .i64 v2, .string t2] 61) = w1 := ⟨_, rfl⟩
  have hb1 : Below w.heap.size w w1 := by rw [← hw1]; exact balloc _ (balloc _ (Below.refl _ _))
  have hs1 : w1.heap.size = g + 1 + 1 := by rw [← hw1, ← hg]; simp
  have x0 : w1.cell? ⟨g, 0, none⟩ = some (.string n1) := by rw [← hw1, ← hg]; simp
  have x1 : w1.cell? ⟨g, 1, none⟩ = some (.int .i64 r1) := by rw [← hw1, ← hg]; simp
  have x2 : w1.cell? ⟨g, 2, none⟩ = some (.string k1) := by rw [← hw1, ← hg]; simp
  have x3 : w1.cell? ⟨g, 3, none⟩ = some (.int .i64 v1) := by rw [← hw1, ← hg]; simp
  have x4 : w1.cell? ⟨g, 4, none⟩ = some (.string t1) := by rw [← hw1, ← hg]; simp
  have y0 : w1.cell? ⟨g + 1, 0, none⟩ = some (.string n2) := by rw [← hw1, ← hg]; simp
  have y1 : w1.cell? ⟨g + 1, 1, none⟩ = some (.int .i64 r2) := by rw [← hw1, ← hg]; simp
  have y2 : w1.cell? ⟨g + 1, 2, none⟩ = some (.string k2) := by rw [← hw1, ← hg]; simp
  have y3 : w1.cell? ⟨g + 1, 3, none⟩ = some (.int .i64 v2) := by rw [← hw1, ← hg]; simp
  have y4 : w1.cell? ⟨g + 1, 4, none⟩ = some (.string t2) := by rw [← hw1, ← hg]; simp
  have cb2 : w1.cell? ⟨b2, 0, none⟩ = some (.func (.func 104) #[] #[.pointer (some ⟨b1, 0, none⟩)]) := (hb1.cell (p := ⟨b2, 0, none⟩) h2).trans hc2
  have cb1 : w1.cell? ⟨b1, 0, none⟩ = some (.slice A n c) := (hb1.cell (p := ⟨b1, 0, none⟩) h1).trans hc1
  have HX : Hid (∀ w', Below w1.heap.size w1 w' → ArrH w1 b2 b1 g ⟨n1, r1, k1, v1, t1⟩ ⟨n2, r2, k2, v2, t2⟩ w') := Lib.hid fun w' hb =>
    ⟨(hb.cell (p := ⟨b2, 0, none⟩) (by show b2 < _; omega)).trans cb2,
     (hb.cell (p := ⟨g, 0, none⟩) (by show g < _; omega)).trans x0, (hb.cell (p := ⟨g, 1, none⟩) (by show g < _; omega)).trans x1, (hb.cell (p := ⟨g, 2, none⟩) (by show g < _; omega)).trans x2, (hb.cell (p := ⟨g, 3, none⟩) (by show g < _; omega)).trans x3, (hb.cell (p := ⟨g, 4, none⟩) (by show g < _; omega)).trans x4,
     (hb.cell (p := ⟨g + 1, 0, none⟩) (by show g + 1 < _; omega)).trans y0, (hb.cell (p := ⟨g + 1, 1, none⟩) (by show g + 1 < _; omega)).trans y1, (hb.cell (p := ⟨g + 1, 2, none⟩) (by show g + 1 < _; omega)).trans y2, (hb.cell (p := ⟨g + 1, 3, none⟩) (by show g + 1 < _; omega)).trans y3, (hb.cell (p := ⟨g + 1, 4, none⟩) (by show g + 1 < _; omega)).trans y4, hb⟩
  have HA : Hid (∀ w', Below w1.heap.size w1 w' → Calls Tryz.prog 104 #[.agg #[.string n1, .int .i64 r1, .string k1, .int .i64 v1, .string t1], .pointer (some ⟨b1, 0, none⟩)] w' (RetPost (.int .i64 (bhd n ⟨n1, r1, k1, v1, t1⟩)) w')) := Lib.hid fun w' hb =>
    fdArrB_any ⟨n1, r1, k1, v1, t1⟩ b1 A n c hn w' (by have := hb.size; omega) ((hb.cell (p := ⟨b1, 0, none⟩) (by show b1 < _; omega)).trans cb1)
  have HB : Hid (∀ w', Below w1.heap.size w1 w' → Calls Tryz.prog 104 #[.agg #[.string n2, .int .i64 r2, .string k2, .int .i64 v2, .string t2], .pointer (some ⟨b1, 0, none⟩)] w' (RetPost (.int .i64 (bhd n ⟨n2, r2, k2, v2, t2⟩)) w')) := Lib.hid fun w' hb =>
    fdArrB_any ⟨n2, r2, k2, v2, t2⟩ b1 A n c hn w' (by have := hb.size; omega) ((hb.cell (p := ⟨b1, 0, none⟩) (by show b1 < _; omega)).trans cb1)
  generalize bhd n ⟨n1, r1, k1, v1, t1⟩ = z1 at *
  generalize bhd n ⟨n2, r2, k2, v2, t2⟩ = z2 at *
  have HB1 := Lib.hid hb1
  clear x0 x1 x2 x3 x4 y0 y1 y2 y3 y4 cb1 cb2 hc1 hc2 hb1 h1 h2 hs1
  go_enter Tryz.func107, Tryz.ntmps107
  go_wp2_with fail
  try rw [hg]
  clear hw1
  unfold ArrH at HX
  refine wp_region_held_drew (S := ArrH w1 b2 b1 g ⟨n1, r1, k1, v1, t1⟩ ⟨n2, r2, k2, v2, t2⟩) (by kernel_rfl) ?_ (fun hHeld => ?_)
  · exact HX.out _ (Below.drew (Below.refl _ _))
  refine zV 0 (h := zV 1 (h := zV 3 (h := zV 4 (h := ?_))))
  try simp only [zP, zQ, zA2, zA3]
  refine zN 2 fun K hKK => ?_
  go_simp
  go_at_call 104
  refine (HA.out _ hHeld.2.2.2.2.2.2.2.2.2.2.2).mono ?_
  rintro e w5 ⟨rfl, hb5⟩
  have hX := HX.out _ (bstep hHeld.2.2.2.2.2.2.2.2.2.2.2 hb5)
  clear hHeld hb5
  go_wp2_with fail
  refine hKK.out _ _ ?_ (fun hHeld => ?_)
  · exact hX
  clear hKK K
  try simp only [zP, zQ, zA2, zA3]
  clear hX
  refine zN 5 fun K hKK => ?_
  go_simp
  go_at_call 104
  refine (HB.out _ hHeld.2.2.2.2.2.2.2.2.2.2.2).mono ?_
  rintro e w5 ⟨rfl, hb5⟩
  have hX := HX.out _ (bstep hHeld.2.2.2.2.2.2.2.2.2.2.2 hb5)
  clear hHeld hb5
  go_wp2_with fail
  refine hKK.out _ _ ?_ (fun hHeld => ?_)
  · exact hX
  clear hKK K
  try simp only [zP, zQ, zA2, zA3]
  clear hX
  refine zN 6 fun K hKK => ?_
  go_simp
  go_at_call 108
  refine (cmpInt_any _ _ _).mono ?_
  rintro e w5 ⟨rfl, hb5⟩
  have hX := HX.out _ (bstep hHeld.2.2.2.2.2.2.2.2.2.2.2 hb5)
  clear hHeld hb5
  go_wp2_with fail
  refine hKK.out _ _ ?_ (fun hHeld => ?_)
  · exact hX
  clear hKK K
  try simp only [zP, zQ, zA2, zA3]
  clear hX
  refine zV 7 (h := ?_)
  try simp only [zP, zQ, zA2, zA3]
  refine wpAnyH_done (by kernel_rfl) ?_ _
  have hX := hHeld.2.2.2.2.2.2.2.2.2.2.2
  go_wp2
  go_ret
  exact ⟨rfl, bstep HB1.out hX⟩
end Go.Mk
end
section
namespace Go.Mk
def toks (n : Nat) : List Int := (List.range n).map fun (i : Nat) => (i : Int)
def ltK (key : Int → Int) (x y : Int) : Prop := key x < key y ∨ (key x = key y ∧ x < y)
theorem ltK_ord (key : Int → Int) : Ord (ltK key) where
 trans := by intro x y z h k; unfold ltK at *; omega
 irr := by intro x h; unfold ltK at h; omega
 tri := by intro x y h; unfold ltK; omega
theorem toks_len (n : Nat) : (toks n).length = n := by simp [toks]
theorem toks_mem {n : Nat} {x : Int} : x ∈ toks n ↔ 0 ≤ x ∧ x < n := by
 unfold toks
 rw [List.mem_map]
 constructor
 ·rintro ⟨i, hi, rfl⟩
  have := List.mem_range.1 hi
  omega
 ·rintro ⟨h1, h2⟩
  exact ⟨x.toNat, List.mem_range.2 (by omega), by omega⟩
theorem toks_pw (n : Nat) : (toks n).Pairwise fun x y => x < y := by
 unfold toks
 rw [List.pairwise_map]
 exact List.pairwise_lt_range.imp (fun h => by omega)
theorem toks_nodup (n : Nat) : (toks n).Nodup := (toks_pw n).imp (fun h => by omega)
theorem toks_at {n i : Nat} (h : i < n) : ga (toks n) i = i := by
 unfold ga toks
 rw [List.getD_eq_getElem?_getD, List.getElem?_map, List.getElem?_range h]; rfl
def byKey (key : Int → Int) (n m : Nat) : List Int := (List.range m).flatMap fun (r : Nat) => (toks n).filter fun i => decide (key i = (r : Int) + 1)
theorem byKey_pw (key : Int → Int) (n m : Nat) : (byKey key n m).Pairwise (ltK key) := by
 unfold byKey
 rw [List.pairwise_flatMap]
 refine ⟨fun r _ => ?_, ?_⟩
 ·have h1 : ((toks n).filter fun i => decide (key i = (r : Int) + 1)).Pairwise (fun x y => x < y) := (toks_pw n).sublist List.filter_sublist
  refine List.Pairwise.imp_of_mem (fun {x y} hx hy h => ?_) h1
  have a := (List.mem_filter.1 hx).2
  have b := (List.mem_filter.1 hy).2
  simp at a b
  exact .inr ⟨by omega, h⟩
 ·refine List.Pairwise.imp_of_mem (fun {a b} _ _ h x hx y hy => ?_) List.pairwise_lt_range
  have q1 := (List.mem_filter.1 hx).2
  have q2 := (List.mem_filter.1 hy).2
  simp at q1 q2
  exact .inl (by omega)
theorem byKey_perm (key : Int → Int) (n m : Nat) (h : ∀ x ∈ toks n, 1 ≤ key x ∧ key x ≤ m) : (byKey key n m).Perm (toks n) := by
 refine (List.perm_ext_iff_of_nodup ?_ (toks_nodup n)).2 fun x => ?_
 ·exact (byKey_pw key n m).imp (fun {a b} h e => by subst e; exact (ltK_ord key).irr h)
 ·unfold byKey
  rw [List.mem_flatMap]
  constructor
  ·rintro ⟨r, _, hx⟩
   exact (List.mem_filter.1 hx).1
  ·intro hx
   obtain ⟨h1, h2⟩ := h x hx
   exact ⟨(key x - 1).toNat, List.mem_range.2 (by omega), List.mem_filter.2 ⟨hx, by simp; omega⟩⟩
def arrL (n : Nat) (L : List Plc) : List Plc := (List.range (n + 1)).flatMap fun (r : Nat) => L.filter fun p => decide (bhd n p = (r : Int) + 1)
def plF (L : List Plc) (i : Int) : Plc := L.getD i.toNat ⟨⟨#[]⟩, 0, ⟨#[]⟩, 0, ⟨#[]⟩⟩
theorem plF_toks (L : List Plc) : (toks L.length).map (plF L) = L := by
 apply List.ext_getElem?
 intro i
 unfold toks
 rw [List.map_map, List.getElem?_map]
 by_cases h : i < L.length
 ·rw [List.getElem?_range h]
  simp [plF, h]
 ·rw [List.getElem?_eq_none (by simp; omega), List.getElem?_eq_none (by omega)]
  rfl
theorem byKey_arr (L : List Plc) (n : Nat) (hn : L.length = n) : (byKey (fun i => bhd n (plF L i)) n (n + 1)).map (plF L) = arrL n L := by
 unfold byKey arrL
 rw [List.map_flatMap]
 congr 1
 funext r
 conv => rhs; rw [← plF_toks L, List.filter_map]
 rw [hn]
 rfl
theorem arr_of (L : List Plc) (n : Nat) (hn : L.length = n) (hr : ∀ p ∈ L, 0 ≤ p.rk ∧ p.rk ≤ n) {M : List Int} (hp : M.Perm (toks n)) (hs : Srt (ltK fun i => bhd n (plF L i)) M 0 n) : M.map (plF L) = arrL n L := by
 have hl : M.length = n := by rw [hp.length_eq, toks_len]
 have h1 : M.Pairwise (ltK fun i => bhd n (plF L i)) := pw_of_srt (by rw [hl]; exact hs)
 have h2 := byKey_perm (fun i => bhd n (plF L i)) n (n + 1) (fun x hx => by
  have h3 := toks_mem.1 hx
  have h4 : x.toNat < L.length := by omega
  have h5 : plF L x ∈ L := by unfold plF; rw [List.getD_eq_getElem?_getD, List.getElem?_eq_getElem h4]; exact List.getElem_mem h4
  have h6 := hr _ h5
  unfold bhd
  split <;> omega)
 rw [pw_unique (ltK_ord _) (hp.trans h2.symm) h1 (byKey_pw _ _ _), byKey_arr L n hn]
theorem cmpZ_neg (a b : Int) : cmpZ a b < 0 ↔ a < b := by
 unfold cmpZ
 split
 ·simp_all
 ·split <;> simp_all
end Go.Mk
end
section
namespace Go.Mk
theorem insertP_nil (b2 : Nat) (w : World) : Calls Tryz.prog 258 #[.slice none 0 0, .int .i64 0, .int .i64 0, cmpP b2] w (fun e w' => e = .returned (.tuple #[]) ∧ w' = w) := by
 unfold cmpP
 go_enter Tryz.func258, Tryz.ntmps258
 go_wp2
 go_loopw [8] (fun i wr => i = .int .i64 1 ∧ wr = w) (fun _ _ => 0)
 case atStart => exact ⟨rfl, rfl⟩
 case round =>
  obtain ⟨rfl, rfl⟩ := hrel
  go_wp2
  go_end0
  exact ⟨rfl, rfl⟩
theorem stableP_nil (b2 : Nat) (w : World) : Calls Tryz.prog 214 #[.slice none 0 0, .int .i64 0, cmpP b2] w (fun e w' => e = .returned (.tuple #[]) ∧ w' = w) := by
 have hI := insertP_nil b2
 unfold cmpP at *
 go_enter Tryz.func214, Tryz.ntmps214
 go_wp2
 go_loopw [7, 8] (fun a b wr => a = .int .i64 0 ∧ b = .int .i64 20 ∧ wr = w) (fun _ _ _ => 0)
 case atStart => exact ⟨rfl, rfl, rfl⟩
 case round =>
  obtain ⟨rfl, rfl, rfl⟩ := hrel
  go_wp2_with fail
  refine (hI _).mono ?_
  rintro e w5 ⟨rfl, rfl⟩
  go_wp2
  go_loopw [6, 7, 8] (fun s a b wz => s = .int .i64 20 ∧ (∃ x y, a = .int .i64 x ∧ b = .int .i64 y) ∧ wz = w5) (fun _ _ _ _ => 0)
  case atStart => exact ⟨rfl, ⟨_, _, rfl, rfl⟩, rfl⟩
  case round =>
   obtain ⟨rfl, ⟨x, y, rfl, rfl⟩, rfl⟩ := hrel
   go_wp2
   go_end0
   exact ⟨rfl, rfl⟩
theorem sortStableP_nil (b2 : Nat) (w : World) : Calls Tryz.prog 170 #[.slice none 0 0, cmpP b2] w (fun e w' => e = .returned (.tuple #[]) ∧ w' = w) := by
 have hI := stableP_nil b2
 unfold cmpP at *
 go_enter Tryz.func170, Tryz.ntmps170
 go_wp2_with fail
 refine (hI _).mono ?_
 rintro e w5 ⟨rfl, rfl⟩
 go_wp2
 go_end0
 exact ⟨rfl, rfl⟩
theorem RowP.of_own {w : World} {B g cap : Nat} {L : List Plc} (h : OwnPlcs w B (.slice (some ⟨g, 0, none⟩) L.length cap) L) : RowP (plF L) w B g L.length cap (toks L.length) :=
 ⟨toks_len _, by rw [plF_toks]; exact h⟩
theorem sortPl_any (L : List Plc) (n : Nat) (hn : L.length = n) (h40 : n ≤ 40) (hr : ∀ p ∈ L, 0 ≤ p.rk ∧ p.rk ≤ n) (B : Nat) (v : Value) (b2 b1 : Nat) (A : Option Addr) (c : Nat) (w : World) (hv : OwnPlcs w B v L) (hb1 : b1 < B) (hb2 : b2 < B) (hBw : B ≤ w.heap.size)
  (hc1 : w.cell? ⟨b1, 0, none⟩ = some (.slice A n c)) (hc2 : w.cell? ⟨b2, 0, none⟩ = some (.func (.func 104) #[] #[.pointer (some ⟨b1, 0, none⟩)])) :
  Calls Tryz.prog 170 #[v, cmpP b2] w (fun e w' => e = .returned (.tuple #[]) ∧ OwnPlcs w' B v (arrL n L) ∧ Below B w w') := by
 rcases hv.2 with ⟨rfl, h0⟩ | ⟨g, cap, cur, rfl, hBg, hrest⟩
 ·obtain rfl : L = [] := List.length_eq_zero_iff.1 h0
  obtain rfl : n = 0 := hn.symm
  refine (sortStableP_nil b2 w).mono ?_
  rintro e w' ⟨rfl, rfl⟩
  exact ⟨rfl, hv, Below.refl _ _⟩
 ·have hRow := RowP.of_own hv
  rw [hn] at hRow
  have hlt := hRow.lt
  have hC : CmpP (plF L) w g b2 (fun x y => cmpZ (bhd n (plF L x)) (bhd n (plF L y))) (toks n) := fun w' hg x y _ _ =>
   fdArrC_any (plF L x) (plF L y) b2 b1 A n c (by omega) w' (by have := hg.size; omega) (by have := hg.size; omega)
    ((World.cell?_of_block (a := ⟨b1, 0, none⟩) (hg.block b1 (by omega) (by simp; omega))).trans hc1)
    ((World.cell?_of_block (a := ⟨b2, 0, none⟩) (hg.block b2 (by omega) (by simp; omega))).trans hc2)
  have hK := sortStableP_any (plF L) (ltK_ord (fun i => bhd n (plF L i))) (fun x y => cmpZ (bhd n (plF L x)) (bhd n (plF L y))) (toks n) B g n cap b2 w hRow (toks_nodup n) h40 hC
   (fun p q h1 h2 => by
    rw [toks_at h2, toks_at (by omega : p < n), cmpZ_neg]
    unfold ltK
    dsimp only
    omega)
  rw [hn]
  refine hK.mono ?_
  rintro e w' ⟨M, rfl, hp, hs, hrow, hg⟩
  have hM := arr_of L n hn hr hp.perm hs
  have hl : (arrL n L).length = n := by rw [← hM, List.length_map, hp.len, toks_len]
  refine ⟨rfl, ?_, ?_⟩
  ·unfold OwnPlcs
   rw [hl, ← hM]
   exact hrow.2
  ·exact (Below.refl B w).grown hg hBw (fun r e => by cases e; exact hBg)
theorem sortedStable_any (L : List Plc) (n : Nat) (h40 : n ≤ 40) (hr : ∀ p ∈ L, 0 ≤ p.rk ∧ p.rk ≤ n) (b3 b2 b1 : Nat) (A : Option Addr) (c : Nat) (w : World) (hZ : PlcsZ w A n L) (hb1 : b1 < w.heap.size) (hb2 : b2 < w.heap.size) (hb3 : b3 < w.heap.size)
  (hc1 : w.cell? ⟨b1, 0, none⟩ = some (.slice A n c)) (hc2 : w.cell? ⟨b2, 0, none⟩ = some (.func (.func 104) #[] #[.pointer (some ⟨b1, 0, none⟩)])) (hc3 : w.cell? ⟨b3, 0, none⟩ = some (.slice A n c)) :
  Calls Tryz.prog 105 #[.func (.func 171) #[] #[.pointer (some ⟨b3, 0, none⟩)], cmpP b2] w (fun e w' => ∃ v, e = .returned v ∧ OwnPlcs w' w.heap.size v (arrL n L) ∧ Below w.heap.size w w') := by
 have hCo := collectP_any b3 n c A L (by omega) w hZ hb3 hc3
 have hS : Hid (∀ (v : Value) (w' : World), OwnPlcs w' w.heap.size v L → Below w.heap.size w w' → Calls Tryz.prog 170 #[v, cmpP b2] w' (fun e w2 => e = .returned (.tuple #[]) ∧ OwnPlcs w2 w.heap.size v (arrL n L) ∧ Below w.heap.size w' w2)) := Lib.hid fun v w' ho hb =>
  sortPl_any L n hZ.1 h40 hr w.heap.size v b2 b1 A c w' ho hb1 hb2 hb.size ((hb.cell (p := ⟨b1, 0, none⟩) hb1).trans hc1) ((hb.cell (p := ⟨b2, 0, none⟩) hb2).trans hc2)
 unfold cmpP at *
 clear hZ hc1 hc2 hc3 hb1 hb2 hb3 hr
 go_enter Tryz.func105, Tryz.ntmps105
 go_wp2_with fail
 refine hCo.mono ?_
 rintro e w2 ⟨v, rfl, ho, hb⟩
 have hSS := hS.out v w2 ho hb
 clear ho hCo
 go_wp2_with fail
 refine hSS.mono ?_
 rintro e w3 ⟨rfl, ho3, hb3⟩
 have HO := Lib.hid (And.intro ho3 (hb.trans hb3))
 clear ho3 hb3 hb hSS
 go_wp2
 go_ret
 exact ⟨_, rfl, HO.out⟩
theorem fdArranged_any (L : List Plc) (n : Nat) (h40 : n ≤ 40) (hr : ∀ p ∈ L, 0 ≤ p.rk ∧ p.rk ≤ n) (A : Option Addr) (c : Nat) (w : World) (hZ : PlcsZ w A n L) :
  Calls Tryz.prog 49 #[.slice A n c] w (fun e w' => ∃ v, e = .returned v ∧ OwnPlcs w' w.heap.size v (arrL n L) ∧ Below w.heap.size w w') := by
 obtain ⟨w1, hw1⟩ : ∃ w1, w.alloc (.cells #[.slice A n c] 29) = w1 := ⟨_, rfl⟩
 have hb1 : Below w.heap.size w w1 := by rw [← hw1]; exact balloc _ (Below.refl _ _)
 have hs1 : w1.heap.size = w.heap.size + 1 := by rw [← hw1]; simp
 have x0 : w1.cell? ⟨w.heap.size, 0, none⟩ = some (.slice A n c) := by rw [← hw1]; simp
 obtain ⟨w2, hw2⟩ : ∃ w2, w1.alloc (.cells #[.func (.func 104) #[] #[.pointer (some ⟨w.heap.size, 0, none⟩)]] 182) = w2 := ⟨_, rfl⟩
 have hb2 : Below w.heap.size w w2 := by rw [← hw2]; exact hb1.alloc hb1.size _
 have hs2 : w2.heap.size = w1.heap.size + 1 := by rw [← hw2]; simp
 have y0 : w2.cell? ⟨w.heap.size, 0, none⟩ = some (.slice A n c) := by
  rw [← hw2]
  exact ((balloc _ (Below.refl w1.heap.size w1)).cell (p := ⟨w.heap.size, 0, none⟩) (by show w.heap.size < _; omega)).trans x0
 have y1 : w2.cell? ⟨w1.heap.size, 0, none⟩ = some (.func (.func 104) #[] #[.pointer (some ⟨w.heap.size, 0, none⟩)]) := by rw [← hw2]; simp
 have hV := fun w' => slValuesP_any A n c w'
 have hS : Hid (Calls Tryz.prog 105 #[.func (.func 171) #[] #[.pointer (some ⟨w2.heap.size, 0, none⟩)], .func (.func 107) #[] #[.pointer (some ⟨w1.heap.size, 0, none⟩)]] (w2.alloc (.cells #[.slice A n c] 29)) (fun e w'' => ∃ v, e = .returned v ∧ OwnPlcs w'' w.heap.size v (arrL n L) ∧ Below w.heap.size w w'')) := Lib.hid (by
  have hb3 : Below w2.heap.size w2 (w2.alloc (.cells #[.slice A n c] 29)) := balloc _ (Below.refl _ _)
  have hb4 : Below w.heap.size w (w2.alloc (.cells #[.slice A n c] 29)) := hb2.alloc hb2.size _
  refine (sortedStable_any L n h40 hr w2.heap.size w1.heap.size w.heap.size A c _ (hZ.below hb4) (by simp; omega) (by simp; omega) (by simp) ((hb3.cell (p := ⟨w.heap.size, 0, none⟩) (by show w.heap.size < _; omega)).trans y0) ((hb3.cell (p := ⟨w1.heap.size, 0, none⟩) (by show w1.heap.size < _; omega)).trans y1) (by simp)).mono ?_
  rintro e w5 ⟨v, rfl, ho, hb5⟩
  refine ⟨v, rfl, ?_, bstep hb4 hb5⟩
  unfold OwnPlcs at *
  refine ⟨ho.1, ?_⟩
  rcases ho.2 with q | ⟨g', cap, cur, a, b, c'⟩
  ·exact .inl q
  ·exact .inr ⟨g', cap, cur, a, Nat.le_trans hb4.size b, c'⟩)
 have hst : (store ⟨w1.heap.size, 0, none⟩ (.func (.func 104) #[] #[.pointer (some ⟨w.heap.size, 0, none⟩)])).run Tryz.prog (w1.alloc (.cells #[.nilFunc] 182)) = .ok () w2 := by
  rw [run_store _ _ _ _ _ rfl]
  have e1 : (w1.alloc (.cells #[.nilFunc] 182)).cell? ⟨w1.heap.size, 0, none⟩ = some .nilFunc := by simp
  have e2 : (w1.alloc (.cells #[.nilFunc] 182)).frozen? ⟨w1.heap.size, 0, none⟩ = false := by simp
  rw [e1]
  dsimp only
  rw [if_neg (by rw [e2]; decide), World.setCell_alloc_new]
  exact congrArg _ hw2
 have Y0 := y0
 clear hZ hr hb1 hb2 x0 y1 hs1 hs2 y0
 go_enter Tryz.func49, Tryz.ntmps49
 go_wp2_with fail
 refine (hV _).mono ?_
 rintro e w5 ⟨rfl, rfl⟩
 go_wp2_with fail
 refine hS.out.mono ?_
 rintro e w6 ⟨v, rfl, h5⟩
 have H5 := Lib.hid h5
 clear h5
 go_wp2
 go_ret
 exact ⟨_, rfl, H5.out⟩
end Go.Mk
end
