/-
  Proved: placeError and formError of package field return plain functions of a card (its name, the texts of
  Proved: formError of package field returns a plain function of a card (its name, the texts of its heights and
-/
import Derived.Test.YthgkaojplomapaaGreatDoorFcb
set_option maxHeartbeats 32000000
set_option linter.unusedVariables false
set_option linter.unusedSimpArgs false
open Go Go.Proofs Go.RowKit
set_option maxRecDepth 100000
section
namespace Go.Mk
def plE (L : List (List UInt8)) (k : Nat) (t : List UInt8) : Int :=
 if 3 < rowGo 0 (L.take k) + nxL t ∨ (rowGo 0 (L.take k) + nxL t = 3 ∧ endL t ≠ []) ∨ (endL t = [] ∧ k < L.length - 1) then 19 else 0
theorem rowGo_le : ∀ (l : List (List UInt8)) (r m : Nat), (∀ t ∈ l, t.length ≤ m) → rowGo r l ≤ r + l.length * m
 | [], r, m, _ => by simp [rowGo]
 | t :: l, r, m, h => by
  have h1 := h t (by simp)
  have h2 := nxL_le t
  rw [rowGo]
  split
  ·have := rowGo_le l 0 m (fun x hx => h x (by simp [hx]))
   rw [List.length_cons, Nat.add_mul]
   omega
  ·have := rowGo_le l (r + nxL t) m (fun x hx => h x (by simp [hx]))
   rw [List.length_cons, Nat.add_mul]
   omega
theorem bls_take (L : List ByteArray) (k : Nat) : bls (L.take k) = (bls L).take k := by unfold bls; rw [List.map_take]
theorem fdPlaceError_any (L : List ByteArray) (n cap k : Nat) (x : ByteArray) (A : Option Addr) (w : World) (hZ : TextsZ w A n L) (hn : n ≤ 5000) (hcap : n ≤ cap) (hs : ∀ x ∈ L, x.size ≤ 5000) (hk : L[k]? = some x) :
    Calls Tryz.prog 151 #[.slice A n cap, .int .i64 k] w (RetPost (.int .i64 (plE (bls L) k (bl x))) w) := by
  have hkn : k < n := by have := (List.getElem?_eq_some_iff.1 hk).1; rw [hZ.1] at this; exact this
  obtain ⟨b, off, x', rfl, hbl, hx', hcx⟩ := hZ.at_ hkn
  obtain rfl : x = x' := by rw [hk] at hx'; exact Option.some.inj hx'
  have hxs := hs x (List.mem_of_getElem? hk)
  have hC := fdSplit_any x w (by unfold maxLen; omega)
  have HI : Hid (∀ c w', Below w.heap.size w w' → Calls Tryz.prog 197 #[.slice (some ⟨b, off, none⟩) k c] w' (RetPost (.int .i64 (rowGo 0 ((bls L).take k))) w')) := Lib.hid fun c w' hb => by
    have := fdInARow_any (L.take k) k c (some ⟨b, off, none⟩) w' ((hZ.below hb).take (Nat.le_of_lt hkn)) (by omega) (fun z hz => hs z (List.mem_of_mem_take hz))
    rwa [bls_take] at this
  have hrb : rowGo 0 ((bls L).take k) ≤ 25000000 := by
    have h1 := rowGo_le ((bls L).take k) 0 5000 (fun t ht => by
      obtain ⟨z, hz, rfl⟩ := List.mem_map.1 (List.mem_of_mem_take ht)
      rw [Array.length_toList]
      exact hs z hz)
    have h2 : ((bls L).take k).length ≤ 5000 := by rw [List.length_take]; omega
    have h3 : ((bls L).take k).length * 5000 ≤ 5000 * 5000 := Nat.mul_le_mul_right _ h2
    omega
  have hW := fun b w => trWhen_any b 19 w
  have c0 : (endX x).toList.isEmpty = decide (endL (bl x) = []) := by rw [empty_list, ← endX_list, ByteArray.toList_eq]
  have hfl := nx_le x
  have hfe : nxL (bl x) = nx x := rfl
  have hbn : (bls L).length = n := by unfold bls; rw [List.length_map]; exact hZ.1
  obtain ⟨y, hy⟩ : ∃ y, plE (bls L) k (bl x) = y := ⟨_, rfl⟩
  rw [hy]
  unfold plE at hy
  rw [hfe, hbn] at hy
  generalize rowGo 0 ((bls L).take k) = r at *
  generalize nx x = f at *
  generalize endX x = ex at *
  have hfi : (f : Int) ≤ 5000 := by omega
  have hri : (r : Int) ≤ 25000000 := by omega
  have hf0 : (0 : Int) ≤ (f : Int) := by omega
  have hr0 : (0 : Int) ≤ (r : Int) := by omega
  have hki : (k : Int) < (n : Int) := by omega
  have hk0 : (0 : Int) ≤ (k : Int) := by omega
  have hkt : ((k : Int)).toNat = k := by omega
  have hni : (n : Int) ≤ 5000 := by omega
  have hkc : (k : Int) ≤ (cap : Int) := by omega
  obtain ⟨b0, hb0⟩ : ∃ b0, decide (endL (bl x) = []) = b0 := ⟨_, rfl⟩
  have hy' : (if 3 < r + f ∨ (r + f = 3 ∧ b0 = false) ∨ (b0 = true ∧ k < n - 1) then (19 : Int) else 0) = y := by rw [← hy, ← hb0]; congr 1; simp
  rw [hb0] at c0
  clear hy hb0
  have hy := hy'
  clear hy'
  clear hZ hs hk hx' hxs hfe hfl hbn hrb hkn hn hcap
  have hR : (decide ((3 : Int) < (r : Int) + f) = true ∧ 3 < r + f) ∨ (decide ((3 : Int) < (r : Int) + f) = false ∧ (((r : Int) + f) == 3) = true ∧ r + f = 3) ∨ (decide ((3 : Int) < (r : Int) + f) = false ∧ (((r : Int) + f) == 3) = false ∧ r + f < 3) := by
    by_cases h1 : (3 : Int) < (r : Int) + f
    · exact .inl ⟨decide_eq_true h1, by omega⟩
    · by_cases h2 : (r : Int) + f = 3
      · exact .inr (.inl ⟨decide_eq_false h1, beq_iff_eq.2 h2, by omega⟩)
      · exact .inr (.inr ⟨decide_eq_false h1, beq_eq_false_iff_ne.2 h2, by omega⟩)
  have hK : (decide ((k : Int) < (n : Int) - 1) = true ∧ k < n - 1) ∨ (decide ((k : Int) < (n : Int) - 1) = false ∧ ¬ k < n - 1) := by
    by_cases h1 : (k : Int) < (n : Int) - 1
    · exact .inl ⟨decide_eq_true h1, by omega⟩
    · exact .inr ⟨decide_eq_false h1, by omega⟩
  cases b0 <;> rcases hR with ⟨r1, r3⟩ | ⟨r1, r2, r3⟩ | ⟨r1, r2, r3⟩ <;> rcases hK with ⟨k1, k2⟩ | ⟨k1, k2⟩
  all_goals
    first
      | (rw [if_pos (by simp; omega)] at hy
         subst hy
         clear r3 k2
         go_enter Tryz.func151, Tryz.ntmps151
         go_wp2_with fail
         refine hC.mono ?_
         rintro e w1 ⟨rfl, hb1⟩
         have HB1 := Lib.hid hb1
         go_wp2_with fail
         refine (HI.out _ _ HB1.out).mono ?_
         rintro e w2 ⟨rfl, hb2⟩
         have HB2 := Lib.hid (bstep HB1.out hb2)
         clear hb2
         go_wp2_with fail
         refine (hW true _).mono ?_
         rintro e w3 ⟨rfl, rfl⟩
         go_wp2
         go_ret
         exact ⟨rfl, HB2.out⟩)
      | (rw [if_neg (by simp; omega)] at hy
         subst hy
         clear r3 k2
         go_enter Tryz.func151, Tryz.ntmps151
         go_wp2_with fail
         refine hC.mono ?_
         rintro e w1 ⟨rfl, hb1⟩
         have HB1 := Lib.hid hb1
         go_wp2_with fail
         refine (HI.out _ _ HB1.out).mono ?_
         rintro e w2 ⟨rfl, hb2⟩
         have HB2 := Lib.hid (bstep HB1.out hb2)
         clear hb2
         go_wp2_with fail
         refine (hW false _).mono ?_
         rintro e w3 ⟨rfl, rfl⟩
         go_wp2
         go_ret
         exact ⟨rfl, HB2.out⟩)
def fstT (f : List UInt8 → Int) : List (List UInt8) → Int
 | [] => 0
 | t :: l => if f t = 0 then fstT f l else f t
def fstP (L : List (List UInt8)) : Nat → List (List UInt8) → Int
 | _, [] => 0
 | k, t :: l => if plE L k t = 0 then fstP L (k + 1) l else plE L k t
theorem fdFormC_any (L : List ByteArray) (n cap k g : Nat) (x : ByteArray) (A : Option Addr) (w : World) (hc : w.cell? ⟨g, 1, none⟩ = some (.slice A n cap)) (hZ : TextsZ w A n L) (hn : n ≤ 5000) (hcap : n ≤ cap) (hs : ∀ x ∈ L, x.size ≤ 5000) (hk : L[k]? = some x) :
  Calls Tryz.prog 150 #[.int .i64 k, .string x, .pointer (some ⟨g, 0, none⟩)] w (RetPost (.int .i64 (plE (bls L) k (bl x))) w) := by
 have hC := fdPlaceError_any L n cap k x A w hZ hn hcap hs hk
 generalize plE (bls L) k (bl x) = y at *
 clear hZ hs hk
 go_enter Tryz.func150, Tryz.ntmps150
 go_wp2_with fail
 refine hC.mono ?_
 rintro e w1 ⟨rfl, hb1⟩
 go_wp2
 go_ret
 exact ⟨rfl, hb1⟩
theorem fdFirstH_any (L : List ByteArray) (n cap : Nat) (A : Option Addr) (w : World) (hZ : TextsZ w A n L) (hn : n ≤ 5000) (hs : ∀ x ∈ L, x.size ≤ 5000) :
  Calls Tryz.prog 147 #[.slice A n cap, .func (.func 148) #[] #[]] w (RetPost (.int .i64 (fstT htE (bls L))) w) := by
 have hni : (n : Int) ≤ 5000 := by omega
 have H := Lib.hid hZ
 have Hn := Lib.hid hZ.1
 have HS := Lib.hid hs
 obtain ⟨y, hy⟩ : ∃ y, fstT htE (bls L) = y := ⟨_, rfl⟩
 rw [hy]
 have HY : Hid (fstT htE ((bls L).drop 0) = y) := by rw [← hy]; rfl
 clear hZ hy hs
 go_enter Tryz.func147, Tryz.ntmps147
 go_wp2
 go_loopw [10] (fun i wr => ∃ k : Nat, k ≤ n ∧ i = .int .i64 k ∧ Hid (fstT htE ((bls L).drop k) = y) ∧ Below w.heap.size w wr) (fun i _ => n - (intOf i).toNat)
 case atStart => exact ⟨0, by omega, rfl, HY, Below.refl _ _⟩
 case round =>
  obtain ⟨k, hk, rfl, HK, hb⟩ := hrel
  by_cases hlt : k < n
  ·have hZr := H.out.below hb
   obtain ⟨b, off, x, rfl, hbl, hx, hcx⟩ := (H.out.below hb).at_ hlt
   have hxs := HS.out x (List.mem_of_getElem? hx)
   have hst := HK.out
   rw [bls_at hx, fstT] at hst
   have hki : (k : Int) < (n : Int) := by omega
   have hC := fdHeightText_any k x wr (by unfold maxLen; omega)
   obtain ⟨z, hz⟩ : ∃ z, htE (bl x) = z := ⟨_, rfl⟩
   rw [hz] at hst hC
   clear hz hx hZr hxs
   by_cases h0 : z = 0
   ·subst h0
    rw [if_pos rfl] at hst
    have Hst : Hid (fstT htE ((bls L).drop (k + 1)) = y) := hst
    clear hst HK
    go_wp2_with fail
    refine hC.mono ?_
    rintro e w' ⟨rfl, hb2⟩
    have hb3 := bstep hb hb2
    clear hb2 hcx
    go_wp2
    exact ⟨⟨k + 1, by omega, by go_num, Hst, hb3⟩, by simp [intOf]; omega⟩
   ·rw [if_neg h0] at hst
    subst hst
    have hb' : (z != 0) = true := by rw [bne_iff_ne]; exact h0
    clear HK HY
    go_wp2_with fail
    refine hC.mono ?_
    rintro e w' ⟨rfl, hb2⟩
    have hb3 := bstep hb hb2
    clear hb2 hcx
    go_wp2
    go_ret
    exact ⟨rfl, hb3⟩
  ·have h0 := HK.out
   rw [bls_end Hn.out (by omega), fstT] at h0
   subst h0
   go_wp2
   go_ret
   exact ⟨rfl, hb⟩
theorem fdFirstO_any (L : List ByteArray) (n cap : Nat) (A : Option Addr) (w : World) (hZ : TextsZ w A n L) (hn : n ≤ 5000) (hs : ∀ x ∈ L, x.size ≤ 5000) :
  Calls Tryz.prog 147 #[.slice A n cap, .func (.func 149) #[] #[]] w (RetPost (.int .i64 (fstT ofE (bls L))) w) := by
 have hni : (n : Int) ≤ 5000 := by omega
 have H := Lib.hid hZ
 have Hn := Lib.hid hZ.1
 have HS := Lib.hid hs
 obtain ⟨y, hy⟩ : ∃ y, fstT ofE (bls L) = y := ⟨_, rfl⟩
 rw [hy]
 have HY : Hid (fstT ofE ((bls L).drop 0) = y) := by rw [← hy]; rfl
 clear hZ hy hs
 go_enter Tryz.func147, Tryz.ntmps147
 go_wp2
 go_loopw [10] (fun i wr => ∃ k : Nat, k ≤ n ∧ i = .int .i64 k ∧ Hid (fstT ofE ((bls L).drop k) = y) ∧ Below w.heap.size w wr) (fun i _ => n - (intOf i).toNat)
 case atStart => exact ⟨0, by omega, rfl, HY, Below.refl _ _⟩
 case round =>
  obtain ⟨k, hk, rfl, HK, hb⟩ := hrel
  by_cases hlt : k < n
  ·have hZr := H.out.below hb
   obtain ⟨b, off, x, rfl, hbl, hx, hcx⟩ := (H.out.below hb).at_ hlt
   have hxs := HS.out x (List.mem_of_getElem? hx)
   have hst := HK.out
   rw [bls_at hx, fstT] at hst
   have hki : (k : Int) < (n : Int) := by omega
   have hC := fdOffText_any k x wr
   obtain ⟨z, hz⟩ : ∃ z, ofE (bl x) = z := ⟨_, rfl⟩
   rw [hz] at hst hC
   clear hz hx hZr hxs
   by_cases h0 : z = 0
   ·subst h0
    rw [if_pos rfl] at hst
    have Hst : Hid (fstT ofE ((bls L).drop (k + 1)) = y) := hst
    clear hst HK
    go_wp2_with fail
    refine hC.mono ?_
    rintro e w' ⟨rfl, hb2⟩
    have hb3 := bstep hb hb2
    clear hb2 hcx
    go_wp2
    exact ⟨⟨k + 1, by omega, by go_num, Hst, hb3⟩, by simp [intOf]; omega⟩
   ·rw [if_neg h0] at hst
    subst hst
    have hb' : (z != 0) = true := by rw [bne_iff_ne]; exact h0
    clear HK HY
    go_wp2_with fail
    refine hC.mono ?_
    rintro e w' ⟨rfl, hb2⟩
    have hb3 := bstep hb hb2
    clear hb2 hcx
    go_wp2
    go_ret
    exact ⟨rfl, hb3⟩
  ·have h0 := HK.out
   rw [bls_end Hn.out (by omega), fstT] at h0
   subst h0
   go_wp2
   go_ret
   exact ⟨rfl, hb⟩
theorem fdFirstP_any (L : List ByteArray) (n cap cap2 g : Nat) (A : Option Addr) (w : World) (hc : w.cell? ⟨g, 1, none⟩ = some (.slice A n cap2)) (hg : g < w.heap.size) (hcap : n ≤ cap2) (hZ : TextsZ w A n L) (hn : n ≤ 5000) (hs : ∀ x ∈ L, x.size ≤ 5000) :
  Calls Tryz.prog 147 #[.slice A n cap, .func (.func 150) #[] #[.pointer (some ⟨g, 0, none⟩)]] w (RetPost (.int .i64 (fstP (bls L) 0 (bls L))) w) := by
 have hni : (n : Int) ≤ 5000 := by omega
 have H := Lib.hid hZ
 have Hn := Lib.hid hZ.1
 have HS := Lib.hid hs
 have HG : Hid (∀ w', Below w.heap.size w w' → w'.cell? ⟨g, 1, none⟩ = some (.slice A n cap2)) := Lib.hid fun w' hb => (hb.cell (p := ⟨g, _, none⟩) hg).trans hc
 clear hc
 obtain ⟨y, hy⟩ : ∃ y, fstP (bls L) 0 (bls L) = y := ⟨_, rfl⟩
 rw [hy]
 have HY : Hid (fstP (bls L) 0 ((bls L).drop 0) = y) := by rw [← hy]; rfl
 clear hZ hy hs
 go_enter Tryz.func147, Tryz.ntmps147
 go_wp2
 go_loopw [10] (fun i wr => ∃ k : Nat, k ≤ n ∧ i = .int .i64 k ∧ Hid (fstP (bls L) k ((bls L).drop k) = y) ∧ Below w.heap.size w wr) (fun i _ => n - (intOf i).toNat)
 case atStart => exact ⟨0, by omega, rfl, HY, Below.refl _ _⟩
 case round =>
  obtain ⟨k, hk, rfl, HK, hb⟩ := hrel
  by_cases hlt : k < n
  ·have hZr := H.out.below hb
   obtain ⟨b, off, x, rfl, hbl, hx, hcx⟩ := (H.out.below hb).at_ hlt
   have hxs := HS.out x (List.mem_of_getElem? hx)
   have hst := HK.out
   rw [bls_at hx, fstP] at hst
   have hki : (k : Int) < (n : Int) := by omega
   have hC := fdFormC_any L n cap2 k g x _ wr (HG.out _ hb) hZr hn hcap HS.out hx
   obtain ⟨z, hz⟩ : ∃ z, plE (bls L) k (bl x) = z := ⟨_, rfl⟩
   rw [hz] at hst hC
   clear hz hx hZr hxs
   by_cases h0 : z = 0
   ·subst h0
    rw [if_pos rfl] at hst
    have Hst : Hid (fstP (bls L) (k + 1) ((bls L).drop (k + 1)) = y) := hst
    clear hst HK
    go_wp2_with fail
    refine hC.mono ?_
    rintro e w' ⟨rfl, hb2⟩
    have hb3 := bstep hb hb2
    clear hb2 hcx
    go_wp2
    exact ⟨⟨k + 1, by omega, by go_num, Hst, hb3⟩, by simp [intOf]; omega⟩
   ·rw [if_neg h0] at hst
    subst hst
    have hb' : (z != 0) = true := by rw [bne_iff_ne]; exact h0
    clear HK HY
    go_wp2_with fail
    refine hC.mono ?_
    rintro e w' ⟨rfl, hb2⟩
    have hb3 := bstep hb hb2
    clear hb2 hcx
    go_wp2
    go_ret
    exact ⟨rfl, hb3⟩
  ·have h0 := HK.out
   rw [bls_end Hn.out (by omega), fstP] at h0
   subst h0
   go_wp2
   go_ret
   exact ⟨rfl, hb⟩
end Go.Mk
end
section
namespace Go.Mk
theorem es3F (w : World) (a b c : Int) (t : TypeId) : Es (w.alloc (.cells #[.int .i64 a, .int .i64 b, .int .i64 c] t)) w.heap.size [a, b, c] := by
 intro i v hv
 match i, hv with
 | 0, hv => simp at hv; subst hv; simp
 | 1, hv => simp at hv; subst hv; simp
 | 2, hv => simp at hv; subst hv; simp
def frmE (s : ByteArray) (H O : List (List UInt8)) : Int :=
 if fstN [nmE s, if 24 < H.length ∨ 24 < O.length then 5 else 0] ≠ 0 then fstN [nmE s, if 24 < H.length ∨ 24 < O.length then 5 else 0] else fstN [fstT htE H, fstT ofE O, fstP H 0 H]
theorem fdFormError_any (s : ByteArray) (H O : List ByteArray) (nh ch no co : Nat) (AH AO : Option Addr) (rt : Bool) (w : World) (hz : s.size ≤ maxLen) (hZ : TextsZ w AH nh H) (hn : nh ≤ 5000) (hcap : nh ≤ ch) (hs : ∀ x ∈ H, x.size ≤ 5000) (hZ2 : TextsZ w AO no O) (hn2 : no ≤ 5000) (hs2 : ∀ x ∈ O, x.size ≤ 5000) :
  Calls Tryz.prog 85 #[.agg #[.string s, .slice AH nh ch, .slice AO no co, .bool rt]] w (RetPost (.int .i64 (frmE s (bls H) (bls O))) w) := by
 obtain ⟨g, hg⟩ : ∃ g, w.heap.size = g := ⟨_, rfl⟩
 obtain ⟨w1, hw1⟩ : ∃ w1, w.alloc (.cells #[.string s, .slice AH nh ch, .slice AO no co, .bool rt] 94) = w1 := ⟨_, rfl⟩
 have hb1 : Below w.heap.size w w1 := by rw [← hw1]; exact balloc _ (Below.refl _ _)
 have hs1 : w1.heap.size = w.heap.size + 1 := by rw [← hw1]; simp
 have c0 : w1.cell? ⟨g, 0, none⟩ = some (.string s) := by rw [← hw1, ← hg]; simp
 have c1 : w1.cell? ⟨g, 1, none⟩ = some (.slice AH nh ch) := by rw [← hw1, ← hg]; simp
 have c2 : w1.cell? ⟨g, 2, none⟩ = some (.slice AO no co) := by rw [← hw1, ← hg]; simp
 have HX : Hid (∀ w', Below w1.heap.size w1 w' → w'.cell? ⟨g, 1, none⟩ = some (.slice AH nh ch) ∧ w'.cell? ⟨g, 2, none⟩ = some (.slice AO no co) ∧ Below w1.heap.size w1 w') := Lib.hid fun w' hb => ⟨(hb.cell (p := ⟨g, 1, none⟩) (by show g < _; omega)).trans c1, (hb.cell (p := ⟨g, 2, none⟩) (by show g < _; omega)).trans c2, hb⟩
 have HA : Hid (∀ w', Below w1.heap.size w1 w' → Calls Tryz.prog 147 #[.slice AH nh ch, .func (.func 148) #[] #[]] w' (RetPost (.int .i64 (fstT htE (bls H))) w')) := Lib.hid fun w' hb => fdFirstH_any H nh ch AH w' ((hZ.below hb1).below hb) hn hs
 have HB : Hid (∀ w', Below w1.heap.size w1 w' → Calls Tryz.prog 147 #[.slice AO no co, .func (.func 149) #[] #[]] w' (RetPost (.int .i64 (fstT ofE (bls O))) w')) := Lib.hid fun w' hb => fdFirstO_any O no co AO w' ((hZ2.below hb1).below hb) hn2 hs2
 have HC : Hid (∀ w', Below w1.heap.size w1 w' → Calls Tryz.prog 147 #[.slice AH nh ch, .func (.func 150) #[] #[.pointer (some ⟨g, 0, none⟩)]] w' (RetPost (.int .i64 (fstP (bls H) 0 (bls H))) w')) := Lib.hid fun w' hb => fdFirstP_any H nh ch ch g AH w' (HX.out _ hb).1 (by have := hb.size; omega) hcap ((hZ.below hb1).below hb) hn hs
 have hNm := fdName_any s w1 hz
 have hW := fun b w => trWhen_any b 5 w
 have hF20 := fun x y g w => trFirst_any [x, y] 2 rfl (by decide) g w
 have hF0 := fun x y z g w => trFirst_any [x, y, z] 3 rfl (by decide) g w
 obtain ⟨y, hy⟩ : ∃ y, frmE s (bls H) (bls O) = y := ⟨_, rfl⟩
 rw [hy]
 unfold frmE at hy
 have l1 : (bls H).length = nh := by unfold bls; rw [List.length_map]; exact hZ.1
 have l2 : (bls O).length = no := by unfold bls; rw [List.length_map]; exact hZ2.1
 rw [l1, l2] at hy
 have hni : (nh : Int) ≤ 5000 := by omega
 have hno : (no : Int) ≤ 5000 := by omega
 generalize nmE s = e1 at *
 generalize fstT htE (bls H) = a1 at *
 generalize fstT ofE (bls O) = a2 at *
 generalize fstP (bls H) 0 (bls H) = a3 at *
 have hcs : ∃ tb : Bool, (if 24 < nh ∨ 24 < no then (5 : Int) else 0) = (if tb = true then 5 else 0) ∧ ((tb = true ∧ (24 : Int) < nh) ∨ (tb = true ∧ ¬ (24 : Int) < nh ∧ (24 : Int) < no) ∨ (tb = false ∧ ¬ (24 : Int) < nh ∧ ¬ (24 : Int) < no)) := by
  by_cases q1 : 24 < nh
  ·exact ⟨true, by simp [q1], .inl ⟨rfl, by omega⟩⟩
  ·by_cases q2 : 24 < no
   ·exact ⟨true, by simp [q2], .inr (.inl ⟨rfl, by omega, by omega⟩)⟩
   ·exact ⟨false, by simp [q1, q2], .inr (.inr ⟨rfl, by omega, by omega⟩)⟩
 obtain ⟨tb, e2, hcs⟩ := hcs
 rw [e2] at hy
 clear e2 l1 l2 hZ hZ2 hs hs2 hz
 have hW2 := fun w => hW tb w
 obtain ⟨e2, he2⟩ : ∃ e2 : Int, (if tb = true then (5 : Int) else 0) = e2 := ⟨_, rfl⟩
 rw [he2] at hy hW2
 have hF2 := hF20 e1 e2
 obtain ⟨ee, hee⟩ : ∃ ee, fstN [e1, e2] = ee := ⟨_, rfl⟩
 rw [hee] at hy hF2
 have HB1 := Lib.hid hb1
 have hF := hF0 a1 a2 a3
 clear hF0 hF20 hW he2 hee hb1 hs1
 by_cases h0 : ee = 0
 ·subst h0
  rw [if_neg (by simp)] at hy
  rw [hy] at hF
  clear hy
  rcases hcs with ⟨rfl, q1⟩ | ⟨rfl, q1, q2⟩ | ⟨rfl, q1, q2⟩
  all_goals
   go_enter Tryz.func85, Tryz.ntmps85
   go_wp2_with fail
   refine hNm.mono ?_
   rintro e w2 ⟨rfl, hb2⟩
   have HB2 := Lib.hid hb2
   go_wp2_with fail
   refine (hW2 _).mono ?_
   rintro e w3 ⟨rfl, rfl⟩
   have hb4 := balloc (.cells #[.int .i64 e1, .int .i64 e2] 30) HB2.out
   have hes := es2 w2 e1 e2 30
   go_wp2_with fail
   refine (hF2 _ _ hes).mono ?_
   rintro e w5 ⟨rfl, rfl⟩
   have hbz := hb4
   clear hb4 hb2 hes
   go_wp2_with fail
   clear hw1 c0 c1 c2
   refine wp_region_held_drew (S := (fun w' => w'.cell? ⟨g, 1, none⟩ = some (.slice AH nh ch) ∧ w'.cell? ⟨g, 2, none⟩ = some (.slice AO no co) ∧ Below w1.heap.size w1 w')) (by kernel_rfl) ?_ (fun hHeld => ?_)
   ·exact HX.out _ (hbz.drew)
   clear hbz
   refine zV 0 (h := zV 1 (h := zV 3 (h := zV 4 (h := zV 6 (h := zV 7 (h := zV 8 (h := ?_)))))))
   try simp only [zP, zQ, zA2, zA3]
   refine zN 2 fun K hKK => ?_
   go_simp
   go_at_call 147
   with_reducible refine (HA.out _ hHeld.2.2).mono ?_
   rintro e' w' ⟨rfl, hbz⟩
   go_wp2_with fail
   refine hKK.out _ _ ?_ (fun hHeld => ?_)
   ·exact HX.out _ (bstep hHeld.2.2 hbz)
   clear hKK K
   try simp only [zP, zQ, zA2, zA3]
   clear hbz
   refine zN 5 fun K hKK => ?_
   go_simp
   go_at_call 147
   with_reducible refine (HB.out _ hHeld.2.2).mono ?_
   rintro e' w' ⟨rfl, hbz⟩
   go_wp2_with fail
   refine hKK.out _ _ ?_ (fun hHeld => ?_)
   ·exact HX.out _ (bstep hHeld.2.2 hbz)
   clear hKK K
   try simp only [zP, zQ, zA2, zA3]
   clear hbz
   refine zN 9 fun K hKK => ?_
   go_simp
   go_at_call 147
   with_reducible refine (HC.out _ hHeld.2.2).mono ?_
   rintro e' w' ⟨rfl, hbz⟩
   go_wp2_with fail
   refine hKK.out _ _ ?_ (fun hHeld => ?_)
   ·exact HX.out _ (bstep hHeld.2.2 hbz)
   clear hKK K
   try simp only [zP, zQ, zA2, zA3]
   clear hbz
   refine zN 10 fun K hKK => ?_
   go_simp
   refine hKK.out _ _ ?_ (fun hHeld => ?_)
   ·exact HX.out _ (balloc _ hHeld.2.2)
   clear hKK K
   try simp only [zP, zQ, zA2, zA3]
   refine zN 11 fun K hKK => ?_
   go_simp
   go_at_call 56
   refine (hF _ _ ?_).mono ?_
   ·exact es3F _ _ _ _ _
   rintro e' w' ⟨rfl, rfl⟩
   go_wp2_with fail
   refine hKK.out _ _ ?_ (fun hHeld => ?_)
   ·exact hHeld
   clear hKK K
   try simp only [zP, zQ, zA2, zA3]
   refine zV 12 (h := ?_)
   try simp only [zP, zQ, zA2, zA3]
   refine wpAnyH_done (by kernel_rfl) ?_ _
   have hb3 := bstep HB1.out hHeld.2.2
   clear hHeld
   go_wp2
   go_ret
   exact ⟨rfl, hb3⟩
 ·rw [if_pos h0] at hy
  subst hy
  have hbn : (ee != 0) = true := by rw [bne_iff_ne]; exact h0
  clear hF HA HB HC HX
  rcases hcs with ⟨rfl, q1⟩ | ⟨rfl, q1, q2⟩ | ⟨rfl, q1, q2⟩
  all_goals
   go_enter Tryz.func85, Tryz.ntmps85
   go_wp2_with fail
   refine hNm.mono ?_
   rintro e w2 ⟨rfl, hb2⟩
   have HB2 := Lib.hid hb2
   go_wp2_with fail
   refine (hW2 _).mono ?_
   rintro e w3 ⟨rfl, rfl⟩
   have hb4 := balloc (.cells #[.int .i64 e1, .int .i64 e2] 30) HB2.out
   have hes := es2 w2 e1 e2 30
   go_wp2_with fail
   refine (hF2 _ _ hes).mono ?_
   rintro e w5 ⟨rfl, rfl⟩
   have hb5 := bstep HB1.out hb4
   clear hb4 hb2 hes
   go_wp2
   go_ret
   exact ⟨rfl, hb5⟩
end Go.Mk
end
