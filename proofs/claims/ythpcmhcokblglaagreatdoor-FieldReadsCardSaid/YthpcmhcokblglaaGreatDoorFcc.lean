/-
  Proved: placeError and formError of package field return plain functions of a card (its name, the texts of its heights and of its jump-off). Conditions: the texts lie where the slices say; there are at most 5,000 of at most 5,000 bytes; the name is no longer than an int says.
-/
import Derived.Test.YthpcmhcokblglaaGreatDoorFcb
set_option linter.unusedVariables false
set_option linter.unusedSimpArgs false
open Go Go.Proofs Go.RowKit
set_option maxRecDepth 100000
namespace Go.Mk
/-- The error of a text among the others. -/
def plE (L : List (List UInt8)) (k : Nat) (t : List UInt8) : Int :=
  if 3 < rowGo 0 (L.take k) + nxL t ∨ (rowGo 0 (L.take k) + nxL t = 3 ∧ endL t ≠ []) ∨ (endL t = [] ∧ k < L.length - 1) then 19 else 0
theorem rowGo_le : ∀ (l : List (List UInt8)) (r m : Nat), (∀ t ∈ l, t.length ≤ m) → rowGo r l ≤ r + l.length * m
  | [], r, m, _ => by simp [rowGo]
  | t :: l, r, m, h => by
    have h1 := h t (by simp)
    have h2 := nxL_le t
    rw [rowGo]
    split
    · have := rowGo_le l 0 m (fun x hx => h x (by simp [hx]))
      rw [List.length_cons, Nat.add_mul]
      omega
    · have := rowGo_le l (r + nxL t) m (fun x hx => h x (by simp [hx]))
      rw [List.length_cons, Nat.add_mul]
      omega
theorem bls_take (L : List ByteArray) (k : Nat) : bls (L.take k) = (bls L).take k := by unfold bls; rw [List.map_take]
set_option maxHeartbeats 4000000 in
theorem fdPlaceError_any (L : List ByteArray) (n cap k : Nat) (x : ByteArray) (A : Option Addr) (w : World) (hZ : TextsZ w A n L) (hn : n ≤ 5000) (hcap : n ≤ cap) (hs : ∀ x ∈ L, x.size ≤ 5000) (hk : L[k]? = some x) :
    Calls Tryz.prog 115 #[.slice A n cap, .int .i64 k] w (RetPost (.int .i64 (plE (bls L) k (bl x))) w) := by
  have hkn : k < n := by have := (List.getElem?_eq_some_iff.1 hk).1; rw [hZ.1] at this; exact this
  obtain ⟨b, off, x', rfl, hbl, hx', hcx⟩ := hZ.at_ hkn
  obtain rfl : x = x' := by rw [hk] at hx'; exact Option.some.inj hx'
  have hxs := hs x (List.mem_of_getElem? hk)
  have hC := fdSplit_any x w (by unfold maxLen; omega)
  have HI : Hid (∀ c w', Below w.heap.size w w' → Calls Tryz.prog 181 #[.slice (some ⟨b, off, none⟩) k c] w' (RetPost (.int .i64 (rowGo 0 ((bls L).take k))) w')) := Lib.hid fun c w' hb => by
    have := fdInARow_any (L.take k) k c (some ⟨b, off, none⟩) w' ((hZ.below hb).take (Nat.le_of_lt hkn)) (by omega) (fun z hz => hs z (List.mem_of_mem_take hz))
    rwa [bls_take] at this
  have hrb : rowGo 0 ((bls L).take k) ≤ 25000000 := by
    have h1 := rowGo_le ((bls L).take k) 0 5000 (fun t ht => by
      obtain ⟨z, hz, rfl⟩ := List.mem_map.1 (List.mem_of_mem_take ht)
      rw [Array.length_toList]
      exact hs z hz)
    have h2 : ((bls L).take k).length ≤ 5000 := by rw [List.length_take]; omega
    have h3 : ((bls L).take k).length * 5000 ≤ 5000 * 5000 := Nat.mul_le_mul_right _ h2
    omega
  have hW := fun b w => trWhen_any b 19 w
  have c0 : (endX x).toList.isEmpty = decide (endL (bl x) = []) := by rw [empty_list, ← endX_list, ByteArray.toList_eq]
  have hfl := nx_le x
  have hfe : nxL (bl x) = nx x := rfl
  have hbn : (bls L).length = n := by unfold bls; rw [List.length_map]; exact hZ.1
  obtain ⟨y, hy⟩ : ∃ y, plE (bls L) k (bl x) = y := ⟨_, rfl⟩
  rw [hy]
  unfold plE at hy
  rw [hfe, hbn] at hy
  generalize rowGo 0 ((bls L).take k) = r at *
  generalize nx x = f at *
  generalize endX x = ex at *
  have hfi : (f : Int) ≤ 5000 := by omega
  have hri : (r : Int) ≤ 25000000 := by omega
  have hf0 : (0 : Int) ≤ (f : Int) := by omega
  have hr0 : (0 : Int) ≤ (r : Int) := by omega
  have hki : (k : Int) < (n : Int) := by omega
  have hk0 : (0 : Int) ≤ (k : Int) := by omega
  have hkt : ((k : Int)).toNat = k := by omega
  have hni : (n : Int) ≤ 5000 := by omega
  have hkc : (k : Int) ≤ (cap : Int) := by omega
  obtain ⟨b0, hb0⟩ : ∃ b0, decide (endL (bl x) = []) = b0 := ⟨_, rfl⟩
  have hy' : (if 3 < r + f ∨ (r + f = 3 ∧ b0 = false) ∨ (b0 = true ∧ k < n - 1) then (19 : Int) else 0) = y := by rw [← hy, ← hb0]; congr 1; simp
  rw [hb0] at c0
  clear hy hb0
  have hy := hy'
  clear hy'
  clear hZ hs hk hx' hxs hfe hfl hbn hrb hkn hn hcap
  have hR : (decide ((3 : Int) < (r : Int) + f) = true ∧ 3 < r + f) ∨ (decide ((3 : Int) < (r : Int) + f) = false ∧ (((r : Int) + f) == 3) = true ∧ r + f = 3) ∨ (decide ((3 : Int) < (r : Int) + f) = false ∧ (((r : Int) + f) == 3) = false ∧ r + f < 3) := by
    by_cases h1 : (3 : Int) < (r : Int) + f
    · exact .inl ⟨decide_eq_true h1, by omega⟩
    · by_cases h2 : (r : Int) + f = 3
      · exact .inr (.inl ⟨decide_eq_false h1, beq_iff_eq.2 h2, by omega⟩)
      · exact .inr (.inr ⟨decide_eq_false h1, beq_eq_false_iff_ne.2 h2, by omega⟩)
  have hK : (decide ((k : Int) < (n : Int) - 1) = true ∧ k < n - 1) ∨ (decide ((k : Int) < (n : Int) - 1) = false ∧ ¬ k < n - 1) := by
    by_cases h1 : (k : Int) < (n : Int) - 1
    · exact .inl ⟨decide_eq_true h1, by omega⟩
    · exact .inr ⟨decide_eq_false h1, by omega⟩
  cases b0 <;> rcases hR with ⟨r1, r3⟩ | ⟨r1, r2, r3⟩ | ⟨r1, r2, r3⟩ <;> rcases hK with ⟨k1, k2⟩ | ⟨k1, k2⟩
  all_goals
    first
      | (rw [if_pos (by simp; omega)] at hy
         subst hy
         clear r3 k2
         go_enter Tryz.func115, Tryz.ntmps115
         go_wp2_with fail
         refine hC.mono ?_
         rintro e w1 ⟨rfl, hb1⟩
         have HB1 := Lib.hid hb1
         go_wp2_with fail
         refine (HI.out _ _ HB1.out).mono ?_
         rintro e w2 ⟨rfl, hb2⟩
         have HB2 := Lib.hid (bstep HB1.out hb2)
         clear hb2
         go_wp2_with fail
         refine (hW true _).mono ?_
         rintro e w3 ⟨rfl, rfl⟩
         go_wp2
         go_ret
         exact ⟨rfl, HB2.out⟩)
      | (rw [if_neg (by simp; omega)] at hy
         subst hy
         clear r3 k2
         go_enter Tryz.func115, Tryz.ntmps115
         go_wp2_with fail
         refine hC.mono ?_
         rintro e w1 ⟨rfl, hb1⟩
         have HB1 := Lib.hid hb1
         go_wp2_with fail
         refine (HI.out _ _ HB1.out).mono ?_
         rintro e w2 ⟨rfl, hb2⟩
         have HB2 := Lib.hid (bstep HB1.out hb2)
         clear hb2
         go_wp2_with fail
         refine (hW false _).mono ?_
         rintro e w3 ⟨rfl, rfl⟩
         go_wp2
         go_ret
         exact ⟨rfl, HB2.out⟩)
/-- The first error of texts, each told by itself. -/
def fstT (f : List UInt8 → Int) : List (List UInt8) → Int
  | [] => 0
  | t :: l => if f t = 0 then fstT f l else f t
/-- The first error of texts among each other, from a place on. -/
def fstP (L : List (List UInt8)) : Nat → List (List UInt8) → Int
  | _, [] => 0
  | k, t :: l => if plE L k t = 0 then fstP L (k + 1) l else plE L k t
set_option maxHeartbeats 2000000 in
theorem fdFormC_any (L : List ByteArray) (n cap k g : Nat) (x : ByteArray) (A : Option Addr) (w : World) (hc : w.cell? ⟨g, 1, none⟩ = some (.slice A n cap)) (hZ : TextsZ w A n L) (hn : n ≤ 5000) (hcap : n ≤ cap) (hs : ∀ x ∈ L, x.size ≤ 5000) (hk : L[k]? = some x) :
    Calls Tryz.prog 114 #[.int .i64 k, .string x, .pointer (some ⟨g, 0, none⟩)] w (RetPost (.int .i64 (plE (bls L) k (bl x))) w) := by
  have hC := fdPlaceError_any L n cap k x A w hZ hn hcap hs hk
  generalize plE (bls L) k (bl x) = y at *
  clear hZ hs hk
  go_enter Tryz.func114, Tryz.ntmps114
  go_wp2_with fail
  refine hC.mono ?_
  rintro e w1 ⟨rfl, hb1⟩
  go_wp2
  go_ret
  exact ⟨rfl, hb1⟩
set_option maxHeartbeats 4000000 in
theorem fdFirstH_any (L : List ByteArray) (n cap : Nat) (A : Option Addr) (w : World) (hZ : TextsZ w A n L) (hn : n ≤ 5000) (hs : ∀ x ∈ L, x.size ≤ 5000) :
    Calls Tryz.prog 111 #[.slice A n cap, .func (.func 112) #[] #[]] w (RetPost (.int .i64 (fstT htE (bls L))) w) := by
  have hni : (n : Int) ≤ 5000 := by omega
  have H := Lib.hid hZ
  have Hn := Lib.hid hZ.1
  have HS := Lib.hid hs
  obtain ⟨y, hy⟩ : ∃ y, fstT htE (bls L) = y := ⟨_, rfl⟩
  rw [hy]
  have HY : Hid (fstT htE ((bls L).drop 0) = y) := by rw [← hy]; rfl
  clear hZ hy hs
  go_enter Tryz.func111, Tryz.ntmps111
  go_wp2
  go_loopw [10] (fun i wr => ∃ k : Nat, k ≤ n ∧ i = .int .i64 k ∧ Hid (fstT htE ((bls L).drop k) = y) ∧ Below w.heap.size w wr) (fun i _ => n - (intOf i).toNat)
  case atStart => exact ⟨0, by omega, rfl, HY, Below.refl _ _⟩
  case round =>
    obtain ⟨k, hk, rfl, HK, hb⟩ := hrel
    by_cases hlt : k < n
    · have hZr := H.out.below hb
      obtain ⟨b, off, x, rfl, hbl, hx, hcx⟩ := (H.out.below hb).at_ hlt
      have hxs := HS.out x (List.mem_of_getElem? hx)
      have hst := HK.out
      rw [bls_at hx, fstT] at hst
      have hki : (k : Int) < (n : Int) := by omega
      have hC := fdHeightText_any k x wr (by unfold maxLen; omega)
      obtain ⟨z, hz⟩ : ∃ z, htE (bl x) = z := ⟨_, rfl⟩
      rw [hz] at hst hC
      clear hz hx hZr hxs
      by_cases h0 : z = 0
      · subst h0
        rw [if_pos rfl] at hst
        have Hst : Hid (fstT htE ((bls L).drop (k + 1)) = y) := hst
        clear hst HK
        go_wp2_with fail
        refine hC.mono ?_
        rintro e w' ⟨rfl, hb2⟩
        have hb3 := bstep hb hb2
        clear hb2 hcx
        go_wp2
        exact ⟨⟨k + 1, by omega, by go_num, Hst, hb3⟩, by simp [intOf]; omega⟩
      · rw [if_neg h0] at hst
        subst hst
        have hb' : (z != 0) = true := by rw [bne_iff_ne]; exact h0
        clear HK HY
        go_wp2_with fail
        refine hC.mono ?_
        rintro e w' ⟨rfl, hb2⟩
        have hb3 := bstep hb hb2
        clear hb2 hcx
        go_wp2
        go_ret
        exact ⟨rfl, hb3⟩
    · have h0 := HK.out
      rw [bls_end Hn.out (by omega), fstT] at h0
      subst h0
      go_wp2
      go_ret
      exact ⟨rfl, hb⟩
set_option maxHeartbeats 4000000 in
theorem fdFirstO_any (L : List ByteArray) (n cap : Nat) (A : Option Addr) (w : World) (hZ : TextsZ w A n L) (hn : n ≤ 5000) (hs : ∀ x ∈ L, x.size ≤ 5000) :
    Calls Tryz.prog 111 #[.slice A n cap, .func (.func 113) #[] #[]] w (RetPost (.int .i64 (fstT ofE (bls L))) w) := by
  have hni : (n : Int) ≤ 5000 := by omega
  have H := Lib.hid hZ
  have Hn := Lib.hid hZ.1
  have HS := Lib.hid hs
  obtain ⟨y, hy⟩ : ∃ y, fstT ofE (bls L) = y := ⟨_, rfl⟩
  rw [hy]
  have HY : Hid (fstT ofE ((bls L).drop 0) = y) := by rw [← hy]; rfl
  clear hZ hy hs
  go_enter Tryz.func111, Tryz.ntmps111
  go_wp2
  go_loopw [10] (fun i wr => ∃ k : Nat, k ≤ n ∧ i = .int .i64 k ∧ Hid (fstT ofE ((bls L).drop k) = y) ∧ Below w.heap.size w wr) (fun i _ => n - (intOf i).toNat)
  case atStart => exact ⟨0, by omega, rfl, HY, Below.refl _ _⟩
  case round =>
    obtain ⟨k, hk, rfl, HK, hb⟩ := hrel
    by_cases hlt : k < n
    · have hZr := H.out.below hb
      obtain ⟨b, off, x, rfl, hbl, hx, hcx⟩ := (H.out.below hb).at_ hlt
      have hxs := HS.out x (List.mem_of_getElem? hx)
      have hst := HK.out
      rw [bls_at hx, fstT] at hst
      have hki : (k : Int) < (n : Int) := by omega
      have hC := fdOffText_any k x wr
      obtain ⟨z, hz⟩ : ∃ z, ofE (bl x) = z := ⟨_, rfl⟩
      rw [hz] at hst hC
      clear hz hx hZr hxs
      by_cases h0 : z = 0
      · subst h0
        rw [if_pos rfl] at hst
        have Hst : Hid (fstT ofE ((bls L).drop (k + 1)) = y) := hst
        clear hst HK
        go_wp2_with fail
        refine hC.mono ?_
        rintro e w' ⟨rfl, hb2⟩
        have hb3 := bstep hb hb2
        clear hb2 hcx
        go_wp2
        exact ⟨⟨k + 1, by omega, by go_num, Hst, hb3⟩, by simp [intOf]; omega⟩
      · rw [if_neg h0] at hst
        subst hst
        have hb' : (z != 0) = true := by rw [bne_iff_ne]; exact h0
        clear HK HY
        go_wp2_with fail
        refine hC.mono ?_
        rintro e w' ⟨rfl, hb2⟩
        have hb3 := bstep hb hb2
        clear hb2 hcx
        go_wp2
        go_ret
        exact ⟨rfl, hb3⟩
    · have h0 := HK.out
      rw [bls_end Hn.out (by omega), fstT] at h0
      subst h0
      go_wp2
      go_ret
      exact ⟨rfl, hb⟩
set_option maxHeartbeats 4000000 in
theorem fdFirstP_any (L : List ByteArray) (n cap cap2 g : Nat) (A : Option Addr) (w : World) (hc : w.cell? ⟨g, 1, none⟩ = some (.slice A n cap2)) (hg : g < w.heap.size) (hcap : n ≤ cap2) (hZ : TextsZ w A n L) (hn : n ≤ 5000) (hs : ∀ x ∈ L, x.size ≤ 5000) :
    Calls Tryz.prog 111 #[.slice A n cap, .func (.func 114) #[] #[.pointer (some ⟨g, 0, none⟩)]] w (RetPost (.int .i64 (fstP (bls L) 0 (bls L))) w) := by
  have hni : (n : Int) ≤ 5000 := by omega
  have H := Lib.hid hZ
  have Hn := Lib.hid hZ.1
  have HS := Lib.hid hs
  have HG : Hid (∀ w', Below w.heap.size w w' → w'.cell? ⟨g, 1, none⟩ = some (.slice A n cap2)) := Lib.hid fun w' hb => (hb.cell (p := ⟨g, _, none⟩) hg).trans hc
  clear hc
  obtain ⟨y, hy⟩ : ∃ y, fstP (bls L) 0 (bls L) = y := ⟨_, rfl⟩
  rw [hy]
  have HY : Hid (fstP (bls L) 0 ((bls L).drop 0) = y) := by rw [← hy]; rfl
  clear hZ hy hs
  go_enter Tryz.func111, Tryz.ntmps111
  go_wp2
  go_loopw [10] (fun i wr => ∃ k : Nat, k ≤ n ∧ i = .int .i64 k ∧ Hid (fstP (bls L) k ((bls L).drop k) = y) ∧ Below w.heap.size w wr) (fun i _ => n - (intOf i).toNat)
  case atStart => exact ⟨0, by omega, rfl, HY, Below.refl _ _⟩
  case round =>
    obtain ⟨k, hk, rfl, HK, hb⟩ := hrel
    by_cases hlt : k < n
    · have hZr := H.out.below hb
      obtain ⟨b, off, x, rfl, hbl, hx, hcx⟩ := (H.out.below hb).at_ hlt
      have hxs := HS.out x (List.mem_of_getElem? hx)
      have hst := HK.out
      rw [bls_at hx, fstP] at hst
      have hki : (k : Int) < (n : Int) := by omega
      have hC := fdFormC_any L n cap2 k g x _ wr (HG.out _ hb) hZr hn hcap HS.out hx
      obtain ⟨z, hz⟩ : ∃ z, plE (bls L) k (bl x) = z := ⟨_, rfl⟩
      rw [hz] at hst hC
      clear hz hx hZr hxs
      by_cases h0 : z = 0
      · subst h0
        rw [if_pos rfl] at hst
        have Hst : Hid (fstP (bls L) (k + 1) ((bls L).drop (k + 1)) = y) := hst
        clear hst HK
        go_wp2_with fail
        refine hC.mono ?_
        rintro e w' ⟨rfl, hb2⟩
        have hb3 := bstep hb hb2
        clear hb2 hcx
        go_wp2
        exact ⟨⟨k + 1, by omega, by go_num, Hst, hb3⟩, by simp [intOf]; omega⟩
      · rw [if_neg h0] at hst
        subst hst
        have hb' : (z != 0) = true := by rw [bne_iff_ne]; exact h0
        clear HK HY
        go_wp2_with fail
        refine hC.mono ?_
        rintro e w' ⟨rfl, hb2⟩
        have hb3 := bstep hb hb2
        clear hb2 hcx
        go_wp2
        go_ret
        exact ⟨rfl, hb3⟩
    · have h0 := HK.out
      rw [bls_end Hn.out (by omega), fstP] at h0
      subst h0
      go_wp2
      go_ret
      exact ⟨rfl, hb⟩
end Go.Mk
