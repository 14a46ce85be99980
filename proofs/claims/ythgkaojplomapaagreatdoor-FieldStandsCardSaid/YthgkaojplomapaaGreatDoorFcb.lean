/-
  Proved: inARow, heightTextError, offTextError and placeError of package field as plain functions of the
  Proved: CheckContest and CheckVertical of package field return plain functions of the names and
-/
import Derived.Test.YthgkaojplomapaaGreatDoorFa
set_option maxHeartbeats 32000000
set_option linter.unusedVariables false
set_option linter.unusedSimpArgs false
open Go Go.Proofs Go.RowKit
set_option maxRecDepth 100000
section
namespace Go.Mk
abbrev bl (s : ByteArray) : List UInt8 := s.data.toList
def bls (L : List ByteArray) : List (List UInt8) := L.map bl
def endL (l : List UInt8) : List UInt8 := l.drop (nxL l)
theorem endX_list (s : ByteArray) : (endX s).toList = endL (bl s) := by
 rw [ByteArray.toList_eq]
 unfold endX endL
 rw [ByteArray.data_extract, Array.toList_extract]
 show List.take (s.size - nx s) (List.drop (nx s) (bl s)) = _
 rw [List.take_of_length_le]
 ·rfl
 ·rw [List.length_drop, Array.length_toList]
  exact Nat.le_refl _
def rowGo : Nat → List (List UInt8) → Nat
 | r, [] => r
 | r, t :: l => rowGo (if endL t = [111] then 0 else r + nxL t) l
theorem bls_at {L : List ByteArray} {k : Nat} {x : ByteArray} (h : L[k]? = some x) : (bls L).drop k = bl x :: (bls L).drop (k + 1) := by
 have h1 : (bls L)[k]? = some (bl x) := by unfold bls; rw [List.getElem?_map, h]; rfl
 obtain ⟨h2, h3⟩ := List.getElem?_eq_some_iff.1 h1
 rw [List.drop_eq_getElem_cons h2, h3]
theorem bls_end {L : List ByteArray} {k n : Nat} (hn : L.length = n) (h : n ≤ k) : (bls L).drop k = [] := List.drop_eq_nil_of_le (by unfold bls; rw [List.length_map]; omega)
theorem list_beq (a b : List UInt8) : (a == b) = decide (a = b) := by
 by_cases h : a = b
 ·subst h; simp
 ·rw [decide_eq_false h, beq_eq_false_iff_ne]; exact h
theorem fdInARow_any (L : List ByteArray) (n cap : Nat) (A : Option Addr) (w : World) (hZ : TextsZ w A n L) (hn : n ≤ 5000) (hs : ∀ x ∈ L, x.size ≤ 5000) :
  Calls Tryz.prog 197 #[.slice A n cap] w (RetPost (.int .i64 (rowGo 0 (bls L))) w) := by
 have hni : (n : Int) ≤ 5000 := by omega
 have H := Lib.hid hZ
 have Hn := Lib.hid hZ.1
 have HS := Lib.hid hs
 obtain ⟨y, hy⟩ : ∃ y, rowGo 0 (bls L) = y := ⟨_, rfl⟩
 rw [hy]
 have HY : Hid (rowGo 0 ((bls L).drop 0) = y) := by rw [← hy]; rfl
 clear hZ hy hs
 go_enter Tryz.func197, Tryz.ntmps197
 go_wp2
 go_loopw [3, 10] (fun rv i wr => ∃ k r : Nat, k ≤ n ∧ i = .int .i64 k ∧ rv = .int .i64 r ∧ r ≤ k * 5000 ∧ Hid (rowGo r ((bls L).drop k) = y) ∧ Below w.heap.size w wr) (fun _ i _ => n - (intOf i).toNat)
 case atStart => exact ⟨0, 0, by omega, rfl, rfl, by omega, HY, Below.refl _ _⟩
 case round =>
  obtain ⟨k, r, hk, rfl, rfl, hr, HK, hb⟩ := hrel
  by_cases hlt : k < n
  ·obtain ⟨b, off, x, rfl, hbl, hx, hcx⟩ := (H.out.below hb).at_ hlt
   have hxs := HS.out x (List.mem_of_getElem? hx)
   have hst := HK.out
   rw [bls_at hx, rowGo] at hst
   have hki : (k : Int) < (n : Int) := by omega
   have hC := fdSplit_any x wr (by unfold maxLen; omega)
   have hcmp : ((endX x).toList == [111]) = decide (endL (bl x) = [111]) := by rw [endX_list, list_beq]
   have hf := nx_le x
   have hfe : nxL (bl x) = nx x := rfl
   rw [hfe] at hst
   have Hr := Lib.hid hr
   generalize nx x = f at *
   have hfi : (f : Int) ≤ 5000 := by omega
   have hri : (r : Int) ≤ 25000000 := by have : k * 5000 ≤ 5000 * 5000 := Nat.mul_le_mul_right _ (by omega); omega
   have hf0 : (0 : Int) ≤ (f : Int) := by omega
   have hr0 : (0 : Int) ≤ (r : Int) := by omega
   generalize endX x = ex at *
   by_cases g : endL (bl x) = [111]
   ·rw [if_pos g] at hst
    have HST : Hid (rowGo 0 ((bls L).drop (k + 1)) = y) := hst
    rw [decide_eq_true g] at hcmp
    clear hst hx HK hfe hf hr g hxs
    go_wp2_with fail
    refine hC.mono ?_
    rintro e w' ⟨rfl, hb2⟩
    have hb3 := bstep hb hb2
    clear hb2 hcx
    go_wp2
    go_roundw
    case rel => exact ⟨k + 1, 0, by omega, by go_num, rfl, by omega, HST, hb3⟩
    case measure => simp [intOf]; omega
   ·rw [if_neg g] at hst
    have HST : Hid (rowGo (r + f) ((bls L).drop (k + 1)) = y) := hst
    rw [decide_eq_false g] at hcmp
    have HF : Hid (f ≤ 5000) := Lib.hid (by omega)
    clear hst hx HK hfe hf hr g hxs
    go_wp2_with fail
    refine hC.mono ?_
    rintro e w' ⟨rfl, hb2⟩
    have hb3 := bstep hb hb2
    clear hb2 hcx
    go_wp2
    go_roundw
    case rel => exact ⟨k + 1, r + f, by omega, by go_num, by go_num, by have := Hr.out; have := HF.out; omega, HST, hb3⟩
    case measure => simp [intOf]; omega
  ·have hkn : k = n := by omega
   have h0 := HK.out
   rw [bls_end Hn.out (by omega), rowGo] at h0
   subst h0
   go_wp2
   go_ret
   exact ⟨rfl, hb⟩
def htE (t : List UInt8) : Int := if (endL t = [] ∨ endL t = [111] ∨ endL t = [45]) ∧ 1 ≤ t.length ∧ t.length ≤ 3 then 0 else 1
def ofE (t : List UInt8) : Int := if t = [111] ∨ t = [120] then 0 else 1
theorem empty_list (s : ByteArray) : s.toList.isEmpty = decide (bl s = []) := by
 rw [ByteArray.toList_eq]
 show (bl s).isEmpty = _
 cases bl s <;> simp
theorem fdHeightText_any (k : Int) (x : ByteArray) (w : World) (hz : x.size ≤ maxLen) : Calls Tryz.prog 148 #[.int .i64 k, .string x] w (RetPost (.int .i64 (htE (bl x))) w) := by
  have hml : maxLen = 9223372036854775807 := rfl
  have hsz : (x.size : Int) ≤ 9223372036854775807 := by omega
  have hC := fdSplit_any x w hz
  have hW := fun b w => trWhen_any b 1 w
  have c0 : (endX x).toList.isEmpty = decide (endL (bl x) = []) := by rw [empty_list, ← endX_list, ByteArray.toList_eq]
  have c1 : ((endX x).toList == [111]) = decide (endL (bl x) = [111]) := by rw [endX_list, list_beq]
  have c2 : ((endX x).toList == [45]) = decide (endL (bl x) = [45]) := by rw [endX_list, list_beq]
  have hlen : (bl x).length = x.size := Array.length_toList
  obtain ⟨y, hy⟩ : ∃ y, htE (bl x) = y := ⟨_, rfl⟩
  rw [hy]
  unfold htE at hy
  rw [hlen] at hy
  have hcase : ∀ bk : Bool, bk = (decide (endL (bl x) = []) || (decide (endL (bl x) = [111]) || decide (endL (bl x) = [45]))) →
     (if bk = true ∧ 1 ≤ x.size ∧ x.size ≤ 3 then (0 : Int) else 1) = y := fun bk e => by
    rw [← hy]
    congr 1
    rw [e]
    simp
  generalize decide (endL (bl x) = []) = b0 at *
  generalize decide (endL (bl x) = [111]) = b1 at *
  generalize decide (endL (bl x) = [45]) = b2 at *
  clear hy hlen
  generalize nx x = f at *
  generalize endX x = ex at *
  have HC := Lib.hid hcase
  clear hcase hz hml
  have hL : (decide ((x.size : Int) < 1) = true ∧ x.size < 1) ∨ (decide ((x.size : Int) < 1) = false ∧ decide ((3 : Int) < x.size) = true ∧ 3 < x.size) ∨ (decide ((x.size : Int) < 1) = false ∧ decide ((3 : Int) < x.size) = false ∧ 1 ≤ x.size ∧ x.size ≤ 3) := by
    by_cases h1 : (x.size : Int) < 1
    · exact .inl ⟨decide_eq_true h1, by omega⟩
    · by_cases h2 : (3 : Int) < x.size
      · exact .inr (.inl ⟨decide_eq_false h1, decide_eq_true h2, by omega⟩)
      · exact .inr (.inr ⟨decide_eq_false h1, decide_eq_false h2, by omega, by omega⟩)
  cases b0 <;> cases b1 <;> cases b2 <;> rcases hL with ⟨l1, l3⟩ | ⟨l1, l2, l3⟩ | ⟨l1, l2, l3, l4⟩
  all_goals
    have hq := HC.out _ rfl
    first
      | (rw [if_neg (by intro q; revert q; simp; try omega)] at hq
         subst hq
         clear HC l3
         try clear l4
         go_enter Tryz.func148, Tryz.ntmps148
         go_wp2_with fail
         refine hC.mono ?_
         rintro e w1 ⟨rfl, hb1⟩
         go_wp2_with fail
         refine (hW true _).mono ?_
         rintro e w2 ⟨rfl, rfl⟩
         go_wp2
         go_ret
         exact ⟨rfl, hb1⟩)
      | (rw [if_pos (by refine ⟨rfl, ?_, ?_⟩ <;> omega)] at hq
         subst hq
         clear HC l3
         try clear l4
         go_enter Tryz.func148, Tryz.ntmps148
         go_wp2_with fail
         refine hC.mono ?_
         rintro e w1 ⟨rfl, hb1⟩
         go_wp2_with fail
         refine (hW false _).mono ?_
         rintro e w2 ⟨rfl, rfl⟩
         go_wp2
         go_ret
         exact ⟨rfl, hb1⟩)
theorem fdOffText_any (k : Int) (x : ByteArray) (w : World) : Calls Tryz.prog 149 #[.int .i64 k, .string x] w (RetPost (.int .i64 (ofE (bl x))) w) := by
 have hW := fun b w => trWhen_any b 1 w
 have c1 : (x.toList == [111]) = decide (bl x = [111]) := by rw [ByteArray.toList_eq, list_beq]
 have c2 : (x.toList == [120]) = decide (bl x = [120]) := by rw [ByteArray.toList_eq, list_beq]
 obtain ⟨y, hy⟩ : ∃ y, ofE (bl x) = y := ⟨_, rfl⟩
 rw [hy]
 unfold ofE at hy
 by_cases g1 : bl x = [111]
 ·rw [if_pos (.inl g1)] at hy
  rw [decide_eq_true g1] at c1
  subst hy
  clear c2 g1
  go_enter Tryz.func149, Tryz.ntmps149
  go_wp2_with fail
  refine (hW false _).mono ?_
  rintro e w2 ⟨rfl, rfl⟩
  go_wp2
  go_ret
  exact ⟨rfl, Below.refl _ _⟩
 ·rw [decide_eq_false g1] at c1
  by_cases g2 : bl x = [120]
  ·rw [if_pos (.inr g2)] at hy
   rw [decide_eq_true g2] at c2
   subst hy
   clear g1 g2
   go_enter Tryz.func149, Tryz.ntmps149
   go_wp2_with fail
   refine (hW false _).mono ?_
   rintro e w2 ⟨rfl, rfl⟩
   go_wp2
   go_ret
   exact ⟨rfl, Below.refl _ _⟩
  ·rw [if_neg (by rintro (q | q); exact g1 q; exact g2 q)] at hy
   rw [decide_eq_false g2] at c2
   subst hy
   clear g1 g2
   go_enter Tryz.func149, Tryz.ntmps149
   go_wp2_with fail
   refine (hW true _).mono ?_
   rintro e w2 ⟨rfl, rfl⟩
   go_wp2
   go_ret
   exact ⟨rfl, Below.refl _ _⟩
end Go.Mk
end
section
namespace Go.Mk
theorem IntsZ.cellAt {w : World} {A : Option Addr} {n : Nat} {L : List Int} (h : IntsZ w A n L) {k : Nat} (hk : k < n) : ∃ b off x, A = some ⟨b, off, none⟩ ∧ b < w.heap.size ∧ L[k]? = some x ∧ w.cell? ⟨b, off + k, none⟩ = some (.int .i64 x) := by
 obtain ⟨b, off, e, hlt, hc⟩ := h.2 (by omega)
 have hl : k < L.length := by rw [h.1]; exact hk
 exact ⟨b, off, L[k], e, hlt, List.getElem?_eq_getElem hl, hc k L[k] (List.getElem?_eq_getElem hl)⟩
theorem es4F (w : World) (a b c d : Int) (t : TypeId) : Es (w.alloc (.cells #[.int .i64 a, .int .i64 b, .int .i64 c, .int .i64 d] t)) w.heap.size [a, b, c, d] := by
 intro i v hv
 match i, hv with
 | 0, hv => simp at hv; subst hv; simp
 | 1, hv => simp at hv; subst hv; simp
 | 2, hv => simp at hv; subst hv; simp
 | 3, hv => simp at hv; subst hv; simp
def tenE (n hi : Int) : Int := fstN [rngE n 10 hi, if n % 10 = 0 then 0 else 3]
def hgtE (p : Option Int) (h : Int) : Int := fstN [tenE h 999999, match p with | some q => if h ≤ q then 11 else 0 | none => 0]
def hgtsE : Option Int → List Int → Int
 | _, [] => 0
 | p, h :: l => if hgtE p h = 0 then hgtsE (some h) l else hgtE p h
def prevI (L : List Int) : Nat → Option Int
 | 0 => none
 | k + 1 => L[k]?
theorem hgtsE_drop {L : List Int} {k : Nat} {h : Int} (e : L[k]? = some h) : hgtsE (prevI L k) (L.drop k) = if hgtE (prevI L k) h = 0 then hgtsE (prevI L (k + 1)) (L.drop (k + 1)) else hgtE (prevI L k) h := by
 obtain ⟨hk, rfl⟩ := List.getElem?_eq_some_iff.1 e
 rw [List.drop_eq_getElem_cons hk, hgtsE]
 rw [show prevI L (k + 1) = some L[k] from e]
def verE (L : List ByteArray) (G : List Int) (s : Int) : Int := fstN [athE L, if G.length = 0 then 12 else 0, if 24 < G.length then 5 else hgtsE none G, tenE s 1000]
theorem fdAthletes_any (L : List ByteArray) (n cap : Nat) (A : Option Addr) (w : World) (hZ : TextsZ w A n L) (hn : n ≤ 1000) (hcap : n ≤ cap) (hs : ∀ x ∈ L, x.size ≤ maxLen) :
  Calls Tryz.prog 114 #[.slice A n cap] w (RetPost (.int .i64 (athE L)) w) := by
 obtain ⟨w1, hw1⟩ : ∃ w1, w.alloc (.cells #[.slice A n cap] 22) = w1 := ⟨_, rfl⟩
 have hb1 : Below w.heap.size w w1 := by rw [← hw1]; exact balloc _ (Below.refl _ _)
 have hs1 : w1.heap.size = w.heap.size + 1 := by rw [← hw1]; simp
 have c0 : w1.cell? ⟨w.heap.size, 0, none⟩ = some (.slice A n cap) := by rw [← hw1]; simp
 have HX : Hid (∀ w', Below w1.heap.size w1 w' → w'.cell? ⟨w.heap.size, 0, none⟩ = some (.slice A n cap) ∧ Below w1.heap.size w1 w') := Lib.hid fun w' hb => ⟨(hb.cell (p := ⟨w.heap.size, 0, none⟩) (by show w.heap.size < _; omega)).trans c0, hb⟩
 have HLi : Hid (∀ w', Below w1.heap.size w1 w' → Calls Tryz.prog 176 #[.slice A n cap, .int .i64 32, .func (.func 177) #[] #[.pointer (some ⟨w.heap.size, 0, none⟩)]] w' (RetPost (.int .i64 (if 32 < n then 5 else nmsE [] L)) w')) := Lib.hid fun w' hb => fdListS_any L n cap w.heap.size cap A w' (HX.out _ hb).1 (by have := hb.size; omega) ((hZ.below hb1).below hb) hn hcap hs
 have hW := fun w => trWhen_any ((n : Int) == 0) 12 w
 have hF0 := fun x y g w => trFirst_any [x, y] 2 rfl (by decide) g w
 have hni : (n : Int) ≤ 1000 := by omega
 have HY : Hid (fstN [if ((n : Int) == 0) = true then 12 else 0, if 32 < n then 5 else nmsE [] L] = athE L) := Lib.hid (by unfold athE; rw [hZ.1]; congr 2; simp)
 generalize athE L = y at *
 obtain ⟨e2, he2⟩ : ∃ e2 : Int, (if 32 < n then 5 else nmsE [] L) = e2 := ⟨_, rfl⟩
 obtain ⟨e1, he1⟩ : ∃ e1 : Int, (if ((n : Int) == 0) = true then 12 else 0) = e1 := ⟨_, rfl⟩
 rw [he2] at HLi HY
 rw [he1] at HY hW
 have hF := hF0 e1 e2
 rw [HY.out] at hF
 have HB1 := Lib.hid hb1
 clear hF0 hZ hs he1 he2 HY c0 hb1
 go_enter Tryz.func114, Tryz.ntmps114
 go_wp2_with fail
 clear hw1
 refine wp_region_held_drew (S := (fun w' => w'.cell? ⟨w.heap.size, 0, none⟩ = some (.slice A n cap) ∧ Below w1.heap.size w1 w')) (by kernel_rfl) ?_ (fun hHeld => ?_)
 ·exact HX.out _ (Below.drew (Below.refl _ _))
 refine zV 0 (h := zV 1 (h := zV 2 (h := zV 4 (h := zV 5 (h := ?_)))))
 try simp only [zP, zQ, zA2, zA3]
 refine zN 3 fun K hKK => ?_
 go_simp
 go_at_call 58
 with_reducible refine (hW _).mono ?_
 rintro e' w' ⟨rfl, rfl⟩
 go_wp2_with fail
 refine hKK.out _ _ ?_ (fun hHeld => ?_)
 ·exact hHeld
 clear hKK K
 try simp only [zP, zQ, zA2, zA3]
 refine zN 6 fun K hKK => ?_
 go_simp
 go_at_call 176
 with_reducible refine (HLi.out _ hHeld.2).mono ?_
 rintro e' w' ⟨rfl, hbz⟩
 go_wp2_with fail
 refine hKK.out _ _ ?_ (fun hHeld => ?_)
 ·exact HX.out _ (bstep hHeld.2 hbz)
 clear hKK K
 try simp only [zP, zQ, zA2, zA3]
 clear hbz
 refine zN 7 fun K hKK => ?_
 go_simp
 refine hKK.out _ _ ?_ (fun hHeld => ?_)
 ·exact HX.out _ (balloc _ hHeld.2)
 clear hKK K
 try simp only [zP, zQ, zA2, zA3]
 refine zN 8 fun K hKK => ?_
 go_simp
 go_at_call 56
 refine (hF _ _ ?_).mono ?_
 ·exact es2 _ _ _ _
 rintro e' w' ⟨rfl, rfl⟩
 go_wp2_with fail
 refine hKK.out _ _ ?_ (fun hHeld => ?_)
 ·exact hHeld
 clear hKK K
 try simp only [zP, zQ, zA2, zA3]
 refine zV 9 (h := ?_)
 try simp only [zP, zQ, zA2, zA3]
 refine wpAnyH_done (by kernel_rfl) ?_ _
 have hb3 := bstep HB1.out hHeld.2
 clear hHeld
 go_wp2
 go_ret
 exact ⟨rfl, hb3⟩
theorem fdTens_any (n hi : Int) (w : World) : Calls Tryz.prog 117 #[.int .i64 n, .int .i64 hi] w (RetPost (.int .i64 (tenE n hi)) w) := by
 have hR := fun w => trRange_any n 10 hi w
 obtain ⟨b, hb⟩ : ∃ b : Bool, (Int.tmod n 10 != 0) = b := ⟨_, rfl⟩
 have hW := fun w => trWhen_any b 3 w
 have hF0 := fun x y g w => trFirst_any [x, y] 2 rfl (by decide) g w
 have HY : Hid (fstN [rngE n 10 hi, if b = true then 3 else 0] = tenE n hi) := Lib.hid (by
  unfold tenE
  simp only [fstN]
  by_cases h : rngE n 10 hi = 0
  ·have hp : 10 ≤ n := by unfold rngE at h; split at h <;> omega
   rw [Int.tmod_eq_emod_of_nonneg (by omega)] at hb
   by_cases h0 : n % 10 = 0
   ·simp [h0] at hb; subst hb; simp [h0]
   ·have : (n % 10 != 0) = true := by rw [bne_iff_ne]; exact h0
    rw [this] at hb; subst hb; simp [h0]
  ·simp [h])
 generalize tenE n hi = y at *
 generalize rngE n 10 hi = e1 at *
 obtain ⟨e2, he2⟩ : ∃ e2 : Int, (if b = true then 3 else 0) = e2 := ⟨_, rfl⟩
 rw [he2] at HY hW
 have hF := hF0 e1 e2
 rw [HY.out] at hF
 have HBB := Lib.hid hb
 clear hF0 HY he2
 go_enter Tryz.func117, Tryz.ntmps117
 go_wp2_with fail
 refine (hR _).mono ?_
 rintro e w1 ⟨rfl, rfl⟩
 go_wp2_with fail
 refine (hW _).mono ?_
 rintro e w3 ⟨rfl, rfl⟩
 have hb4 := balloc (.cells #[.int .i64 e1, .int .i64 e2] 30) (Below.refl w.heap.size w)
 have hes := es2 w e1 e2 30
 go_wp2_with fail
 refine (hF _ _ hes).mono ?_
 rintro e w5 ⟨rfl, rfl⟩
 go_wp2
 go_ret
 exact ⟨rfl, hb4⟩
def VerF (g : Nat) : Value := .func (.func 116) #[] #[.pointer (some ⟨g, 0, none⟩)]
theorem fdVertC_any (G : List Int) (m cH k g : Nat) (AH : Option Addr) (h : Int) (w : World) (hc : w.cell? ⟨g, 1, none⟩ = some (.slice AH m cH)) (hg : g < w.heap.size) (hZ : IntsZ w AH m G) (hm : m ≤ 1000) (hk : G[k]? = some h) :
  Calls Tryz.prog 116 #[.int .i64 k, .int .i64 h, .pointer (some ⟨g, 0, none⟩)] w (RetPost (.int .i64 (hgtE (prevI G k) h)) w) := by
 have hT := fun w => fdTens_any h 999999 w
 have hF0 := fun x y g w => trFirst_any [x, y] 2 rfl (by decide) g w
 have hkm : k < m := by have := (List.getElem?_eq_some_iff.1 hk).1; rw [hZ.1] at this; exact this
 cases k with
 | zero =>
  have hW := fun w => trWhen_any false 11 w
  have HY : Hid (fstN [tenE h 999999, 0] = hgtE (prevI G 0) h) := Lib.hid rfl
  generalize hgtE (prevI G 0) h = y at *
  generalize tenE h 999999 = e1 at *
  have hF := hF0 e1 0
  rw [HY.out] at hF
  clear hF0 HY hZ hk hc
  go_enter Tryz.func116, Tryz.ntmps116
  go_wp2_with fail
  refine (hT _).mono ?_
  rintro e w1 ⟨rfl, hb1⟩
  have HB1 := Lib.hid hb1
  go_wp2_with fail
  refine (hW _).mono ?_
  rintro e w2 ⟨rfl, rfl⟩
  have hb4 := balloc (.cells #[.int .i64 e1, .int .i64 0] 30) HB1.out
  have hes := es2 w1 e1 0 30
  go_wp2_with fail
  refine (hF _ _ hes).mono ?_
  rintro e w5 ⟨rfl, rfl⟩
  go_wp2
  go_ret
  exact ⟨rfl, hb4⟩
 | succ j =>
  obtain ⟨b, off, q, rfl, hbl, hq, hcq⟩ := hZ.cellAt (show j < m by omega)
  have hW := fun w => trWhen_any (decide (h ≤ q)) 11 w
  have HY : Hid (fstN [tenE h 999999, if decide (h ≤ q) = true then 11 else 0] = hgtE (prevI G (j + 1)) h) := Lib.hid (by
   rw [show prevI G (j + 1) = some q from hq]; unfold hgtE; simp only [decide_eq_true_eq])
  have HX : Hid (∀ w', Below w.heap.size w w' → w'.cell? ⟨g, 1, none⟩ = some (.slice (some ⟨b, off, none⟩) m cH) ∧ w'.cell? ⟨b, off + j, none⟩ = some (.int .i64 q)) := Lib.hid fun w' hb => ⟨(hb.cell (p := ⟨g, 1, none⟩) hg).trans hc, (hb.cell (p := ⟨b, off + j, none⟩) hbl).trans hcq⟩
  generalize hgtE (prevI G (j + 1)) h = y at *
  generalize tenE h 999999 = e1 at *
  obtain ⟨e2, he2⟩ : ∃ e2 : Int, (if decide (h ≤ q) = true then 11 else 0) = e2 := ⟨_, rfl⟩
  rw [he2] at HY hW
  have hF := hF0 e1 e2
  rw [HY.out] at hF
  obtain ⟨k, hkj⟩ : ∃ k, k = j + 1 := ⟨_, rfl⟩
  rw [← hkj]
  have hkd : decide ((0 : Int) < (k : Int)) = true := decide_eq_true (by omega)
  have hkN : 0 < k := by omega
  have hj1 : (k : Int) - 1 = (j : Int) := by omega
  have hj0 : (0 : Int) ≤ (j : Int) := by omega
  have hjt : ((j : Int)).toNat = j := by omega
  have hjm : (j : Int) < (m : Int) := by omega
  have hwj : IntKind.i64.wrap (j : Int) = (j : Int) := IntWalk.i64_in _ (by omega)
  clear hF0 HY hZ hk hc hq hcq he2 hkj hkm
  go_enter Tryz.func116, Tryz.ntmps116
  go_wp2_with fail
  refine (hT _).mono ?_
  rintro e w1 ⟨rfl, hb1⟩
  have HB1 := Lib.hid hb1
  obtain ⟨x0, x1⟩ := HX.out _ hb1
  go_wp2_with fail
  refine (hW _).mono ?_
  rintro e w2 ⟨rfl, rfl⟩
  have hb4 := balloc (.cells #[.int .i64 e1, .int .i64 e2] 30) HB1.out
  have hes := es2 w1 e1 e2 30
  go_wp2_with fail
  refine (hF _ _ hes).mono ?_
  rintro e w5 ⟨rfl, rfl⟩
  go_wp2
  go_ret
  exact ⟨rfl, hb4⟩
theorem fdFirstOfI_any (G : List Int) (m cH cap2 g : Nat) (AH : Option Addr) (w : World) (hc : w.cell? ⟨g, 1, none⟩ = some (.slice AH m cH)) (hg : g < w.heap.size) (hZ : IntsZ w AH m G) (hm : m ≤ 1000) :
  Calls Tryz.prog 178 #[.slice AH m cap2, VerF g] w (RetPost (.int .i64 (hgtsE none G)) w) := by
 unfold VerF
 have hni : (m : Int) ≤ 1000 := by omega
 have H := Lib.hid hZ
 have Hn := Lib.hid hZ.1
 have HG : Hid (∀ w', Below w.heap.size w w' → w'.cell? ⟨g, 1, none⟩ = some (.slice AH m cH) ∧ g < w'.heap.size ∧ IntsZ w' AH m G) := Lib.hid fun w' hb => ⟨(hb.cell (p := ⟨g, _, none⟩) hg).trans hc, Nat.lt_of_lt_of_le hg hb.size, hZ.below hb⟩
 obtain ⟨y, hy⟩ : ∃ y, hgtsE none G = y := ⟨_, rfl⟩
 rw [hy]
 have HY : Hid (hgtsE (prevI G 0) (G.drop 0) = y) := by rw [← hy]; rfl
 clear hZ hy hc
 go_enter Tryz.func178, Tryz.ntmps178
 go_wp2
 go_loopw [10] (fun i wr => ∃ k : Nat, k ≤ m ∧ i = .int .i64 k ∧ Hid (hgtsE (prevI G k) (G.drop k) = y) ∧ Below w.heap.size w wr) (fun i _ => m - (intOf i).toNat)
 case atStart => exact ⟨0, by omega, rfl, HY, Below.refl _ _⟩
 case round =>
  obtain ⟨k, hk, rfl, HK, hb⟩ := hrel
  by_cases hlt : k < m
  ·obtain ⟨c1, c2, c3⟩ := HG.out _ hb
   have hZr := c3
   obtain ⟨b, off, x, rfl, hbl, hx, hcx⟩ := c3.cellAt hlt
   have hst := hgtsE_drop hx
   rw [HK.out] at hst
   have hki : (k : Int) < (m : Int) := by omega
   have hC := fdVertC_any G m cH k g _ x wr c1 c2 hZr hm hx
   obtain ⟨z, hz⟩ : ∃ z, hgtE (prevI G k) x = z := ⟨_, rfl⟩
   rw [hz] at hst hC
   clear hz hx c3 hZr c1 c2
   by_cases h0 : z = 0
   ·subst h0
    rw [if_pos rfl] at hst
    have Hst : Hid (hgtsE (prevI G (k + 1)) (G.drop (k + 1)) = y) := hst.symm
    clear hst HK
    go_wp2_with fail
    refine hC.mono ?_
    rintro e w' ⟨rfl, hb2⟩
    have hb3 := bstep hb hb2
    go_wp2
    exact ⟨⟨k + 1, by omega, by go_num, Hst, hb3⟩, by simp [intOf]; omega⟩
   ·rw [if_neg h0] at hst
    subst hst
    have hb' : (y != 0) = true := by rw [bne_iff_ne]; exact h0
    clear HK HY
    go_wp2_with fail
    refine hC.mono ?_
    rintro e w' ⟨rfl, hb2⟩
    have hb3 := bstep hb hb2
    go_wp2
    go_ret
    exact ⟨rfl, hb3⟩
  ·have hkn : k = m := by omega
   have h0 := HK.out
   rw [hkn, List.drop_of_length_le (by rw [Hn.out]; omega), hgtsE] at h0
   have h0' : 0 = y := h0
   subst h0'
   go_wp2
   go_ret
   exact ⟨rfl, hb⟩
theorem fdListI_any (G : List Int) (m cH cap2 g : Nat) (AH : Option Addr) (w : World) (hc : w.cell? ⟨g, 1, none⟩ = some (.slice AH m cH)) (hg : g < w.heap.size) (hZ : IntsZ w AH m G) (hm : m ≤ 1000) :
  Calls Tryz.prog 115 #[.slice AH m cap2, .int .i64 24, VerF g] w (RetPost (.int .i64 (if 24 < m then 5 else hgtsE none G)) w) := by
 have hC := fdFirstOfI_any G m cH cap2 g AH w hc hg hZ hm
 unfold VerF at *
 by_cases h : 24 < m
 ·have hi : (24 : Int) < (m : Int) := by omega
  rw [if_pos h]
  clear hC hZ hc
  go_enter Tryz.func115, Tryz.ntmps115
  go_wp2
  go_ret
  exact ⟨rfl, Below.refl _ _⟩
 ·have hi : ¬ (24 : Int) < (m : Int) := by omega
  rw [if_neg h]
  generalize hgtsE none G = y at *
  clear hZ hc
  go_enter Tryz.func115, Tryz.ntmps115
  go_wp2_with fail
  refine hC.mono ?_
  rintro e w1 ⟨rfl, hb1⟩
  go_wp2
  go_ret
  exact ⟨rfl, hb1⟩
theorem fdCheckVertical_any (L : List ByteArray) (n cap : Nat) (A : Option Addr) (G : List Int) (m cH : Nat) (AH : Option Addr) (s : Int) (w : World) (hZ : TextsZ w A n L) (hn : n ≤ 1000) (hcap : n ≤ cap) (hs : ∀ x ∈ L, x.size ≤ maxLen) (hG : IntsZ w AH m G) (hm : m ≤ 1000) :
  Calls Tryz.prog 57 #[.agg #[.slice A n cap, .slice AH m cH, .int .i64 s]] w (RetPost (.int .i64 (verE L G s)) w) := by
 obtain ⟨w1, hw1⟩ : ∃ w1, w.alloc (.cells #[.slice A n cap, .slice AH m cH, .int .i64 s] 33) = w1 := ⟨_, rfl⟩
 have hb1 : Below w.heap.size w w1 := by rw [← hw1]; exact balloc _ (Below.refl _ _)
 have hs1 : w1.heap.size = w.heap.size + 1 := by rw [← hw1]; simp
 have c0 : w1.cell? ⟨w.heap.size, 0, none⟩ = some (.slice A n cap) := by rw [← hw1]; simp
 have c1 : w1.cell? ⟨w.heap.size, 1, none⟩ = some (.slice AH m cH) := by rw [← hw1]; simp
 have c2 : w1.cell? ⟨w.heap.size, 2, none⟩ = some (.int .i64 s) := by rw [← hw1]; simp
 have HX : Hid (∀ w', Below w1.heap.size w1 w' → w'.cell? ⟨w.heap.size, 0, none⟩ = some (.slice A n cap) ∧ w'.cell? ⟨w.heap.size, 1, none⟩ = some (.slice AH m cH) ∧ w'.cell? ⟨w.heap.size, 2, none⟩ = some (.int .i64 s) ∧ Below w1.heap.size w1 w') := Lib.hid fun w' hb => ⟨(hb.cell (p := ⟨w.heap.size, 0, none⟩) (by show w.heap.size < _; omega)).trans c0, (hb.cell (p := ⟨w.heap.size, 1, none⟩) (by show w.heap.size < _; omega)).trans c1, (hb.cell (p := ⟨w.heap.size, 2, none⟩) (by show w.heap.size < _; omega)).trans c2, hb⟩
 have HA : Hid (∀ w', Below w1.heap.size w1 w' → Calls Tryz.prog 114 #[.slice A n cap] w' (RetPost (.int .i64 (athE L)) w')) := Lib.hid fun w' hb => fdAthletes_any L n cap A w' ((hZ.below hb1).below hb) hn hcap hs
 have hW := fun w => trWhen_any ((m : Int) == 0) 12 w
 have HLi : Hid (∀ w', Below w1.heap.size w1 w' → Calls Tryz.prog 115 #[.slice AH m cH, .int .i64 24, .func (.func 116) #[] #[.pointer (some ⟨w.heap.size, 0, none⟩)]] w' (RetPost (.int .i64 (if 24 < m then 5 else hgtsE none G)) w')) := Lib.hid fun w' hb => fdListI_any G m cH cH w.heap.size AH w' (HX.out _ hb).2.1 (by have := hb.size; omega) ((hG.below hb1).below hb) hm
 have hT := fun w => fdTens_any s 1000 w
 have hF0 := fun a b c d g w => trFirst_any [a, b, c, d] 4 rfl (by decide) g w
 have hmi : (m : Int) ≤ 1000 := by omega
 have HY : Hid (fstN [athE L, if ((m : Int) == 0) = true then 12 else 0, if 24 < m then 5 else hgtsE none G, tenE s 1000] = verE L G s) := Lib.hid (by unfold verE; rw [hG.1]; congr 3; simp)
 generalize verE L G s = y at *
 generalize athE L = e1 at *
 generalize tenE s 1000 = e4 at *
 obtain ⟨e2, he2⟩ : ∃ e2 : Int, (if ((m : Int) == 0) = true then 12 else 0) = e2 := ⟨_, rfl⟩
 obtain ⟨e3, he3⟩ : ∃ e3 : Int, (if 24 < m then 5 else hgtsE none G) = e3 := ⟨_, rfl⟩
 rw [he2] at HY hW
 rw [he3] at HY HLi
 have hF := hF0 e1 e2 e3 e4
 rw [HY.out] at hF
 have HB1 := Lib.hid hb1
 clear hF0 hZ hs he2 he3 HY c0 c1 c2 hb1 hG
 go_enter Tryz.func57, Tryz.ntmps57
 go_wp2_with fail
 clear hw1
 refine wp_region_held_drew (S := (fun w' => w'.cell? ⟨w.heap.size, 0, none⟩ = some (.slice A n cap) ∧ w'.cell? ⟨w.heap.size, 1, none⟩ = some (.slice AH m cH) ∧ w'.cell? ⟨w.heap.size, 2, none⟩ = some (.int .i64 s) ∧ Below w1.heap.size w1 w')) (by kernel_rfl) ?_ (fun hHeld => ?_)
 ·exact HX.out _ (Below.drew (Below.refl _ _))
 refine zV 0 (h := zV 1 (h := zV 3 (h := zV 4 (h := zV 5 (h := zV 6 (h := zV 8 (h := zV 9 (h := zV 10 (h := zV 12 (h := zV 13 (h := ?_)))))))))))
 try simp only [zP, zQ, zA2, zA3]
 refine zN 2 fun K hKK => ?_
 go_simp
 go_at_call 114
 with_reducible refine (HA.out _ hHeld.2.2.2).mono ?_
 rintro e' w' ⟨rfl, hbz⟩
 go_wp2_with fail
 refine hKK.out _ _ ?_ (fun hHeld => ?_)
 ·exact HX.out _ (bstep hHeld.2.2.2 hbz)
 clear hKK K
 try simp only [zP, zQ, zA2, zA3]
 clear hbz
 refine zN 7 fun K hKK => ?_
 go_simp
 go_at_call 58
 with_reducible refine (hW _).mono ?_
 rintro e' w' ⟨rfl, rfl⟩
 go_wp2_with fail
 refine hKK.out _ _ ?_ (fun hHeld => ?_)
 ·exact hHeld
 clear hKK K
 try simp only [zP, zQ, zA2, zA3]
 refine zN 11 fun K hKK => ?_
 go_simp
 go_at_call 115
 with_reducible refine (HLi.out _ hHeld.2.2.2).mono ?_
 rintro e' w' ⟨rfl, hbz⟩
 go_wp2_with fail
 refine hKK.out _ _ ?_ (fun hHeld => ?_)
 ·exact HX.out _ (bstep hHeld.2.2.2 hbz)
 clear hKK K
 try simp only [zP, zQ, zA2, zA3]
 clear hbz
 refine zN 14 fun K hKK => ?_
 go_simp
 go_at_call 117
 with_reducible refine (hT _).mono ?_
 rintro e' w' ⟨rfl, hbz⟩
 go_wp2_with fail
 refine hKK.out _ _ ?_ (fun hHeld => ?_)
 ·exact HX.out _ (bstep hHeld.2.2.2 hbz)
 clear hKK K
 try simp only [zP, zQ, zA2, zA3]
 clear hbz
 refine zN 15 fun K hKK => ?_
 go_simp
 refine hKK.out _ _ ?_ (fun hHeld => ?_)
 ·exact HX.out _ (balloc _ hHeld.2.2.2)
 clear hKK K
 try simp only [zP, zQ, zA2, zA3]
 refine zN 16 fun K hKK => ?_
 go_simp
 go_at_call 56
 refine (hF _ _ ?_).mono ?_
 ·exact es4F _ _ _ _ _ _
 rintro e' w' ⟨rfl, rfl⟩
 go_wp2_with fail
 refine hKK.out _ _ ?_ (fun hHeld => ?_)
 ·exact hHeld
 clear hKK K
 try simp only [zP, zQ, zA2, zA3]
 refine zV 17 (h := ?_)
 try simp only [zP, zQ, zA2, zA3]
 refine wpAnyH_done (by kernel_rfl) ?_ _
 have hb3 := bstep HB1.out hHeld.2.2.2
 clear hHeld
 go_wp2
 go_ret
 exact ⟨rfl, hb3⟩
end Go.Mk
end
