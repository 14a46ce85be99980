/-
  Proved: worsened of the law returns true. Conditions: the texts, the heights and the cards lie where the slices say, are short and have no error; there is a card.
-/
import Derived.Test.YthgkaojplomapaaGreatDoorFgt
set_option linter.unusedVariables false
set_option linter.unusedSimpArgs false
open Go Go.Proofs Go.RowKit
set_option maxRecDepth 100000
namespace Go.Mk
theorem last_byte {x : ByteArray} (h : htE (bl x) = 0) {i : Nat} (hi : x.size = i + 1) (hl : i < x.size) : endL (bl x) = [111] ↔ x[i].toNat = 111 := by
 have hlen : (bl x).length = x.size := by unfold bl; rw [Array.length_toList]; rfl
 have hl' : (bl x).length - 1 < (bl x).length := by omega
 have e : (bl x)[(bl x).length - 1] = x[i] := by
  have : (bl x)[(bl x).length - 1]? = some x[i] := by
   rw [hlen, show x.size - 1 = i by omega]
   unfold bl
   rw [Array.getElem?_toList]
   exact Array.getElem?_eq_getElem hl
  rw [List.getElem?_eq_getElem hl'] at this
  exact Option.some.inj this
 rw [last_o h hl', e]
 constructor
 ·intro q; rw [q]; rfl
 ·intro q; exact UInt8.toNat_inj.1 (by rw [q]; rfl)
set_option maxHeartbeats 16000000 in
theorem l6worsened_any (N : List ByteArray) (nN cN : Nat) (AN : Option Addr) (G : List Int) (AG : Option Addr) (m cG : Nat) (st : Int) (L : List CardR) (n cap : Nat) (A : Option Addr) (pk : Nat) (w : World) (hN : TextsZ w AN nN N) (hcN : nN ≤ cN) (hG : IntsZ w AG m G) (hZ : Cards w A n L) (hC : ∀ r ∈ L, CardI r)
  (hpk : pk ≤ 255) (h1 : shV N G L = true) (h0 : 0 < n) (h6 : n ≤ 6) (hcr : crdE N G st L = 0) :
  Calls Tryz.prog 26 #[.agg #[.slice AN nN cN, .slice AG m cG, .int .i64 st], .slice A n cap, .int .i64 (pk : Int)] w (RetPost (.bool true) w) := by
 obtain ⟨i0, hi, hz0, hz1, hz2⟩ := info_parts infoR6Card
 obtain ⟨i1, hi1, hy0, hy1, hy2⟩ := info_parts infoStr
 obtain ⟨⟨hN35, hN40⟩, hG27, hL35, hSH⟩ := shV_true h1
 have hCS := shV_cards h1 hZ
 have hLn : L.length = n := hZ.1
 have hGm : G.length = m := hG.1
 have hNn : N.length = nN := hN.1
 have hsN : ∀ x ∈ N, x.size ≤ maxLen := fun x hx => by have := hN40 x hx; unfold maxLen; omega
 obtain ⟨hv, _, _, _, hrow⟩ := crdE_ok hcr
 have hSS : ∀ q ∈ L, CardS q ∧ q.nh ≤ 100 ∧ q.no ≤ 100 ∧ (q.AH = none → q.ch = 0) ∧ (q.AO = none → q.co = 0) := fun q hq => by
  obtain ⟨a1, a2, a3, _⟩ := hCS q hq
  obtain ⟨_, _, _, a4, a5⟩ := hC q hq
  exact ⟨a1, by omega, by omega, a4, a5⟩
 obtain ⟨k, hk⟩ : ∃ k, pk % n = k := ⟨_, rfl⟩
 have hkn : k < n := by rw [← hk]; exact Nat.mod_lt _ h0
 obtain ⟨r, hkr⟩ : ∃ r, L[k]? = some r := ⟨_, List.getElem?_eq_getElem (by omega)⟩
 have hrm := List.mem_of_getElem? hkr
 have hHl : r.H.length = r.nh := (hCS r hrm).2.2.2.1.1
 have hht : ∀ x ∈ r.H, htE (bl x) = 0 ∧ x.size ≤ 10 := fun x hx => ⟨frmE_ht (hrow k r hkr).2.1 (bl x) (List.mem_map_of_mem hx), (hSH r hrm).2.2.2.1 x hx⟩
 obtain ⟨b, off, rfl⟩ : ∃ b off, A = some ⟨b, off, none⟩ := by
  obtain ⟨b, off, e, _⟩ := hZ.2 h0
  exact ⟨b, off, e⟩
 have hWF : Hid (∀ (t gh ch : Nat) (x : ByteArray), r.H[t]? = some x → endL (bl x) = [111] → (∀ (i : Nat) (y : List UInt8), t < i → (bls r.H)[i]? = some y → endL y ≠ [111]) →
   (∀ q ∈ L.set k (worseC r t x gh ch), CardS q ∧ q.nh ≤ 100 ∧ q.no ≤ 100 ∧ (q.AH = none → q.ch = 0) ∧ (q.AO = none → q.co = 0)) ∧ (crdR N G (L.set k (worseC r t x gh ch)) = 0 → crdE N G st (L.set k (worseC r t x gh ch)) = 0 ∧ ∃ p q, plcBy (standL G L) r.s = some p ∧ plcBy (standL G (L.set k (worseC r t x gh ch))) r.s = some q ∧ p.rk ≤ q.rk)) := Lib.hid fun t gh ch x ht he hp => worse_facts hcr hSS hkr ht (hht x (List.mem_of_getElem? ht)).2 he hp
 have HCK : Hid (∀ (M : List CardR) (A' : Option Addr) (c' : Nat) (w' : World), Below w.heap.size w w' → Cards w' A' n M → (∀ q ∈ M, CardS q) → Calls Tryz.prog 12 #[.agg #[.slice AN nN cN, .slice AG m cG, .int .i64 st], .slice A' n c'] w' (RetPost (.int .i64 (crdR N G M)) w')) := Lib.hid fun M A' c' w' hb hM hs =>
  r6CheckCards_any N nN cN AN G AG m cG st M n c' A' w' (hN.below hb) (by omega) (hG.below hb) (by omega) hM (by omega) hs
 have HCD : Hid (∀ (M : List CardR) (A' : Option Addr) (c' : Nat) (w' : World), (∀ q ∈ M, CardS q ∧ q.nh ≤ 100 ∧ q.no ≤ 100 ∧ (q.AH = none → q.ch = 0) ∧ (q.AO = none → q.co = 0)) → Cards w' A' n M → Calls Tryz.prog 9 #[.slice A' n c'] w' (fun e w'' => ∃ v L', e = .returned v ∧ L'.map cnrm = M.map cnrm ∧ OwnCards w'' w'.heap.size v L' ∧ Below w'.heap.size w' w'')) := Lib.hid fun M A' c' w' hs hM =>
  l6cards_any M n c' A' w' hM (by omega) fun q hq => (hs q hq).2
 have HST : Hid (∀ (M L' : List CardR) (v : Value) (B : Nat) (w' : World), M.length = n → crdE N G st M = 0 → (∀ q ∈ M, CardS q) → L'.map cnrm = M.map cnrm → OwnCards w' B v L' → Below w.heap.size w w' → ∃ A' c', v = .slice A' n c' ∧ Calls Tryz.prog 8 #[.agg #[.slice AN nN cN, .slice AG m cG, .int .i64 st], .slice A' n c'] w' (fun e w'' => ∃ v, e = .returned (.tuple #[v, .int .i64 0]) ∧ OwnPlcs w'' w'.heap.size v (standL G M) ∧ Below w'.heap.size w' w'')) := Lib.hid fun M L' v B w' hMl hME hMS h ho hb => by
  obtain ⟨A', c', rfl, hR⟩ := Cards.of_own ho
  have hl : L'.length = n := (same_cards (N := N) (G := G) (st := st) h).2.2.trans hMl
  rw [hl] at hR ⊢
  exact ⟨A', c', rfl, stand_same (hN.below hb) (by omega) hcN hsN (hG.below hb) (by omega) hR (by omega) h hME hMS⟩
 have HSL : Hid ((∀ q ∈ L, CardS q ∧ q.nh ≤ 100 ∧ q.no ≤ 100 ∧ (q.AH = none → q.ch = 0) ∧ (q.AO = none → q.co = 0)) ∧ crdE N G st L = 0) := Lib.hid ⟨hSS, hcr⟩
 have HCZ : Hid (∀ w', Below w.heap.size w w' → ∀ q ∈ L, CardZ w' q) := Lib.hid fun w' hb q hq => (hCS q hq).2.2.2.below hb
 have HHT := Lib.hid (And.intro hHl hht)
 have HKR := Lib.hid (And.intro hkr (And.intro hkn hLn))
 have H := Lib.hid hZ
 obtain ⟨b', off', r', e', hbl, hr', ⟨r0, r1, r2, r3⟩, hrZ⟩ := hZ.at_ hkn
 obtain ⟨rfl, rfl⟩ : b = b' ∧ off = off' := by simpa using e'
 obtain rfl : r = r' := Option.some.inj (hkr.symm.trans hr')
 have hrn : r.nh ≤ 30 := (hCS r hrm).2.1
 obtain ⟨g, hg⟩ : ∃ g, w.heap.size = g := ⟨_, rfl⟩
 obtain ⟨w1, hw1⟩ : ∃ w1, w.alloc (.cells #[.slice AN nN cN, .slice AG m cG, .int .i64 st] 25) = w1 := ⟨_, rfl⟩
 have hb1 : Below w.heap.size w w1 := by rw [← hw1]; exact balloc _ (Below.refl _ _)
 have hk1 : w1.heap[g]? = some (.cells #[.slice AN nN cN, .slice AG m cG, .int .i64 st] 25 (0, 0)) := by rw [← hw1, ← hg]; exact World.alloc_heap_new w _
 obtain ⟨g2, hg2⟩ : ∃ g, w1.heap.size = g := ⟨_, rfl⟩
 obtain ⟨w2, hw2⟩ : ∃ w2, w1.alloc (.cells #[.string r.s, .slice r.AH r.nh r.ch, .slice r.AO r.no r.co, .bool r.rt] 66) = w2 := ⟨_, rfl⟩
 have hb2 : Below w1.heap.size w1 w2 := by rw [← hw2]; exact balloc _ (Below.refl _ _)
 have hk2 : w2.heap[g2]? = some (.cells #[.string r.s, .slice r.AH r.nh r.ch, .slice r.AO r.no r.co, .bool r.rt] 66 (0, 0)) := by rw [← hw2, ← hg2]; exact World.alloc_heap_new w1 _
 have x0 := (hb1.cell (p := ⟨b, _, none⟩) hbl).trans r0
 have x1 := (hb1.cell (p := ⟨b, _, none⟩) hbl).trans r1
 have x2 := (hb1.cell (p := ⟨b, _, none⟩) hbl).trans r2
 have x3 := (hb1.cell (p := ⟨b, _, none⟩) hbl).trans r3
 have z1 := Go.Joins.cell_of_block hk2 1
 have HB2 : Hid (Below w.heap.size w w2) := Lib.hid (bstep hb1 hb2)
 have HV : Hid (∀ w', Below w2.heap.size w2 w' → w'.cell? ⟨g, 0, none⟩ = some (.slice AN nN cN) ∧ w'.cell? ⟨g, 1, none⟩ = some (.slice AG m cG) ∧ w'.cell? ⟨g, 2, none⟩ = some (.int .i64 st) ∧ w'.cell? ⟨g2, 0, none⟩ = some (.string r.s) ∧ w'.cell? ⟨g2, 1, none⟩ = some (.slice r.AH r.nh r.ch)) := Lib.hid fun w' hb => by
  have hh := ((bstep hb2 hb).block g (Array.getElem?_eq_some_iff.1 hk1).1).trans hk1
  have hh2 := (hb.block g2 (Array.getElem?_eq_some_iff.1 hk2).1).trans hk2
  exact ⟨Go.Joins.cell_of_block hh 0, Go.Joins.cell_of_block hh 1, Go.Joins.cell_of_block hh 2, Go.Joins.cell_of_block hh2 0, Go.Joins.cell_of_block hh2 1⟩
 have HTX : Hid (TextsZ w2 r.AH r.nh r.H) := Lib.hid (hrZ.1.below (bstep hb1 hb2))
 have HHC : Hid (r.nh ≤ r.ch) := Lib.hid hrZ.2.1
 have HGG : Hid (g < w2.heap.size ∧ g2 < w2.heap.size ∧ w.heap.size ≤ w2.heap.size) := Lib.hid ⟨by have := (Array.getElem?_eq_some_iff.1 hk1).1; have := hb2.size; omega, (Array.getElem?_eq_some_iff.1 hk2).1, (bstep hb1 hb2).size⟩
 have hmod : ((pk : Nat) : Int) % ((n : Nat) : Int) = (k : Int) := by rw [← hk]; rfl
 have hn0 : ((n : Int) == 0) = false := by simp; omega
 have hnz : ¬ (n : Int) = 0 := by omega
 have hni : (n : Int) ≤ 35 := by omega
 have hnp : (0 : Int) < (n : Int) := by omega
 have hpi : (pk : Int) ≤ 255 := by omega
 have hki : (k : Int) < (n : Int) := by omega
 have hk0 : (0 : Int) ≤ (k : Int) := by omega
 have hkt : ((k : Int)).toNat = k := by omega
 have hri : (r.nh : Int) ≤ 30 := by omega
 clear hN hcN hG hZ hC h1 hcr hN35 hN40 hG27 hL35 hSH hCS hLn hGm hNn hsN hv hrow hSS hrm hHl hht e' hbl hr' hrZ r0 r1 r2 r3 hb1 hb2 hk1 hk2 hk hpk hkr
 obtain ⟨rs, rAH, rn, rc, rH, rAO, rno, rco, rO, rt⟩ := r
 dsimp only at *
 go_enter Tryz.func26, Tryz.ntmps26
 go_wp2
 clear x0 x1 x2 x3 hw1 hw2 hg hg2
 try simp only [hmod]
 go_loopw [9, 35] (fun v9 i wr => ∃ (j : Nat) (a : Int), j ≤ rn ∧ i = .int .i64 j ∧ v9 = .int .i64 a ∧ AtO (bls rH) j a ∧ w2 = wr) (fun _ i _ => rn - (RowKit.intOf i).toNat)
 case atStart => exact ⟨0, -1, by omega, rfl, rfl, AtO.zero _, rfl⟩
 case round =>
  obtain ⟨j, a, hj, rfl, rfl, hat, rfl⟩ := hrel
  by_cases hlt : j < rn
  ·have hji : (j : Int) < (rn : Int) := by omega
   have hj0 : (0 : Int) ≤ (j : Int) := by omega
   have hjt : ((j : Int)).toNat = j := by omega
   obtain ⟨bx, ox, x, rfl, hbx, hx, hcx⟩ := HTX.out.at_ hlt
   have hhx := HHT.out.2 x (List.mem_of_getElem? hx)
   have hpos : 1 ≤ x.size := by
    have := (htE_ok hhx.1).2.1
    unfold bl at this
    rw [Array.length_toList] at this
    exact this
   obtain ⟨i, hi⟩ : ∃ i, x.size = i + 1 := ⟨x.size - 1, by omega⟩
   have hl : i < x.size := by omega
   have hlb := last_byte hhx.1 hi hl
   have hxb : (bls rH)[j]? = some (bl x) := by unfold bls; rw [List.getElem?_map, hx]; rfl
   have hx10 := hhx.2
   have hsz : (x.size : Int) = (i : Int) + 1 := by omega
   have hw : IntKind.i64.wrap ((x.size : Int) - 1) = (i : Int) := by
    simp [IntKind.wrap, IntKind.bits, IntKind.signed]; omega
   have hw' : IntKind.i64.wrap (((i + 1 : Nat) : Int) - 1) = (i : Int) := by
    simp [IntKind.wrap, IntKind.bits, IntKind.signed]; omega
   have hi0 : (0 : Int) ≤ (i : Int) := by omega
   have hil : (i : Int) < (x.size : Int) := by omega
   have hit : ((i : Int)).toNat = i := by omega
   have hd : (0 : Int) ≤ (i : Int) ∧ (i : Int) < (x.size : Int) := ⟨hi0, hil⟩
   by_cases hc : x[i].toNat = 111
   ·have hb : (((x[i].toNat : Nat) : Int) == 111) = true := by rw [hc]; rfl
    have hat2 := hat.hit hxb (hlb.2 hc)
    clear hat hlb hhx hi hx hxb hpos hbx
    go_wp2
    go_roundw
    case rel => exact ⟨j + 1, j, by omega, by go_num, rfl, hat2, by first | rfl | trivial⟩
    case measure => simp [RowKit.intOf]; omega
   ·have hb : (((x[i].toNat : Nat) : Int) == 111) = false := by simp; omega
    have hat2 := hat.miss hxb fun q => hc (hlb.1 q)
    clear hat hlb hhx hi hx hxb hpos hbx
    go_wp2
    go_roundw
    case rel => exact ⟨j + 1, a, by omega, by go_num, rfl, hat2, by first | rfl | trivial⟩
    case measure => simp [RowKit.intOf]; omega
  ·have hji : ¬ (j : Int) < (rn : Int) := by omega
   obtain rfl : rn = j := by omega
   by_cases ha : a < 0
   ·go_wp2
    go_ret
    exact ⟨rfl, HB2.out⟩
   ·obtain ⟨t, rfl, htn, xb, hxb, hxe⟩ := hat.2.resolve_left (by omega)
    obtain ⟨x, hx, rfl⟩ : ∃ x, rH[t]? = some x ∧ xb = bl x := by
     unfold bls at hxb
     rw [List.getElem?_map] at hxb
     cases hq : rH[t]? with
     | none => rw [hq] at hxb; cases hxb
     | some x => rw [hq] at hxb; exact ⟨x, rfl, (Option.some.inj hxb).symm⟩
    have HF := Lib.hid (fun gh ch => hWF.out t gh ch x hx hxe (fun i y hi hy => hat.1 i y (by have := (List.getElem?_eq_some_iff.1 hy).1; unfold bls at this; rw [List.length_map, HHT.out.1] at this; exact this) (by omega) hy))
    obtain ⟨bx, ox, x', e1, hbx, hx', hcx⟩ := HTX.out.at_ htn
    obtain rfl : x = x' := Option.some.inj (hx.symm.trans hx')
    subst e1
    have hti : (t : Int) < (rn : Int) := by omega
    have ht0 : (0 : Int) ≤ (t : Int) := by omega
    have htt : ((t : Int)).toNat = t := by omega
    have hx10 := (HHT.out.2 x (List.mem_of_getElem? hx)).2
    have HX := Lib.hid hx
    have hcc : rn ≤ rc := HHC.out
    clear hat hxb hxe hx' hbx hcx hx hj hji hWF
    go_wp2_with (at_builtin; refine wpList_append_own_at _ rfl _ _ 26 rfl w2.heap.size 66 i0 (.agg #[.string ⟨#[]⟩, .slice none 0 0, .slice none 0 0, .bool false]) 4 72 Tryz.underlying26 hi hz0 hz1 hz2 rfl (by decide) _ _ _ rfl (World.ownsRow_nil _ _ _ _) ⟨b, off, none⟩ n cap (L.flatMap CardR.cells) rfl (by rw [cards_len, HKR.out.2.2]) ?c1 (cards_one L) ?c3 ?c4 ?c5 ?_)
    case c1 =>
     intro j u hu
     have := cards_cell (H.out.below HB2.out) (by omega) j u hu
     rw [show (⟨b, off, none⟩ : Addr).add j = ⟨b, off + j, none⟩ by simp [Addr.add]] at this
     exact this
    case c3 => unfold maxLen; omega
    case c4 => omega
    intro vo w3 hown hgrow _ _
    try simp only [Nat.zero_add, List.nil_append] at hown
    have hb3 : Below w2.heap.size w2 w3 := (Below.refl _ _).grown hgrow (Nat.le_refl _) (fun r hr => by simp [Value.ownBlock] at hr)
    obtain ⟨gl, hgl⟩ : ∃ p, w3.heap.size = p := ⟨_, rfl⟩
    obtain ⟨w4, hw4⟩ : ∃ w4, w3.alloc (.cells #[] 9) = w4 := ⟨_, rfl⟩
    have hb34 : Below w3.heap.size w3 w4 := by rw [← hw4]; exact balloc _ (Below.refl _ _)
    have hk4 : w2.heap.size ≤ gl ∧ w4.heap[gl]? = some (.cells #[] 9 (0, 0)) := ⟨by rw [← hgl]; exact hb3.size, by rw [← hw4, ← hgl]; exact World.alloc_heap_new w3 _⟩
    have hb4 := bstep hb3 hb34
    have z1 := (HV.out w4 hb4).2.2.2.2
    have ho4 := ownN hown hb34
    have HB4 := Lib.hid hb4
    have HO4 := Lib.hid ho4
    clear hown hgrow hb3 hb34 ho4
    go_wp2_with (at_builtin; refine wpList_append_own_at _ rfl _ _ 22 rfl w2.heap.size 9 i1 (.string ⟨#[]⟩) 1 16 Tryz.underlying22 hi1 hy0 hy1 hy2 rfl (by decide) _ _ _ rfl (litRow hk4) ⟨bx, ox, none⟩ rn rc (rH.map Value.string) rfl (by rw [List.length_map, HHT.out.1]; omega) ?d1 (strs_one _) ?d3 ?d4 ?d5 ?_)
    case d1 =>
     intro j u hu
     have := texts_cell (HTX.out.below HB4.out) _ rfl j u hu
     exact this
    case d3 => unfold maxLen; omega
    case d4 => omega
    case d5 => exact HB4.out.size
    intro vH w5 hownH hgrowH _ _
    try simp only [Nat.zero_add, List.nil_append] at hownH
    have hb5 : Below w2.heap.size w2 w5 := HB4.out.grown hgrowH HB4.out.size (fun r hr => by simp [Value.ownBlock] at hr; omega)
    have ho5 := World.ownsRow.kept HO4.out hgrowH (own_apart (by decide) HO4.out (litRow hk4))
    obtain ⟨gb, c, gh, ch, e1, rfl, f1, f2, f3, f4, f5, f6, f7, f8, f9, hCd, hB⟩ := worse_cards (k := k) (t := t) (x := x) HKR.out.1 (by rw [HKR.out.2.2]; exact ho5) hownH HHT.out.1 HX.out (fun w' hb => HCZ.out w' (bstep HB2.out hb)) hb5 (⟨#[120]⟩ ++ x)
    rw [HKR.out.2.2] at e1 hCd
    subst e1
    have hCd' : Cards _ (some ⟨gb, 0, none⟩) n (L.set k (worseC ⟨rs, some ⟨bx, ox, none⟩, rn, rc, rH, rAO, rno, rco, rO, rt⟩ t x gh ch)) := hCd
    have HF2 := Lib.hid (HF.out gh ch)
    dsimp only at *
    have f6 : w5.cell? ⟨gb, k * 4 + 1, none⟩ = some (.slice (some ⟨bx, ox, none⟩) rn rc) := f6
    have f7' := f7 (k * 4 + 1)
    obtain ⟨wS, hwS⟩ : ∃ wS, w5.setCell ⟨gb, k * 4 + 1, none⟩ (.slice (some ⟨gh, 0, none⟩) rn ch) = wS := ⟨_, rfl⟩
    have s1 : wS.cell? ⟨gb, k * 4 + 1, none⟩ = some (.slice (some ⟨gh, 0, none⟩) rn ch) := by rw [← hwS]; exact World.cell?_setCell_same _ _ _ f6
    have s2 : wS.cell? ⟨gh, t, none⟩ = some (.string x) := by rw [← hwS]; exact (World.cell?_setCell_other _ _ _ _ (fun e => f3 (congrArg Addr.block e))).trans f9
    have s3 : wS.frozen? ⟨gh, t, none⟩ = false := by rw [← hwS]; simp [f8]
    rw [hwS] at hCd' hB
    have hsw : (wS.drew).setCell ⟨gh, t, none⟩ (.string (⟨#[120]⟩ ++ x)) = (wS.setCell ⟨gh, t, none⟩ (.string (⟨#[120]⟩ ++ x))).drew := rfl
    obtain ⟨w6, hw6⟩ : ∃ w6, (wS.setCell ⟨gh, t, none⟩ (.string (⟨#[120]⟩ ++ x))).drew = w6 := ⟨_, rfl⟩
    rw [hsw, hw6] at hCd' hB
    have HW6 := Lib.hid hw6
    obtain ⟨M, hM⟩ : ∃ M, L.set k (worseC ⟨rs, some ⟨bx, ox, none⟩, rn, rc, rH, rAO, rno, rco, rO, rt⟩ t x gh ch) = M := ⟨_, rfl⟩
    rw [hM] at hCd' HF2
    have HCB := Lib.hid (And.intro hCd' hB)
    have HML : Hid (M.length = n) := Lib.hid (by rw [← hM, List.length_set]; exact HKR.out.2.2)
    clear hCd hCd' hB HF hownH hgrowH ho5 hb5 HO4 HB4 hk4 f1 f2 f3 f4 f5 f7 f8 f9 z1 hgl hw6 hM hsw
    go_wp2
    clear f6 f7'
    go_region
    rw [HW6.out]
    clear s1 s2 s3 hwS HW6
    obtain ⟨E, hE⟩ : ∃ E, crdR N G M = E := ⟨_, rfl⟩
    have hck := HCK.out _ _ c w6 (bstep HB2.out HCB.out.2) HCB.out.1 (fun q hq => (HF2.out.1 q hq).1)
    rw [hE] at hck
    obtain ⟨v0, v1, v2, _, _⟩ := HV.out w6 HCB.out.2
    go_wp2_with fail
    with_reducible refine hck.mono ?_
    rintro e w7 ⟨rfl, hb7⟩
    have HB7 := Lib.hid (bstep HCB.out.2 hb7)
    have HCM := Lib.hid (HCB.out.1.below hb7)
    clear v0 v1 v2 hck hb7
    by_cases hr : E = 0
    ·have hb : (E != 0) = false := by rw [hr]; rfl
     obtain ⟨hEM, p, q, hp, hq, hle⟩ := HF2.out.2 (hE.trans hr)
     have HX20 : Hid (∀ w', Below w7.heap.size w7 w' → w'.cell? ⟨g, 0, none⟩ = some (.slice AN nN cN) ∧ w'.cell? ⟨g, 1, none⟩ = some (.slice AG m cG) ∧ w'.cell? ⟨g, 2, none⟩ = some (.int .i64 st) ∧ Below w7.heap.size w7 w') := Lib.hid fun w' hb => by
      obtain ⟨a, b, c, _⟩ := HV.out w' (bstep HB7.out hb)
      exact ⟨a, b, c, hb⟩
     have HPL : Hid ((standL G L).length = n ∧ (standL G M).length = n) := Lib.hid ⟨by rw [standL_len]; exact HKR.out.2.2, by rw [standL_len]; exact HML.out⟩
     have HCD1 : Hid (∀ w', Below w7.heap.size w7 w' → Calls Tryz.prog 9 #[.slice (some ⟨b, off, none⟩) n cap] w' (fun e w'' => ∃ v L', e = .returned v ∧ L'.map cnrm = L.map cnrm ∧ OwnCards w'' w'.heap.size v L' ∧ Below w'.heap.size w' w'')) := Lib.hid fun w' hb => HCD.out L _ cap w' HSL.out.1 (H.out.below (bstep HB2.out (bstep HB7.out hb)))
     have HCD2 : Hid (∀ w', Below w7.heap.size w7 w' → Calls Tryz.prog 9 #[.slice (some ⟨gb, 0, none⟩) n c] w' (fun e w'' => ∃ v L', e = .returned v ∧ L'.map cnrm = M.map cnrm ∧ OwnCards w'' w'.heap.size v L' ∧ Below w'.heap.size w' w'')) := Lib.hid fun w' hb => HCD.out M _ c w' HF2.out.1 (HCM.out.below hb)
     have HSA : Hid (∀ (L' : List CardR) (v : Value) (B : Nat) (w' : World), L'.map cnrm = L.map cnrm → OwnCards w' B v L' → Below w7.heap.size w7 w' → ∃ A' c', v = .slice A' n c' ∧ Calls Tryz.prog 8 #[.agg #[.slice AN nN cN, .slice AG m cG, .int .i64 st], .slice A' n c'] w' (fun e w'' => ∃ v, e = .returned (.tuple #[v, .int .i64 0]) ∧ OwnPlcs w'' w'.heap.size v (standL G L) ∧ Below w'.heap.size w' w'')) := Lib.hid fun L' v B w' h ho hb => HST.out L L' v B w' HKR.out.2.2 HSL.out.2 (fun q hq => (HSL.out.1 q hq).1) h ho (bstep HB2.out (bstep HB7.out hb))
     have HSB : Hid (∀ (L' : List CardR) (v : Value) (B : Nat) (w' : World), L'.map cnrm = M.map cnrm → OwnCards w' B v L' → Below w7.heap.size w7 w' → ∃ A' c', v = .slice A' n c' ∧ Calls Tryz.prog 8 #[.agg #[.slice AN nN cN, .slice AG m cG, .int .i64 st], .slice A' n c'] w' (fun e w'' => ∃ v, e = .returned (.tuple #[v, .int .i64 0]) ∧ OwnPlcs w'' w'.heap.size v (standL G M) ∧ Below w'.heap.size w' w'')) := Lib.hid fun L' v B w' h ho hb => HST.out M L' v B w' HML.out hEM (fun q hq => (HF2.out.1 q hq).1) h ho (bstep HB2.out (bstep HB7.out hb))
     have HPQ := Lib.hid (And.intro hp (And.intro hq hle))
     clear hEM hp hq hle hE hr
     go_wp2
     refine wp_region_held_drew (S := fun w' => w'.cell? ⟨g, 0, none⟩ = some (.slice AN nN cN) ∧ w'.cell? ⟨g, 1, none⟩ = some (.slice AG m cG) ∧ w'.cell? ⟨g, 2, none⟩ = some (.int .i64 st) ∧ Below w7.heap.size w7 w') (by kernel_rfl) ?_ (fun hHeld => ?_)
     ·exact HX20.out _ (Below.drew (Below.refl _ _))
     generalize World.drew _ = wd at hHeld ⊢
     refine zU 0 ?_ rfl ?_ ?_
     rotate_left
     ·rintro w ⟨s0, s1, s2, sb⟩
      go_simp
      try with_reducible rfl
     try simp only [Act.put, zA1, zA2, zA3, zA4, zA5, zA6]
     refine zU 1 ?_ rfl ?_ ?_
     rotate_left
     ·rintro w ⟨s0, s1, s2, sb⟩
      go_simp
      try with_reducible rfl
     try simp only [Act.put, zA1, zA2, zA3, zA4, zA5, zA6]
     refine wpAnyH_ready (rs := [2]) (by kernel_rfl) (by simp) ?_
     refine AllReadyH.cons (o := _) rfl (fun K hKK => ?_) AllReadyH.nil
     go_simp
     go_at_call 9
     refine (HCD1.out _ (hHeld.2.2.2)).mono ?_
     rintro e' w' ⟨vq, L1, rfl, hL1, ho1, hbz⟩
     have hX := bstep hHeld.2.2.2 hbz
     obtain ⟨Aq, cq, rfl, HK⟩ := HSA.out L1 _ _ w' hL1 ho1 (hX)
     clear hHeld hbz ho1 hL1
     go_wp2_with fail
     refine hKK.out _ _ ?_ (fun hHeld => ?_)
     ·exact HX20.out _ hX
     clear hKK K
     try simp only [Act.put, zA1, zA2, zA3, zA4, zA5, zA6]
     clear hX
     refine wpAnyH_ready (rs := [3]) (by kernel_rfl) (by simp) ?_
     refine AllReadyH.cons (o := _) rfl (fun K hKK => ?_) AllReadyH.nil
     go_simp
     go_at_call 8
     with_reducible refine HK.mono ?_
     rintro e' w8 ⟨vf, rfl, hof, hbz⟩
     have hX := bstep hHeld.2.2.2 hbz
     obtain ⟨Aa, cAa, rfl, hPAa⟩ := PlcsZ.of_own hof
     rw [HPL.out.1] at hPAa ⊢
     have HPAa := Lib.hid hPAa
     clear hHeld hbz HK hof hPAa
     go_wp2_with fail
     refine hKK.out _ _ ?_ (fun hHeld => ?_)
     ·exact HX20.out _ hX
     clear hKK K
     try simp only [Act.put, zA1, zA2, zA3, zA4, zA5, zA6]
     clear hX
     refine zU 4 ?_ rfl ?_ ?_
     rotate_left
     ·rintro w ⟨s0, s1, s2, sb⟩
      go_simp
      try with_reducible rfl
     try simp only [Act.put, zA1, zA2, zA3, zA4, zA5, zA6]
     refine zU 5 ?_ rfl ?_ ?_
     rotate_left
     ·rintro w ⟨s0, s1, s2, sb⟩
      go_simp
      try with_reducible rfl
     try simp only [Act.put, zA1, zA2, zA3, zA4, zA5, zA6]
     refine zU 6 ?_ rfl ?_ ?_
     rotate_left
     ·rintro w ⟨s0, s1, s2, sb⟩
      go_simp
      try with_reducible rfl
     try simp only [Act.put, zA1, zA2, zA3, zA4, zA5, zA6]
     refine zU 7 ?_ rfl ?_ ?_
     rotate_left
     ·rintro w ⟨s0, s1, s2, sb⟩
      go_simp
      try with_reducible rfl
     try simp only [Act.put, zA1, zA2, zA3, zA4, zA5, zA6]
     refine zU 8 ?_ rfl ?_ ?_
     rotate_left
     ·rintro w ⟨s0, s1, s2, sb⟩
      go_simp
      try with_reducible rfl
     try simp only [Act.put, zA1, zA2, zA3, zA4, zA5, zA6]
     refine wpAnyH_done (by kernel_rfl) ?_ _
     have HB8 := Lib.hid hHeld.2.2.2
     have HX21 : Hid (∀ w', Below w8.heap.size w8 w' → w'.cell? ⟨g, 0, none⟩ = some (.slice AN nN cN) ∧ w'.cell? ⟨g, 1, none⟩ = some (.slice AG m cG) ∧ w'.cell? ⟨g, 2, none⟩ = some (.int .i64 st) ∧ Below w8.heap.size w8 w') := Lib.hid fun w' hb => by
      obtain ⟨a, b, c, _⟩ := HX20.out w' (bstep HB8.out hb)
      exact ⟨a, b, c, hb⟩
     clear hHeld
     go_wp2
     refine wp_region_held_drew (S := fun w' => w'.cell? ⟨g, 0, none⟩ = some (.slice AN nN cN) ∧ w'.cell? ⟨g, 1, none⟩ = some (.slice AG m cG) ∧ w'.cell? ⟨g, 2, none⟩ = some (.int .i64 st) ∧ Below w8.heap.size w8 w') (by kernel_rfl) ?_ (fun hHeld => ?_)
     ·exact HX21.out _ (Below.drew (Below.refl _ _))
     generalize World.drew _ = wd at hHeld ⊢
     refine zU 0 ?_ rfl ?_ ?_
     rotate_left
     ·rintro w ⟨s0, s1, s2, sb⟩
      go_simp
      try with_reducible rfl
     try simp only [Act.put, zA1, zA2, zA3, zA4, zA5, zA6]
     refine zU 1 ?_ rfl ?_ ?_
     rotate_left
     ·rintro w ⟨s0, s1, s2, sb⟩
      go_simp
      try with_reducible rfl
     try simp only [Act.put, zA1, zA2, zA3, zA4, zA5, zA6]
     refine wpAnyH_ready (rs := [2]) (by kernel_rfl) (by simp) ?_
     refine AllReadyH.cons (o := _) rfl (fun K hKK => ?_) AllReadyH.nil
     go_simp
     go_at_call 9
     refine (HCD2.out _ (bstep HB8.out hHeld.2.2.2)).mono ?_
     rintro e' w' ⟨vq, L1, rfl, hL1, ho1, hbz⟩
     have hX := bstep hHeld.2.2.2 hbz
     obtain ⟨Aq, cq, rfl, HK⟩ := HSB.out L1 _ _ w' hL1 ho1 (bstep HB8.out hX)
     clear hHeld hbz ho1 hL1
     go_wp2_with fail
     refine hKK.out _ _ ?_ (fun hHeld => ?_)
     ·exact HX21.out _ hX
     clear hKK K
     try simp only [Act.put, zA1, zA2, zA3, zA4, zA5, zA6]
     clear hX
     refine wpAnyH_ready (rs := [3]) (by kernel_rfl) (by simp) ?_
     refine AllReadyH.cons (o := _) rfl (fun K hKK => ?_) AllReadyH.nil
     go_simp
     go_at_call 8
     with_reducible refine HK.mono ?_
     rintro e' w9 ⟨vf, rfl, hof, hbz⟩
     have hX := bstep hHeld.2.2.2 hbz
     obtain ⟨Ab, cAb, rfl, hPAb⟩ := PlcsZ.of_own hof
     rw [HPL.out.2] at hPAb ⊢
     have HPAb := Lib.hid hPAb
     clear hHeld hbz HK hof hPAb
     go_wp2_with fail
     refine hKK.out _ _ ?_ (fun hHeld => ?_)
     ·exact HX21.out _ hX
     clear hKK K
     try simp only [Act.put, zA1, zA2, zA3, zA4, zA5, zA6]
     clear hX
     refine zU 4 ?_ rfl ?_ ?_
     rotate_left
     ·rintro w ⟨s0, s1, s2, sb⟩
      go_simp
      try with_reducible rfl
     try simp only [Act.put, zA1, zA2, zA3, zA4, zA5, zA6]
     refine zU 5 ?_ rfl ?_ ?_
     rotate_left
     ·rintro w ⟨s0, s1, s2, sb⟩
      go_simp
      try with_reducible rfl
     try simp only [Act.put, zA1, zA2, zA3, zA4, zA5, zA6]
     refine zU 6 ?_ rfl ?_ ?_
     rotate_left
     ·rintro w ⟨s0, s1, s2, sb⟩
      go_simp
      try with_reducible rfl
     try simp only [Act.put, zA1, zA2, zA3, zA4, zA5, zA6]
     refine zU 7 ?_ rfl ?_ ?_
     rotate_left
     ·rintro w ⟨s0, s1, s2, sb⟩
      go_simp
      try with_reducible rfl
     try simp only [Act.put, zA1, zA2, zA3, zA4, zA5, zA6]
     refine zU 8 ?_ rfl ?_ ?_
     rotate_left
     ·rintro w ⟨s0, s1, s2, sb⟩
      go_simp
      try with_reducible rfl
     try simp only [Act.put, zA1, zA2, zA3, zA4, zA5, zA6]
     refine wpAnyH_done (by kernel_rfl) ?_ _
     have HPA := Lib.hid (HPAa.out.below hHeld.2.2.2)
     have HB9 := Lib.hid (bstep HB7.out (bstep HB8.out hHeld.2.2.2))
     clear hHeld
     have hpl1 : ∀ w', Below w9.heap.size w9 w' → Calls Tryz.prog 25 #[.slice Aa n cAa, .string rs] w' (RetPost (.tuple #[p.val, .bool true]) w') := fun w' hb => by
      have := l6placed_any (standL G L) n cAa Aa rs w' (HPA.out.below hb) (by omega)
      rw [HPQ.out.1] at this; exact this
     have hpl2 : ∀ w', Below w9.heap.size w9 w' → Calls Tryz.prog 25 #[.slice Ab n cAb, .string rs] w' (RetPost (.tuple #[q.val, .bool true]) w') := fun w' hb => by
      have := l6placed_any (standL G M) n cAb Ab rs w' (HPAb.out.below hb) (by omega)
      rw [HPQ.out.2.1] at this; exact this
     have hle := HPQ.out.2.2
     obtain ⟨p1, p2, p3, p4, p5⟩ := p
     obtain ⟨q1, q2, q3, q4, q5⟩ := q
     unfold Plc.val at hpl1 hpl2
     dsimp only at hpl1 hpl2 hle
     have HPL1 := Lib.hid hpl1
     have HPL2 := Lib.hid hpl2
     obtain ⟨_, _, _, y0, _⟩ := HV.out w9 HB9.out
     clear hpl1 hpl2 HX20 HX21 HCD1 HCD2 HSA HSB HPA HPAa HPAb HPQ
     go_wp2_with fail
     refine (HPL1.out _ (Below.refl _ _)).mono ?_
     rintro e wa ⟨rfl, hba⟩
     obtain ⟨ga, hga⟩ : ∃ g, wa.heap.size = g := ⟨_, rfl⟩
     obtain ⟨wA, hwA⟩ : ∃ w', wa.alloc (.cells #[.string p1, .int .i64 p2, .string p3, .int .i64 p4, .string p5] 61) = w' := ⟨_, rfl⟩
     have hbA : Below w9.heap.size w9 wA := by rw [← hwA]; exact hba.alloc hba.size _
     have a1 : wA.cell? ⟨ga, 1, none⟩ = some (.int .i64 p2) := by rw [← hwA, ← hga]; simp
     have hga1 : ga < wA.heap.size := by rw [← hwA, ← hga]; simp
     have HA1 := Lib.hid (And.intro hga1 a1)
     have HBA := Lib.hid hbA
     obtain ⟨_, _, _, y0, _⟩ := HV.out wA (bstep HB9.out hbA)
     clear hbA hba a1 hga1
     go_wp2_with fail
     refine (HPL2.out _ HBA.out).mono ?_
     rintro e wb ⟨rfl, hbb⟩
     obtain ⟨gb2, hgb⟩ : ∃ g, wb.heap.size = g := ⟨_, rfl⟩
     obtain ⟨wB, hwB⟩ : ∃ w', wb.alloc (.cells #[.string q1, .int .i64 q2, .string q3, .int .i64 q4, .string q5] 61) = w' := ⟨_, rfl⟩
     have hbB : Below wA.heap.size wA wB := by rw [← hwB]; exact hbb.alloc hbb.size _
     have b1 : wB.cell? ⟨gb2, 1, none⟩ = some (.int .i64 q2) := by rw [← hwB, ← hgb]; simp
     have a1 := (hbB.cell (p := ⟨ga, 1, none⟩) HA1.out.1).trans HA1.out.2
     have hfin := bstep HB2.out (bstep HB9.out (bstep HBA.out hbB))
     clear hbB hbb hwA hga y0
     go_wp2
     go_ret
     exact ⟨rfl, hfin⟩
    ·have hb : (E != 0) = true := by simp [hr]
     go_wp2
     go_ret
     exact ⟨rfl, bstep HB2.out HB7.out⟩
end Go.Mk
