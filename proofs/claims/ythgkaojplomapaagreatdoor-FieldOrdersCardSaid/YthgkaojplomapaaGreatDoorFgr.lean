/-
  Proved: the law FieldOrders returns true, once awake and worsened do, and leaves all that was there, for cards that are short, at most 6, and have no error. Conditions: the texts, the heights and the cards lie where the slices say.
-/
import Derived.Test.YthgkaojplomapaaGreatDoorFgo
import Derived.Test.YthgkaojplomapaaGreatDoorFvh
set_option linter.unusedVariables false
set_option linter.unusedSimpArgs false
open Go Go.Proofs Go.RowKit
set_option maxRecDepth 100000
namespace Go.Mk
set_option maxHeartbeats 16000000 in
theorem ord6_main (N : List ByteArray) (nN cN : Nat) (AN : Option Addr) (G : List Int) (AG : Option Addr) (m cG : Nat) (st : Int) (L : List CardR) (n cap : Nat) (A : Option Addr) (pk : Nat) (w : World) (hN : TextsZ w AN nN N) (hcN : nN ≤ cN) (hG : IntsZ w AG m G) (hZ : Cards w A n L) (hC : ∀ r ∈ L, CardI r)
  (hSV : Calls Tryz.prog 6 #[.agg #[.slice AN nN cN, .slice AG m cG, .int .i64 st], .slice A n cap] (w.alloc (.cells #[.slice AN nN cN, .slice AG m cG, .int .i64 st] 25)) (RetPost (.bool true) (w.alloc (.cells #[.slice AN nN cN, .slice AG m cG, .int .i64 st] 25))))
  (hA : ∀ w', Below w.heap.size w w' → Calls Tryz.prog 7 #[] w' (RetPost (.bool true) w')) (hW : ∀ w', Below w.heap.size w w' → Calls Tryz.prog 26 #[.agg #[.slice AN nN cN, .slice AG m cG, .int .i64 st], .slice A n cap, .int .i64 (pk : Int)] w' (RetPost (.bool true) w'))
  (hpk : pk ≤ 255) (h1 : shV N G L = true) (h6 : n ≤ 6) (hv : verE N G st = 0) (hr : crdR N G L = 0) :
  Calls Tryz.prog 5 #[.agg #[.slice AN nN cN, .slice AG m cG, .int .i64 st], .slice A n cap, .int .u8 (pk : Int)] w (RetPost (.bool true) w) := by
 obtain ⟨i0, hi, hz0, hz1, hz2⟩ := info_parts infoR6Card
 obtain ⟨i1, hi1, hy0, hy1, hy2⟩ := info_parts infoStr
 obtain ⟨⟨hN35, hN40⟩, hG27, hL35, _⟩ := shV_true h1
 have hCS := shV_cards h1 hZ
 have hLn : L.length = n := hZ.1
 have hGm : G.length = m := hG.1
 have hNn : N.length = nN := hN.1
 have hcr : crdE N G st L = 0 := (crdR_crdE hv).2 hr
 obtain ⟨_, hLN, hpos, _, hrow⟩ := crdE_ok hcr
 have hsN : ∀ x ∈ N, x.size ≤ maxLen := fun x hx => by have := hN40 x hx; unfold maxLen; omega
 obtain ⟨g, hg⟩ : ∃ g, w.heap.size = g := ⟨_, rfl⟩
 obtain ⟨w1, hw1⟩ : ∃ w1, w.alloc (.cells #[.slice AN nN cN, .slice AG m cG, .int .i64 st] 25) = w1 := ⟨_, rfl⟩
 rw [hw1] at hSV
 have hb1 : Below w.heap.size w w1 := by rw [← hw1]; exact balloc _ (Below.refl _ _)
 have hk1 : w1.heap[g]? = some (.cells #[.slice AN nN cN, .slice AG m cG, .int .i64 st] 25 (0, 0)) := by rw [← hw1, ← hg]; exact World.alloc_heap_new w _
 have hs1 : w1.heap.size = g + 1 := by rw [← hw1, ← hg]; simp
 have v0 := Go.Joins.cell_of_block hk1 0
 have v1 := Go.Joins.cell_of_block hk1 1
 have v2 := Go.Joins.cell_of_block hk1 2
 have HK1 : Hid (∀ w', Below w1.heap.size w1 w' → w'.heap[g]? = some (.cells #[.slice AN nN cN, .slice AG m cG, .int .i64 st] 25 (0, 0))) := Lib.hid fun w' hb => (hb.block g (by omega)).trans hk1
 have HCV : Hid (∀ w', Below w1.heap.size w1 w' → Calls Tryz.prog 11 #[.agg #[.slice AN nN cN, .slice AG m cG, .int .i64 st]] w' (RetPost (.int .i64 0) w')) := Lib.hid fun w' hb => by
  rw [← hv]
  exact r6CheckVertical_any N nN cN AN G m cG AG st w' (hN.below (bstep hb1 hb)) (by omega) hsN (hG.below (bstep hb1 hb)) (by omega)
 have HCC : Hid (∀ w', Below w1.heap.size w1 w' → Calls Tryz.prog 12 #[.agg #[.slice AN nN cN, .slice AG m cG, .int .i64 st], .slice A n cap] w' (RetPost (.int .i64 0) w')) := Lib.hid fun w' hb => by
  rw [← hr]
  exact r6CheckCards_any N nN cN AN G AG m cG st L n cap A w' (hN.below (bstep hb1 hb)) (by omega) (hG.below (bstep hb1 hb)) (by omega) (hZ.below (bstep hb1 hb)) (by omega) (fun r hr => (hCS r hr).1)
 have HAW := Lib.hid hA
 have HWO := Lib.hid hW
 -- copies of cards, and their standings
 have hcp : ∀ (M : List CardR), (∀ r ∈ M, ∃ q ∈ L, r = q ∨ r = plainC q) → M.length = n → (∀ r ∈ M, CardS r) ∧ ∀ r ∈ M, r.nh ≤ 100 ∧ r.no ≤ 100 ∧ (r.AH = none → r.ch = 0) ∧ (r.AO = none → r.co = 0) := fun M hM _ => by
  refine ⟨fun r hr => ?_, fun r hr => ?_⟩
  ·obtain ⟨q, hq, e⟩ := hM r hr
   obtain ⟨⟨a1, a2, a3, a4, a5⟩, _⟩ := hCS q hq
   rcases e with rfl | rfl
   ·exact ⟨a1, a2, a3, a4, a5⟩
   ·exact ⟨a1, a2, Nat.zero_le _, a4, fun x hx => by cases hx⟩
  ·obtain ⟨q, hq, e⟩ := hM r hr
   obtain ⟨_, a2, a3, _⟩ := hCS q hq
   obtain ⟨_, _, _, a4, a5⟩ := hC q hq
   rcases e with rfl | rfl
   ·exact ⟨by omega, by omega, a4, a5⟩
   ·exact ⟨by show q.nh ≤ 100; omega, Nat.zero_le _, a4, fun _ => rfl⟩
 have hM1 : ∀ r ∈ L, ∃ q ∈ L, r = q ∨ r = plainC q := fun r hr => ⟨r, hr, .inl rfl⟩
 have hM2 : ∀ r ∈ L.reverse, ∃ q ∈ L, r = q ∨ r = plainC q := fun r hr => ⟨r, List.mem_reverse.1 hr, .inl rfl⟩
 have hM3 : ∀ r ∈ L.map plainC, ∃ q ∈ L, r = q ∨ r = plainC q := fun r hr => by
  obtain ⟨q, hq, e⟩ := List.mem_map.1 hr
  exact ⟨q, hq, .inr e.symm⟩
 have hc1 := hcp L hM1 hLn
 have hc2 := hcp L.reverse hM2 (by rw [List.length_reverse]; exact hLn)
 have hc3 := hcp (L.map plainC) hM3 (by rw [List.length_map]; exact hLn)
 have hcd : ∀ (M : List CardR) (A' : Option Addr) (c' : Nat) (w' : World), (∀ r ∈ M, r.nh ≤ 100 ∧ r.no ≤ 100 ∧ (r.AH = none → r.ch = 0) ∧ (r.AO = none → r.co = 0)) → Cards w' A' n M → Calls Tryz.prog 9 #[.slice A' n c'] w' (fun e w'' => ∃ v L', e = .returned v ∧ L'.map cnrm = M.map cnrm ∧ OwnCards w'' w'.heap.size v L' ∧ Below w'.heap.size w' w'') := fun M A' c' w' hM hZ' => l6cards_any M n c' A' w' hZ' (by omega) hM
 have hst : ∀ (M : List CardR) (N' : List ByteArray) (AN' : Option Addr) (cN' : Nat) (L' : List CardR) (v : Value) (B : Nat) (w' : World), M.length = n → (∀ r ∈ M, CardS r) → crdE N' G st M = 0 → TextsZ w' AN' nN N' → nN ≤ cN' → (∀ x ∈ N', x.size ≤ maxLen) → IntsZ w' AG m G → L'.map cnrm = M.map cnrm → OwnCards w' B v L' → ∃ A' c', v = .slice A' n c' ∧ Calls Tryz.prog 8 #[.agg #[.slice AN' nN cN', .slice AG m cG, .int .i64 st], .slice A' n c'] w' (fun e w'' => ∃ v, e = .returned (.tuple #[v, .int .i64 0]) ∧ OwnPlcs w'' w'.heap.size v (standL G M) ∧ Below w'.heap.size w' w'') := fun M N' AN' cN' L' v B w' hMl hMS hME hN' hc' hs' hG' h ho => by
  obtain ⟨A', c', rfl, hR⟩ := Cards.of_own ho
  have hl : L'.length = n := (same_cards (N := N') (G := G) (st := st) h).2.2.trans hMl
  rw [hl] at hR ⊢
  exact ⟨A', c', rfl, stand_same hN' (by omega) hc' hs' hG' (by omega) hR (by omega) h hME hMS⟩
 have HST1 : Hid (∀ (L' : List CardR) (v : Value) (B : Nat) (w' : World), L'.map cnrm = L.map cnrm → OwnCards w' B v L' → Below w.heap.size w w' → ∃ A' c', v = .slice A' n c' ∧ Calls Tryz.prog 8 #[.agg #[.slice AN nN cN, .slice AG m cG, .int .i64 st], .slice A' n c'] w' (fun e w'' => ∃ v, e = .returned (.tuple #[v, .int .i64 0]) ∧ OwnPlcs w'' w'.heap.size v (standL G L) ∧ Below w'.heap.size w' w'')) := Lib.hid fun L' v B w' h ho hb =>
  hst L N AN cN L' v B w' hLn hc1.1 hcr (hN.below hb) hcN hsN (hG.below hb) h ho
 have HST2 : Hid (∀ (AN' : Option Addr) (cN' : Nat) (L' : List CardR) (v : Value) (B : Nat) (w' : World), L'.map cnrm = L.reverse.map cnrm → OwnCards w' B v L' → Below w.heap.size w w' → TextsZ w' AN' nN N.reverse → nN ≤ cN' → ∃ A' c', v = .slice A' n c' ∧ Calls Tryz.prog 8 #[.agg #[.slice AN' nN cN', .slice AG m cG, .int .i64 st], .slice A' n c'] w' (fun e w'' => ∃ v, e = .returned (.tuple #[v, .int .i64 0]) ∧ OwnPlcs w'' w'.heap.size v (standL G L.reverse) ∧ Below w'.heap.size w' w'')) := Lib.hid fun AN' cN' L' v B w' h ho hb hN' hc' =>
  hst L.reverse N.reverse AN' cN' L' v B w' (by rw [List.length_reverse]; exact hLn) hc2.1 (crdE_reverse hcr) hN' hc' (fun x hx => hsN x (List.mem_reverse.1 hx)) (hG.below hb) h ho
 have HST3 : Hid (∀ (L' : List CardR) (v : Value) (B : Nat) (w' : World), L'.map cnrm = (L.map plainC).map cnrm → OwnCards w' B v L' → Below w.heap.size w w' → ∃ A' c', v = .slice A' n c' ∧ Calls Tryz.prog 8 #[.agg #[.slice AN nN cN, .slice AG m cG, .int .i64 st], .slice A' n c'] w' (fun e w'' => ∃ v, e = .returned (.tuple #[v, .int .i64 0]) ∧ OwnPlcs w'' w'.heap.size v (standL G (L.map plainC)) ∧ Below w'.heap.size w' w'')) := Lib.hid fun L' v B w' h ho hb =>
  hst (L.map plainC) N AN cN L' v B w' (by rw [List.length_map]; exact hLn) hc3.1 (crdE_plain hcr) (hN.below hb) hcN hsN (hG.below hb) h ho
 have HCD : Hid (∀ (M : List CardR) (A' : Option Addr) (c' : Nat) (w' : World), (M = L ∨ M = L.reverse ∨ M = L.map plainC) → Cards w' A' n M → Calls Tryz.prog 9 #[.slice A' n c'] w' (fun e w'' => ∃ v L', e = .returned v ∧ L'.map cnrm = M.map cnrm ∧ OwnCards w'' w'.heap.size v L' ∧ Below w'.heap.size w' w'')) := Lib.hid fun M A' c' w' hM hZ' => by
  rcases hM with rfl | rfl | rfl
  ·exact hcd _ A' c' w' hc1.2 hZ'
  ·exact hcd _ A' c' w' hc2.2 hZ'
  ·exact hcd _ A' c' w' hc3.2 hZ'
 have HPL : Hid ((standL G L).length = n ∧ (standL G L.reverse).length = n ∧ (standL G (L.map plainC)).length = n) := Lib.hid ⟨by rw [standL_len, hLn], by rw [standL_len, List.length_reverse, hLn], by rw [standL_len, List.length_map, hLn]⟩
 have HAS : Hid (∀ (i : Nat) (x : CardR), L[i]? = some x → ∃ p r s : Plc, plcBy (standL G L) x.s = some p ∧ plcBy (standL G L.reverse) x.s = some r ∧ plcBy (standL G (L.map plainC)) x.s = some s ∧ AskO p r s) := Lib.hid fun i x hi => orders_asked hcr hi
 have HPR : Hid (∀ (i j : Nat) (x y : CardR) (p o : Plc), L[i]? = some x → L[j]? = some y → plcBy (standL G L) x.s = some p → plcBy (standL G L) y.s = some o → 0 < p.rk → 0 < o.rk → o.vl < p.vl → p.rk < o.rk) := Lib.hid fun i j x y p o hi hj hp ho a b c => orders_pair hcr (fun r hr => (hCS r hr).2.2.2.1.1) hi hj hp ho a b c
 have HNM : Hid (L.reverse.map (·.s) = N.reverse ∧ N.length = nN ∧ n = nN) := Lib.hid ⟨by rw [List.map_reverse, names_eq hLN fun k r hk => (hrow k r hk).1], hNn, by omega⟩
 have HCZ : Hid (∀ w', Below w.heap.size w w' → ∀ r ∈ L, CardZ w' r) := Lib.hid fun w' hb r hr => (hCS r hr).2.2.2.below hb
 have H := Lib.hid hZ
 have HL := Lib.hid hLn
 have HB1 := Lib.hid hb1
 have HG := Lib.hid (And.intro hg hs1)
 have hn6 : decide ((6 : Int) < (n : Int)) = false := by simp; omega
 have hni : (n : Int) ≤ 6 := by omega
 have hnp : (0 : Int) < (n : Int) := by omega
 have hpi : (pk : Int) ≤ 255 := by omega
 have hnd : ¬ (6 : Int) < (n : Int) := by omega
 clear hN hcN hG hZ hC hA hW h1 h6 hv hr hN35 hN40 hG27 hL35 hCS hLn hGm hNn hcr hLN hpos hrow hsN hb1 hk1 hcp hM1 hM2 hM3 hc1 hc2 hc3 hcd hst hpk
 go_enter Tryz.func5, Tryz.ntmps5
 go_wp2_with fail
 refine hSV.mono ?_
 rintro e w2 ⟨rfl, hb2⟩
 have HB2 := Lib.hid hb2
 have hk2 := HK1.out w2 hb2
 clear hb2 hSV v0 v1 v2
 have v0 := Go.Joins.cell_of_block hk2 0
 have v1 := Go.Joins.cell_of_block hk2 1
 have v2 := Go.Joins.cell_of_block hk2 2
 clear hk2
 go_wp2_with fail
 refine (HCV.out _ HB2.out).mono ?_
 rintro e w3 ⟨rfl, hb3⟩
 have HB3 := Lib.hid (bstep HB2.out hb3)
 clear hb3 v0 v1 v2
 have hk3 := HK1.out w3 HB3.out
 have v0 := Go.Joins.cell_of_block hk3 0
 have v1 := Go.Joins.cell_of_block hk3 1
 have v2 := Go.Joins.cell_of_block hk3 2
 clear hk3
 go_wp2_with fail
 refine (HCC.out _ HB3.out).mono ?_
 rintro e w4 ⟨rfl, hb4⟩
 have HB4 := Lib.hid (bstep HB3.out hb4)
 clear hb4 v0 v1 v2
 have hk4 := HK1.out w4 HB4.out
 have v0 := Go.Joins.cell_of_block hk4 0
 have v1 := Go.Joins.cell_of_block hk4 1
 have v2 := Go.Joins.cell_of_block hk4 2
 clear hk4
 obtain ⟨g7, hg7⟩ : ∃ p, w4.heap.size = p := ⟨_, rfl⟩
 obtain ⟨w5, hw5⟩ : ∃ w5, w4.alloc (.cells #[.slice AN nN cN, .slice AG m cG, .int .i64 st] 33) = w5 := ⟨_, rfl⟩
 have hb5 : Below w4.heap.size w4 w5 := by rw [← hw5]; exact balloc _ (Below.refl _ _)
 have hk7 : w5.heap[g7]? = some (.cells #[.slice AN nN cN, .slice AG m cG, .int .i64 st] 33 (0, 0)) := by rw [← hw5, ← hg7]; exact World.alloc_heap_new w4 _
 obtain ⟨g8, hg8⟩ : ∃ p, w5.heap.size = p := ⟨_, rfl⟩
 obtain ⟨w6, hw6⟩ : ∃ w6, w5.alloc (.cells #[.slice none 0 0, .slice AG m cG, .int .i64 st] 33) = w6 := ⟨_, rfl⟩
 have hb6 : Below w5.heap.size w5 w6 := by rw [← hw6]; exact balloc _ (Below.refl _ _)
 have hk8 : w6.heap[g8]? = some (.cells #[.slice none 0 0, .slice AG m cG, .int .i64 st] 33 (0, 0)) := by rw [← hw6, ← hg8]; exact World.alloc_heap_new w5 _
 have hk5 := HK1.out w5 (bstep HB4.out hb5)
 have u0 := Go.Joins.cell_of_block hk5 0
 have u1 := Go.Joins.cell_of_block hk5 1
 have u2 := Go.Joins.cell_of_block hk5 2
 have hl7 := (Array.getElem?_eq_some_iff.1 hk7).1
 have hLO : LoopO w g g7 g8 AN AG nN cN m cG st (.slice none 0 0) (.slice none 0 0) (.slice none 0 0) (.slice none 0 0) [] [] [] w6 :=
  ⟨HK1.out w6 (bstep HB4.out (bstep hb5 hb6)), (hb6.block g7 hl7).trans hk7, hk8, World.ownsRow_nil _ _ _ _, World.ownsRow_nil _ _ _ _, World.ownsRow_nil _ _ _ _, (fun q h => by simp [Value.ownBlock] at h), bstep HB1.out (bstep HB4.out (bstep hb5 hb6))⟩
 have hgg : w.heap.size ≤ g8 ∧ g ≠ g8 ∧ g7 ≠ g8 := by
  have h1 := HG.out
  have h2 := HB4.out.size
  have h3 := hb5.size
  refine ⟨by omega, by omega, by omega⟩
 have HLO := Lib.hid hLO
 have HGG := Lib.hid hgg
 clear hk7 hk8 hk5 hb5 hb6 hLO hgg hl7
 go_wp2
 clear v0 v1 v2 u0 u1 u2 hg7 hg8 hw5 hw6 hw1 hg
 go_loopw [9, 10, 61] (fun v9 v10 i wr => ∃ (j : Nat) (vN : Value), j ≤ n ∧ i = .int .i64 j ∧ LoopO w g g7 g8 AN AG nN cN m cG st vN v9 v10 vN (L.reverse.take j) ((L.take j).map plainC) ((L.reverse.take j).map (·.s)) wr) (fun _ _ i _ => n - (RowKit.intOf i).toNat)
 case atStart => exact ⟨0, .slice none 0 0, by omega, rfl, HLO.out⟩
 case round =>
  obtain ⟨j, vN, hj, rfl, hlo⟩ := hrel
  by_cases hlt : j < n
  ·have hji : (j : Int) < (n : Int) := by omega
   have hj0 : (0 : Int) ≤ (j : Int) := by omega
   have hjt : ((j : Int)).toNat = j := by omega
   obtain ⟨m', hm'⟩ : ∃ m', n - 1 - j = m' := ⟨_, rfl⟩
   have hw1 : IntKind.i64.wrap ((n : Int) - 1) = (n : Int) - 1 := by
    simp [IntKind.wrap, IntKind.bits, IntKind.signed]; omega
   have hw2 : IntKind.i64.wrap ((n : Int) - 1 - (j : Int)) = (m' : Int) := by
    simp [IntKind.wrap, IntKind.bits, IntKind.signed]; omega
   have hmn : (m' : Int) < (n : Int) := by omega
   have hm0 : (0 : Int) ≤ (m' : Int) := by omega
   have hmt : ((m' : Int)).toNat = m' := by omega
   have hmI : (n : Int) - 1 - (j : Int) = (m' : Int) := by omega
   obtain ⟨b', off, x, rfl, hbl, hx, ⟨x0', x1', x2', x3'⟩, hCX⟩ := H.out.at_ (k := m') (by omega)
   obtain ⟨bq, oq, y, e0, _, hy, ⟨y0, y1, y2, y3⟩, hCY⟩ := H.out.at_ (k := j) hlt
   have x0 := (hlo.bel.cell (p := ⟨b', _, none⟩) hbl).trans x0'
   have x1 := (hlo.bel.cell (p := ⟨b', _, none⟩) hbl).trans x1'
   have x2 := (hlo.bel.cell (p := ⟨b', _, none⟩) hbl).trans x2'
   have x3 := (hlo.bel.cell (p := ⟨b', _, none⟩) hbl).trans x3'
   obtain ⟨rfl, rfl⟩ : b' = bq ∧ off = oq := by simpa using e0
   obtain ⟨P, hP⟩ : ∃ P, L.reverse.take j = P := ⟨_, rfl⟩
   obtain ⟨Q, hQ⟩ : ∃ Q, (L.take j).map plainC = Q := ⟨_, rfl⟩
   obtain ⟨Ns, hNs⟩ : ∃ Ns, P.map (·.s) = Ns := ⟨_, rfl⟩
   have hPl : P.length = j := by rw [← hP, List.length_take, List.length_reverse, HL.out]; omega
   have hQl : Q.length = j := by rw [← hQ, List.length_map, List.length_take, HL.out]; omega
   have hNl : Ns.length = j := by rw [← hNs, List.length_map]; exact hPl
   have hxr : L.reverse[j]? = some x := by
    rw [List.getElem?_reverse (by rw [HL.out]; omega), HL.out, hm']; exact hx
   have HP2 : Hid (L.reverse.take (j + 1) = P ++ [x] ∧ (L.take (j + 1)).map plainC = Q ++ [plainC y] ∧ (L.reverse.take (j + 1)).map (·.s) = Ns ++ [x.s]) := Lib.hid (by
    refine ⟨by rw [List.take_add_one, hxr, hP]; rfl, by rw [List.take_add_one, hy, List.map_append, hQ]; rfl, by rw [List.take_add_one, hxr, hP, List.map_append, hNs]; rfl⟩)
   rw [hP, hQ, hNs] at hlo
   have HLn := Lib.hid (And.intro hPl (And.intro hQl hNl))
   have HW := Lib.hid (And.intro hlo.bel hbl)
   obtain ⟨px, hpx⟩ : ∃ p, wr.heap.size = p := ⟨_, rfl⟩
   obtain ⟨wx, hwx⟩ : ∃ wx, wr.alloc (.cells #[.string x.s, .slice x.AH x.nh x.ch, .slice x.AO x.no x.co, .bool x.rt] 66) = wx := ⟨_, rfl⟩
   have hbx : Below wr.heap.size wr wx := by rw [← hwx]; exact balloc _ (Below.refl _ _)
   have hkx : wx.heap[px]? = some (.cells #[.string x.s, .slice x.AH x.nh x.ch, .slice x.AO x.no x.co, .bool x.rt] 66 (0, 0)) := by rw [← hwx, ← hpx]; exact World.alloc_heap_new wr _
   have z0 := Go.Joins.cell_of_block hkx 0
   have z1 := Go.Joins.cell_of_block hkx 1
   have z2 := Go.Joins.cell_of_block hkx 2
   have z3 := Go.Joins.cell_of_block hkx 3
   have hlx := hlo.below hbx
   have HLX := Lib.hid hlx
   have HBX := Lib.hid hbx
   have hr9 : wx.ownsRow w.heap.size 66 4 u9 j (P.flatMap CardR.cells) := by
    have := hlx.r9
    rw [hPl] at this
    exact this
   have HKX := Lib.hid hkx
   have HPX : Hid (u9.ownBlock ≠ some px ∧ px < wx.heap.size) := Lib.hid ⟨fun e => by have := (World.ownsRow.lt hlo.r9 px e).2; omega, (Array.getElem?_eq_some_iff.1 hkx).1⟩
   have HY : Hid (∀ w', Below w.heap.size w w' → (w'.cell? ⟨b', off + j * 4, none⟩ = some (.string y.s) ∧ w'.cell? ⟨b', off + j * 4 + 1, none⟩ = some (.slice y.AH y.nh y.ch) ∧ w'.cell? ⟨b', off + j * 4 + 2, none⟩ = some (.slice y.AO y.no y.co) ∧ w'.cell? ⟨b', off + j * 4 + 3, none⟩ = some (.bool y.rt))) := Lib.hid fun w' hb =>
    ⟨(hb.cell (p := ⟨b', _, none⟩) hbl).trans y0, (hb.cell (p := ⟨b', _, none⟩) hbl).trans y1, (hb.cell (p := ⟨b', _, none⟩) hbl).trans y2, (hb.cell (p := ⟨b', _, none⟩) hbl).trans y3⟩
   obtain ⟨xs, xAH, xnh, xch, xH, xAO, xno, xco, xO, xrt⟩ := x
   obtain ⟨ys, yAH, ynh, ych, yH, yAO, yno, yco, yO, yrt⟩ := y
   have HJN := HNM
   dsimp only at *
   clear hP hQ hNs hPl hQl hNl hxr hx hy hCX hCY hlo hlx hbx hkx e0 hbl y0 y1 y2 y3 x0' x1' x2' x3' hm'
   go_wp2_with (at_builtin; refine wpList_append_own_at _ rfl _ _ 26 rfl w.heap.size 66 i0 (.agg #[.string ⟨#[]⟩, .slice none 0 0, .slice none 0 0, .bool false]) 4 72 Tryz.underlying26 hi hz0 hz1 hz2 rfl (by decide) _ _ _ rfl (World.ownsRow.alloc hr9 _) ⟨wx.heap.size, 0, none⟩ 1 1 (CardR.cells ⟨xs, xAH, xnh, xch, xH, xAO, xno, xco, xO, xrt⟩) rfl rfl ?c1 ?c2 ?c3 ?c4 ?c5 ?_)
   case c1 =>
    intro j u hj
    match j, hj with
    | 0, hj => simp [CardR.cells] at hj; subst hj; simp [Addr.add]
    | 1, hj => simp [CardR.cells] at hj; subst hj; simp [Addr.add]
    | 2, hj => simp [CardR.cells] at hj; subst hj; simp [Addr.add]
    | 3, hj => simp [CardR.cells] at hj; subst hj; simp [Addr.add]
   case c2 => intro u hu; simp [CardR.cells] at hu; rcases hu with rfl | rfl | rfl | rfl <;> rfl
   case c3 => unfold maxLen; omega
   case c4 => omega
   case c5 => have := HLX.out.bel.size; simp; omega
   intro v9' wa hown hgrow _ hat
   have hla := (HLX.out.below (balloc (.cells #[.string xs, .slice xAH xnh xch, .slice xAO xno xco, .bool xrt] 66) (Below.refl _ _))).app9 HLn.out.1 hown hgrow (by
    rcases hat with h | h
    ·exact .inl h
    ·exact .inr (by rw [h]; simp))
   have hka : wa.heap[px]? = some (.cells #[.string xs, .slice xAH xnh xch, .slice xAO xno xco, .bool xrt] 66 (0, 0)) := by
    have hb : (wx.alloc (.cells #[.string xs, .slice xAH xnh xch, .slice xAO xno xco, .bool xrt] 66)).heap[px]? = wx.heap[px]? := (balloc (.cells #[.string xs, .slice xAH xnh xch, .slice xAO xno xco, .bool xrt] 66) (Below.refl wx.heap.size wx)).block px HPX.out.2
    exact (hgrow.block px (by have := HPX.out.2; simp; omega) (fun z => HPX.out.1 z.symm)).trans (hb.trans HKX.out)
   have k8 := Go.Joins.cell_of_block hla.b8 0
   have p0 := Go.Joins.cell_of_block hka 0
   have hrN : wa.ownsRow w.heap.size 9 1 vN j (Ns.map Value.string) := by
    have := hla.rN
    rw [HLn.out.2.2] at this
    exact this
   have HLA := Lib.hid hla
   clear hown hgrow hat hla hka z0 z1 z2 z3 hr9 hwx hpx x0 x1 x2 x3 hw1 hw2 hmI
   go_wp2_with (at_builtin; refine wpList_append_own_at _ rfl _ _ 22 rfl w.heap.size 9 i1 (.string ⟨#[]⟩) 1 16 Tryz.underlying22 hi1 hy0 hy1 hy2 rfl (by decide) _ _ _ rfl (World.ownsRow.alloc hrN _) ⟨wa.heap.size, 0, none⟩ 1 1 [.string xs] rfl rfl ?c1 ?c2 ?c3 ?c4 ?c5 ?_)
   case c1 =>
    intro j u hj
    match j, hj with
    | 0, hj => simp at hj; subst hj; simp [Addr.add]
   case c2 => intro u hu; simp at hu; subst hu; rfl
   case c3 => unfold maxLen; omega
   case c4 => omega
   case c5 => have := HLA.out.bel.size; simp; omega
   intro vN' wb hown2 hgrow2 _ hat2
   obtain ⟨At, ct, hvN⟩ : ∃ At ct, vN' = .slice At (j + 1) ct := by
    rcases hown2.2 with ⟨h, h0⟩ | ⟨q, cap, cur, h, _⟩
    ·omega
    ·exact ⟨_, _, h⟩
   subst hvN
   have hlb := (HLA.out.below (balloc (.cells #[.string xs] 9) (Below.refl _ _))).appN HLn.out.2.2 hown2 hgrow2
   have k8b := Go.Joins.cell_of_block hlb.b8 0
   have f8b := Go.Joins.unfrozen_of_block hlb.b8 0
   have hlc := hlb.set8 HGG.out.1 HGG.out.2.1 HGG.out.2.2 (.slice At (j + 1) ct)
   obtain ⟨wc, hwc⟩ : ∃ wc, wb.setCell ⟨g8, 0, none⟩ (.slice At (j + 1) ct) = wc := ⟨_, rfl⟩
   rw [hwc] at hlc
   obtain ⟨y0, y1, y2, y3⟩ := HY.out wc hlc.bel
   have hld := hlc.below (balloc (.cells #[.string ys, .slice yAH ynh ych, .slice none 0 0, .bool false] 66) (Below.refl _ _))
   have hr10 : (wc.alloc (.cells #[.string ys, .slice yAH ynh ych, .slice none 0 0, .bool false] 66)).ownsRow w.heap.size 66 4 u10 j (Q.flatMap CardR.cells) := by
    have := hld.r10
    rw [HLn.out.2.1] at this
    exact this
   have HLD := Lib.hid hld
   clear hown2 hgrow2 hat2 hlb hlc hld k8 p0 hrN
   go_wp2_with (at_builtin; refine wpList_append_own_at _ rfl _ _ 26 rfl w.heap.size 66 i0 (.agg #[.string ⟨#[]⟩, .slice none 0 0, .slice none 0 0, .bool false]) 4 72 Tryz.underlying26 hi hz0 hz1 hz2 rfl (by decide) _ _ _ rfl (World.ownsRow.alloc hr10 _) ⟨wc.heap.size + 1, 0, none⟩ 1 1 (CardR.cells (plainC ⟨ys, yAH, ynh, ych, yH, yAO, yno, yco, yO, yrt⟩)) rfl rfl ?c1 ?c2 ?c3 ?c4 ?c5 ?_)
   case c1 =>
    intro j u hj
    match j, hj with
    | 0, hj => simp [CardR.cells, plainC] at hj; subst hj; simp [Addr.add]
    | 1, hj => simp [CardR.cells, plainC] at hj; subst hj; simp [Addr.add]
    | 2, hj => simp [CardR.cells, plainC] at hj; subst hj; simp [Addr.add]
    | 3, hj => simp [CardR.cells, plainC] at hj; subst hj; simp [Addr.add]
   case c2 => intro u hu; simp [CardR.cells, plainC] at hu; rcases hu with rfl | rfl | rfl | rfl <;> rfl
   case c3 => unfold maxLen; omega
   case c4 => omega
   case c5 => have := HLD.out.bel.size; simp at this ⊢; omega
   intro v10' we hown3 hgrow3 _ hat3
   have hle := (HLD.out.below (balloc (.cells #[.string ys, .slice yAH ynh ych, .slice none 0 0, .bool false] 66) (Below.refl _ _))).app10 HLn.out.2.1 hown3 hgrow3 (by
    rcases hat3 with h | h
    ·exact .inl h
    ·exact .inr (by rw [h]; simp))
   have HLE := Lib.hid hle
   clear hown3 hgrow3 hat3 hle hr10 y0 y1 y2 y3 k8b f8b hwc
   go_wp2
   go_roundw
   case rel => exact ⟨j + 1, .slice At (j + 1) ct, by omega, by go_num, by rw [HP2.out.1, HP2.out.2.1]; have := HP2.out.2.2; rw [HP2.out.1] at this; rw [this]; exact HLE.out⟩
   case measure => simp [RowKit.intOf]; omega
  ·have hjn : j = n := by omega
   have hji : ¬ (j : Int) < (n : Int) := by omega
   rw [hjn, List.take_of_length_le (by rw [List.length_reverse, HL.out]; exact Nat.le_refl _), List.take_of_length_le (l := L) (by rw [HL.out]; exact Nat.le_refl _), HNM.out.1] at hlo
   obtain ⟨A9, c9, e9, hR9⟩ := Cards.of_row hlo.r9 (fun r hr => HCZ.out wr hlo.bel r (List.mem_reverse.1 hr))
   obtain ⟨A10, c10, e10, hR10⟩ := Cards.of_row hlo.r10 (fun r hr => by
    obtain ⟨q, hq, rfl⟩ := List.mem_map.1 hr
    have := HCZ.out wr hlo.bel q hq
    exact ⟨this.1, this.2.1, ⟨rfl, fun h => absurd h (Nat.lt_irrefl 0)⟩, Nat.le_refl 0⟩)
   obtain ⟨At, ct, et, hct, _, hRt⟩ := TextsZ.of_own (L := N.reverse) hlo.rN
   rw [List.length_reverse, HL.out] at e9 hR9
   rw [List.length_map, HL.out] at e10 hR10
   rw [List.length_reverse, HNM.out.2.1] at et hct hRt
   subst e9 e10 et
   have HX : Hid (∀ w', Below wr.heap.size wr w' → w'.cell? ⟨g7, 0, none⟩ = some (.slice AN nN cN) ∧ w'.cell? ⟨g7, 1, none⟩ = some (.slice AG m cG) ∧ w'.cell? ⟨g7, 2, none⟩ = some (.int .i64 st) ∧ Below wr.heap.size wr w') := Lib.hid fun w' hb => by
    have h7 := (hb.block g7 (Array.getElem?_eq_some_iff.1 hlo.b7).1).trans hlo.b7
    exact ⟨Go.Joins.cell_of_block h7 0, Go.Joins.cell_of_block h7 1, Go.Joins.cell_of_block h7 2, hb⟩
   have HX8 : Hid (∀ w', Below wr.heap.size wr w' → w'.cell? ⟨g8, 0, none⟩ = some (.slice At nN ct) ∧ w'.cell? ⟨g8, 1, none⟩ = some (.slice AG m cG) ∧ w'.cell? ⟨g8, 2, none⟩ = some (.int .i64 st)) := Lib.hid fun w' hb => by
    have h8 := (hb.block g8 (Array.getElem?_eq_some_iff.1 hlo.b8).1).trans hlo.b8
    exact ⟨Go.Joins.cell_of_block h8 0, Go.Joins.cell_of_block h8 1, Go.Joins.cell_of_block h8 2⟩
   have HX3 : Hid (∀ w', Below wr.heap.size wr w' → w'.cell? ⟨g, 0, none⟩ = some (.slice AN nN cN) ∧ w'.cell? ⟨g, 1, none⟩ = some (.slice AG m cG) ∧ w'.cell? ⟨g, 2, none⟩ = some (.int .i64 st)) := Lib.hid fun w' hb => by
    have h3 := (hb.block g (Array.getElem?_eq_some_iff.1 hlo.b3).1).trans hlo.b3
    exact ⟨Go.Joins.cell_of_block h3 0, Go.Joins.cell_of_block h3 1, Go.Joins.cell_of_block h3 2⟩
   have HBL := Lib.hid hlo.bel
   have HR9 := Lib.hid hR9
   have HR10 := Lib.hid hR10
   have HRt := Lib.hid (And.intro hRt hct)
   clear hlo hR9 hR10 hRt hct HCZ
   have HCD1 : Hid (∀ w', Below wr.heap.size wr w' → Calls Tryz.prog 9 #[.slice A n cap] w' (fun e w'' => ∃ v L', e = .returned v ∧ L'.map cnrm = L.map cnrm ∧ OwnCards w'' w'.heap.size v L' ∧ Below w'.heap.size w' w'')) := Lib.hid fun w' hb => HCD.out L A cap w' (.inl rfl) (H.out.below (bstep HBL.out hb))
   have HCD2 : Hid (∀ w', Below wr.heap.size wr w' → Calls Tryz.prog 9 #[.slice A9 n c9] w' (fun e w'' => ∃ v L', e = .returned v ∧ L'.map cnrm = L.reverse.map cnrm ∧ OwnCards w'' w'.heap.size v L' ∧ Below w'.heap.size w' w'')) := Lib.hid fun w' hb => HCD.out L.reverse A9 c9 w' (.inr (.inl rfl)) (HR9.out.below hb)
   have HCD3 : Hid (∀ w', Below wr.heap.size wr w' → Calls Tryz.prog 9 #[.slice A10 n c10] w' (fun e w'' => ∃ v L', e = .returned v ∧ L'.map cnrm = (L.map plainC).map cnrm ∧ OwnCards w'' w'.heap.size v L' ∧ Below w'.heap.size w' w'')) := Lib.hid fun w' hb => HCD.out (L.map plainC) A10 c10 w' (.inr (.inr rfl)) (HR10.out.below hb)
   have HSA : Hid (∀ (L' : List CardR) (v : Value) (B : Nat) (w' : World), L'.map cnrm = L.map cnrm → OwnCards w' B v L' → Below wr.heap.size wr w' → ∃ A' c', v = .slice A' n c' ∧ Calls Tryz.prog 8 #[.agg #[.slice AN nN cN, .slice AG m cG, .int .i64 st], .slice A' n c'] w' (fun e w'' => ∃ v, e = .returned (.tuple #[v, .int .i64 0]) ∧ OwnPlcs w'' w'.heap.size v (standL G L) ∧ Below w'.heap.size w' w'')) := Lib.hid fun L' v B w' h ho hb => HST1.out L' v B w' h ho (bstep HBL.out hb)
   have HSB : Hid (∀ (L' : List CardR) (v : Value) (B : Nat) (w' : World), L'.map cnrm = L.reverse.map cnrm → OwnCards w' B v L' → Below wr.heap.size wr w' → ∃ A' c', v = .slice A' n c' ∧ Calls Tryz.prog 8 #[.agg #[.slice At nN ct, .slice AG m cG, .int .i64 st], .slice A' n c'] w' (fun e w'' => ∃ v, e = .returned (.tuple #[v, .int .i64 0]) ∧ OwnPlcs w'' w'.heap.size v (standL G L.reverse) ∧ Below w'.heap.size w' w'')) := Lib.hid fun L' v B w' h ho hb => HST2.out At ct L' v B w' h ho (bstep HBL.out hb) (HRt.out.1.below hb) HRt.out.2
   have HSC : Hid (∀ (L' : List CardR) (v : Value) (B : Nat) (w' : World), L'.map cnrm = (L.map plainC).map cnrm → OwnCards w' B v L' → Below wr.heap.size wr w' → ∃ A' c', v = .slice A' n c' ∧ Calls Tryz.prog 8 #[.agg #[.slice AN nN cN, .slice AG m cG, .int .i64 st], .slice A' n c'] w' (fun e w'' => ∃ v, e = .returned (.tuple #[v, .int .i64 0]) ∧ OwnPlcs w'' w'.heap.size v (standL G (L.map plainC)) ∧ Below w'.heap.size w' w'')) := Lib.hid fun L' v B w' h ho hb => HST3.out L' v B w' h ho (bstep HBL.out hb)
   clear HCD HST1 HST2 HST3
   go_wp2
   refine wp_region_held_drew (S := fun w' => w'.cell? ⟨g7, 0, none⟩ = some (.slice AN nN cN) ∧ w'.cell? ⟨g7, 1, none⟩ = some (.slice AG m cG) ∧ w'.cell? ⟨g7, 2, none⟩ = some (.int .i64 st) ∧ Below wr.heap.size wr w') (by kernel_rfl) ?_ (fun hHeld => ?_)
   ·exact HX.out _ (Below.drew (Below.refl _ _))
   generalize World.drew _ = wd at hHeld ⊢
   refine zU 0 ?_ rfl ?_ ?_
   rotate_left
   ·rintro w ⟨s0, s1, s2, sb⟩
    go_simp
    try with_reducible rfl
   try simp only [Act.put, zA1, zA2, zA3, zA4, zA5, zA6]
   refine zU 1 ?_ rfl ?_ ?_
   rotate_left
   ·rintro w ⟨s0, s1, s2, sb⟩
    go_simp
    try with_reducible rfl
   try simp only [Act.put, zA1, zA2, zA3, zA4, zA5, zA6]
   refine wpAnyH_ready (rs := [2]) (by kernel_rfl) (by simp) ?_
   refine AllReadyH.cons (o := _) rfl (fun K hKK => ?_) AllReadyH.nil
   go_simp
   go_at_call 9
   refine (HCD1.out _ (hHeld.2.2.2)).mono ?_
   rintro e' w' ⟨vq, L1, rfl, hL1, ho1, hbz⟩
   have hX := bstep hHeld.2.2.2 hbz
   obtain ⟨Aq, cq, rfl, HK⟩ := HSA.out L1 _ _ w' hL1 ho1 (hX)
   clear hHeld hbz ho1 hL1
   go_wp2_with fail
   refine hKK.out _ _ ?_ (fun hHeld => ?_)
   ·exact HX.out _ hX
   clear hKK K
   try simp only [Act.put, zA1, zA2, zA3, zA4, zA5, zA6]
   clear hX
   refine wpAnyH_ready (rs := [3]) (by kernel_rfl) (by simp) ?_
   refine AllReadyH.cons (o := _) rfl (fun K hKK => ?_) AllReadyH.nil
   go_simp
   go_at_call 8
   with_reducible refine HK.mono ?_
   rintro e' w16 ⟨vf, rfl, hof, hbz⟩
   have hX := bstep hHeld.2.2.2 hbz
   obtain ⟨Aa, cAa, rfl, hPAa⟩ := PlcsZ.of_own hof
   rw [HPL.out.1] at hPAa ⊢
   have HPAa := Lib.hid hPAa
   clear hHeld hbz HK hof hPAa
   go_wp2_with fail
   refine hKK.out _ _ ?_ (fun hHeld => ?_)
   ·exact HX.out _ hX
   clear hKK K
   try simp only [Act.put, zA1, zA2, zA3, zA4, zA5, zA6]
   clear hX
   refine zU 4 ?_ rfl ?_ ?_
   rotate_left
   ·rintro w ⟨s0, s1, s2, sb⟩
    go_simp
    try with_reducible rfl
   try simp only [Act.put, zA1, zA2, zA3, zA4, zA5, zA6]
   refine zU 5 ?_ rfl ?_ ?_
   rotate_left
   ·rintro w ⟨s0, s1, s2, sb⟩
    go_simp
    try with_reducible rfl
   try simp only [Act.put, zA1, zA2, zA3, zA4, zA5, zA6]
   refine zU 6 ?_ rfl ?_ ?_
   rotate_left
   ·rintro w ⟨s0, s1, s2, sb⟩
    go_simp
    try with_reducible rfl
   try simp only [Act.put, zA1, zA2, zA3, zA4, zA5, zA6]
   refine zU 7 ?_ rfl ?_ ?_
   rotate_left
   ·rintro w ⟨s0, s1, s2, sb⟩
    go_simp
    try with_reducible rfl
   try simp only [Act.put, zA1, zA2, zA3, zA4, zA5, zA6]
   refine zU 8 ?_ rfl ?_ ?_
   rotate_left
   ·rintro w ⟨s0, s1, s2, sb⟩
    go_simp
    try with_reducible rfl
   try simp only [Act.put, zA1, zA2, zA3, zA4, zA5, zA6]
   refine wpAnyH_done (by kernel_rfl) ?_ _
   have HB16 := Lib.hid hHeld.2.2.2
   have HX17 : Hid (∀ w', Below w16.heap.size w16 w' → w'.cell? ⟨g8, 0, none⟩ = some (.slice At nN ct) ∧ w'.cell? ⟨g8, 1, none⟩ = some (.slice AG m cG) ∧ w'.cell? ⟨g8, 2, none⟩ = some (.int .i64 st) ∧ Below w16.heap.size w16 w') := Lib.hid fun w' hb => by
    obtain ⟨a, b, c⟩ := HX8.out w' (bstep HB16.out hb)
    exact ⟨a, b, c, hb⟩
   clear hHeld
   go_wp2
   refine wp_region_held_drew (S := fun w' => w'.cell? ⟨g8, 0, none⟩ = some (.slice At nN ct) ∧ w'.cell? ⟨g8, 1, none⟩ = some (.slice AG m cG) ∧ w'.cell? ⟨g8, 2, none⟩ = some (.int .i64 st) ∧ Below w16.heap.size w16 w') (by kernel_rfl) ?_ (fun hHeld => ?_)
   ·exact HX17.out _ (Below.drew (Below.refl _ _))
   generalize World.drew _ = wd at hHeld ⊢
   refine zU 0 ?_ rfl ?_ ?_
   rotate_left
   ·rintro w ⟨s0, s1, s2, sb⟩
    go_simp
    try with_reducible rfl
   try simp only [Act.put, zA1, zA2, zA3, zA4, zA5, zA6]
   refine zU 1 ?_ rfl ?_ ?_
   rotate_left
   ·rintro w ⟨s0, s1, s2, sb⟩
    go_simp
    try with_reducible rfl
   try simp only [Act.put, zA1, zA2, zA3, zA4, zA5, zA6]
   refine wpAnyH_ready (rs := [2]) (by kernel_rfl) (by simp) ?_
   refine AllReadyH.cons (o := _) rfl (fun K hKK => ?_) AllReadyH.nil
   go_simp
   go_at_call 9
   refine (HCD2.out _ (bstep HB16.out hHeld.2.2.2)).mono ?_
   rintro e' w' ⟨vq, L1, rfl, hL1, ho1, hbz⟩
   have hX := bstep hHeld.2.2.2 hbz
   obtain ⟨Aq, cq, rfl, HK⟩ := HSB.out L1 _ _ w' hL1 ho1 (bstep HB16.out hX)
   clear hHeld hbz ho1 hL1
   go_wp2_with fail
   refine hKK.out _ _ ?_ (fun hHeld => ?_)
   ·exact HX17.out _ hX
   clear hKK K
   try simp only [Act.put, zA1, zA2, zA3, zA4, zA5, zA6]
   clear hX
   refine wpAnyH_ready (rs := [3]) (by kernel_rfl) (by simp) ?_
   refine AllReadyH.cons (o := _) rfl (fun K hKK => ?_) AllReadyH.nil
   go_simp
   go_at_call 8
   with_reducible refine HK.mono ?_
   rintro e' w17 ⟨vf, rfl, hof, hbz⟩
   have hX := bstep hHeld.2.2.2 hbz
   obtain ⟨Ab, cAb, rfl, hPAb⟩ := PlcsZ.of_own hof
   rw [HPL.out.2.1] at hPAb ⊢
   have HPAb := Lib.hid hPAb
   clear hHeld hbz HK hof hPAb
   go_wp2_with fail
   refine hKK.out _ _ ?_ (fun hHeld => ?_)
   ·exact HX17.out _ hX
   clear hKK K
   try simp only [Act.put, zA1, zA2, zA3, zA4, zA5, zA6]
   clear hX
   refine zU 4 ?_ rfl ?_ ?_
   rotate_left
   ·rintro w ⟨s0, s1, s2, sb⟩
    go_simp
    try with_reducible rfl
   try simp only [Act.put, zA1, zA2, zA3, zA4, zA5, zA6]
   refine zU 5 ?_ rfl ?_ ?_
   rotate_left
   ·rintro w ⟨s0, s1, s2, sb⟩
    go_simp
    try with_reducible rfl
   try simp only [Act.put, zA1, zA2, zA3, zA4, zA5, zA6]
   refine zU 6 ?_ rfl ?_ ?_
   rotate_left
   ·rintro w ⟨s0, s1, s2, sb⟩
    go_simp
    try with_reducible rfl
   try simp only [Act.put, zA1, zA2, zA3, zA4, zA5, zA6]
   refine zU 7 ?_ rfl ?_ ?_
   rotate_left
   ·rintro w ⟨s0, s1, s2, sb⟩
    go_simp
    try with_reducible rfl
   try simp only [Act.put, zA1, zA2, zA3, zA4, zA5, zA6]
   refine zU 8 ?_ rfl ?_ ?_
   rotate_left
   ·rintro w ⟨s0, s1, s2, sb⟩
    go_simp
    try with_reducible rfl
   try simp only [Act.put, zA1, zA2, zA3, zA4, zA5, zA6]
   refine wpAnyH_done (by kernel_rfl) ?_ _
   have HB17 := Lib.hid (bstep HB16.out hHeld.2.2.2)
   have HPAa17 := Lib.hid (HPAa.out.below hHeld.2.2.2)
   have HX18 : Hid (∀ w', Below w17.heap.size w17 w' → w'.cell? ⟨g7, 0, none⟩ = some (.slice AN nN cN) ∧ w'.cell? ⟨g7, 1, none⟩ = some (.slice AG m cG) ∧ w'.cell? ⟨g7, 2, none⟩ = some (.int .i64 st) ∧ Below w17.heap.size w17 w') := Lib.hid fun w' hb => by
    obtain ⟨a, b, c, _⟩ := HX.out w' (bstep HB17.out hb)
    exact ⟨a, b, c, hb⟩
   clear hHeld
   go_wp2
   refine wp_region_held_drew (S := fun w' => w'.cell? ⟨g7, 0, none⟩ = some (.slice AN nN cN) ∧ w'.cell? ⟨g7, 1, none⟩ = some (.slice AG m cG) ∧ w'.cell? ⟨g7, 2, none⟩ = some (.int .i64 st) ∧ Below w17.heap.size w17 w') (by kernel_rfl) ?_ (fun hHeld => ?_)
   ·exact HX18.out _ (Below.drew (Below.refl _ _))
   generalize World.drew _ = wd at hHeld ⊢
   refine zU 0 ?_ rfl ?_ ?_
   rotate_left
   ·rintro w ⟨s0, s1, s2, sb⟩
    go_simp
    try with_reducible rfl
   try simp only [Act.put, zA1, zA2, zA3, zA4, zA5, zA6]
   refine zU 1 ?_ rfl ?_ ?_
   rotate_left
   ·rintro w ⟨s0, s1, s2, sb⟩
    go_simp
    try with_reducible rfl
   try simp only [Act.put, zA1, zA2, zA3, zA4, zA5, zA6]
   refine wpAnyH_ready (rs := [2]) (by kernel_rfl) (by simp) ?_
   refine AllReadyH.cons (o := _) rfl (fun K hKK => ?_) AllReadyH.nil
   go_simp
   go_at_call 9
   refine (HCD3.out _ (bstep HB17.out hHeld.2.2.2)).mono ?_
   rintro e' w' ⟨vq, L1, rfl, hL1, ho1, hbz⟩
   have hX := bstep hHeld.2.2.2 hbz
   obtain ⟨Aq, cq, rfl, HK⟩ := HSC.out L1 _ _ w' hL1 ho1 (bstep HB17.out hX)
   clear hHeld hbz ho1 hL1
   go_wp2_with fail
   refine hKK.out _ _ ?_ (fun hHeld => ?_)
   ·exact HX18.out _ hX
   clear hKK K
   try simp only [Act.put, zA1, zA2, zA3, zA4, zA5, zA6]
   clear hX
   refine wpAnyH_ready (rs := [3]) (by kernel_rfl) (by simp) ?_
   refine AllReadyH.cons (o := _) rfl (fun K hKK => ?_) AllReadyH.nil
   go_simp
   go_at_call 8
   with_reducible refine HK.mono ?_
   rintro e' w18 ⟨vf, rfl, hof, hbz⟩
   have hX := bstep hHeld.2.2.2 hbz
   obtain ⟨Ac, cAc, rfl, hPAc⟩ := PlcsZ.of_own hof
   rw [HPL.out.2.2] at hPAc ⊢
   have HPAc := Lib.hid hPAc
   clear hHeld hbz HK hof hPAc
   go_wp2_with fail
   refine hKK.out _ _ ?_ (fun hHeld => ?_)
   ·exact HX18.out _ hX
   clear hKK K
   try simp only [Act.put, zA1, zA2, zA3, zA4, zA5, zA6]
   clear hX
   refine zU 4 ?_ rfl ?_ ?_
   rotate_left
   ·rintro w ⟨s0, s1, s2, sb⟩
    go_simp
    try with_reducible rfl
   try simp only [Act.put, zA1, zA2, zA3, zA4, zA5, zA6]
   refine zU 5 ?_ rfl ?_ ?_
   rotate_left
   ·rintro w ⟨s0, s1, s2, sb⟩
    go_simp
    try with_reducible rfl
   try simp only [Act.put, zA1, zA2, zA3, zA4, zA5, zA6]
   refine zU 6 ?_ rfl ?_ ?_
   rotate_left
   ·rintro w ⟨s0, s1, s2, sb⟩
    go_simp
    try with_reducible rfl
   try simp only [Act.put, zA1, zA2, zA3, zA4, zA5, zA6]
   refine zU 7 ?_ rfl ?_ ?_
   rotate_left
   ·rintro w ⟨s0, s1, s2, sb⟩
    go_simp
    try with_reducible rfl
   try simp only [Act.put, zA1, zA2, zA3, zA4, zA5, zA6]
   refine zU 8 ?_ rfl ?_ ?_
   rotate_left
   ·rintro w ⟨s0, s1, s2, sb⟩
    go_simp
    try with_reducible rfl
   try simp only [Act.put, zA1, zA2, zA3, zA4, zA5, zA6]
   refine wpAnyH_done (by kernel_rfl) ?_ _
   have HB18 := Lib.hid (bstep HB17.out hHeld.2.2.2)
   have HPAa18 := Lib.hid (HPAa17.out.below hHeld.2.2.2)
   have HPAb18 := Lib.hid (HPAb.out.below hHeld.2.2.2)
   clear hHeld HX HX8 HX17 HX18 HCD1 HCD2 HCD3 HSA HSB HSC HPAa HPAa17 HPAb hji HGG HLO
   go_wp2
   go_loopw [144] (fun i wr => ∃ j : Nat, j ≤ n ∧ i = .int .i64 j ∧ Below w18.heap.size w18 wr) (fun i _ => n - (RowKit.intOf i).toNat)
   case atStart => exact ⟨0, by omega, rfl, Below.refl _ _⟩
   case round =>
    obtain ⟨j, hj, rfl, hbw⟩ := hrel
    by_cases hlt : j < n
    ·have hji : (j : Int) < (n : Int) := by omega
     have hj0 : (0 : Int) ≤ (j : Int) := by omega
     have hjt : ((j : Int)).toNat = j := by omega
     obtain ⟨wy, rfl⟩ : ∃ wy : World, wy = wr := ⟨_, rfl⟩
     obtain ⟨bx, ox, x, rfl, hbx1, hx, ⟨hc0, hc1, hc2, hc3⟩, _⟩ := (H.out.below (bstep HBL.out (bstep HB18.out hbw))).at_ hlt
     obtain ⟨p, q, s, hp, hq, hs2, hAsk⟩ := HAS.out j x hx
     have HPL1 : Hid (∀ w', Below wy.heap.size wy w' → Calls Tryz.prog 25 #[.slice Aa n cAa, .string x.s] w' (RetPost (.tuple #[p.val, .bool true]) w')) := Lib.hid fun w' hb => by
      have := l6placed_any (standL G L) n cAa Aa x.s w' (HPAa18.out.below (bstep hbw hb)) (by omega)
      rw [hp] at this; exact this
     have HPL2 : Hid (∀ w', Below wy.heap.size wy w' → Calls Tryz.prog 25 #[.slice Ab n cAb, .string x.s] w' (RetPost (.tuple #[q.val, .bool true]) w')) := Lib.hid fun w' hb => by
      have := l6placed_any (standL G L.reverse) n cAb Ab x.s w' (HPAb18.out.below (bstep hbw hb)) (by omega)
      rw [hq] at this; exact this
     have HPL3 : Hid (∀ w', Below wy.heap.size wy w' → Calls Tryz.prog 25 #[.slice Ac n cAc, .string x.s] w' (RetPost (.tuple #[s.val, .bool true]) w')) := Lib.hid fun w' hb => by
      have := l6placed_any (standL G (L.map plainC)) n cAc Ac x.s w' (HPAc.out.below (bstep hbw hb)) (by omega)
      rw [hs2] at this; exact this
     obtain ⟨hsame, hmark, hkind, hfst⟩ := hAsk
     have hpr : ∀ (j' : Nat) (y : CardR) (o : Plc), L[j']? = some y → plcBy (standL G L) y.s = some o → 0 < p.rk → 0 < o.rk → o.vl < p.vl → p.rk < o.rk := fun j' y o h1 h2 h3 h4 h5 => HPR.out j j' x y p o hx h1 hp h2 h3 h4 h5
     obtain ⟨p1, p2, p3, p4, p5⟩ := p
     obtain ⟨q1, q2, q3, q4, q5⟩ := q
     obtain ⟨s1, s2, s3, s4, s5⟩ := s
     obtain ⟨xs, xAH, xnh, xch, xH, xAO, xno, xco, xO, xrt⟩ := x
     unfold Plc.val at HPL1 HPL2 HPL3
     dsimp only at *
     obtain ⟨rfl, rfl, rfl, rfl⟩ := hsame
     have HOR := Lib.hid (And.intro hmark (And.intro hkind (And.intro hfst hpr)))
     obtain ⟨px, hpx⟩ : ∃ px, wy.heap.size = px := ⟨_, rfl⟩
     obtain ⟨wx, hwx⟩ : ∃ wx, wy.alloc (.cells #[.string xs, .slice xAH xnh xch, .slice xAO xno xco, .bool xrt] 66) = wx := ⟨_, rfl⟩
     have hbx : Below wy.heap.size wy wx := by rw [← hwx]; exact balloc _ (Below.refl _ _)
     have x0 : wx.cell? ⟨px, 0, none⟩ = some (.string xs) := by rw [← hwx, ← hpx]; simp
     have hpx1 : px < wx.heap.size := by rw [← hwx, ← hpx]; simp
     have HBX := Lib.hid hbx
     have HBW := Lib.hid hbw
     have HX0 := Lib.hid (And.intro x0 hpx1)
     clear hp hq hs2 hx hbx hbw hbx1 hpx1 hmark hkind hfst hpr
     go_wp2_with fail
     refine (HPL1.out _ HBX.out).mono ?_
     rintro e wa ⟨rfl, hba⟩
     obtain ⟨ga, hga⟩ : ∃ g, wa.heap.size = g := ⟨_, rfl⟩
     obtain ⟨wA, hwA⟩ : ∃ w', wa.alloc (.cells #[.string p1, .int .i64 p2, .string p3, .int .i64 p4, .string p5] 61) = w' := ⟨_, rfl⟩
     have hbA : Below wx.heap.size wx wA := by rw [← hwA]; exact hba.alloc hba.size _
     have a1 : wA.cell? ⟨ga, 1, none⟩ = some (.int .i64 p2) := by rw [← hwA, ← hga]; simp
     have a2 : wA.cell? ⟨ga, 2, none⟩ = some (.string p3) := by rw [← hwA, ← hga]; simp
     have a3 : wA.cell? ⟨ga, 3, none⟩ = some (.int .i64 p4) := by rw [← hwA, ← hga]; simp
     have a4 : wA.cell? ⟨ga, 4, none⟩ = some (.string p5) := by rw [← hwA, ← hga]; simp
     have hga1 : ga < wA.heap.size := by rw [← hwA, ← hga]; simp
     have HA1 : Hid (ga < wA.heap.size ∧ wA.cell? ⟨ga, 1, none⟩ = some (.int .i64 p2) ∧ wA.cell? ⟨ga, 2, none⟩ = some (.string p3) ∧ wA.cell? ⟨ga, 3, none⟩ = some (.int .i64 p4) ∧ wA.cell? ⟨ga, 4, none⟩ = some (.string p5)) := Lib.hid ⟨hga1, a1, a2, a3, a4⟩
     have HBA := Lib.hid hbA
     have x0 := (hbA.cell (p := ⟨px, 0, none⟩) HX0.out.2).trans HX0.out.1
     clear hbA hba a1 a2 a3 a4 hga1 hwx hpx
     go_wp2_with fail
     refine (HPL2.out _ (bstep HBX.out HBA.out)).mono ?_
     rintro e wb ⟨rfl, hbb⟩
     obtain ⟨gb, hgb⟩ : ∃ g, wb.heap.size = g := ⟨_, rfl⟩
     obtain ⟨wB, hwB⟩ : ∃ w', wb.alloc (.cells #[.string q1, .int .i64 p2, .string p3, .int .i64 p4, .string p5] 61) = w' := ⟨_, rfl⟩
     have hbB : Below wA.heap.size wA wB := by rw [← hwB]; exact hbb.alloc hbb.size _
     have b1 : wB.cell? ⟨gb, 1, none⟩ = some (.int .i64 p2) := by rw [← hwB, ← hgb]; simp
     have b2 : wB.cell? ⟨gb, 2, none⟩ = some (.string p3) := by rw [← hwB, ← hgb]; simp
     have b3 : wB.cell? ⟨gb, 3, none⟩ = some (.int .i64 p4) := by rw [← hwB, ← hgb]; simp
     have b4 : wB.cell? ⟨gb, 4, none⟩ = some (.string p5) := by rw [← hwB, ← hgb]; simp
     have hgb1 : gb < wB.heap.size := by rw [← hwB, ← hgb]; simp
     have HB1' : Hid (gb < wB.heap.size ∧ wB.cell? ⟨gb, 1, none⟩ = some (.int .i64 p2) ∧ wB.cell? ⟨gb, 2, none⟩ = some (.string p3) ∧ wB.cell? ⟨gb, 3, none⟩ = some (.int .i64 p4) ∧ wB.cell? ⟨gb, 4, none⟩ = some (.string p5)) := Lib.hid ⟨hgb1, b1, b2, b3, b4⟩
     have HBB := Lib.hid hbB
     have x0b := (hbB.cell (p := ⟨px, 0, none⟩) (Nat.lt_of_lt_of_le HX0.out.2 HBA.out.size)).trans x0
     clear hbB hbb b1 b2 b3 b4 hgb1 x0 hwA hga
     go_wp2_with fail
     refine (HPL3.out _ (bstep HBX.out (bstep HBA.out HBB.out))).mono ?_
     rintro e wc ⟨rfl, hbc⟩
     obtain ⟨gc, hgc⟩ : ∃ g, wc.heap.size = g := ⟨_, rfl⟩
     obtain ⟨wC, hwC⟩ : ∃ w', wc.alloc (.cells #[.string s1, .int .i64 s2, .string s3, .int .i64 s4, .string s5] 61) = w' := ⟨_, rfl⟩
     have hbC : Below wB.heap.size wB wC := by rw [← hwC]; exact hbc.alloc hbc.size _
     have c1 : wC.cell? ⟨gc, 1, none⟩ = some (.int .i64 s2) := by rw [← hwC, ← hgc]; simp
     have c2 : wC.cell? ⟨gc, 2, none⟩ = some (.string s3) := by rw [← hwC, ← hgc]; simp
     have c3 : wC.cell? ⟨gc, 3, none⟩ = some (.int .i64 s4) := by rw [← hwC, ← hgc]; simp
     have c4 : wC.cell? ⟨gc, 4, none⟩ = some (.string s5) := by rw [← hwC, ← hgc]; simp
     have hgc1 : gc < wC.heap.size := by rw [← hwC, ← hgc]; simp
     obtain ⟨ha0, ha1, ha2, ha3, ha4⟩ := HA1.out
     obtain ⟨hb0, hb1, hb2, hb3, hb4⟩ := HB1'.out
     have hbAC := bstep HBB.out hbC
     have a1 := (hbAC.cell (p := ⟨ga, 1, none⟩) ha0).trans ha1
     have a2 := (hbAC.cell (p := ⟨ga, 2, none⟩) ha0).trans ha2
     have a3 := (hbAC.cell (p := ⟨ga, 3, none⟩) ha0).trans ha3
     have a4 := (hbAC.cell (p := ⟨ga, 4, none⟩) ha0).trans ha4
     have b1 := (hbC.cell (p := ⟨gb, 1, none⟩) hb0).trans hb1
     have b2 := (hbC.cell (p := ⟨gb, 2, none⟩) hb0).trans hb2
     have b3 := (hbC.cell (p := ⟨gb, 3, none⟩) hb0).trans hb3
     have b4 := (hbC.cell (p := ⟨gb, 4, none⟩) hb0).trans hb4
     have hall : Below w18.heap.size w18 wC := bstep HBW.out (bstep HBX.out (bstep HBA.out hbAC))
     have HALL := Lib.hid hall
     have HGA : Hid (ga < wC.heap.size ∧ gc < wC.heap.size ∧ wC.cell? ⟨ga, 1, none⟩ = some (.int .i64 p2) ∧ wC.cell? ⟨ga, 3, none⟩ = some (.int .i64 p4) ∧ wC.cell? ⟨gc, 1, none⟩ = some (.int .i64 s2)) := Lib.hid ⟨Nat.lt_of_lt_of_le ha0 hbAC.size, hgc1, a1, a3, c1⟩
     have hne1 := neqMark p3 p4 p5 wC
     have hne2 := fun x y => guardMark x y #[.string p3, .int .i64 p4, .string p5] #[.string p3, .int .i64 p4, .string p5] wC
     clear hbC hbc x0b hwB hgb ha0 ha1 ha2 ha3 ha4 hb0 hb1 hb2 hb3 hb4 hgc1 hbAC hall HPL1 HPL2 HPL3 HBX HBA HBB HX0 HA1 HB1'
     obtain ⟨hmark, hkind, hfst, _⟩ := HOR.out
     by_cases hp : 0 < p2
     ·obtain ⟨rfl, rfl, rfl⟩ := hmark hp
      have hk : p3 = sLength := by
       rcases hkind with ⟨h, _⟩ | ⟨_, h⟩
       ·omega
       ·exact h
      have hp0 : (p2 == 0) = false := by simp; omega
      subst hk
      have hlen : (sLength.toList == [110, 111, 110, 101]) = false := by kernel_rfl
      clear hmark hkind hfst
      go_wp2
      have HHP := Lib.hid hp
      clear hne1 hne2 a1 a2 a3 a4 b1 b2 b3 b4 c1 c2 c3 c4 hwC hgc
      go_loopw [217] (fun i wr => ∃ t : Nat, t ≤ n ∧ i = .int .i64 t ∧ Below wC.heap.size wC wr) (fun i _ => n - (RowKit.intOf i).toNat)
      case atStart => exact ⟨0, by omega, rfl, Below.refl _ _⟩
      case round =>
       obtain ⟨t, ht, rfl, hbt⟩ := hrel
       obtain ⟨g1, g2, a1', a3', c1'⟩ := HGA.out
       by_cases htl : t < n
       ·have hti : (t : Int) < (n : Int) := by omega
        have ht0 : (0 : Int) ≤ (t : Int) := by omega
        have htt : ((t : Int)).toNat = t := by omega
        obtain ⟨wz, rfl⟩ : ∃ wz : World, wz = wr := ⟨_, rfl⟩
        obtain ⟨b2', oy, y, ey, hby1, hy, ⟨yc0, yc1, yc2, yc3⟩, _⟩ := (H.out.below (bstep HBL.out (bstep HB18.out (bstep HALL.out hbt)))).at_ htl
        obtain ⟨rfl, rfl⟩ : bx = b2' ∧ ox = oy := by simpa using ey
        obtain ⟨o, _, _, ho, _, _, _⟩ := HAS.out t y hy
        have HPLo : Hid (∀ w', Below wz.heap.size wz w' → Calls Tryz.prog 25 #[.slice Aa n cAa, .string y.s] w' (RetPost (.tuple #[o.val, .bool true]) w')) := Lib.hid fun w' hb => by
         have := l6placed_any (standL G L) n cAa Aa y.s w' (HPAa18.out.below (bstep HALL.out (bstep hbt hb))) (by omega)
         rw [ho] at this; exact this
        have hpr := HOR.out.2.2.2 t y o hy ho
        obtain ⟨o1, o2, o3, o4, o5⟩ := o
        obtain ⟨ys, yAH, ynh, ych, yH, yAO, yno, yco, yO, yrt⟩ := y
        unfold Plc.val at HPLo
        dsimp only at *
        have HPRo := Lib.hid hpr
        obtain ⟨py, hpy⟩ : ∃ py, wz.heap.size = py := ⟨_, rfl⟩
        obtain ⟨wx2, hwx2⟩ : ∃ wx2, wz.alloc (.cells #[.string ys, .slice yAH ynh ych, .slice yAO yno yco, .bool yrt] 66) = wx2 := ⟨_, rfl⟩
        have hbx2 : Below wz.heap.size wz wx2 := by rw [← hwx2]; exact balloc _ (Below.refl _ _)
        have y0 : wx2.cell? ⟨py, 0, none⟩ = some (.string ys) := by rw [← hwx2, ← hpy]; simp
        have HBY := Lib.hid hbx2
        have HBT := Lib.hid hbt
        clear ey hby1 hy ho hpr hbx2 hbt a1' a3' c1' g1 g2
        go_wp2_with fail
        refine (HPLo.out _ HBY.out).mono ?_
        rintro e wd ⟨rfl, hbd⟩
        obtain ⟨gd, hgd⟩ : ∃ g, wd.heap.size = g := ⟨_, rfl⟩
        obtain ⟨wD, hwD⟩ : ∃ w', wd.alloc (.cells #[.string o1, .int .i64 o2, .string o3, .int .i64 o4, .string o5] 61) = w' := ⟨_, rfl⟩
        have hbD : Below wC.heap.size wC wD := bstep HBT.out (bstep HBY.out (by rw [← hwD]; exact hbd.alloc hbd.size _))
        have d1 : wD.cell? ⟨gd, 1, none⟩ = some (.int .i64 o2) := by rw [← hwD, ← hgd]; simp
        have d3 : wD.cell? ⟨gd, 3, none⟩ = some (.int .i64 o4) := by rw [← hwD, ← hgd]; simp
        obtain ⟨g1, g2, a1', a3', c1'⟩ := HGA.out
        have a1 := (hbD.cell (p := ⟨ga, 1, none⟩) g1).trans a1'
        have a3 := (hbD.cell (p := ⟨ga, 3, none⟩) g1).trans a3'
        have HBD := Lib.hid hbD
        have hp := HHP.out
        clear hbd hbD a1' a3' c1' g1 g2 HPLo yc0 yc1 yc2 yc3 y0 hwx2 hpy
        by_cases h1 : 0 < o2
        ·by_cases h2 : o4 < p4
         ·have h3 : ¬ o2 ≤ p2 := by have := HPRo.out hp h1 h2; omega
          go_wp2
          go_roundw
          case rel => exact ⟨t + 1, by omega, by go_num, HBD.out⟩
          case measure => simp [RowKit.intOf]; omega
         ·go_wp2
          go_roundw
          case rel => exact ⟨t + 1, by omega, by go_num, HBD.out⟩
          case measure => simp [RowKit.intOf]; omega
        ·go_wp2
         go_roundw
         case rel => exact ⟨t + 1, by omega, by go_num, HBD.out⟩
         case measure => simp [RowKit.intOf]; omega
       ·have hti : ¬ (t : Int) < (n : Int) := by omega
        have a1 := (hbt.cell (p := ⟨ga, 1, none⟩) g1).trans a1'
        have c1 := (hbt.cell (p := ⟨gc, 1, none⟩) g2).trans c1'
        have HBT := Lib.hid (bstep HALL.out hbt)
        have hfst := HOR.out.2.2.1
        clear hbt a1' a3' c1' g1 g2
        by_cases hs : 1 < s2
        ·have he := hfst hs
         have hne : (p2 != s2) = false := by rw [he]; simp
         clear hfst he
         go_wp2
         go_roundw
         case rel => exact ⟨j + 1, by omega, by go_num, HBT.out⟩
         case measure => simp [RowKit.intOf]; omega
        ·clear hfst
         go_wp2
         go_roundw
         case rel => exact ⟨j + 1, by omega, by go_num, HBT.out⟩
         case measure => simp [RowKit.intOf]; omega
     ·have hp0 : p2 = 0 := by
       rcases hkind with ⟨h, _⟩ | ⟨h, _⟩
       ·exact h
       ·omega
      have hk : p3 = sNone := by
       rcases hkind with ⟨_, h⟩ | ⟨h, _⟩
       ·exact h
       ·omega
      have hnon : (sNone.toList == [110, 111, 110, 101]) = true := by kernel_rfl
      subst hp0
      subst hk
      clear hmark hkind hfst
      go_wp2
      have HHP := Lib.hid hp
      clear hne1 hne2 a1 a2 a3 a4 b1 b2 b3 b4 c1 c2 c3 c4 hwC hgc
      go_loopw [217] (fun i wr => ∃ t : Nat, t ≤ n ∧ i = .int .i64 t ∧ Below wC.heap.size wC wr) (fun i _ => n - (RowKit.intOf i).toNat)
      case atStart => exact ⟨0, by omega, rfl, Below.refl _ _⟩
      case round =>
       obtain ⟨t, ht, rfl, hbt⟩ := hrel
       obtain ⟨g1, g2, a1', a3', c1'⟩ := HGA.out
       by_cases htl : t < n
       ·have hti : (t : Int) < (n : Int) := by omega
        have ht0 : (0 : Int) ≤ (t : Int) := by omega
        have htt : ((t : Int)).toNat = t := by omega
        obtain ⟨wz, rfl⟩ : ∃ wz : World, wz = wr := ⟨_, rfl⟩
        obtain ⟨b2', oy, y, ey, hby1, hy, ⟨yc0, yc1, yc2, yc3⟩, _⟩ := (H.out.below (bstep HBL.out (bstep HB18.out (bstep HALL.out hbt)))).at_ htl
        obtain ⟨rfl, rfl⟩ : bx = b2' ∧ ox = oy := by simpa using ey
        obtain ⟨o, _, _, ho, _, _, _⟩ := HAS.out t y hy
        have HPLo : Hid (∀ w', Below wz.heap.size wz w' → Calls Tryz.prog 25 #[.slice Aa n cAa, .string y.s] w' (RetPost (.tuple #[o.val, .bool true]) w')) := Lib.hid fun w' hb => by
         have := l6placed_any (standL G L) n cAa Aa y.s w' (HPAa18.out.below (bstep HALL.out (bstep hbt hb))) (by omega)
         rw [ho] at this; exact this
        have hpr := HOR.out.2.2.2 t y o hy ho
        obtain ⟨o1, o2, o3, o4, o5⟩ := o
        obtain ⟨ys, yAH, ynh, ych, yH, yAO, yno, yco, yO, yrt⟩ := y
        unfold Plc.val at HPLo
        dsimp only at *
        have HPRo := Lib.hid hpr
        obtain ⟨py, hpy⟩ : ∃ py, wz.heap.size = py := ⟨_, rfl⟩
        obtain ⟨wx2, hwx2⟩ : ∃ wx2, wz.alloc (.cells #[.string ys, .slice yAH ynh ych, .slice yAO yno yco, .bool yrt] 66) = wx2 := ⟨_, rfl⟩
        have hbx2 : Below wz.heap.size wz wx2 := by rw [← hwx2]; exact balloc _ (Below.refl _ _)
        have y0 : wx2.cell? ⟨py, 0, none⟩ = some (.string ys) := by rw [← hwx2, ← hpy]; simp
        have HBY := Lib.hid hbx2
        have HBT := Lib.hid hbt
        clear ey hby1 hy ho hpr hbx2 hbt a1' a3' c1' g1 g2
        go_wp2_with fail
        refine (HPLo.out _ HBY.out).mono ?_
        rintro e wd ⟨rfl, hbd⟩
        obtain ⟨gd, hgd⟩ : ∃ g, wd.heap.size = g := ⟨_, rfl⟩
        obtain ⟨wD, hwD⟩ : ∃ w', wd.alloc (.cells #[.string o1, .int .i64 o2, .string o3, .int .i64 o4, .string o5] 61) = w' := ⟨_, rfl⟩
        have hbD : Below wC.heap.size wC wD := bstep HBT.out (bstep HBY.out (by rw [← hwD]; exact hbd.alloc hbd.size _))
        have d1 : wD.cell? ⟨gd, 1, none⟩ = some (.int .i64 o2) := by rw [← hwD, ← hgd]; simp
        have d3 : wD.cell? ⟨gd, 3, none⟩ = some (.int .i64 o4) := by rw [← hwD, ← hgd]; simp
        obtain ⟨g1, g2, a1', a3', c1'⟩ := HGA.out
        have a1 := (hbD.cell (p := ⟨ga, 1, none⟩) g1).trans a1'
        have a3 := (hbD.cell (p := ⟨ga, 3, none⟩) g1).trans a3'
        have HBD := Lib.hid hbD
        have hp := HHP.out
        clear hbd hbD a1' a3' c1' g1 g2 HPLo yc0 yc1 yc2 yc3 y0 hwx2 hpy
        go_wp2
        go_roundw
        case rel => exact ⟨t + 1, by omega, by go_num, HBD.out⟩
        case measure => simp [RowKit.intOf]; omega
       ·have hti : ¬ (t : Int) < (n : Int) := by omega
        have a1 := (hbt.cell (p := ⟨ga, 1, none⟩) g1).trans a1'
        have c1 := (hbt.cell (p := ⟨gc, 1, none⟩) g2).trans c1'
        have HBT := Lib.hid (bstep HALL.out hbt)
        have hfst := HOR.out.2.2.1
        clear hbt a1' a3' c1' g1 g2
        by_cases hs : 1 < s2
        ·have he := hfst hs
         have hne : ((0 : Int) != s2) = false := by rw [he]; simp
         clear hfst he
         go_wp2
         go_roundw
         case rel => exact ⟨j + 1, by omega, by go_num, HBT.out⟩
         case measure => simp [RowKit.intOf]; omega
        ·clear hfst
         go_wp2
         go_roundw
         case rel => exact ⟨j + 1, by omega, by go_num, HBT.out⟩
         case measure => simp [RowKit.intOf]; omega
    ·have hji : ¬ (j : Int) < (n : Int) := by omega
     have hfin0 := bstep HBL.out (bstep HB18.out hbw)
     obtain ⟨v0, v1, v2⟩ := HX3.out wr (bstep HB18.out hbw)
     have HF := Lib.hid hfin0
     clear hbw hfin0
     go_wp2_with fail
     refine (HWO.out _ HF.out).mono ?_
     rintro e w19 ⟨rfl, hb19⟩
     have HF9 := Lib.hid (bstep HF.out hb19)
     clear hb19 v0 v1 v2
     go_wp2_with fail
     refine (HAW.out _ HF9.out).mono ?_
     rintro e w20 ⟨rfl, hb20⟩
     have hfin := bstep HF9.out hb20
     clear hb20
     go_wp2
     go_ret
     exact ⟨rfl, hfin⟩
end Go.Mk
