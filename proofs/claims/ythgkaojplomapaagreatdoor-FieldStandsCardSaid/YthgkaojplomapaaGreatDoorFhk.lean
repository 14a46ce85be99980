/-
  Proved: the law FieldStands returns true and leaves all that was
-/
import Derived.Test.YthgkaojplomapaaGreatDoorFhi
import Derived.Test.YthgkaojplomapaaGreatDoorFhj
import Derived.Test.YthgkaojplomapaaGreatDoorXaw
set_option maxHeartbeats 32000000
set_option linter.unusedVariables false
set_option linter.unusedSimpArgs false
open Go Go.Proofs Go.RowKit
set_option maxRecDepth 100000
namespace Go.Mk
theorem rndG_nrm : ∀ (L : List CardR) (m : Nat), rndG m (L.map cnrm) = rndG m L
 | [], _ => rfl
 | r :: L, m => rndG_nrm L (max m r.no)
theorem clL_nrm (L : List CardR) (k : Nat) : clL (L.map cnrm) k = clL L k := by
 unfold clL
 rw [List.any_map]; rfl
theorem hgtO_nrm (L : List CardR) (G : List Int) (st : Int) : ∀ k, hgtO (L.map cnrm) G st k = hgtO L G st k
 | 0 => by unfold hgtO; rw [bestT_nrm]
 | k + 1 => by unfold hgtO; rw [clL_nrm, hgtO_nrm L G st k]
theorem off_same {N : List ByteArray} {G : List Int} {st : Int} {L M : List CardR} (h : L.map cnrm = M.map cnrm) : offE N G st L = offE N G st M ∧ offR L G st = offR M G st := by
 have e1 : ∀ L : List CardR, offE N G st (L.map cnrm) = offE N G st L := fun L => by unfold offE; rw [crdE_nrm, rndG_nrm, bestT_nrm]
 have e2 : ∀ L : List CardR, offR (L.map cnrm) G st = offR L G st := fun L => by
  unfold offR
  rw [rndG_nrm, show hgtO (L.map cnrm) G st = hgtO L G st from funext (hgtO_nrm L G st)]
 exact ⟨by rw [← e1 L, h, e1], by rw [← e2 L, h, e2]⟩
theorem crdE_bad (N : List ByteArray) (G : List Int) (st : Int) (L : List CardR) : crdE N G st L = if verE N G st = 0 then crdR N G L else verE N G st := by
 unfold crdE crdR fstN
 by_cases h : verE N G st = 0
 ·rw [if_pos h, if_pos h]
  unfold fstN
  by_cases h2 : L.length = N.length
  ·rw [if_pos h2, if_pos h2, if_pos rfl]
   unfold fstN fstN
   split
   ·rename_i q; exact q.symm
   ·rfl
  ·rw [if_neg h2, if_neg h2, if_neg (by decide)]
 ·rw [if_neg h, if_neg h]
theorem sta6_any (N : List ByteArray) (nN cN : Nat) (AN : Option Addr) (G : List Int) (AG : Option Addr) (m cG : Nat) (st : Int) (L : List CardR) (n cap : Nat) (A : Option Addr) (w : World) (hN : TextsZ w AN nN N) (hcN : nN ≤ cN) (hnN : (nN : Int) ≤ 9223372036854775807) (hG : IntsZ w AG m G) (hm : (m : Int) ≤ 9223372036854775807) (hZ : Cards w A n L) (hn : (n : Int) ≤ 9223372036854775807) (hC : ∀ r ∈ L, CardI r)
  (ht : Tabs w) :
  Calls Tryz.prog 3 #[.agg #[.slice AN nN cN, .slice AG m cG, .int .i64 st], .slice A n cap] w (Yes w) := by
 obtain ⟨g, hg⟩ : ∃ g, w.heap.size = g := ⟨_, rfl⟩
 obtain ⟨w1, hw1⟩ : ∃ w1, w.alloc (.cells #[.slice AN nN cN, .slice AG m cG, .int .i64 st] 25) = w1 := ⟨_, rfl⟩
 have hb1 : Below w.heap.size w w1 := by rw [← hw1]; exact balloc _ (Below.refl _ _)
 have hgl : g < w1.heap.size := by rw [← hw1, ← hg]; simp
 have HX : Hid (∀ w', Below w1.heap.size w1 w' → w'.cell? ⟨g, 0, none⟩ = some (.slice AN nN cN) ∧ w'.cell? ⟨g, 1, none⟩ = some (.slice AG m cG) ∧ w'.cell? ⟨g, 2, none⟩ = some (.int .i64 st)) := Lib.hid fun w' hb => by
  refine ⟨?_, ?_, ?_⟩
  all_goals
   refine (hb.cell (p := ⟨g, _, none⟩) hgl).trans ?_
   rw [← hw1, ← hg]; simp
 have HB0 := Lib.hid hb1
 have hSV := l6shortCards_any N nN cN AN G AG m cG st L n cap A w1 (hN.below hb1) hnN (hG.below hb1) hm (hZ.below hb1) hn hC
 have HAW : Hid (∀ w', Below w1.heap.size w1 w' → Calls Tryz.prog 7 #[] w' (RetPost (.bool true) w')) := Lib.hid fun w' hb => aw w' (ht.grow (bstep HB0.out hb))
 obtain ⟨v0, v1, v2⟩ := HX.out w1 (Below.refl _ _)
 cases h1 : shV N G L with
 | false =>
  rw [h1] at hSV
  clear hN hcN hnN hG hm hZ hn hC ht h1 hb1 hgl
  go_enter Tryz.func3, Tryz.ntmps3
  go_wp2_with fail
  refine hSV.mono ?_
  rintro e w2 ⟨rfl, hb2⟩
  have HB2 := Lib.hid hb2
  clear hb2 v0 v1 v2 hSV
  go_wp2_with fail
  refine (HAW.out _ HB2.out).mono ?_
  rintro e w9 ⟨rfl, hb9⟩
  have hfin := bstep HB0.out (bstep HB2.out hb9)
  clear hb9
  go_wp2
  go_ret
  exact ⟨rfl, hfin⟩
 | true =>
  rw [h1] at hSV
  obtain ⟨⟨hN35, hN40⟩, hG27, hL35, _⟩ := shV_true h1
  have hCS := shV_cards h1 hZ
  have hLn : L.length = n := hZ.1
  have hGm : G.length = m := hG.1
  have hNn : N.length = nN := hN.1
  have hsN : ∀ x ∈ N, x.size ≤ maxLen := fun x hx => by have := hN40 x hx; unfold maxLen; omega
  have hS : ∀ r ∈ L, CardS r := fun r hr => (hCS r hr).1
  have hni : (n : Int) ≤ 35 := by omega
  obtain ⟨E, hE⟩ : ∃ E, crdE N G st L = E := ⟨_, rfl⟩
  obtain ⟨O, hO⟩ : ∃ O, offE N G st L = O := ⟨_, rfl⟩
  obtain ⟨PL, hPL⟩ : ∃ PL, (if E = 0 then standL G L else []) = PL := ⟨_, rfl⟩
  obtain ⟨HL, hHL⟩ : ∃ HL, (if O = 0 then offR L G st else []) = HL := ⟨_, rfl⟩
  obtain ⟨nP, hnP⟩ : ∃ nP, PL.length = nP := ⟨_, rfl⟩
  obtain ⟨nH, hnH⟩ : ∃ nH, HL.length = nH := ⟨_, rfl⟩
  have hcpy : ∀ (L' : List CardR) (v : Value) (B : Nat) (w' : World), L'.map cnrm = L.map cnrm → OwnCards w' B v L' → ∃ A' c', v = .slice A' n c' ∧ Cards w' A' n L' ∧ (∀ r ∈ L', CardS r) ∧ ∀ r ∈ L', r.no ≤ 900 := fun L' v B w' h ho => by
   obtain ⟨A', c', rfl, hR⟩ := Cards.of_own ho
   have hl : L'.length = n := by rw [← hLn]; simpa using congrArg List.length h
   rw [hl] at hR ⊢
   exact ⟨A', c', rfl, hR, same_memC h (P := CardS) (fun r => Iff.rfl) hS, same_memC h (P := fun r => r.no ≤ 900) (fun r => Iff.rfl) fun r hr => by have := (hCS r hr).2.2.1; omega⟩
  have HCD : Hid (∀ w', Below w1.heap.size w1 w' → Calls Tryz.prog 9 #[.slice A n cap] w' (fun e w'' => ∃ v L', e = .returned v ∧ L'.map cnrm = L.map cnrm ∧ OwnCards w'' w'.heap.size v L' ∧ Below w'.heap.size w' w'')) := Lib.hid fun w' hb => l6cards_any L n cap A w' (hZ.below (bstep hb1 hb)) (by omega) fun r hr => by
   obtain ⟨_, a2, a3, _⟩ := hCS r hr
   obtain ⟨_, _, _, a4, a5⟩ := hC r hr
   exact ⟨by omega, by omega, a4, a5⟩
  have HST : Hid (∀ (L' : List CardR) (v : Value) (B : Nat) (w' : World), L'.map cnrm = L.map cnrm → OwnCards w' B v L' → Below w1.heap.size w1 w' → ∃ A' c', v = .slice A' n c' ∧ Calls Tryz.prog 8 #[.agg #[.slice AN nN cN, .slice AG m cG, .int .i64 st], .slice A' n c'] w' (fun e w'' => ∃ A6 c6, e = .returned (.tuple #[.slice A6 nP c6, .int .i64 E]) ∧ PlcsZ w'' A6 nP PL ∧ Below w'.heap.size w' w'')) := Lib.hid fun L' v B w' h ho hb => by
   obtain ⟨A', c', rfl, hR, hS', _⟩ := hcpy L' v B w' h ho
   obtain ⟨q1, q2, _⟩ := same_cards (N := N) (G := G) (st := st) h
   refine ⟨A', c', rfl, (fdStanding_any N nN cN AN G AG m cG st L' n c' A' w' (hN.below (bstep hb1 hb)) (by omega) hcN hsN (hG.below (bstep hb1 hb)) (by omega) hR (by omega) hS').mono ?_⟩
   rintro e w'' ⟨v, rfl, ho', hb'⟩
   rw [q1, hE, q2, hPL] at ho'
   obtain ⟨A6, c6, rfl, hp⟩ := PlcsZ.of_own ho'
   rw [hnP] at hp
   rw [q1, hE, hnP]
   exact ⟨A6, c6, rfl, hp, hb'⟩
  have HOH : Hid (∀ (L' : List CardR) (v : Value) (B : Nat) (w' : World), L'.map cnrm = L.map cnrm → OwnCards w' B v L' → Below w1.heap.size w1 w' → ∃ A' c', v = .slice A' n c' ∧ Calls Tryz.prog 10 #[.agg #[.slice AN nN cN, .slice AG m cG, .int .i64 st], .slice A' n c'] w' (fun e w'' => ∃ A7 c7, e = .returned (.tuple #[.slice A7 nH c7, .int .i64 O]) ∧ IntsZ w'' A7 nH HL ∧ Below w'.heap.size w' w'')) := Lib.hid fun L' v B w' h ho hb => by
   obtain ⟨A', c', rfl, hR, hS', hno⟩ := hcpy L' v B w' h ho
   obtain ⟨q1, q2⟩ := off_same (N := N) (G := G) (st := st) h
   refine ⟨A', c', rfl, (fdOffHeights_any N nN cN AN G AG m cG st L' n c' A' w' (hN.below (bstep hb1 hb)) (by omega) hcN hsN (hG.below (bstep hb1 hb)) (by omega) hR (by omega) hS' hno).mono ?_⟩
   rintro e w'' ⟨v, rfl, ho', hb'⟩
   rw [q1, hO, q2, hHL] at ho'
   obtain ⟨A7, c7, rfl, hp⟩ := IntsZ.of_own ho'
   rw [hnH] at hp
   rw [q1, hO, hnH]
   exact ⟨A7, c7, rfl, hp, hb'⟩
  have HCK : Hid (∀ (L' : List CardR) (v : Value) (B : Nat) (w' : World), L'.map cnrm = L.map cnrm → OwnCards w' B v L' → Below w1.heap.size w1 w' → ∃ A' c', v = .slice A' n c' ∧ Calls Tryz.prog 13 #[.agg #[.slice AN nN cN, .slice AG m cG, .int .i64 st], .slice A' n c'] w' (RetPost (.int .i64 E) w')) := Lib.hid fun L' v B w' h ho hb => by
   obtain ⟨A', c', rfl, hR, hS', _⟩ := hcpy L' v B w' h ho
   obtain ⟨q1, _, _⟩ := same_cards (N := N) (G := G) (st := st) h
   refine ⟨A', c', rfl, ?_⟩
   have := fdCheckCards_any N nN cN AN G AG m cG st L' n c' A' w' (hN.below (bstep hb1 hb)) (by omega) hcN hsN (hG.below (bstep hb1 hb)) (by omega) hR (by omega) hS'
   rw [q1, hE] at this; exact this
  obtain ⟨y, hy⟩ : ∃ y, verE N G st = y := ⟨_, rfl⟩
  have HCV : Hid (∀ w', Below w1.heap.size w1 w' → Calls Tryz.prog 11 #[.agg #[.slice AN nN cN, .slice AG m cG, .int .i64 st]] w' (RetPost (.int .i64 y) w')) := Lib.hid fun w' hb => by
   rw [← hy]
   exact r6CheckVertical_any N nN cN AN G m cG AG st w' (hN.below (bstep hb1 hb)) (by omega) hsN (hG.below (bstep hb1 hb)) (by omega)
  obtain ⟨z, hz⟩ : ∃ z, crdR N G L = z := ⟨_, rfl⟩
  have HCC : Hid (∀ w', Below w1.heap.size w1 w' → Calls Tryz.prog 12 #[.agg #[.slice AN nN cN, .slice AG m cG, .int .i64 st], .slice A n cap] w' (RetPost (.int .i64 z) w')) := Lib.hid fun w' hb => by
   rw [← hz]
   exact r6CheckCards_any N nN cN AN G AG m cG st L n cap A w' (hN.below (bstep hb1 hb)) (by omega) (hG.below (bstep hb1 hb)) (by omega) (hZ.below (bstep hb1 hb)) (by omega) hS
  have hEE := crdE_bad N G st L
  rw [hE, hy, hz] at hEE
  have hOE : E ≠ 0 → O = E ∧ nP = 0 ∧ nH = 0 := fun q => by
   have e1 : O = E := by rw [← hO]; unfold offE; rw [hE, if_neg q]
   refine ⟨e1, ?_, ?_⟩
   ·rw [← hnP, ← hPL, if_neg q]; rfl
   ·rw [← hnH, ← hHL, e1, if_neg q]; rfl
  have hmain : E = 0 → (∀ r ∈ L, CardV r) ∧ (∀ r ∈ L, r.nh ≤ m) ∧ L ≠ [] ∧ (∀ x ∈ G, 10 ≤ x ∧ x ≤ 999999) ∧ 10 ≤ st ∧ st ≤ 1000 ∧ PL = standL G L ∧ PL.length = n := fun q => by
   have hcr : crdE N G st L = 0 := hE.trans q
   obtain ⟨hve, _, hpos, h32, hrow⟩ := crdE_ok hcr
   obtain ⟨hGr, hst1, hst2⟩ := ver_ok hve
   have e : PL = standL G L := by rw [← hPL, if_pos q]
   refine ⟨fun r hr => ?_, fun r hr => ?_, List.ne_nil_of_length_pos hpos, hGr, hst1, hst2, e, by rw [e, standL_len, hLn]⟩
   ·obtain ⟨j, hj⟩ := List.mem_iff_getElem?.1 hr
    exact (cardV_of (hrow j r hj).2.1).1
   ·obtain ⟨j, hj⟩ := List.mem_iff_getElem?.1 hr
    have := (hrow j r hj).2.2
    rw [hGm] at this; exact this
  have hTs : ∀ r ∈ L, r.nh ≤ 1000 ∧ ∀ x ∈ r.H, x.size ≤ 5000 := fun r hr => ⟨(hS r hr).2.1, (hS r hr).2.2.2.1⟩
  have hno : ∀ r ∈ L, r.no ≤ 900 := fun r hr => by have := (hCS r hr).2.2.1; omega
  have hno2 : ∀ r ∈ L, r.no ≤ 1000 := fun r hr => by have := (hCS r hr).2.2.1; omega
  have HNP : Hid (E = 0 → nP = n ∧ PL.length = n) := Lib.hid fun q => by
   obtain ⟨_, _, _, _, _, _, _, e⟩ := hmain q
   exact ⟨hnP.symm.trans e, e⟩
  have HRS : Hid (E = 0 → ∀ w', Below w1.heap.size w1 w' → Calls Tryz.prog 16 #[.agg #[.slice AN nN cN, .slice AG m cG, .int .i64 st], .slice A n cap] w' (fun e w'' => ∃ v, e = .returned v ∧ OwnPlR w'' w'.heap.size v PL ∧ Below w'.heap.size w' w'')) := Lib.hid fun q w' hb => by
   obtain ⟨a1, a2, _, _, _, _, e, _⟩ := hmain q
   rw [e]
   exact r6Standing_any AN AG nN cN m cG G st L n cap A w' (hG.below (bstep hb1 hb)) (by omega) (hZ.below (bstep hb1 hb)) (by omega) hTs hno a2 a1
  obtain ⟨R, hR⟩ : ∃ R, rndG 0 L = R := ⟨_, rfl⟩
  have hRl : R ≤ 30 := by rw [← hR]; exact rndG_le L 0 (by omega) fun r hr => (hCS r hr).2.2.1
  have HRN : Hid (∀ w', Below w1.heap.size w1 w' → Calls Tryz.prog 17 #[.slice A n cap] w' (RetPost (.int .i64 (R : Nat)) w')) := Lib.hid fun w' hb => by
   rw [← hR]
   exact r6Rounds_any L n cap A w' (hZ.below (bstep hb1 hb)) (by omega) hno2
  obtain ⟨cb, hcb⟩ : ∃ cb, decide (0 < (bestT L).a) = cb := ⟨_, rfl⟩
  have HCL : Hid (E = 0 → ∀ w', Below w1.heap.size w1 w' → Calls Tryz.prog 18 #[.slice A n cap] w' (RetPost (.bool cb) w')) := Lib.hid fun q w' hb => by
   obtain ⟨a1, _, a3, _⟩ := hmain q
   rw [← hcb]
   exact r6Cleared_any L n cap A w' (hZ.below (bstep hb1 hb)) (by omega) hTs a1 a3
  have HRO : Hid (E = 0 → cb = true → ∀ w', Below w1.heap.size w1 w' → Calls Tryz.prog 20 #[.agg #[.slice AN nN cN, .slice AG m cG, .int .i64 st], .slice A n cap] w' (fun e w'' => ∃ v, e = .returned v ∧ OwnZ w'' w'.heap.size v (offR L G st) ∧ Below w'.heap.size w' w'')) := Lib.hid fun q q2 w' hb => by
   obtain ⟨a1, a2, a3, a4, a5, a6, _⟩ := hmain q
   exact r6OffHeights_any G AN AG nN cN m cG st L n cap A w' (hG.below (bstep hb1 hb)) (by omega) a4 a5 a6 (hZ.below (bstep hb1 hb)) (by omega) hTs hno a2 a1 (of_decide_eq_true (by rw [hcb]; exact q2)) a3
  have HO7 : Hid (E = 0 → (R = 0 ∨ cb = false) → O = 7 ∧ nH = 0) := Lib.hid fun q0 q => by
   have e1 : O = 7 := by
    rw [← hO]; unfold offE
    rw [hE, if_pos q0, hR]
    refine if_pos ?_
    rcases q with q | q
    ·exact .inl q
    ·exact .inr fun z => by rw [decide_eq_true z] at hcb; rw [← hcb] at q; cases q
   refine ⟨e1, ?_⟩
   rw [← hnH, ← hHL, e1]; rfl
  have HO0 : Hid (E = 0 → R ≠ 0 → cb = true → O = 0 ∧ HL = offR L G st ∧ nH = R) := Lib.hid fun q0 q1 q2 => by
   have e1 : O = 0 := by
    rw [← hO]; unfold offE
    rw [hE, if_pos q0, hR]
    refine if_neg fun z => ?_
    rcases z with z | z
    ·exact q1 z
    ·exact z (of_decide_eq_true (by rw [hcb]; exact q2))
   rw [if_pos e1] at hHL
   refine ⟨e1, hHL.symm, ?_⟩
   rw [← hnH, ← hHL]; unfold offR; simp [hR]
  have hRi : (R : Int) ≤ 30 := by omega
  have HOE := Lib.hid hOE
  have HEE := Lib.hid hEE
  clear hN hcN hnN hG hm hZ hn hC ht h1 hb1 hgl hN35 hN40 hG27 hL35 hCS hLn hGm hNn hsN hS hcpy hOE hEE hE hO hPL hHL hnP hnH hy hz hmain hTs hno hno2 hR hcb
  go_enter Tryz.func3, Tryz.ntmps3
  go_wp2_with fail
  refine hSV.mono ?_
  rintro e w2 ⟨rfl, hb2⟩
  have HBw2 := Lib.hid hb2
  clear hSV hb2 v0 v1 v2
  go_wp2_with fail
  have HXw2 : Hid (∀ w', Below w2.heap.size w2 w' → (fun w' => w'.cell? ⟨g, 0, none⟩ = some (.slice AN nN cN) ∧ w'.cell? ⟨g, 1, none⟩ = some (.slice AG m cG) ∧ w'.cell? ⟨g, 2, none⟩ = some (.int .i64 st) ∧ Below w2.heap.size w2 w') w') := Lib.hid fun w' hb => ⟨(HX.out w' (bstep HBw2.out hb)).1, (HX.out w' (bstep HBw2.out hb)).2.1, (HX.out w' (bstep HBw2.out hb)).2.2, hb⟩
  refine wp_region_held_drew (S := fun w' => w'.cell? ⟨g, 0, none⟩ = some (.slice AN nN cN) ∧ w'.cell? ⟨g, 1, none⟩ = some (.slice AG m cG) ∧ w'.cell? ⟨g, 2, none⟩ = some (.int .i64 st) ∧ Below w2.heap.size w2 w') (by kernel_rfl) ?_ (fun hHeld => ?_)
  ·exact HXw2.out _ (Below.drew (Below.refl _ _))
  generalize World.drew _ = wd at hHeld ⊢
  refine zV 0 (h := zV 1 (h := ?_))
  try simp only [zP, zQ, zA2, zA3]
  refine zN 2 fun K hKK => ?_
  go_simp
  go_at_call 9
  with_reducible refine (HCD.out _ (bstep HBw2.out hHeld.2.2.2)).mono ?_
  rintro e' w' ⟨vq, L1, rfl, hL1, ho1, hbz⟩
  have hX := bstep hHeld.2.2.2 hbz
  obtain ⟨Aq, cq, rfl, HK⟩ := HST.out L1 _ _ w' hL1 ho1 (bstep HBw2.out hX)
  clear hHeld hbz ho1 hL1
  go_wp2_with fail
  refine hKK.out _ _ ?_ (fun hHeld => ?_)
  ·exact HXw2.out _ hX
  clear hKK K
  try simp only [zP, zQ, zA2, zA3]
  clear hX
  refine zN 3 fun K hKK => ?_
  go_simp
  go_at_call 8
  with_reducible refine HK.mono ?_
  rintro e' w6 ⟨A6, c6, rfl, hP6, hbz⟩
  have HP6 := Lib.hid hP6
  have hX := bstep hHeld.2.2.2 hbz
  have HBw6 := Lib.hid (bstep HBw2.out hX)
  clear hHeld HK hbz hP6
  go_wp2_with fail
  refine hKK.out _ _ ?_ (fun hHeld => ?_)
  ·exact HXw2.out _ hX
  clear hKK K
  try simp only [zP, zQ, zA2, zA3]
  clear hX
  refine zV 4 (h := zV 5 (h := zV 6 (h := zV 7 (h := zV 8 (h := ?_)))))
  try simp only [zP, zQ, zA2, zA3]
  refine wpAnyH_done (by kernel_rfl) ?_ _
  clear hHeld HXw2
  go_wp2_with fail
  have HXw6 : Hid (∀ w', Below w6.heap.size w6 w' → (fun w' => w'.cell? ⟨g, 0, none⟩ = some (.slice AN nN cN) ∧ w'.cell? ⟨g, 1, none⟩ = some (.slice AG m cG) ∧ w'.cell? ⟨g, 2, none⟩ = some (.int .i64 st) ∧ Below w6.heap.size w6 w') w') := Lib.hid fun w' hb => ⟨(HX.out w' (bstep HBw6.out hb)).1, (HX.out w' (bstep HBw6.out hb)).2.1, (HX.out w' (bstep HBw6.out hb)).2.2, hb⟩
  refine wp_region_held_drew (S := fun w' => w'.cell? ⟨g, 0, none⟩ = some (.slice AN nN cN) ∧ w'.cell? ⟨g, 1, none⟩ = some (.slice AG m cG) ∧ w'.cell? ⟨g, 2, none⟩ = some (.int .i64 st) ∧ Below w6.heap.size w6 w') (by kernel_rfl) ?_ (fun hHeld => ?_)
  ·exact HXw6.out _ (Below.drew (Below.refl _ _))
  generalize World.drew _ = wd at hHeld ⊢
  refine zV 0 (h := zV 1 (h := ?_))
  try simp only [zP, zQ, zA2, zA3]
  refine zN 2 fun K hKK => ?_
  go_simp
  go_at_call 9
  with_reducible refine (HCD.out _ (bstep HBw6.out hHeld.2.2.2)).mono ?_
  rintro e' w' ⟨vq, L1, rfl, hL1, ho1, hbz⟩
  have hX := bstep hHeld.2.2.2 hbz
  obtain ⟨Aq, cq, rfl, HK⟩ := HOH.out L1 _ _ w' hL1 ho1 (bstep HBw6.out hX)
  clear hHeld hbz ho1 hL1
  go_wp2_with fail
  refine hKK.out _ _ ?_ (fun hHeld => ?_)
  ·exact HXw6.out _ hX
  clear hKK K
  try simp only [zP, zQ, zA2, zA3]
  clear hX
  refine zN 3 fun K hKK => ?_
  go_simp
  go_at_call 10
  with_reducible refine HK.mono ?_
  rintro e' w7 ⟨A7, c7, rfl, hP7, hbz⟩
  have HP7 := Lib.hid hP7
  have hX := bstep hHeld.2.2.2 hbz
  have HBw7 := Lib.hid (bstep HBw6.out hX)
  have HP6 := Lib.hid (HP6.out.below hX)
  clear hHeld HK hbz hP7
  go_wp2_with fail
  refine hKK.out _ _ ?_ (fun hHeld => ?_)
  ·exact HXw6.out _ hX
  clear hKK K
  try simp only [zP, zQ, zA2, zA3]
  clear hX
  refine zV 4 (h := zV 5 (h := zV 6 (h := zV 7 (h := zV 8 (h := ?_)))))
  try simp only [zP, zQ, zA2, zA3]
  refine wpAnyH_done (by kernel_rfl) ?_ _
  clear hHeld HXw6
  obtain ⟨v0, v1, v2⟩ := HX.out _ HBw7.out
  go_wp2_with fail
  refine (HCV.out _ HBw7.out).mono ?_
  rintro e w3 ⟨rfl, hb3⟩
  have HBw3 := Lib.hid (bstep HBw7.out hb3)
  have HP7 := Lib.hid (HP7.out.below hb3)
  have HP6 := Lib.hid (HP6.out.below hb3)
  clear hb3 v0 v1 v2
  have hEE := HEE.out
  clear HEE
  by_cases hy0 : y = 0
  ·rw [if_pos hy0] at hEE
   obtain rfl : E = z := hEE
   subst hy0
   have hyb : ((0 : Int) == 0) = true := rfl
   obtain ⟨v0, v1, v2⟩ := HX.out _ HBw3.out
   go_wp2_with fail
   refine (HCC.out _ HBw3.out).mono ?_
   rintro e w4 ⟨rfl, hb4⟩
   have HBw4 := Lib.hid (bstep HBw3.out hb4)
   have HP7 := Lib.hid (HP7.out.below hb4)
   have HP6 := Lib.hid (HP6.out.below hb4)
   clear hb4 v0 v1 v2
   go_wp2_with fail
   have HXw4 : Hid (∀ w', Below w4.heap.size w4 w' → (fun w' => w'.cell? ⟨g, 0, none⟩ = some (.slice AN nN cN) ∧ w'.cell? ⟨g, 1, none⟩ = some (.slice AG m cG) ∧ w'.cell? ⟨g, 2, none⟩ = some (.int .i64 st) ∧ Below w4.heap.size w4 w') w') := Lib.hid fun w' hb => ⟨(HX.out w' (bstep HBw4.out hb)).1, (HX.out w' (bstep HBw4.out hb)).2.1, (HX.out w' (bstep HBw4.out hb)).2.2, hb⟩
   refine wp_region_held_drew (S := fun w' => w'.cell? ⟨g, 0, none⟩ = some (.slice AN nN cN) ∧ w'.cell? ⟨g, 1, none⟩ = some (.slice AG m cG) ∧ w'.cell? ⟨g, 2, none⟩ = some (.int .i64 st) ∧ Below w4.heap.size w4 w') (by kernel_rfl) ?_ (fun hHeld => ?_)
   ·exact HXw4.out _ (Below.drew (Below.refl _ _))
   generalize World.drew _ = wd at hHeld ⊢
   refine zV 0 (h := zV 1 (h := zV 4 (h := ?_)))
   try simp only [zP, zQ, zA2, zA3]
   refine zN 2 fun K hKK => ?_
   go_simp
   go_at_call 9
   with_reducible refine (HCD.out _ (bstep HBw4.out hHeld.2.2.2)).mono ?_
   rintro e' w' ⟨vq, L1, rfl, hL1, ho1, hbz⟩
   have hX := bstep hHeld.2.2.2 hbz
   obtain ⟨Aq, cq, rfl, HK⟩ := HCK.out L1 _ _ w' hL1 ho1 (bstep HBw4.out hX)
   clear hHeld hbz ho1 hL1
   go_wp2_with fail
   refine hKK.out _ _ ?_ (fun hHeld => ?_)
   ·exact HXw4.out _ hX
   clear hKK K
   try simp only [zP, zQ, zA2, zA3]
   clear hX
   refine zN 3 fun K hKK => ?_
   go_simp
   go_at_call 13
   with_reducible refine HK.mono ?_
   rintro e' w8 ⟨rfl, hbz⟩
   have hX := bstep hHeld.2.2.2 hbz
   have HBw8 := Lib.hid (bstep HBw4.out hX)
   have HP6 := Lib.hid (HP6.out.below hX)
   have HP7 := Lib.hid (HP7.out.below hX)
   clear hHeld HK hbz
   go_wp2_with fail
   refine hKK.out _ _ ?_ (fun hHeld => ?_)
   ·exact HXw4.out _ hX
   clear hKK K
   try simp only [zP, zQ, zA2, zA3]
   clear hX
   refine zV 5 (h := ?_)
   try simp only [zP, zQ, zA2, zA3]
   refine wpAnyH_done (by kernel_rfl) ?_ _
   clear hHeld HXw4
   by_cases hz0 : E = 0
   ·subst hz0
    obtain ⟨e1, e2⟩ := HNP.out rfl
    subst e1
    have HSL := Lib.hid e2
    have HRS2 := Lib.hid (HRS.out rfl)
    have HCL2 := Lib.hid (HCL.out rfl)
    have HRO2' := Lib.hid (HRO.out rfl)
    have HO7' := Lib.hid (HO7.out rfl)
    have HO0' := Lib.hid (HO0.out rfl)
    clear e2 HNP HRS HCL HRO HO7 HO0 HOE
    go_wp2_with fail
    have HXw8 : Hid (∀ w', Below w8.heap.size w8 w' → (fun w' => w'.cell? ⟨g, 0, none⟩ = some (.slice AN nN cN) ∧ w'.cell? ⟨g, 1, none⟩ = some (.slice AG m cG) ∧ w'.cell? ⟨g, 2, none⟩ = some (.int .i64 st) ∧ Below w8.heap.size w8 w') w') := Lib.hid fun w' hb => ⟨(HX.out w' (bstep HBw8.out hb)).1, (HX.out w' (bstep HBw8.out hb)).2.1, (HX.out w' (bstep HBw8.out hb)).2.2, hb⟩
    refine wp_region_held_drew (S := fun w' => w'.cell? ⟨g, 0, none⟩ = some (.slice AN nN cN) ∧ w'.cell? ⟨g, 1, none⟩ = some (.slice AG m cG) ∧ w'.cell? ⟨g, 2, none⟩ = some (.int .i64 st) ∧ Below w8.heap.size w8 w') (by kernel_rfl) ?_ (fun hHeld => ?_)
    ·exact HXw8.out _ (Below.drew (Below.refl _ _))
    generalize hwd : World.drew _ = wd at hHeld ⊢
    clear hwd
    refine zV 0 (h := zV 1 (h := zV 2 (h := zV 3 (h := zV 5 (h := zV 6 (h := ?_))))))
    try simp only [zP, zQ, zA2, zA3]
    refine zN 4 fun K hKK => ?_
    go_simp
    go_at_call 15
    with_reducible refine (l6ownPlaces_any _ nP c6 A6 _ (HP6.out.below hHeld.2.2.2) (by omega)).mono ?_
    rintro e' wa ⟨va, rfl, hoa, hba⟩
    obtain ⟨Aa, ca, rfl, hPa⟩ := PlcsZ.of_ownR hoa
    rw [HSL.out] at hPa ⊢
    have HPa := Lib.hid hPa
    have hX := bstep hHeld.2.2.2 hba
    clear hHeld hba hoa hPa
    go_wp2_with fail
    refine hKK.out _ _ ?_ (fun hHeld => ?_)
    ·exact HXw8.out _ hX
    clear hKK K
    try simp only [zP, zQ, zA2, zA3]
    have HAX := Lib.hid hX
    clear hX
    refine zN 7 fun K hKK => ?_
    go_simp
    go_at_call 16
    with_reducible refine (HRS2.out _ (bstep HBw8.out hHeld.2.2.2)).mono ?_
    rintro e' wb ⟨vb, rfl, hob, hbb⟩
    obtain ⟨Ab, cbb, rfl, hPb⟩ := PlcsZ.of_ownR hob
    rw [HSL.out] at hPb ⊢
    have hSP := r6SamePlaces_any _ nP ca cbb Aa Ab wb (HPa.out.below hbb) hPb (by omega)
    have hX := bstep hHeld.2.2.2 hbb
    clear hHeld hbb hob hPb
    go_wp2_with fail
    refine hKK.out _ _ ?_ (fun hHeld => ?_)
    ·exact HXw8.out _ hX
    clear hKK K
    try simp only [zP, zQ, zA2, zA3]
    clear hX
    refine zN 8 fun K hKK => ?_
    go_simp
    go_at_call 14
    with_reducible refine hSP.mono ?_
    rintro e' wc ⟨rfl, hbc⟩
    have hX := bstep hHeld.2.2.2 hbc
    have HBwc := Lib.hid (bstep HBw8.out hX)
    have HP7 := Lib.hid (HP7.out.below hX)
    clear hHeld hbc hSP
    go_wp2_with fail
    refine hKK.out _ _ ?_ (fun hHeld => ?_)
    ·exact HXw8.out _ hX
    clear hKK K
    try simp only [zP, zQ, zA2, zA3]
    clear hX
    refine zV 9 (h := zV 10 (h := ?_))
    try simp only [zP, zQ, zA2, zA3]
    refine wpAnyH_done (by kernel_rfl) ?_ _
    clear hHeld HXw8
    go_wp2_with fail
    refine (HRN.out _ HBwc.out).mono ?_
    rintro e wd ⟨rfl, hbd⟩
    have HBwd := Lib.hid (bstep HBwc.out hbd)
    have HP7 := Lib.hid (HP7.out.below hbd)
    clear hbd
    by_cases hr0 : R = 0
    ·obtain ⟨rfl, rfl⟩ := HO7'.out (.inl hr0)
     have hrb : ((R : Int) == 0) = true := by simp [hr0]
     clear hr0
     go_wp2_with fail
     refine (HAW.out _ HBwd.out).mono ?_
     rintro e w9 ⟨rfl, hb9⟩
     have hfin := Lib.hid (bstep HB0.out (bstep HBwd.out hb9))
     clear hb9
     go_wp2
     go_ret
     exact ⟨rfl, hfin.out⟩
    ·have hrb : ((R : Int) == 0) = false := by simp [hr0]
     have hCL := HCL2.out _ HBwd.out
     cases cb with
     | false =>
      obtain ⟨rfl, rfl⟩ := HO7'.out (.inr rfl)
      clear hr0
      go_wp2_with fail
      refine hCL.mono ?_
      rintro e we ⟨rfl, hbe⟩
      have HBwe := Lib.hid (bstep HBwd.out hbe)
      clear hbe hCL
      go_wp2_with fail
      refine (HAW.out _ HBwe.out).mono ?_
      rintro e w9 ⟨rfl, hb9⟩
      have hfin := Lib.hid (bstep HB0.out (bstep HBwe.out hb9))
      clear hb9
      go_wp2
      go_ret
      exact ⟨rfl, hfin.out⟩
     | true =>
      obtain ⟨rfl, hHL, rfl⟩ := HO0'.out hr0 rfl
      rw [hHL] at HP7
      have HRO2 := Lib.hid (HRO2'.out rfl)
      clear hr0 hHL HRO2'
      go_wp2_with fail
      refine hCL.mono ?_
      rintro e we ⟨rfl, hbe⟩
      have HBwe := Lib.hid (bstep HBwd.out hbe)
      have HP7 := Lib.hid (HP7.out.below hbe)
      obtain ⟨v0, v1, v2⟩ := HX.out _ HBwe.out
      clear hbe hCL
      go_wp2_with fail
      refine (HRO2.out _ HBwe.out).mono ?_
      rintro e wf ⟨vf, rfl, hof, hbf⟩
      obtain ⟨Af, cf, rfl, hPf⟩ := IntsZ.of_own hof
      have hlf : (offR L G st).length = nH := HP7.out.1
      rw [hlf] at hPf ⊢
      have hSI := sameZ_any (offR L G st) A7 Af nH c7 cf wf (by omega) (HP7.out.below hbf) hPf
      have HBwf := Lib.hid (bstep HBwe.out hbf)
      clear hof hbf hPf hlf v0 v1 v2
      go_wp2_with fail
      refine hSI.mono ?_
      rintro e wg ⟨rfl, hbg⟩
      have HBwg := Lib.hid (bstep HBwf.out hbg)
      clear hbg hSI
      go_wp2_with fail
      refine (HAW.out _ HBwg.out).mono ?_
      rintro e w9 ⟨rfl, hb9⟩
      have hfin := Lib.hid (bstep HB0.out (bstep HBwg.out hb9))
      clear hb9
      go_wp2
      go_ret
      exact ⟨rfl, hfin.out⟩
   ·obtain ⟨rfl, rfl, rfl⟩ := HOE.out hz0
    have hEn : (O != 0) = true := by rw [bne_iff_ne]; exact hz0
    have hEm : (O == 0) = false := by simp [hz0]
    clear hz0 HNP HRS HCL HRO HO7 HO0 HOE
    go_wp2_with fail
    refine (HAW.out _ HBw8.out).mono ?_
    rintro e w9 ⟨rfl, hb9⟩
    have hfin := Lib.hid (bstep HB0.out (bstep HBw8.out hb9))
    clear hb9
    go_wp2
    go_ret
    exact ⟨rfl, hfin.out⟩
  ·rw [if_neg hy0] at hEE
   obtain rfl : E = y := hEE
   have hEn : (E != 0) = true := by rw [bne_iff_ne]; exact hy0
   have hEm : (E == 0) = false := by simp [hy0]
   have HY0 := Lib.hid hy0
   clear hy0 HNP HRS HCL HRO HO7 HO0
   go_wp2_with fail
   have HXw3 : Hid (∀ w', Below w3.heap.size w3 w' → (fun w' => w'.cell? ⟨g, 0, none⟩ = some (.slice AN nN cN) ∧ w'.cell? ⟨g, 1, none⟩ = some (.slice AG m cG) ∧ w'.cell? ⟨g, 2, none⟩ = some (.int .i64 st) ∧ Below w3.heap.size w3 w') w') := Lib.hid fun w' hb => ⟨(HX.out w' (bstep HBw3.out hb)).1, (HX.out w' (bstep HBw3.out hb)).2.1, (HX.out w' (bstep HBw3.out hb)).2.2, hb⟩
   refine wp_region_held_drew (S := fun w' => w'.cell? ⟨g, 0, none⟩ = some (.slice AN nN cN) ∧ w'.cell? ⟨g, 1, none⟩ = some (.slice AG m cG) ∧ w'.cell? ⟨g, 2, none⟩ = some (.int .i64 st) ∧ Below w3.heap.size w3 w') (by kernel_rfl) ?_ (fun hHeld => ?_)
   ·exact HXw3.out _ (Below.drew (Below.refl _ _))
   generalize World.drew _ = wd at hHeld ⊢
   refine zV 0 (h := zV 1 (h := zV 4 (h := ?_)))
   try simp only [zP, zQ, zA2, zA3]
   refine zN 2 fun K hKK => ?_
   go_simp
   go_at_call 9
   with_reducible refine (HCD.out _ (bstep HBw3.out hHeld.2.2.2)).mono ?_
   rintro e' w' ⟨vq, L1, rfl, hL1, ho1, hbz⟩
   have hX := bstep hHeld.2.2.2 hbz
   obtain ⟨Aq, cq, rfl, HK⟩ := HCK.out L1 _ _ w' hL1 ho1 (bstep HBw3.out hX)
   clear hHeld hbz ho1 hL1
   go_wp2_with fail
   refine hKK.out _ _ ?_ (fun hHeld => ?_)
   ·exact HXw3.out _ hX
   clear hKK K
   try simp only [zP, zQ, zA2, zA3]
   clear hX
   refine zN 3 fun K hKK => ?_
   go_simp
   go_at_call 13
   with_reducible refine HK.mono ?_
   rintro e' w8 ⟨rfl, hbz⟩
   have hX := bstep hHeld.2.2.2 hbz
   have HBw8 := Lib.hid (bstep HBw3.out hX)
   have HP6 := Lib.hid (HP6.out.below hX)
   have HP7 := Lib.hid (HP7.out.below hX)
   clear hHeld HK hbz
   go_wp2_with fail
   refine hKK.out _ _ ?_ (fun hHeld => ?_)
   ·exact HXw3.out _ hX
   clear hKK K
   try simp only [zP, zQ, zA2, zA3]
   clear hX
   refine zV 5 (h := ?_)
   try simp only [zP, zQ, zA2, zA3]
   refine wpAnyH_done (by kernel_rfl) ?_ _
   clear hHeld HXw3
   obtain ⟨rfl, rfl, rfl⟩ := HOE.out HY0.out
   go_wp2_with fail
   refine (HAW.out _ HBw8.out).mono ?_
   rintro e w9 ⟨rfl, hb9⟩
   have hfin := Lib.hid (bstep HB0.out (bstep HBw8.out hb9))
   clear hb9
   go_wp2
   go_ret
   exact ⟨rfl, hfin.out⟩
end Go.Mk
