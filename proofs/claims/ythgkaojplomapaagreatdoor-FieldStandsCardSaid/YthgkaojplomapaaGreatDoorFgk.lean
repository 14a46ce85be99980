/-
  Proved: Standing of package field: the first error, or the places of the cards in the order of their ranks,
-/
import Derived.Test.YthgkaojplomapaaGreatDoorFgf
import Derived.Test.YthgkaojplomapaaGreatDoorFgh
import Derived.Test.YthgkaojplomapaaGreatDoorFgj
set_option maxHeartbeats 32000000
set_option linter.unusedVariables false
set_option linter.unusedSimpArgs false
open Go Go.Proofs Go.RowKit
set_option maxRecDepth 100000
namespace Go.Mk
theorem fst3_zero {a b c : Int} (h : fstN [a, b, c] = 0) : a = 0 ∧ b = 0 ∧ c = 0 := by
 unfold fstN fstN fstN fstN at h
 split at h
 ·split at h
  ·split at h
   ·exact ⟨by assumption, by assumption, by assumption⟩
   ·exact absurd h (by assumption)
  ·exact absurd h (by assumption)
 ·exact absurd h (by assumption)
theorem fst4_zero {a b c d : Int} (h : fstN [a, b, c, d] = 0) : a = 0 ∧ b = 0 ∧ c = 0 ∧ d = 0 := by
 rw [fstN] at h
 split at h
 ·exact ⟨by assumption, fst3_zero h⟩
 ·exact absurd h (by assumption)
theorem fst2_zero {a b : Int} (h : fstN [a, b] = 0) : a = 0 ∧ b = 0 := by
 unfold fstN fstN fstN at h
 split at h
 ·split at h
  ·exact ⟨by assumption, by assumption⟩
  ·exact absurd h (by assumption)
 ·exact absurd h (by assumption)
theorem cdsE_zero {N : List ByteArray} {m : Nat} : ∀ {L : List CardR} {k : Nat}, cdsE N m k L = 0 → ∀ (j : Nat) (r : CardR), L[j]? = some r → cdE N m (k + j) r = 0
 | [], k, _, j, r, h => by simp at h
 | x :: L, k, h, j, r, hj => by
  rw [cdsE] at h
  split at h
  ·rename_i h0
   match j, hj with
   | 0, hj =>
    obtain rfl : x = r := by simpa using hj
    exact h0
   | j + 1, hj =>
    have := cdsE_zero h j r (by simpa using hj)
    rw [show k + 1 + j = k + (j + 1) by omega] at this
    exact this
  ·exact absurd h (by assumption)
theorem crdE_ok {N : List ByteArray} {G : List Int} {st : Int} {L : List CardR} (h : crdE N G st L = 0) :
  verE N G st = 0 ∧ L.length = N.length ∧ 0 < L.length ∧ L.length ≤ 32 ∧ ∀ (k : Nat) (r : CardR), L[k]? = some r → N[k]? = some r.s ∧ frmE r.s (bls r.H) (bls r.O) = 0 ∧ r.nh ≤ G.length := by
 unfold crdE at h
 obtain ⟨h1, h2, h3⟩ := fst3_zero h
 have hl : L.length = N.length := Classical.byContradiction fun q => by rw [if_neg q] at h2; simp at h2
 have hN : N.length ≠ 0 ∧ N.length ≤ 32 := by
  have hv := h1
  unfold verE at hv
  have ha := (fst4_zero hv).1
  unfold athE at ha
  obtain ⟨a1, a2⟩ := fst2_zero ha
  refine ⟨fun q => by rw [if_pos q] at a1; simp at a1, ?_⟩
  by_cases q : 32 < N.length
  ·rw [if_pos q] at a2; simp at a2
  ·omega
 refine ⟨h1, hl, by omega, by omega, fun k r hr => ?_⟩
 have hc := cdsE_zero h3 k r hr
 rw [Nat.zero_add] at hc
 unfold cdE at hc
 split at hc
 ·rename_i hN0
  obtain ⟨c1, c2⟩ := fst2_zero hc
  refine ⟨hN0, c1, ?_⟩
  by_cases q : G.length < r.nh
  ·rw [if_pos q] at c2; simp at c2
  ·omega
 ·simp at hc
theorem attC_self (a : List UInt8) : attC a a = 0 := by unfold attC; rw [if_pos rfl]
theorem offC_self : ∀ l : List (List UInt8), offC l l = 0
 | [] => rfl
 | a :: l => by rw [offC, if_pos (attC_self a)]; exact offC_self l
theorem offP_self (L : List CardR) (i : Nat) : offP L i i = 0 := by
 unfold offP
 cases L[i]? with
 | none => rfl
 | some x => simp [cmpOff, offC_self]
theorem stB_self (L : List CardR) (t : Tal) (i : Nat) : stB L t i i = false := by
 unfold stB
 rw [cmpL_self, offP_self]
 simp
def plcC (G : List Int) (L : List CardR) (n i : Nat) (r : CardR) : Plc := ⟨r.s, (rkB (stR L) (stB L (bestT L)) n i : Nat), (mkC G r).1, (mkC G r).2.1, (mkC G r).2.2⟩
def plcsC (G : List Int) (L : List CardR) : List Plc := L.mapIdx fun i r => plcC G L L.length i r
def standL (G : List Int) (L : List CardR) : List Plc := arrL L.length (plcsC G L)
theorem plcsC_len (G : List Int) (L : List CardR) : (plcsC G L).length = L.length := by unfold plcsC; simp
theorem plcsC_at {G : List Int} {L : List CardR} {i : Nat} {r : CardR} (h : L[i]? = some r) : (plcsC G L)[i]? = some (plcC G L L.length i r) := by
 unfold plcsC
 rw [List.getElem?_mapIdx, h]; rfl
theorem plcsC_rk (G : List Int) (L : List CardR) : ∀ p ∈ plcsC G L, 0 ≤ p.rk ∧ p.rk ≤ L.length := by
 intro p hp
 obtain ⟨i, hi⟩ := List.mem_iff_getElem?.1 hp
 have hl := (List.getElem?_eq_some_iff.1 hi).1
 rw [plcsC_len] at hl
 rw [plcsC_at (List.getElem?_eq_getElem hl)] at hi
 obtain rfl := Option.some.inj hi
 refine ⟨Int.natCast_nonneg _, ?_⟩
 have := rkB_le (stR L) (stB L (bestT L)) L.length i hl (stB_self _ _ _)
 show ((rkB (stR L) (stB L (bestT L)) L.length i : Nat) : Int) ≤ _
 omega
theorem standL_len (G : List Int) (L : List CardR) : (standL G L).length = L.length := arrL_len (plcsC_len G L) (plcsC_rk G L)
theorem fdStanding_any (N : List ByteArray) (nN cN : Nat) (AN : Option Addr) (G : List Int) (AG : Option Addr) (m cG : Nat) (st : Int) (L : List CardR) (n cap : Nat) (A : Option Addr) (w : World) (hN : TextsZ w AN nN N) (hnN : nN ≤ 1000) (hcN : nN ≤ cN) (hsN : ∀ x ∈ N, x.size ≤ maxLen) (hG : IntsZ w AG m G) (hm : m ≤ 1000) (hZ : Cards w A n L) (hn : n ≤ 1000) (hS : ∀ r ∈ L, CardS r) :
  Calls Tryz.prog 8 #[.agg #[.slice AN nN cN, .slice AG m cG, .int .i64 st], .slice A n cap] w (fun e w' => ∃ v, e = .returned (.tuple #[v, .int .i64 (crdE N G st L)]) ∧ OwnPlcs w' w.heap.size v (if crdE N G st L = 0 then standL G L else []) ∧ Below w.heap.size w w') := by
 obtain ⟨i0, hi, hz0, hz1, hz2⟩ := info_parts infoPlc
 obtain ⟨g, hg⟩ : ∃ g, w.heap.size = g := ⟨_, rfl⟩
 obtain ⟨w1, hw1⟩ : ∃ w1, (w.alloc (.cells #[.slice AN nN cN, .slice AG m cG, .int .i64 st] 33)).alloc (.cells #[.slice A n cap] 34) = w1 := ⟨_, rfl⟩
 have hb1 : Below w.heap.size w w1 := by rw [← hw1]; exact balloc _ (balloc _ (Below.refl _ _))
 have v0 : w1.cell? ⟨g, 0, none⟩ = some (.slice AN nN cN) := by rw [← hw1, ← hg]; simp
 have v1 : w1.cell? ⟨g, 1, none⟩ = some (.slice AG m cG) := by rw [← hw1, ← hg]; simp
 have v2 : w1.cell? ⟨g, 2, none⟩ = some (.int .i64 st) := by rw [← hw1, ← hg]; simp
 have l0 : w1.cell? ⟨g + 1, 0, none⟩ = some (.slice A n cap) := by rw [← hw1, ← hg]; simp
 have hs1 : g + 1 < w1.heap.size := by rw [← hw1, ← hg]; simp
 have hs0 : g < w1.heap.size := by omega
 have hC := fdCheckCards_any N nN cN AN G AG m cG st L n cap A w1 (hN.below hb1) hnN hcN hsN (hG.below hb1) hm (hZ.below hb1) hn hS
 have HV : Hid (∀ w', Below w1.heap.size w1 w' → w'.cell? ⟨g + 1, 0, none⟩ = some (.slice A n cap) ∧ w'.cell? ⟨g, 0, none⟩ = some (.slice AN nN cN) ∧ w'.cell? ⟨g, 1, none⟩ = some (.slice AG m cG) ∧ w'.cell? ⟨g, 2, none⟩ = some (.int .i64 st)) := Lib.hid fun w' hb =>
  ⟨(hb.cell (p := ⟨g + 1, 0, none⟩) hs1).trans l0, (hb.cell (p := ⟨g, 0, none⟩) hs0).trans v0, (hb.cell (p := ⟨g, 1, none⟩) hs0).trans v1, (hb.cell (p := ⟨g, 2, none⟩) hs0).trans v2⟩
 have HB1 := Lib.hid hb1
 by_cases h0 : crdE N G st L = 0
 ·rw [h0] at hC ⊢
  rw [if_pos rfl]
  obtain ⟨_, _, hpos, h32, hrow⟩ := crdE_ok h0
  have hLn : L.length = n := hZ.1
  have hGl : G.length = m := hG.1
  have hni : (n : Int) ≤ 32 := by omega
  have hTs : ∀ r ∈ L, r.nh ≤ 1000 ∧ ∀ x ∈ r.H, x.size ≤ 5000 := fun r hr => ⟨(hS r hr).2.1, (hS r hr).2.2.2.1⟩
  have HBT : Hid (∀ w', Below w1.heap.size w1 w' → Calls Tryz.prog 40 #[.slice A n cap] w' (RetPost (bestT L).val w')) := Lib.hid fun w' hb => fdBestTally_any L n cap A w' (hZ.below (bstep hb1 hb)) hn (by omega) hTs
  have HRK : Hid (∀ (w' : World) (bt : Nat), Below w1.heap.size w1 w' → bt < w'.heap.size → w'.cell? ⟨bt, 0, none⟩ = some (.int .i64 (bestT L).a) → w'.cell? ⟨bt, 1, none⟩ = some (.int .i64 (bestT L).b) → w'.cell? ⟨bt, 2, none⟩ = some (.int .i64 (bestT L).c) →
    Calls Tryz.prog 46 #[.int .i64 n, .func (.func 47) #[] #[.pointer (some ⟨g + 1, 0, none⟩)], .func (.func 41) #[] #[.pointer (some ⟨g + 1, 0, none⟩), .pointer (some ⟨bt, 0, none⟩)]] w' (fun e w'' => ∃ q, e = .returned (.slice (some ⟨q, 0, none⟩) n n) ∧ Row w'' q (ranksB (stR L) (stB L (bestT L)) n) ∧ w'.heap.size ≤ q ∧ Below w'.heap.size w' w'')) := Lib.hid fun w' bt hb hbt t0 t1 t2 =>
   fdRanks2_any n (by omega) (stR L) (stB L (bestT L)) 47 41 _ _ _ w' (enters_of Tryz.func47 (by kernel_rfl) rfl) (enters_of Tryz.func41 (by kernel_rfl) rfl)
    (fun w'' i hb2 hi => fdStandR_any L n cap (g + 1) A hn i hi w'' (hZ.below (bstep hb1 (bstep hb hb2))) hTs (HV.out w'' (bstep hb hb2)).1)
    (fun w'' i j hb2 hi hj => fdStandB_any L n cap (g + 1) bt A hn (bestT L) i j hi hj w'' (hZ.below (bstep hb1 (bstep hb hb2))) (fun r hr => ⟨(hS r hr).2.1, (hS r hr).2.2.1, (hS r hr).2.2.2.1⟩) (HV.out w'' (bstep hb hb2)).1 (Nat.lt_of_lt_of_le hs1 (bstep hb hb2).size) (Nat.lt_of_lt_of_le hbt hb2.size) ((hb2.cell (p := ⟨bt, 0, none⟩) hbt).trans t0) ((hb2.cell (p := ⟨bt, 1, none⟩) hbt).trans t1) ((hb2.cell (p := ⟨bt, 2, none⟩) hbt).trans t2))
  have HMk : Hid (∀ (k : Nat) (r : CardR) (w' : World), L[k]? = some r → CardZ w' r → Below w.heap.size w w' → Calls Tryz.prog 48 #[.agg #[.slice AN nN cN, .slice AG m cG, .int .i64 st], r.val] w' (RetPost (.agg #[.string (mkC G r).1, .int .i64 (mkC G r).2.1, .string (mkC G r).2.2]) w')) := Lib.hid fun k r w' hk hz hb =>
   fdCardMark_any r G AN AG nN cN m cG st w' hz (hTs r (List.mem_of_getElem? hk)).1 (hTs r (List.mem_of_getElem? hk)).2 (hG.below hb) hm (by have := (hrow k r hk).2.2; omega)
  have HAr : Hid (∀ (v : Value) (B : Nat) (w' : World), OwnPlcs w' B v (plcsC G L) → ∃ A' c', v = .slice A' n c' ∧ Calls Tryz.prog 49 #[.slice A' n c'] w' (fun e w'' => ∃ v, e = .returned v ∧ OwnPlcs w'' w'.heap.size v (standL G L) ∧ Below w'.heap.size w' w'')) := Lib.hid fun v B w' ho => by
   obtain ⟨A', c', rfl, hP⟩ := PlcsZ.of_own ho
   rw [plcsC_len, hLn] at hP ⊢
   refine ⟨A', c', rfl, ?_⟩
   have := fdArranged_any (plcsC G L) n (by omega) (fun p hp => by have := plcsC_rk G L p hp; rw [hLn] at this; exact this) A' c' w' hP
   unfold standL
   rw [hLn]
   exact this
  have H := Lib.hid hZ
  have HL := Lib.hid hLn
  have HPa : Hid (∀ (k : Nat) (r : CardR), L[k]? = some r → (plcsC G L)[k]? = some (plcC G L n k r)) := Lib.hid fun k r h => by rw [← hLn]; exact plcsC_at h
  have HPl : Hid ((plcsC G L).length = n) := Lib.hid (by rw [plcsC_len, hLn])
  have HS1 := Lib.hid (And.intro hs1 hs0)
  obtain ⟨T, hT⟩ : ∃ T, bestT L = T := ⟨_, rfl⟩
  have HT := Lib.hid hT
  rw [hT] at HBT HRK
  obtain ⟨ta, tb, tc⟩ := T
  unfold Tal.val at HBT
  dsimp only at HBT HRK
  clear hN hnN hcN hsN hG hm hZ hn hS hb1 hpos h32 hrow hLn hGl hTs hs1 hs0 h0 hT
  go_enter Tryz.func8, Tryz.ntmps8
  go_wp2_with fail
  refine hC.mono ?_
  rintro e w2 ⟨rfl, hb2⟩
  have HB2 := Lib.hid hb2
  have hBT := HBT.out w2 hb2
  clear hC v0 v1 v2 l0
  obtain ⟨l0, v0, v1, v2⟩ := HV.out w2 hb2
  clear hb2
  go_wp2_with fail
  refine hBT.mono ?_
  rintro e wt ⟨rfl, hbt⟩
  obtain ⟨bt, hbtt⟩ : ∃ bt, wt.heap.size = bt := ⟨_, rfl⟩
  obtain ⟨w3, hw3⟩ : ∃ w3, wt.alloc (.cells #[.int .i64 ta, .int .i64 tb, .int .i64 tc] 103) = w3 := ⟨_, rfl⟩
  have hb3 : Below w2.heap.size w2 w3 := by rw [← hw3]; exact hbt.alloc hbt.size _
  have t0 : w3.cell? ⟨bt, 0, none⟩ = some (.int .i64 ta) := by rw [← hw3, ← hbtt]; simp
  have t1 : w3.cell? ⟨bt, 1, none⟩ = some (.int .i64 tb) := by rw [← hw3, ← hbtt]; simp
  have t2 : w3.cell? ⟨bt, 2, none⟩ = some (.int .i64 tc) := by rw [← hw3, ← hbtt]; simp
  have hbs : bt < w3.heap.size := by rw [← hw3, ← hbtt]; simp
  have hR := HRK.out w3 bt (bstep HB2.out hb3) hbs t0 t1 t2
  have HB3 := Lib.hid (bstep HB2.out hb3)
  clear hBT l0 v0 v1 v2 t0 t1 t2 hbs hbt hb3
  obtain ⟨l0, v0, v1, v2⟩ := HV.out w3 HB3.out
  go_wp2_with fail
  refine hR.mono ?_
  rintro e w4 ⟨q, rfl, hrw, hq, hb4⟩
  have hql : q < w4.heap.size := hrw.1
  have HRW := Lib.hid hrw
  have HB4 := Lib.hid (bstep HB3.out hb4)
  have HQ := Lib.hid hql
  have HX4 := Lib.hid (And.intro HB1.out HB4.out)
  clear hR hrw hq hql hb4 l0 v0 v1 v2 hbtt hw3
  go_wp2
  go_loopw [9, 27] (fun v i wr => ∃ k : Nat, k ≤ n ∧ i = .int .i64 k ∧ OwnPlcs wr w4.heap.size v ((plcsC G L).take k) ∧ Below w4.heap.size w4 wr) (fun _ i _ => n - (RowKit.intOf i).toNat)
  case atStart => exact ⟨0, by omega, rfl, World.ownsRow_nil _ _ _ _, Below.refl _ _⟩
  case round =>
   obtain ⟨k, hk, rfl, hown, hb⟩ := hrel
   by_cases hlt : k < n
   ·have hbw : Below w.heap.size w wr := bstep HB1.out (bstep HB4.out hb)
    obtain ⟨b', off, r, rfl, hbl, hx, ⟨hc0, hc1, hc2, hc3⟩, hCZ⟩ := H.out.at_ hlt
    have hki : (k : Int) < (n : Int) := by omega
    have hk0 : (0 : Int) ≤ (k : Int) := by omega
    have hkt : ((k : Int)).toNat = k := by omega
    have hlen : ((plcsC G L).take k).length = k := by rw [List.length_take, HPl.out]; omega
    have hpx := HPa.out k r hx
    have hst : (plcsC G L).take (k + 1) = (plcsC G L).take k ++ [plcC G L n k r] := by rw [List.take_add_one, hpx]; rfl
    have hrk : (ranksB (stR L) (stB L ⟨ta, tb, tc⟩) n).getD k 0 = rkB (stR L) (stB L ⟨ta, tb, tc⟩) n k := by
     unfold ranksB
     rw [List.getD_eq_getElem?_getD, List.getElem?_map, List.getElem?_range hlt]; rfl
    have hrl : (ranksB (stR L) (stB L ⟨ta, tb, tc⟩) n).length = n := by unfold ranksB; simp
    have hcell := ((HRW.out.below hb HQ.out hb.size).at_ (j := k) (by rw [hrl]; exact hlt)).1
    rw [hrk] at hcell
    have Hst := Lib.hid hst
    have Hlen := Lib.hid hlen
    have HB := Lib.hid hb
    have HOX := Lib.hid hown
    have HMr : Hid (∀ w', Below w4.heap.size w4 w' → Calls Tryz.prog 48 #[.agg #[.slice AN nN cN, .slice AG m cG, .int .i64 st], r.val] w' (RetPost (.agg #[.string (mkC G r).1, .int .i64 (mkC G r).2.1, .string (mkC G r).2.2]) w')) := Lib.hid fun w' hb' => HMk.out k r w' hx (hCZ.below (bstep HB1.out (bstep HB4.out hb'))) (bstep HB1.out (bstep HB4.out hb'))
    have hPE : plcC G L n k r = ⟨r.s, (rkB (stR L) (stB L (bestT L)) n k : Nat), (mkC G r).1, (mkC G r).2.1, (mkC G r).2.2⟩ := rfl
    rw [hPE, HT.out] at Hst
    generalize rkB (stR L) (stB L ⟨ta, tb, tc⟩) n k = rk at *
    generalize (mkC G r).1 = mk1 at *
    generalize (mkC G r).2.1 = mk2 at *
    generalize (mkC G r).2.2 = mk3 at *
    generalize hP : (plcsC G L).take k = P at *
    have HP := Lib.hid hP
    obtain ⟨rs, AH, nh, ch, HH, AO, no, co, O, rt⟩ := r
    unfold CardR.val at HMr
    dsimp only at *
    have HX : Hid (∀ w', Below w4.heap.size w4 w' → ((w'.cell? ⟨b', off + k * 4, none⟩ = some (.string rs) ∧ w'.cell? ⟨b', off + k * 4 + 1, none⟩ = some (.slice AH nh ch) ∧ w'.cell? ⟨b', off + k * 4 + 2, none⟩ = some (.slice AO no co) ∧ w'.cell? ⟨b', off + k * 4 + 3, none⟩ = some (.bool rt)) ∧ w'.cell? ⟨g + 1, 0, none⟩ = some (.slice (some ⟨b', off, none⟩) n cap) ∧ w'.cell? ⟨g, 0, none⟩ = some (.slice AN nN cN) ∧ w'.cell? ⟨g, 1, none⟩ = some (.slice AG m cG) ∧ w'.cell? ⟨g, 2, none⟩ = some (.int .i64 st)) ∧ Below w4.heap.size w4 w') := Lib.hid fun w' hb' => by
     have hq := bstep HB1.out (bstep HB4.out hb')
     exact ⟨⟨⟨(hq.cell (p := ⟨b', _, none⟩) hbl).trans hc0, (hq.cell (p := ⟨b', _, none⟩) hbl).trans hc1, (hq.cell (p := ⟨b', _, none⟩) hbl).trans hc2, (hq.cell (p := ⟨b', _, none⟩) hbl).trans hc3⟩, HV.out w' (bstep HB4.out hb')⟩, hb'⟩
    clear hst hlen hx hown hb hbw hCZ hpx hrk hrl hc0 hc1 hc2 hc3 hPE hP
    go_wp2
    refine wp_region_held_drew (S := fun w' => ((w'.cell? ⟨b', off + k * 4, none⟩ = some (.string rs) ∧ w'.cell? ⟨b', off + k * 4 + 1, none⟩ = some (.slice AH nh ch) ∧ w'.cell? ⟨b', off + k * 4 + 2, none⟩ = some (.slice AO no co) ∧ w'.cell? ⟨b', off + k * 4 + 3, none⟩ = some (.bool rt)) ∧ w'.cell? ⟨g + 1, 0, none⟩ = some (.slice (some ⟨b', off, none⟩) n cap) ∧ w'.cell? ⟨g, 0, none⟩ = some (.slice AN nN cN) ∧ w'.cell? ⟨g, 1, none⟩ = some (.slice AG m cG) ∧ w'.cell? ⟨g, 2, none⟩ = some (.int .i64 st)) ∧ Below w4.heap.size w4 w') (by kernel_rfl) ?_ (fun hHeld => ?_)
    ·exact HX.out _ (by first | exact Below.drew HB.out | exact Below.drew (below_drewN HB.out _))
    refine zV 0 (h := zV 1 (h := zV 2 (h := zV 3 (h := zV 4 (h := zV 5 (h := zV 6 (h := zV 7 (h := zV 8 (h := zV 9 (h := zV 10 (h := zV 11 (h := ?_))))))))))))
    try simp only [zP, zQ, zA2, zA3]
    refine zN 12 fun K hKK => ?_
    go_simp
    go_at_call 48
    refine (HMr.out _ hHeld.2).mono ?_
    rintro e w5 ⟨rfl, hb5⟩
    have ho5 := ownN (World.ownsRow.drew HOX.out) hb5
    rw [Hlen.out] at ho5
    have hX := bstep hHeld.2 hb5
    clear hHeld hb5
    go_wp2_with fail
    refine hKK.out _ _ ?_ (fun hHeld => ?_)
    ·exact HX.out _ hX
    clear hKK K
    try simp only [zP, zQ, zA2, zA3]
    clear hX
    refine zV 13 (h := ?_)
    try simp only [zP, zQ, zA2, zA3]
    refine zN 14 fun K hKK => ?_
    go_simp
    have hbA : Below w4.heap.size w4 (w5.alloc (.cells #[.string rs, .int .i64 (rk : Int), .string mk1, .int .i64 mk2, .string mk3] 61)) := hHeld.2.alloc hHeld.2.size _
    refine hKK.out _ _ ?_ (fun hHeld => ?_)
    ·exact HX.out _ hbA
    clear hKK K
    try simp only [zP, zQ, zA2, zA3]
    refine zN 15 fun K hKK => ?_
    refine wp_append_own _ _ _ 29 rfl w4.heap.size 61 i0 (.agg #[.string ⟨#[]⟩, .int .i64 0, .string ⟨#[]⟩, .int .i64 0, .string ⟨#[]⟩]) 5 64 Tryz.underlying29 hi hz0 hz1 hz2 rfl (by decide) _ _ _ rfl (World.ownsRow.alloc ho5 _) ⟨w5.heap.size, 0, none⟩ 1 1 (Plc.cells ⟨rs, (rk : Int), mk1, mk2, mk3⟩) rfl rfl (news5 _ ⟨rs, (rk : Int), mk1, mk2, mk3⟩ _ _ rfl) (one5 _) (by unfold maxLen; omega) (by omega) hbA.size ?_
    intro v' w6 hown6 hgrow6 _
    have hb6 : Below w4.heap.size w4 w6 := hbA.grown hgrow6 hbA.size (fun q hq => (World.ownsRow.lt ho5 q hq).1)
    have ho6 : OwnPlcs w6 w4.heap.size v' (P ++ [⟨rs, (rk : Int), mk1, mk2, mk3⟩]) := OwnPlcs.next (by rw [Hlen.out]; exact hown6)
    refine hKK.out _ _ ?_ (fun hHeld => ?_)
    ·exact HX.out _ hb6
    clear hKK K
    try simp only [zP, zQ, zA2, zA3]
    clear hown6 hgrow6 ho5
    refine zN 16 fun K hKK => ?_
    go_simp
    refine hKK.out _ _ ?_ (fun hHeld => ?_)
    ·exact HX.out _ hb6
    clear hKK K
    try simp only [zP, zQ, zA2, zA3]
    refine wpAnyH_done (by kernel_rfl) ?_ _
    have hX := hb6
    go_wp2
    go_roundw
    case rel => exact ⟨k + 1, by omega, by go_num, by rw [Hst.out]; exact ho6, hX⟩
    case measure => simp [RowKit.intOf]; omega
   ·have hkn : k = n := by omega
    rw [hkn, List.take_of_length_le (by rw [HPl.out]; omega)] at hown
    obtain ⟨A', c', rfl, hAr⟩ := HAr.out _ _ wr hown
    have HB := Lib.hid (bstep HB1.out (bstep HB4.out hb))
    clear hown hb
    go_wp2_with fail
    refine hAr.mono ?_
    rintro e w6 ⟨v6, rfl, ho6, hb6⟩
    have HF := Lib.hid (And.intro (own_lowP ho6 HB.out.size) (bstep HB.out hb6))
    clear ho6 hb6 hAr
    go_wp2
    go_ret2
    exact ⟨_, rfl, HF.out⟩
 ·rw [if_neg h0]
  have hne : (crdE N G st L != 0) = true := by rw [bne_iff_ne]; exact h0
  generalize crdE N G st L = y at *
  clear h0 hN hnN hcN hsN hG hm hZ hn hS hb1 hs1 hs0
  go_enter Tryz.func8, Tryz.ntmps8
  go_wp2_with fail
  refine hC.mono ?_
  rintro e w2 ⟨rfl, hb2⟩
  have HF := Lib.hid (bstep HB1.out hb2)
  clear hb2
  go_wp2
  go_ret2
  exact ⟨_, rfl, World.ownsRow_nil _ _ _ _, HF.out⟩
end Go.Mk
