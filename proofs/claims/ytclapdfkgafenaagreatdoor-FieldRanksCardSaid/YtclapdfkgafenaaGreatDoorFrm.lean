/-
  Proved: the law FieldRanks returns true and leaves all that was there. Conditions: the tables that awake reads lie where the program lays them; the rows lie where the slice says, and are no more than an int says, their names and their trials neither.
-/
import Derived.Test.YtclapdfkgafenaaGreatDoorFrl
import Derived.Test.YtclapdfkgafenaaGreatDoorXaw
set_option linter.unusedVariables false
set_option linter.unusedSimpArgs false
open Go Go.Proofs Go.RowKit
set_option maxRecDepth 100000
namespace Go.Mk
def ResZ (w : World) (A : Option Addr) (n : Nat) (L : List Plc) : Prop :=
 L.length = n ∧ (0 < n → ∃ b off, A = some ⟨b, off, none⟩ ∧ b < w.heap.size ∧ ∀ (j : Nat) (p : Plc), L[j]? = some p → w.cell? ⟨b, off + j * 4, none⟩ = some (.string p.nm) ∧ w.cell? ⟨b, off + j * 4 + 1, none⟩ = some (.string p.kd) ∧ w.cell? ⟨b, off + j * 4 + 2, none⟩ = some (.int .i64 p.vl) ∧ w.cell? ⟨b, off + j * 4 + 3, none⟩ = some (.string p.rs))
theorem ResZ.below {w w' : World} {A : Option Addr} {n : Nat} {L : List Plc} (h : ResZ w A n L) (hb : Below w.heap.size w w') : ResZ w' A n L := by
 refine ⟨h.1, fun h0 => ?_⟩
 obtain ⟨b, off, e, hlt, hc⟩ := h.2 h0
 refine ⟨b, off, e, Nat.lt_of_lt_of_le hlt hb.size, fun j p hp => ?_⟩
 obtain ⟨h1, h2, h3, h4⟩ := hc j p hp
 exact ⟨(hb.cell (p := ⟨b, _, none⟩) hlt).trans h1, (hb.cell (p := ⟨b, _, none⟩) hlt).trans h2, (hb.cell (p := ⟨b, _, none⟩) hlt).trans h3, (hb.cell (p := ⟨b, _, none⟩) hlt).trans h4⟩
theorem resC_at : ∀ (L : List Plc) (i : Nat) (p : Plc) (c : Nat), L[i]? = some p → c < 4 → (L.flatMap resC)[i * 4 + c]? = (resC p)[c]?
 | [], i, p, c, h, _ => by simp at h
 | x :: L, 0, p, c, h, hc => by
  obtain rfl : x = p := by simpa using h
  rw [List.flatMap_cons, List.getElem?_append_left (by simp [resC]; omega)]
  simp
 | x :: L, i + 1, p, c, h, hc => by
  rw [List.flatMap_cons, List.getElem?_append_right (by simp [resC]; omega), show (i + 1) * 4 + c - (resC x).length = i * 4 + c by simp [resC]; omega]
  exact resC_at L i p c (by simpa using h) hc
theorem ResZ.of_own {w : World} {B : Nat} {v : Value} {L : List Plc} (h : OwnRes w B v L) : ∃ A c, v = .slice A L.length c ∧ ResZ w A L.length L := by
 rcases h.2 with ⟨a, b⟩ | ⟨g, cap, cur, a, b, c, d, e1, f, hx⟩
 ·exact ⟨none, 0, by rw [a, b], rfl, fun hn => absurd hn (by omega)⟩
 ·refine ⟨_, cap, a, rfl, fun _ => ⟨g, 0, rfl, (Array.getElem?_eq_some_iff.1 c).1, fun j p hp => ?_⟩⟩
  have hj := (List.getElem?_eq_some_iff.1 hp).1
  unfold OwnRes at h
  rw [a] at h
  refine ⟨?_, ?_, ?_, ?_⟩ <;> rw [Nat.zero_add]
  ·rw [World.ownsRow.cellAt h (j * 4) (by omega)]; exact (resC_at _ j _ 0 hp (by decide)).trans rfl
  ·rw [World.ownsRow.cellAt h (j * 4 + 1) (by omega)]; exact (resC_at _ j _ 1 hp (by decide)).trans rfl
  ·rw [World.ownsRow.cellAt h (j * 4 + 2) (by omega)]; exact (resC_at _ j _ 2 hp (by decide)).trans rfl
  ·rw [World.ownsRow.cellAt h (j * 4 + 3) (by omega)]; exact (resC_at _ j _ 3 hp (by decide)).trans rfl
theorem ResZ.at_ {w : World} {A : Option Addr} {n : Nat} {L : List Plc} (h : ResZ w A n L) {k : Nat} (hk : k < n) : ∃ b off p, A = some ⟨b, off, none⟩ ∧ b < w.heap.size ∧ L[k]? = some p ∧ w.cell? ⟨b, off + k * 4, none⟩ = some (.string p.nm) ∧ w.cell? ⟨b, off + k * 4 + 1, none⟩ = some (.string p.kd) ∧ w.cell? ⟨b, off + k * 4 + 2, none⟩ = some (.int .i64 p.vl) ∧ w.cell? ⟨b, off + k * 4 + 3, none⟩ = some (.string p.rs) := by
 obtain ⟨b, off, e, hlt, hc⟩ := h.2 (by omega)
 have hl : k < L.length := by rw [h.1]; exact hk
 exact ⟨b, off, L[k], e, hlt, List.getElem?_eq_getElem hl, hc k _ (List.getElem?_eq_getElem hl)⟩
def RowsIn (w : World) (A : Option Addr) (n : Nat) (L : List RowR) : Prop := Rows w A n L ∧ (n : Int) ≤ 9223372036854775807 ∧ ∀ r ∈ L, r.s.size ≤ maxLen ∧ (r.n : Int) ≤ 9223372036854775807 ∧ (r.A = none → r.c = 0) ∧ r.T.length = r.n
set_option maxHeartbeats 8000000 in
theorem ranks6_exit (L : List RowR) (n cap : Nat) (A : Option Addr) (w : World) (hI : RowsIn w A n L) (ht : Tabs w) (h1 : shR L = false) :
  Calls Tryz.prog 3 #[.slice A n cap] w (Yes w) := by
 have hS := l6shortRows_any L n cap A w hI.1 hI.2.1 (fun r hr => ⟨(hI.2.2 r hr).1, (hI.2.2 r hr).2.1⟩)
 rw [h1] at hS
 have HAW : Hid (∀ w', Below w.heap.size w w' → Calls Tryz.prog 7 #[] w' (RetPost (.bool true) w')) := Lib.hid fun w' hb => aw w' (ht.grow hb)
 clear hI ht h1
 go_enter Tryz.func3, Tryz.ntmps3
 go_wp2_with fail
 refine hS.mono ?_
 rintro e w2 ⟨rfl, hb2⟩
 have HB2 := Lib.hid hb2
 clear hb2 hS
 go_wp2_with fail
 refine (HAW.out _ HB2.out).mono ?_
 rintro e w9 ⟨rfl, hb9⟩
 have hfin := bstep HB2.out hb9
 clear hb9
 go_wp2
 go_ret
 exact ⟨rfl, hfin⟩
set_option maxHeartbeats 16000000 in
theorem ranks6_main (L : List RowR) (n cap : Nat) (A : Option Addr) (w : World) (hI : RowsIn w A n L) (ht : Tabs w) (h1 : shR L = true) :
  Calls Tryz.prog 3 #[.slice A n cap] w (Yes w) := by
 obtain ⟨hZ, hn, hs⟩ := hI
 have hS := l6shortRows_any L n cap A w hZ hn (fun r hr => ⟨(hs r hr).1, (hs r hr).2.1⟩)
 rw [h1] at hS
 obtain ⟨h35, hsr⟩ := shR_true h1
 have hn35 : n ≤ 35 := by rw [← hZ.1]; exact h35
 have hL : ∀ r ∈ L, r.s.size ≤ 40 ∧ r.n ≤ 10 ∧ r.T.length = r.n := fun r hr => ⟨(hsr r hr).1, (hsr r hr).2, (hs r hr).2.2.2⟩
 have HAW : Hid (∀ w', Below w.heap.size w w' → Calls Tryz.prog 7 #[] w' (RetPost (.bool true) w')) := Lib.hid fun w' hb => aw w' (ht.grow hb)
 have HRW : Hid (∀ w', Below w.heap.size w w' → Calls Tryz.prog 9 #[.slice A n cap] w' (fun e w'' => ∃ v L', e = .returned v ∧ L'.map nrm = L.map nrm ∧ OwnRows w'' w'.heap.size v L' ∧ Below w'.heap.size w' w'')) := Lib.hid fun w' hb =>
  l6rows_any L n cap A w' (hZ.below hb) (by omega) (fun r hr => ⟨by have := (hsr r hr).2; omega, (hs r hr).2.2.1⟩)
 obtain ⟨y, hy⟩ : ∃ y, rowsE L = y := ⟨_, rfl⟩
 obtain ⟨M, hM⟩ : ∃ M, (if rowsE L = 0 then rankL L else []) = M := ⟨_, rfl⟩
 have hMl : M.length ≤ 35 := by
  rw [← hM]
  split
  ·rw [rankL_len]; exact h35
  ·simp
 have hLL : ∀ L' : List RowR, L'.map nrm = L.map nrm → L'.length = n ∧ rowsE L' = y ∧ (if rowsE L' = 0 then rankL L' else []) = M ∧ ∀ r ∈ L', r.s.size ≤ 40 ∧ r.n ≤ 10 ∧ r.T.length = r.n := fun L' h => by
  obtain ⟨q1, q2, q3⟩ := same_rows h
  exact ⟨q3.trans hZ.1, q1.trans hy, by rw [q1, q2]; exact hM, same_mem h (fun r => Iff.rfl) hL⟩
 have HRK : Hid (∀ (L' : List RowR) (v : Value) (B : Nat) (w' : World), L'.map nrm = L.map nrm → OwnRows w' B v L' → ∃ A' c', v = .slice A' n c' ∧ Calls Tryz.prog 8 #[.slice A' n c'] w' (fun e w'' => ∃ v, e = .returned (.tuple #[v, .int .i64 y]) ∧ OwnPlcs w'' w'.heap.size v M ∧ Below w'.heap.size w' w'')) := Lib.hid fun L' v B w' h ho => by
  obtain ⟨q1, q2, q3, q4⟩ := hLL L' h
  obtain ⟨A', c', rfl, hR⟩ := Rows.of_own ho
  rw [q1] at hR ⊢
  refine ⟨A', c', rfl, ?_⟩
  have := fdRanking_any L' n c' A' w' hR (by omega) (fun r hr => ⟨by have := (q4 r hr).1; unfold maxLen; omega, by have := (q4 r hr).2.1; omega, (q4 r hr).2.2⟩)
  rw [q3, q2] at this
  exact this
 have HRS : Hid (∀ (L' : List RowR) (v : Value) (B : Nat) (w' : World), L'.map nrm = L.map nrm → OwnRows w' B v L' → ∃ A' c', v = .slice A' n c' ∧ Calls Tryz.prog 10 #[.slice A' n c'] w' (fun e w'' => ∃ v, e = .returned (.tuple #[v, .int .i64 y]) ∧ OwnRes w'' w'.heap.size v M ∧ Below w'.heap.size w' w'')) := Lib.hid fun L' v B w' h ho => by
  obtain ⟨q1, q2, q3, q4⟩ := hLL L' h
  obtain ⟨A', c', rfl, hR⟩ := Rows.of_own ho
  rw [q1] at hR ⊢
  refine ⟨A', c', rfl, ?_⟩
  have := fdResults_any L' n c' A' w' hR (by omega) (fun r hr => ⟨by have := (q4 r hr).1; unfold maxLen; omega, by have := (q4 r hr).2.1; omega, (q4 r hr).2.2⟩)
  rw [q3, q2] at this
  exact this
 have HCR : Hid (∀ (L' : List RowR) (v : Value) (B : Nat) (w' : World), L'.map nrm = L.map nrm → OwnRows w' B v L' → ∃ A' c', v = .slice A' n c' ∧ Calls Tryz.prog 12 #[.slice A' n c'] w' (RetPost (.int .i64 y) w')) := Lib.hid fun L' v B w' h ho => by
  obtain ⟨q1, q2, q3, q4⟩ := hLL L' h
  obtain ⟨A', c', rfl, hR⟩ := Rows.of_own ho
  rw [q1] at hR ⊢
  refine ⟨A', c', rfl, ?_⟩
  have := fdCheckRows_any L' n c' A' w' hR (by omega) (fun r hr => ⟨by have := (q4 r hr).1; unfold maxLen; omega, by have := (q4 r hr).2.1; omega⟩)
  rw [q2] at this
  exact this
 have HRC : Hid (∀ w', Below w.heap.size w w' → Calls Tryz.prog 11 #[.slice A n cap] w' (RetPost (.int .i64 y) w')) := Lib.hid fun w' hb => by
  rw [← hy]
  exact r6CheckRows_any L n cap A w' (hZ.below hb) (by omega) (fun r hr => ⟨(hs r hr).1, by have := (hsr r hr).2; omega⟩)
 have HRR : Hid (y = 0 → ∀ w', Below w.heap.size w w' → Calls Tryz.prog 13 #[.slice A n cap] w' (fun e w'' => ∃ v, e = .returned v ∧ OwnPlR w'' w'.heap.size v M ∧ Below w'.heap.size w' w'')) := Lib.hid fun h0 w' hb => by
  rw [← hM, hy, if_pos h0]
  exact r6Ranking_any L n cap A w' (hZ.below hb) (by omega) (fun r hr => by have := (hsr r hr).2; omega)
 have HOP : Hid (∀ (v : Value) (B : Nat) (w' : World), OwnPlcs w' B v M → ∃ A' c', v = .slice A' M.length c' ∧ PlcsZ w' A' M.length M) := Lib.hid fun v B w' ho => PlcsZ.of_own ho
 have HMN : Hid (y ≠ 0 → M = []) := Lib.hid fun h0 => by rw [← hM, hy, if_neg h0]
 have HMl := Lib.hid hMl
 clear hZ hn hs hsr hn35 hL ht h1 h35 hy hM hLL hMl
 unfold Yes
 go_enter Tryz.func3, Tryz.ntmps3
 go_wp2_with fail
 refine hS.mono ?_
 rintro e w1 ⟨rfl, hb1⟩
 have HB1 := Lib.hid hb1
 clear hb1 hS
 go_wp2_with fail
 refine (HRW.out _ HB1.out).mono ?_
 rintro e w2 ⟨vq, L1, rfl, hL1, ho1, hbq⟩
 have HB2 := Lib.hid (bstep HB1.out hbq)
 have HX2 := Lib.hid hbq
 clear hbq
 obtain ⟨Aq, cq, rfl, hK⟩ := HRK.out L1 _ _ w2 hL1 ho1
 clear hL1 ho1
 go_wp2_with fail
 refine hK.mono ?_
 rintro e w3 ⟨vp, rfl, hop, hb3⟩
 obtain ⟨Ap, cp, rfl, hPZ⟩ := HOP.out _ _ _ hop
 have HB3 := Lib.hid (bstep HB2.out hb3)
 have HPZ := Lib.hid hPZ
 obtain ⟨m, hm⟩ : ∃ m, M.length = m := ⟨_, rfl⟩
 have HMm := Lib.hid hm
 rw [hm] at HPZ HOP HMl ⊢
 clear hop hPZ hb3 hK hm
 go_wp2_with fail
 refine (HRW.out _ HB3.out).mono ?_
 rintro e w4 ⟨vq, L1, rfl, hL1, ho1, hbq⟩
 have HB4 := Lib.hid (bstep HB3.out hbq)
 have HX4 := Lib.hid hbq
 clear hbq
 obtain ⟨Aq2, cq2, rfl, hK⟩ := HRS.out L1 _ _ w4 hL1 ho1
 clear hL1 ho1
 go_wp2_with fail
 refine hK.mono ?_
 rintro e w5 ⟨vr, rfl, hor, hb5⟩
 obtain ⟨Ar, cr, rfl, hRZ⟩ := ResZ.of_own hor
 rw [HMm.out] at hRZ ⊢
 have HB5 := Lib.hid (bstep HB4.out hb5)
 have HRZ := Lib.hid hRZ
 have HP5 := Lib.hid (HPZ.out.below (bstep HX4.out hb5))
 clear hor hRZ hb5 hK
 go_wp2_with fail
 refine (HRC.out _ HB5.out).mono ?_
 rintro e w6 ⟨rfl, hb6⟩
 have HB6 := Lib.hid (bstep HB5.out hb6)
 have HX6 := Lib.hid hb6
 clear hb6
 go_wp2_with fail
 refine (HRW.out _ HB6.out).mono ?_
 rintro e w7 ⟨vq, L1, rfl, hL1, ho1, hbq⟩
 have HB7 := Lib.hid (bstep HB6.out hbq)
 have HX7 := Lib.hid hbq
 clear hbq
 obtain ⟨Aq3, cq3, rfl, hK⟩ := HCR.out L1 _ _ w7 hL1 ho1
 clear hL1 ho1
 go_wp2_with fail
 refine hK.mono ?_
 rintro e w8 ⟨rfl, hb8⟩
 have HB8 := Lib.hid (bstep HB7.out hb8)
 have HX8 := Lib.hid (bstep (bstep HX6.out HX7.out) hb8)
 have HP8 := Lib.hid (HP5.out.below HX8.out)
 have HR8 := Lib.hid (HRZ.out.below HX8.out)
 have hmi : (m : Int) ≤ 35 := by have := HMl.out; omega
 have hm1000 : m ≤ 1000 := by have := HMl.out; omega
 clear hb8 hK HPZ HRZ HP5
 by_cases h0 : y = 0
 ·have hRR := HRR.out h0 _ HB8.out
  subst h0
  go_wp2_with fail
  refine hRR.mono ?_
  rintro e w9 ⟨vw, rfl, how, hb9⟩
  obtain ⟨Aw, cw, rfl, hWZ⟩ := PlcsZ.of_ownR how
  rw [HMm.out] at hWZ ⊢
  have HB9 := Lib.hid (bstep HB8.out hb9)
  have HP9 := Lib.hid (HP8.out.below hb9)
  have HR9 := Lib.hid (HR8.out.below hb9)
  have HW9 := Lib.hid hWZ
  clear how hb9 hWZ hRR
  go_wp2_with fail
  refine (l6ownPlaces_any M m cp Ap w9 HP9.out (by omega)).mono ?_
  rintro e w10 ⟨vo, rfl, hoo, hb10⟩
  obtain ⟨Ao, co, rfl, hOZ⟩ := PlcsZ.of_ownR hoo
  rw [HMm.out] at hOZ ⊢
  have HB10 := Lib.hid (bstep HB9.out hb10)
  have HR10 := Lib.hid (HR9.out.below hb10)
  have HW10 := Lib.hid (HW9.out.below hb10)
  have HO10 := Lib.hid hOZ
  clear hoo hb10 hOZ
  go_wp2_with fail
  refine (r6SamePlaces_any M m co cw Ao Aw w10 HO10.out HW10.out (by omega)).mono ?_
  rintro e w11 ⟨rfl, hb11⟩
  have HB11 := Lib.hid (bstep HB10.out hb11)
  have HR11 := Lib.hid (HR10.out.below hb11)
  have HW11 := Lib.hid (HW10.out.below hb11)
  clear hb11
  go_wp2
  go_loopw [61] (fun i wr => ∃ k : Nat, k ≤ m ∧ i = .int .i64 k ∧ Below w11.heap.size w11 wr) (fun i _ => m - (RowKit.intOf i).toNat)
  case atStart => exact ⟨0, by omega, rfl, Below.refl _ _⟩
  case round =>
   obtain ⟨k, hk, rfl, hb⟩ := hrel
   by_cases hlt : k < m
   ·obtain ⟨b1, o1, p, rfl, hb1, hx, d0, d1, d2, d3⟩ := (HR11.out.below hb).at_ hlt
    obtain ⟨b2, o2, q, rfl, hb2, hx2, e0, e1, e2, e3, e4⟩ := (HW11.out.below hb).at_ hlt
    obtain rfl : p = q := by rw [hx] at hx2; exact Option.some.inj hx2
    obtain ⟨n1, r1, k1, v1, t1⟩ := p
    dsimp only at d0 d1 d2 d3 e0 e1 e2 e3 e4
    have hki : (k : Int) < (m : Int) := by omega
    have hk0 : (0 : Int) ≤ (k : Int) := by omega
    have hkt : ((k : Int)).toNat = k := by omega
    have HS : Hid (∀ w', Below wr.heap.size wr w' → ((w'.cell? ⟨b1, o1 + k * 4, none⟩ = some (.string n1) ∧ w'.cell? ⟨b1, o1 + k * 4 + 1, none⟩ = some (.string k1) ∧ w'.cell? ⟨b1, o1 + k * 4 + 2, none⟩ = some (.int .i64 v1) ∧ w'.cell? ⟨b1, o1 + k * 4 + 3, none⟩ = some (.string t1)) ∧ (w'.cell? ⟨b2, o2 + k * 5, none⟩ = some (.string n1) ∧ w'.cell? ⟨b2, o2 + k * 5 + 1, none⟩ = some (.int .i64 r1) ∧ w'.cell? ⟨b2, o2 + k * 5 + 2, none⟩ = some (.string k1) ∧ w'.cell? ⟨b2, o2 + k * 5 + 3, none⟩ = some (.int .i64 v1) ∧ w'.cell? ⟨b2, o2 + k * 5 + 4, none⟩ = some (.string t1))) ∧ Below wr.heap.size wr w') := Lib.hid fun w' hq =>
     ⟨⟨⟨(hq.cell (p := ⟨b1, _, none⟩) hb1).trans d0, (hq.cell (p := ⟨b1, _, none⟩) hb1).trans d1, (hq.cell (p := ⟨b1, _, none⟩) hb1).trans d2, (hq.cell (p := ⟨b1, _, none⟩) hb1).trans d3⟩,
      ⟨(hq.cell (p := ⟨b2, _, none⟩) hb2).trans e0, (hq.cell (p := ⟨b2, _, none⟩) hb2).trans e1, (hq.cell (p := ⟨b2, _, none⟩) hb2).trans e2, (hq.cell (p := ⟨b2, _, none⟩) hb2).trans e3, (hq.cell (p := ⟨b2, _, none⟩) hb2).trans e4⟩⟩, hq⟩
    have HBB := Lib.hid hb
    clear hx hx2 d0 d1 d2 d3 e0 e1 e2 e3 e4 hb hb1 hb2
    go_wp2_with fail
    refine wp_region_held_drew (S := fun w' => ((w'.cell? ⟨b1, o1 + k * 4, none⟩ = some (.string n1) ∧ w'.cell? ⟨b1, o1 + k * 4 + 1, none⟩ = some (.string k1) ∧ w'.cell? ⟨b1, o1 + k * 4 + 2, none⟩ = some (.int .i64 v1) ∧ w'.cell? ⟨b1, o1 + k * 4 + 3, none⟩ = some (.string t1)) ∧ (w'.cell? ⟨b2, o2 + k * 5, none⟩ = some (.string n1) ∧ w'.cell? ⟨b2, o2 + k * 5 + 1, none⟩ = some (.int .i64 r1) ∧ w'.cell? ⟨b2, o2 + k * 5 + 2, none⟩ = some (.string k1) ∧ w'.cell? ⟨b2, o2 + k * 5 + 3, none⟩ = some (.int .i64 v1) ∧ w'.cell? ⟨b2, o2 + k * 5 + 4, none⟩ = some (.string t1))) ∧ Below wr.heap.size wr w') (by kernel_rfl) ?_ (fun hHeld => ?_)
    ·exact HS.out _ (by first | exact Below.drew (Below.refl _ _) | exact Below.drew (below_drewN (Below.refl _ _) _))
    refine zT (i := 0) (v := ?_) rfl (Or.inl ⟨by kernel_rfl, ?_⟩) ?_
    rotate_left
    ·rintro w ⟨⟨⟨s0, s1, s2, s3⟩, ⟨s4, s5, s6, s7, s8⟩⟩, s9⟩
     go_simp
     try with_reducible rfl
    try simp only [Act.put, zA1, zA2, zA3, zA4, zA5, zA6]
    refine zT (i := 1) (v := ?_) rfl (Or.inl ⟨by kernel_rfl, ?_⟩) ?_
    rotate_left
    ·rintro w ⟨⟨⟨s0, s1, s2, s3⟩, ⟨s4, s5, s6, s7, s8⟩⟩, s9⟩
     go_simp
     try with_reducible rfl
    try simp only [Act.put, zA1, zA2, zA3, zA4, zA5, zA6]
    refine zT (i := 2) (v := ?_) rfl (Or.inl ⟨by kernel_rfl, ?_⟩) ?_
    rotate_left
    ·rintro w ⟨⟨⟨s0, s1, s2, s3⟩, ⟨s4, s5, s6, s7, s8⟩⟩, s9⟩
     go_simp
     try with_reducible rfl
    try simp only [Act.put, zA1, zA2, zA3, zA4, zA5, zA6]
    refine zT (i := 3) (v := ?_) rfl (Or.inl ⟨by kernel_rfl, ?_⟩) ?_
    rotate_left
    ·rintro w ⟨⟨⟨s0, s1, s2, s3⟩, ⟨s4, s5, s6, s7, s8⟩⟩, s9⟩
     go_simp
     try with_reducible rfl
    try simp only [Act.put, zA1, zA2, zA3, zA4, zA5, zA6]
    refine zT (i := 4) (v := ?_) rfl (Or.inl ⟨by kernel_rfl, ?_⟩) ?_
    rotate_left
    ·rintro w ⟨⟨⟨s0, s1, s2, s3⟩, ⟨s4, s5, s6, s7, s8⟩⟩, s9⟩
     go_simp
     try with_reducible rfl
    try simp only [Act.put, zA1, zA2, zA3, zA4, zA5, zA6]
    refine zT (i := 5) (v := ?_) rfl (Or.inl ⟨by kernel_rfl, ?_⟩) ?_
    rotate_left
    ·rintro w ⟨⟨⟨s0, s1, s2, s3⟩, ⟨s4, s5, s6, s7, s8⟩⟩, s9⟩
     go_simp
     try with_reducible rfl
    try simp only [Act.put, zA1, zA2, zA3, zA4, zA5, zA6]
    refine zT (i := 6) (v := ?_) rfl (Or.inl ⟨by kernel_rfl, ?_⟩) ?_
    rotate_left
    ·rintro w ⟨⟨⟨s0, s1, s2, s3⟩, ⟨s4, s5, s6, s7, s8⟩⟩, s9⟩
     go_simp
     try with_reducible rfl
    try simp only [Act.put, zA1, zA2, zA3, zA4, zA5, zA6]
    refine zT (i := 7) (v := ?_) rfl (Or.inl ⟨by kernel_rfl, ?_⟩) ?_
    rotate_left
    ·rintro w ⟨⟨⟨s0, s1, s2, s3⟩, ⟨s4, s5, s6, s7, s8⟩⟩, s9⟩
     go_simp
     try with_reducible rfl
    try simp only [Act.put, zA1, zA2, zA3, zA4, zA5, zA6]
    refine zT (i := 8) (v := ?_) rfl (Or.inl ⟨by kernel_rfl, ?_⟩) ?_
    rotate_left
    ·rintro w ⟨⟨⟨s0, s1, s2, s3⟩, ⟨s4, s5, s6, s7, s8⟩⟩, s9⟩
     go_simp
     try with_reducible rfl
    try simp only [Act.put, zA1, zA2, zA3, zA4, zA5, zA6]
    refine zT (i := 9) (v := ?_) rfl (Or.inl ⟨by kernel_rfl, ?_⟩) ?_
    rotate_left
    ·rintro w ⟨⟨⟨s0, s1, s2, s3⟩, ⟨s4, s5, s6, s7, s8⟩⟩, s9⟩
     go_simp
     try with_reducible rfl
    try simp only [Act.put, zA1, zA2, zA3, zA4, zA5, zA6]
    refine zT (i := 10) (v := ?_) rfl (Or.inl ⟨by kernel_rfl, ?_⟩) ?_
    rotate_left
    ·rintro w ⟨⟨⟨s0, s1, s2, s3⟩, ⟨s4, s5, s6, s7, s8⟩⟩, s9⟩
     go_simp
     try with_reducible rfl
    try simp only [Act.put, zA1, zA2, zA3, zA4, zA5, zA6]
    refine zT (i := 11) (v := ?_) rfl (Or.inl ⟨by kernel_rfl, ?_⟩) ?_
    rotate_left
    ·rintro w ⟨⟨⟨s0, s1, s2, s3⟩, ⟨s4, s5, s6, s7, s8⟩⟩, s9⟩
     go_simp
     try with_reducible rfl
    try simp only [Act.put, zA1, zA2, zA3, zA4, zA5, zA6]
    refine zT (i := 12) (v := ?_) rfl (Or.inl ⟨by kernel_rfl, ?_⟩) ?_
    rotate_left
    ·rintro w ⟨⟨⟨s0, s1, s2, s3⟩, ⟨s4, s5, s6, s7, s8⟩⟩, s9⟩
     go_simp
     try with_reducible rfl
    try simp only [Act.put, zA1, zA2, zA3, zA4, zA5, zA6]
    refine zT (i := 13) (v := ?_) rfl (Or.inl ⟨by kernel_rfl, ?_⟩) ?_
    rotate_left
    ·rintro w ⟨⟨⟨s0, s1, s2, s3⟩, ⟨s4, s5, s6, s7, s8⟩⟩, s9⟩
     go_simp
     try with_reducible rfl
    try simp only [Act.put, zA1, zA2, zA3, zA4, zA5, zA6]
    refine zT (i := 14) (v := ?_) rfl (Or.inl ⟨by kernel_rfl, ?_⟩) ?_
    rotate_left
    ·rintro w ⟨⟨⟨s0, s1, s2, s3⟩, ⟨s4, s5, s6, s7, s8⟩⟩, s9⟩
     go_simp
     try with_reducible rfl
    try simp only [Act.put, zA1, zA2, zA3, zA4, zA5, zA6]
    refine wpAnyH_take (i := 15) (oi := _) (v := .bool false) rfl (by kernel_rfl) (by kernel_rfl) (by kernel_rfl) (fun _ _ _ h => h) (Or.inl ⟨by kernel_rfl, ?_⟩) (by assumption) ?_
    ·intro w' _; exact exec_binR (m := .agg #[.string n1, .string k1, .int .i64 v1, .string t1]) (k := .agg #[.string n1, .string k1, .int .i64 v1, .string t1]) rfl rfl rfl (guardRes _ _ _ _ w') (neqRes n1 k1 v1 t1 w')
    try simp only [Act.put, zA1, zA2, zA3, zA4, zA5, zA6]
    refine wpAnyH_done (by kernel_rfl) ?_ _
    have HXX := Lib.hid (bstep HBB.out hHeld.2)
    clear hHeld
    go_wp2
    go_roundw
    case rel => exact ⟨k + 1, by omega, by go_num, HXX.out⟩
    case measure => simp [RowKit.intOf]; omega
   ·have HBB := Lib.hid (bstep HB11.out hb)
    clear hb
    go_wp2_with fail
    refine (HAW.out _ HBB.out).mono ?_
    rintro e w12 ⟨rfl, hb12⟩
    have HFI := Lib.hid (bstep HBB.out hb12)
    clear hb12
    go_wp2
    go_ret
    exact ⟨rfl, HFI.out⟩
 ·have hMn := HMN.out h0
  have hm0 : m = 0 := by rw [← HMm.out, hMn]; rfl
  have hyb : (y == 0) = false := by simp [h0]
  have HB9 := HB8
  have HP9 := HP8
  have HR9 := HR8
  obtain ⟨w9, hw9⟩ : ∃ w9, w8 = w9 := ⟨_, rfl⟩
  rw [hw9] at HB9 HP9 HR9 ⊢
  have HW9 : Hid (PlcsZ w9 none 0 M) := Lib.hid ⟨by rw [hMn]; rfl, fun h => absurd h (by omega)⟩
  subst hm0
  clear hMn hw9
  go_wp2_with fail
  refine (l6ownPlaces_any M 0 cp Ap w9 HP9.out (by omega)).mono ?_
  rintro e w10 ⟨vo, rfl, hoo, hb10⟩
  obtain ⟨Ao, co, rfl, hOZ⟩ := PlcsZ.of_ownR hoo
  rw [HMm.out] at hOZ ⊢
  have HB10 := Lib.hid (bstep HB9.out hb10)
  have HR10 := Lib.hid (HR9.out.below hb10)
  have HW10 := Lib.hid (HW9.out.below hb10)
  have HO10 := Lib.hid hOZ
  clear hoo hb10 hOZ
  go_wp2_with fail
  refine (r6SamePlaces_any M 0 co 0 Ao none w10 HO10.out HW10.out (by omega)).mono ?_
  rintro e w11 ⟨rfl, hb11⟩
  have HB11 := Lib.hid (bstep HB10.out hb11)
  have HR11 := Lib.hid (HR10.out.below hb11)
  have HW11 := Lib.hid (HW10.out.below hb11)
  clear hb11
  go_wp2
  go_loopw [61] (fun i wr => ∃ k : Nat, k ≤ 0 ∧ i = .int .i64 k ∧ Below w11.heap.size w11 wr) (fun i _ => 0 - (RowKit.intOf i).toNat)
  case atStart => exact ⟨0, by omega, rfl, Below.refl _ _⟩
  case round =>
   obtain ⟨k, hk, rfl, hb⟩ := hrel
   ·obtain rfl : k = 0 := by omega
    have HBB := Lib.hid (bstep HB11.out hb)
    clear hb
    go_wp2_with fail
    refine (HAW.out _ HBB.out).mono ?_
    rintro e w12 ⟨rfl, hb12⟩
    have HFI := Lib.hid (bstep HBB.out hb12)
    clear hb12
    go_wp2
    go_ret
    exact ⟨rfl, HFI.out⟩
theorem ranks6_any (L : List RowR) (n cap : Nat) (A : Option Addr) (w : World) (hI : RowsIn w A n L) (ht : Tabs w) :
  Calls Tryz.prog 3 #[.slice A n cap] w (Yes w) := by
 cases h : shR L with
 | false => exact ranks6_exit L n cap A w hI ht h
 | true => exact ranks6_main L n cap A w hI ht h
end Go.Mk
