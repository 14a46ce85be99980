/-
  Proved: the law SeedBetter returns true where it asks: nobody in the order is better than the one before, entrants with equal marks stand as they are drawn. Conditions: the tables that awake reads lie where the program lays them; the entrants lie where the slice says, and have no error.
-/
import Derived.Test.YtccgahkoekcefaaGreatDoorWb
import Derived.Test.YtccgahkoekcefaaGreatDoorQp
set_option linter.unusedVariables false
set_option linter.unusedSimpArgs false
open Go Go.Proofs Go.RowKit Go.Sort
set_option maxRecDepth 100000
namespace Go.Mk
theorem form_one {O : List Int} {n c g : Nat} {w : World} (t : TypeId) (hI : IntsZ w (some ⟨g, 0, none⟩) n O) (hn : n ≤ 300) (hnd : O.Nodup) (hin : ∀ x ∈ O, 0 ≤ x ∧ x < (n : Int)) :
  Calls Tryz.prog 30 #[.int .i64 (n : Int), .slice (some ⟨w.heap.size, 0, none⟩) 1 1] (w.alloc (.cells #[.slice (some ⟨g, 0, none⟩) n c] t)) (RetPost (.int .i64 0) (w.alloc (.cells #[.slice (some ⟨g, 0, none⟩) n c] t))) := by
 have hl := hI.1
 refine r4CheckForm_ok n 1 [O] 1 (some ⟨w.heap.size, 0, none⟩) (w.heap.size + 1) _ ?_ (by decide) (by decide) hn (by simpa using hnd) (by simpa using hin) (by simpa using hl)
 refine ⟨rfl, by simp, fun _ => ⟨w.heap.size, 0, rfl, by omega, fun i l hi => ?_⟩⟩
 match i, hi with
 | 0, hi =>
  obtain rfl : O = l := by simpa using hi
  refine ⟨some ⟨g, 0, none⟩, c, by rw [hl]; simp, ?_⟩
  rw [hl]
  refine ⟨hl, by simp, fun h0 => ?_⟩
  obtain ⟨g', off, e, hlt, hc⟩ := hI.2 h0
  cases e
  exact ⟨g, 0, rfl, by omega, fun i z hz => ((balloc (.cells #[.slice (some ⟨g, 0, none⟩) n c] t) (Below.refl _ _)).cell (p := ⟨g, 0 + i, none⟩) hlt).trans (hc i z hz)⟩
theorem IntsZ.at_ {w : World} {g n : Nat} {O : List Int} (h : IntsZ w (some ⟨g, 0, none⟩) n O) {i : Nat} (hi : i < n) : g < w.heap.size ∧ w.cell? ⟨g, i, none⟩ = some (.int .i64 (ga O i)) := by
 obtain ⟨g', off, e, hlt, hc⟩ := h.2 (by omega)
 cases e
 have := hc i (ga O i) (ga_at (by rw [h.1]; exact hi))
 rw [Nat.zero_add] at this
 exact ⟨hlt, this⟩
theorem ord_pair {L : List Ent} (h : chkEnts L = 0) (key : Nat) {n i : Nat} (hl : L.length = n) (hi : i + 1 < n) : ∃ x y : Nat, x < n ∧ y < n ∧ ga (ordZ L key) (i + 1) = (x : Int) ∧ ga (ordZ L key) i = (y : Int) ∧
  ga (invZ (drawnZ key n) n n) x = ((drawnZ key n).idxOf (x : Int) : Int) ∧ ga (invZ (drawnZ key n) n n) y = ((drawnZ key n).idxOf (y : Int) : Int) ∧
  0 ≤ cmE L x y ∧ (cmE L x y = 0 → (drawnZ key n).idxOf (y : Int) < (drawnZ key n).idxOf (x : Int)) := by
 have hol := ordZ_len h key
 obtain ⟨a1, a2⟩ := ordZ_ok h key
 have at_ : ∀ j, j < n → ∃ x : Nat, x < n ∧ ga (ordZ L key) j = (x : Int) ∧ (x : Int) ∈ drawnZ key n := fun j hj => by
  have hm : ga (ordZ L key) j ∈ ordZ L key := List.mem_of_getElem? (ga_at (by rw [hol, hl]; exact hj))
  obtain ⟨b1, b2⟩ := ordZ_mem h key hm
  refine ⟨(ga (ordZ L key) j).toNat, by omega, by omega, ?_⟩
  have := a2.mem_iff.1 hm
  rw [hl] at this
  rwa [show (((ga (ordZ L key) j).toNat : Nat) : Int) = ga (ordZ L key) j by omega]
 obtain ⟨x, hx, ex, mx⟩ := at_ (i + 1) hi
 obtain ⟨y, hy, ey, my⟩ := at_ i (by omega)
 have hlt : ltE L (drawnZ key n) (y : Int) (x : Int) := by
  rw [List.pairwise_iff_getElem] at a1
  have := a1 i (i + 1) (by rw [hol, hl]; omega) (by rw [hol, hl]; exact hi) (by omega)
  have e1 := ga_at (L := ordZ L key) (i := i) (by rw [hol, hl]; omega)
  have e2 := ga_at (L := ordZ L key) (i := i + 1) (by rw [hol, hl]; exact hi)
  rw [List.getElem?_eq_getElem (by rw [hol, hl]; omega)] at e1
  rw [List.getElem?_eq_getElem (by rw [hol, hl]; exact hi)] at e2
  rw [Option.some.inj e1, Option.some.inj e2, ex, ey, hl] at this
  exact this
 have hcm := cmE_key h (x := (x : Int)) (y := (y : Int)) (by omega) (by omega)
 refine ⟨x, y, hx, hy, ex, ey, invZ_full (drawnZ_len _ _) hx mx, invZ_full (drawnZ_len _ _) hy my, ?_, fun h0 => ?_⟩
 ·unfold ltE at hlt
  have := hcm.1
  omega
 ·have h1 := hcm.2.1 h0
  unfold ltE at hlt
  have hne : (drawnZ key n).idxOf (x : Int) = (drawnZ key n).idxOf (y : Int) → (y : Int) < (x : Int) → False := fun q q2 => by
   have l1 := List.idxOf_lt_length_of_mem mx
   have l2 := List.idxOf_lt_length_of_mem my
   have g1 := List.getElem_idxOf l1
   have g2 := List.getElem_idxOf l2
   simp only [q] at g1
   rw [g2] at g1
   omega
  rcases hlt with q | ⟨_, q | ⟨q1, q2⟩⟩
  ·omega
  ·exact q
  ·exact (hne q1.symm q2).elim
def Ent.with_ (E : Ent) (v : Int) : Ent := ⟨E.name, E.club, E.kind, v, E.reason⟩
def posZ (O : List Int) (x : Int) (i : Nat) : Int := if O.idxOf x < i then (O.idxOf x : Int) else 0
theorem posZ_zero (O : List Int) (x : Int) : posZ O x 0 = 0 := by simp [posZ]
theorem posZ_hit {O : List Int} (hn : O.Nodup) {i : Nat} {x : Int} (hi : i < O.length) (h : ga O i = x) : posZ O x (i + 1) = (i : Int) := by
 have g := ga_at hi
 rw [List.getElem?_eq_getElem hi] at g
 have g2 : O[i] = x := (Option.some.inj g).trans h
 have e : O.idxOf x = i := by rw [← g2]; exact hn.idxOf_getElem i hi
 unfold posZ
 rw [e, if_pos (by omega)]
theorem posZ_miss {O : List Int} {i : Nat} {x : Int} (hi : i < O.length) (h : ga O i ≠ x) : posZ O x (i + 1) = posZ O x i := by
 have g := ga_at hi
 rw [List.getElem?_eq_getElem hi] at g
 have e : O.idxOf x ≠ i := fun q => by
  have l1 : O.idxOf x < O.length := by omega
  have g3 := List.getElem_idxOf l1
  simp only [q] at g3
  exact h ((Option.some.inj g).symm.trans g3)
 unfold posZ
 by_cases q : O.idxOf x < i
 ·rw [if_pos q, if_pos (by omega)]
 ·rw [if_neg q, if_neg (by omega)]
theorem posZ_full {O : List Int} {x : Int} {n : Nat} (hl : O.length = n) (hm : x ∈ O) : posZ O x n = (O.idxOf x : Int) := by
 have := List.idxOf_lt_length_of_mem hm
 unfold posZ
 rw [if_pos (by omega)]
theorem chk_one {v : Int} {r : ByteArray} (h : chk sTime v r = 0) : 1 ≤ v := by
 unfold chk at h
 rw [if_neg sTN, if_pos rfl] at h
 repeat' split at h
 all_goals omega
theorem mk_time (v : Int) : mkeyP sTime v = v := by
 unfold mkeyP
 rw [if_neg sTN, if_pos rfl]
theorem mk_else {s : ByteArray} (h1 : s ≠ sNone) (h2 : s ≠ sTime) (v : Int) : mkeyP s v = -v := by
 unfold mkeyP
 rw [if_neg h1, if_neg h2]
theorem ordZ_self {L : List Ent} (h : chkEnts L = 0) (key : Nat) {q : Nat} (hq : q < L.length) : (q : Int) ∈ ordZ L key := by
 have hp : (drawnZ key L.length).Perm ((List.range L.length).map fun x : Nat => (x : Int)) := by
  unfold drawnZ
  exact (Sh.order_perm key L.length).map _
 exact (ordZ_ok h key).2.mem_iff.2 (hp.mem_iff.2 (List.mem_map.2 ⟨q, List.mem_range.2 hq, rfl⟩))
theorem entC_len : ∀ L : List Ent, (L.flatMap entC).length = L.length * 5
 | [] => rfl
 | x :: L => by
  rw [List.flatMap_cons, List.length_append, entC_len L, List.length_cons]
  simp [entC]
  omega
theorem flat_at : ∀ (L : List Ent) (j : Nat) (u : Value), (L.flatMap entC)[j]? = some u → ∃ i r x, j = i * 5 + r ∧ r < 5 ∧ L[i]? = some x ∧ (entC x)[r]? = some u := fun L j u h => by
 have hj : j < (L.flatMap entC).length := (List.getElem?_eq_some_iff.1 h).1
 have hlen := entC_len L
 have hi : j / 5 < L.length := by omega
 refine ⟨j / 5, j % 5, L[j / 5], by omega, Nat.mod_lt _ (by decide), List.getElem?_eq_getElem hi, ?_⟩
 rw [← entC_at L (j / 5) _ (j % 5) (List.getElem?_eq_getElem hi) (Nat.mod_lt _ (by decide)), show j / 5 * 5 + j % 5 = j by omega]
 exact h
theorem flat_set : ∀ (L : List Ent) (q : Nat) (E : Ent) (v : Int), L[q]? = some E → (L.flatMap entC).set (q * 5 + 3) (.int .i64 v) = (L.set q (E.with_ v)).flatMap entC
 | [], q, E, v, h => by simp at h
 | x :: L, 0, E, v, h => by
  simp at h
  subst h
  simp [entC, Ent.with_, List.flatMap_cons]
 | x :: L, q + 1, E, v, h => by
  have ih := flat_set L q E v (by simpa using h)
  rw [List.flatMap_cons, zA3, List.flatMap_cons, ← ih, List.set_append_right _ _ (by simp [entC]; omega)]
  congr 2
  simp [entC]; omega
theorem Ents.cells {w : World} {B n b off : Nat} {L : List Ent} (h : Ents w B (some ⟨b, off, none⟩) n L) : ∀ j u, (L.flatMap entC)[j]? = some u → w.cell? ((⟨b, off, none⟩ : Addr).add j) = some u := fun j u hu => by
 obtain ⟨i, r, x, rfl, hr, hx, hc⟩ := flat_at L j u hu
 have hi : i < n := by rw [← h.1]; exact (List.getElem?_eq_some_iff.1 hx).1
 obtain ⟨b', off', x', e, _, hx', c0, c1, c2, c3, c4⟩ := h.at_ hi
 cases e
 cases hx.symm.trans hx'
 rw [add_at]
 match r, hr, hc with
 | 0, _, hc => simp [entC] at hc; subst hc; exact c0
 | 1, _, hc => simp [entC] at hc; subst hc; exact c1
 | 2, _, hc => simp [entC] at hc; subst hc; exact c2
 | 3, _, hc => simp [entC] at hc; subst hc; exact c3
 | 4, _, hc => simp [entC] at hc; subst hc; exact c4
theorem entC_one (L : List Ent) : ∀ u ∈ L.flatMap entC, u.oneCell' = true := by
 intro u hu
 obtain ⟨x, _, hx⟩ := List.mem_flatMap.1 hu
 simp [entC] at hx
 rcases hx with rfl | rfl | rfl | rfl | rfl <;> rfl
theorem infoSEnt : (Tryz.prog.info? 65).map (fun i => (i.zero, i.size, i.bytes)) = some (some (.agg #[.string ⟨#[]⟩, .string ⟨#[]⟩, .string ⟨#[]⟩, .int .i64 0, .string ⟨#[]⟩]), 5, 72) := by kernel_rfl
set_option maxHeartbeats 8000000 in
theorem better_main (L : List Ent) (n cap : Nat) (A : Option Addr) (B : Nat) (kk : Nat) (pk : Int) (w : World) (ht : Tabs w) (hZ : Ents w B A n L) (hs : ∀ x ∈ L, x.ok ∧ x.kind.size ≤ maxLen ∧ x.reason.size ≤ maxLen) (hx : shortE L 24 = true) (hX : chkEnts L = 0) (hD : drwE kk n = 0) (hn0 : 0 < n) (hp1 : 0 ≤ pk) (hp2 : pk ≤ 255) :
  Calls Tryz.prog 7 #[.slice A n cap, .int .i64 (kk : Int), .int .u8 pk] w (Yes w) := by
 obtain ⟨i0, hi, hz0, hz1, hz2⟩ := info_parts infoInt
 obtain ⟨j0, hj', hy0, hy1, hy2⟩ := info_parts infoSEnt
 have hl := hZ.1
 obtain ⟨k1, k2, k3⟩ := drw_ok hD
 have hn4 : n ≤ 24 := by
  have h1 := short_len hx
  have h2 := (chkEnts_zero hX).1
  omega
 have hni : (n : Int) ≤ 24 := by omega
 have hni0 : (0 : Int) < (n : Int) := by omega
 have hok : ∀ x ∈ L, x.ok := fun x q => (hs x q).1
 have hG := ht.1
 have hR := l4own_big L n cap A B w hZ (by omega)
 have HM : Hid (∀ w', Below w.heap.size w w' → Ents w' B A n L) := Lib.hid fun w' hb => hZ.below hb hZ.2.1
 have HOR : Hid (∀ w', Below w.heap.size w w' → Calls Tryz.prog 13 #[.slice A n cap, .int .i64 (kk : Int)] w' (OrdPost L kk n w')) := Lib.hid fun w' hb => seedOrder_ok L n cap A B kk w' (hZ.below hb hZ.2.1) (by omega) hok (Nat.le_trans hG hb.size) (by omega) (by omega) hX
 have HDR : Hid (∀ w', Calls Tryz.prog 15 #[.int .i64 (kk : Int), .int .i64 (n : Int)] w' (RetPost (.int .i64 0) w')) := Lib.hid fun w' => by
  have := refCheckDraw_all (kk : Int) n w'
  rwa [hD] at this
 have HDW : Hid (∀ w', Calls Tryz.prog 35 #[.int .i64 (kk : Nat), .int .i64 (n : Nat)] w' (Drawn2 kk n w')) := Lib.hid fun w' => refDraw_any kk n w' k1 k2 (by omega)
 have HCM : Hid (∀ (x y : Nat) (E F : Ent) (w' : World), L[x]? = some E → L[y]? = some F → Calls Tryz.prog 36 #[.agg #[.string E.kind, .int .i64 E.value, .string E.reason], .agg #[.string F.kind, .int .i64 F.value, .string F.reason]] w' (RetPost (.int .i64 (cmE L x y)) w')) := Lib.hid fun x y E F w' hE hF => by
  obtain ⟨_, z1, z2⟩ := chkEnts_zero hX
  obtain ⟨kx, _, hk⟩ := kinds_one _ _ z2
  have mE := List.mem_of_getElem? hE
  have mF := List.mem_of_getElem? hF
  unfold cmE
  rw [entAt_of hE, entAt_of hF]
  refine refCompare_any _ _ _ _ _ _ w' (entsE_zero [] L z1 _ mE) (entsE_zero [] L z1 _ mF) ?_
  rcases hk _ mE with q | q
  ·exact .inr (.inl q)
  ·rcases hk _ mF with q2 | q2
   ·exact .inr (.inr q2)
   ·exact .inl (q.trans q2.symm)
 have HPA : Hid (∀ i, i + 1 < n → ∃ x y : Nat, x < n ∧ y < n ∧ ga (ordZ L kk) (i + 1) = (x : Int) ∧ ga (ordZ L kk) i = (y : Int) ∧ ga (invZ (drawnZ kk n) n n) x = ((drawnZ kk n).idxOf (x : Int) : Int) ∧ ga (invZ (drawnZ kk n) n n) y = ((drawnZ kk n).idxOf (y : Int) : Int) ∧
   0 ≤ cmE L x y ∧ (cmE L x y = 0 → (drawnZ kk n).idxOf (y : Int) < (drawnZ kk n).idxOf (x : Int))) := Lib.hid fun i hi => ord_pair hX kk hl hi
 have HOF : Hid ((ordZ L kk).Nodup ∧ (∀ x ∈ ordZ L kk, 0 ≤ x ∧ x < (n : Int)) ∧ (ordZ L kk).length = n) := Lib.hid ⟨ordZ_nodup hX kk, fun x q => by have := ordZ_mem hX kk q; rw [hl] at this; exact this, (ordZ_len hX kk).trans hl⟩
 have HALL := Lib.hid (And.intro hs (And.intro hx (And.intro hX (And.intro hl (And.intro k1 k2)))))
 have hmk : ∀ w : World, (Instr.makeSlice 30 (.int .i64 (n : Int)) (.int .i64 (n : Int))).run Tryz.prog w = .ok (.slice (some ⟨w.heap.size, 0, none⟩) n n) (w.alloc (.cells (madeCells #[.int .i64 0] n) 3)) := by
  intro w
  have := run_make (P := Tryz.prog) w 30 3 i0 (.int .i64 0) Tryz.underlying30 hi hz0 .i64 .i64 n n (by omega) (by omega) (by rw [hz2]; omega) (by omega)
  rw [hz1] at this
  simpa [Value.cells] using this
 have HMK := Lib.hid hmk
 obtain ⟨O, hO⟩ : ∃ O, ordZ L kk = O := ⟨_, rfl⟩
 unfold OrdPost at HOR
 rw [hO] at HOR HPA HOF
 have HOO := Lib.hid hO
 clear hZ hs hok hx hX hD hO hi hz0 hz1 hz2 k1 k2 k3
 clear hmk
 go_enter Tryz.func7, Tryz.ntmps7
 go_wp2_with fail
 refine hR.mono ?_
 rintro e w1 ⟨v, rfl, hOE, hb1⟩
 obtain ⟨A1, c1, rfl, hR1⟩ := Ents.of_own hOE hl
 have HS : Hid (∀ w', Below w1.heap.size w1 w' → Calls Tryz.prog 10 #[.slice A1 n c1, .int .i64 24] w' (RetPost (.bool true) w')) := Lib.hid fun w' hb => by
  have := short_ents L n c1 24 A1 _ w' (hR1.below hb (Nat.le_refl _)) HALL.out.1 (by omega)
  rwa [HALL.out.2.1] at this
 have HRC : Hid (∀ w', Below w1.heap.size w1 w' → Calls Tryz.prog 11 #[.slice A1 n c1] w' (RetPost (.int .i64 0) w')) := Lib.hid fun w' hb => by
  have := r4CheckEntrants_all L n c1 A1 _ w' (hR1.below hb (Nat.le_refl _)) (by omega) (fun x q => (HALL.out.1 x q).1)
  rwa [HALL.out.2.2.1] at this
 have ht1 := ht.grow hb1
 have HB1 := Lib.hid hb1
 have hsz1 := hb1.size
 clear hOE hR1 hR ht hl hb1
 have hbb := Below.refl w1.heap.size w1
 go_wp2_with fail
 refine (aw _ ht1).mono ?_
 rintro e w2 ⟨rfl, hbn⟩
 replace hbb := bstep hbb hbn
 clear hbn
 go_wp2_with fail
 refine (HS.out _ hbb).mono ?_
 rintro e w3 ⟨rfl, hbn⟩
 replace hbb := bstep hbb hbn
 clear hbn HS
 go_wp2_with fail
 refine (HRC.out _ hbb).mono ?_
 rintro e w4 ⟨rfl, hbn⟩
 replace hbb := bstep hbb hbn
 clear hbn HRC
 go_wp2_with fail
 refine (HDR.out _).mono ?_
 rintro e w5 ⟨rfl, hbn⟩
 replace hbb := bstep hbb hbn
 clear hbn HDR
 go_wp2_with fail
 refine (HOR.out _ (HB1.out.trans (hbb.mono hsz1))).mono ?_
 rintro e w6 ⟨gO, rfl, hrO, hbn⟩
 have HB6 := Lib.hid (HB1.out.trans ((bstep hbb hbn).mono hsz1))
 have HIO := Lib.hid (RowZ.ints hrO)
 clear hbn hbb HOR hrO HB1
 have hF := form_one (c := n) 30 HIO.out (by omega) HOF.out.1 HOF.out.2.1
 go_wp2_with fail
 refine hF.mono ?_
 rintro e w7 ⟨rfl, hbn⟩
 have hb67 : Below w6.heap.size w6 w7 := bstep (balloc _ (Below.refl _ _)) hbn
 have HI7 := Lib.hid (HIO.out.below hb67)
 have HB7 := Lib.hid (bstep HB6.out hb67)
 clear hbn hb67 HIO HB6 hF
 have hmk := HMK.out
 have HRS := Lib.hid (RowZ.start w7 w7.heap.size n (Nat.le_refl _) (by omega))
 have hb78 : Below w7.heap.size w7 (w7.alloc (.cells (madeCells #[.int .i64 0] n) 3)) := balloc _ (Below.refl _ _)
 obtain ⟨gR, hgR⟩ : ∃ gR, gR = w7.heap.size := ⟨_, rfl⟩
 rw [← hgR] at HRS
 go_wp2_with fail
 rw [← hgR]
 have HB8 := Lib.hid hb78
 have HGR := Lib.hid hgR
 clear hb78 hgR hmk
 generalize w7.alloc (.cells (madeCells #[.int .i64 0] n) 3) = w8 at *
 refine (HDW.out _).mono ?_
 rintro e w9 ⟨gD, rfl, hrd, hgd, hbn⟩
 have HB9 := Lib.hid (bstep HB8.out hbn)
 have HR9 : Hid (RowZ w9 gR gR n n (invZ (drawnZ kk n) n 0)) := by
  have := HRS.out.below hbn
  rw [← invZ_zero (drawnZ kk n) n] at this
  exact Lib.hid (this.mono (Nat.le_refl _))
 have hgl : gR < w8.heap.size := (RowZ.lt HRS.out).2
 have HGD : Hid (gD ≠ gR ∧ ∀ w', w9.grownBy w' (some gR) → ∀ k d : Nat, (Sh.order kk n)[k]? = some d → w'.cell? ⟨gD, k, none⟩ = some (.int .i64 (d : Int))) := Lib.hid ⟨by omega, fun w' hg k d hk => hg.cell (a := ⟨gD, k, none⟩) (hrd.2 k d hk).1 (by intro q; have := Option.some.inj q; simp only at this; omega)⟩
 have HB79 : Hid (∀ w', w9.grownBy w' (some gR) → Below w7.heap.size w7 w') := Lib.hid fun w' hg => HB9.out.grown hg HB9.out.size (fun r hr => by cases hr; rw [HGR.out]; exact Nat.le_refl _)
 clear hbn hrd hgd hgl HRS HB8 HB9
 go_wp2
 go_loopw [68] (fun i wr => ∃ k : Nat, k ≤ n ∧ i = .int .i64 k ∧ Hid (RowZ wr gR gR n n (invZ (drawnZ kk n) n k)) ∧ Hid (w9.grownBy wr (some gR))) (fun i _ => n - (RowKit.intOf i).toNat)
 case atStart => exact ⟨0, by omega, rfl, HR9, Lib.hid (World.grownBy.refl _ _)⟩
 case round =>
  obtain ⟨k, hk, rfl, HR, HG⟩ := hrel
  by_cases hlt : k < n
  ·obtain ⟨d, hd, hdo, hdz⟩ := drawnZ_at kk n hlt
   have hcD := HGD.out.2 _ HG.out k d hdo
   have hc1 := HR.out.cell (i := d) hd
   have hz1 := HR.out.froz d
   have hs2 := HR.out.set d (k : Int)
   rw [← invZ_step (drawnZ_nodup kk n) hd hdz] at hs2
   have HN := Lib.hid (And.intro hs2 (HG.out.trans (grown_set _ gR d (.int .i64 (k : Int)))))
   have hki : (k : Int) < (n : Int) := by omega
   have hd0 : (0 : Int) ≤ (d : Int) := by omega
   have hdi : (d : Int) < (n : Int) := by omega
   have hdt : ((d : Int)).toNat = d := by omega
   clear hs2 hdo hdz HR HG
   go_wp2
   go_roundw
   case rel => exact ⟨k + 1, by omega, by go_num, Lib.hid HN.out.1, Lib.hid HN.out.2⟩
   case measure => simp [RowKit.intOf]; omega
  ·have hkn : k = n := by omega
   have hkni : ¬ (k : Int) < (n : Int) := by omega
   have HRF : Hid (RowZ wr gR gR n n (invZ (drawnZ kk n) n n)) := by rw [← hkn]; rw [hkn]; rw [hkn] at HR; exact HR
   have HBA := Lib.hid (HB79.out _ HG.out)
   clear HR HG hkn hlt hk HB79 HGD HR9
   obtain ⟨wx, rfl⟩ : ∃ wx : World, wx = wr := ⟨_, rfl⟩
   have HIX := Lib.hid (HI7.out.below HBA.out)
   have HBX := Lib.hid (bstep HB7.out HBA.out)
   clear HI7 HBA
   go_wp2
   go_loopw [13] (fun i wr => ∃ j : Nat, i = .int .i64 ((j + 1 : Nat) : Int) ∧ j < n ∧ Hid (Below wx.heap.size wx wr)) (fun i _ => n - (RowKit.intOf i).toNat)
   case atStart => exact ⟨0, rfl, hn0, Lib.hid (Below.refl _ _)⟩
   case round =>
    obtain ⟨j, rfl, hj, HB⟩ := hrel
    by_cases hjn : j + 1 < n
    ·obtain ⟨x, y, hxn, hyn, ex, ey, dx, dy, hz0c, hz1c⟩ := HPA.out j hjn
     have hIr := HIX.out.below HB.out
     obtain ⟨hgo, c0⟩ := IntsZ.at_ hIr (i := j + 1) hjn
     obtain ⟨_, c1⟩ := IntsZ.at_ hIr (i := j) (by omega)
     rw [ex] at c0
     rw [ey] at c1
     have hRr := HRF.out.below HB.out
     have hgr := (RowZ.lt hRr).2
     have c8 := hRr.cell (i := x) hxn
     have c9 := hRr.cell (i := y) hyn
     rw [dx] at c8
     rw [dy] at c9
     have hEn := HM.out _ (bstep HBX.out HB.out)
     obtain ⟨b, off, E, rfl, hbl, hE, _, _, e2, e3, e4⟩ := hEn.at_ hxn
     obtain ⟨b', off', F, hA', _, hF, _, _, f2, f3, f4⟩ := hEn.at_ hyn
     cases hA'
     have hb' : b < wr.heap.size := Nat.lt_of_lt_of_le hbl hEn.2.1
     obtain ⟨ix, hix⟩ : ∃ ix, (drawnZ kk n).idxOf (x : Int) = ix := ⟨_, rfl⟩
     obtain ⟨iy, hiy⟩ : ∃ iy, (drawnZ kk n).idxOf (y : Int) = iy := ⟨_, rfl⟩
     rw [hix] at c8
     rw [hiy] at c9
     rw [hix, hiy] at hz1c
     have HS : Hid (∀ w', Below wr.heap.size wr w' → w'.cell? ⟨gO, j + 1, none⟩ = some (.int .i64 (x : Int)) ∧ w'.cell? ⟨gO, j, none⟩ = some (.int .i64 (y : Int)) ∧ w'.cell? ⟨b, off + x * 5 + 2, none⟩ = some (.string E.kind) ∧ w'.cell? ⟨b, off + x * 5 + 3, none⟩ = some (.int .i64 E.value) ∧ w'.cell? ⟨b, off + x * 5 + 4, none⟩ = some (.string E.reason) ∧
       w'.cell? ⟨b, off + y * 5 + 2, none⟩ = some (.string F.kind) ∧ w'.cell? ⟨b, off + y * 5 + 3, none⟩ = some (.int .i64 F.value) ∧ w'.cell? ⟨b, off + y * 5 + 4, none⟩ = some (.string F.reason) ∧ w'.cell? ⟨gR, x, none⟩ = some (.int .i64 (ix : Int)) ∧ w'.cell? ⟨gR, y, none⟩ = some (.int .i64 (iy : Int))) := Lib.hid fun w' hq =>
      ⟨(hq.cell (p := ⟨gO, _, none⟩) hgo).trans c0, (hq.cell (p := ⟨gO, _, none⟩) hgo).trans c1, (hq.cell (p := ⟨b, _, none⟩) hb').trans e2, (hq.cell (p := ⟨b, _, none⟩) hb').trans e3, (hq.cell (p := ⟨b, _, none⟩) hb').trans e4,
       (hq.cell (p := ⟨b, _, none⟩) hb').trans f2, (hq.cell (p := ⟨b, _, none⟩) hb').trans f3, (hq.cell (p := ⟨b, _, none⟩) hb').trans f4, (hq.cell (p := ⟨gR, _, none⟩) hgr).trans c8, (hq.cell (p := ⟨gR, _, none⟩) hgr).trans c9⟩
     have HC : Hid (∀ w', Calls Tryz.prog 36 #[.agg #[.string E.kind, .int .i64 E.value, .string E.reason], .agg #[.string F.kind, .int .i64 F.value, .string F.reason]] w' (RetPost (.int .i64 (cmE L x y)) w')) := Lib.hid fun w' => HCM.out x y E F w' hE hF
     obtain ⟨nm1, cl1, kd1, v1, r1⟩ := E
     obtain ⟨nm2, cl2, kd2, v2, r2⟩ := F
     simp only at HS HC
     obtain ⟨z, hz⟩ : ∃ z, cmE L x y = z := ⟨_, rfl⟩
     rw [hz] at HC hz0c hz1c
     have hj0 : (0 : Int) ≤ (j : Int) := by omega
     have hjt : ((j : Int)).toNat = j := by omega
     have hji : (j : Int) < (n : Int) := by omega
     have hj1 : (j : Int) + 1 < (n : Int) := by omega
     have hj10 : (0 : Int) ≤ (j : Int) + 1 := by omega
     have hj1t : ((j : Int) + 1).toNat = j + 1 := by omega
     have hx0 : (0 : Int) ≤ (x : Int) := by omega
     have hxi : (x : Int) < (n : Int) := by omega
     have hxt : ((x : Int)).toNat = x := by omega
     have hy0 : (0 : Int) ≤ (y : Int) := by omega
     have hyi : (y : Int) < (n : Int) := by omega
     have hyt : ((y : Int)).toNat = y := by omega
     have hw1 : IntKind.i64.wrap (j : Int) = (j : Int) := wrapQ _ (by omega)
     have hjj : (0 : Int) ≤ (j : Int) ∧ (j : Int) < (n : Int) := ⟨hj0, hji⟩
     have hj11 : (0 : Int) ≤ (j : Int) + 1 ∧ (j : Int) + 1 < (n : Int) := ⟨hj10, hj1⟩
     clear hIr c0 c1 hRr hgr c8 c9 hEn hE hF e2 e3 e4 f2 f3 f4 hix hiy hz hb' hbl ex ey dx dy hgo
     go_wp2_with fail
     refine wp_region_held_drew (S := fun w' => Below wr.heap.size wr w') (by kernel_rfl) ?_ (fun hHeld => ?_)
     ·exact (Below.refl _ _).drew
     refine wpAnyH_take (i := 0) (oi := _) (v := ?_) rfl (by kernel_rfl) (by kernel_rfl) (by kernel_rfl) (fun _ _ _ h => h) (Or.inl ⟨by kernel_rfl, ?_⟩) (by assumption) ?_
     rotate_left
     ·rintro w hw
      obtain ⟨s0, s1, s2, s3, s4, s5, s6, s7, s8, s9⟩ := HS.out w hw
      go_simp
      try with_reducible rfl
     try simp only [Act.put, zA1, zA2, zA3, zA4, zA5, zA6]
     refine wpAnyH_take (i := 1) (oi := _) (v := ?_) rfl (by kernel_rfl) (by kernel_rfl) (by kernel_rfl) (fun _ _ _ h => h) (Or.inl ⟨by kernel_rfl, ?_⟩) (by assumption) ?_
     rotate_left
     ·rintro w hw
      obtain ⟨s0, s1, s2, s3, s4, s5, s6, s7, s8, s9⟩ := HS.out w hw
      go_simp
      try with_reducible rfl
     try simp only [Act.put, zA1, zA2, zA3, zA4, zA5, zA6]
     refine wpAnyH_take (i := 2) (oi := _) (v := ?_) rfl (by kernel_rfl) (by kernel_rfl) (by kernel_rfl) (fun _ _ _ h => h) (Or.inl ⟨by kernel_rfl, ?_⟩) (by assumption) ?_
     rotate_left
     ·rintro w hw
      obtain ⟨s0, s1, s2, s3, s4, s5, s6, s7, s8, s9⟩ := HS.out w hw
      go_simp
      try with_reducible rfl
     try simp only [Act.put, zA1, zA2, zA3, zA4, zA5, zA6]
     refine wpAnyH_take (i := 3) (oi := _) (v := ?_) rfl (by kernel_rfl) (by kernel_rfl) (by kernel_rfl) (fun _ _ _ h => h) (Or.inl ⟨by kernel_rfl, ?_⟩) (by assumption) ?_
     rotate_left
     ·rintro w hw
      obtain ⟨s0, s1, s2, s3, s4, s5, s6, s7, s8, s9⟩ := HS.out w hw
      go_simp
      try simp only [hw1, if_pos hjj, if_pos hj11, hjt, hj1t]
      try with_reducible rfl
     try simp only [Act.put, zA1, zA2, zA3, zA4, zA5, zA6]
     refine wpAnyH_take (i := 4) (oi := _) (v := ?_) rfl (by kernel_rfl) (by kernel_rfl) (by kernel_rfl) (fun _ _ _ h => h) (Or.inl ⟨by kernel_rfl, ?_⟩) (by assumption) ?_
     rotate_left
     ·rintro w hw
      obtain ⟨s0, s1, s2, s3, s4, s5, s6, s7, s8, s9⟩ := HS.out w hw
      go_simp
      try simp only [hw1, if_pos hjj, if_pos hj11, hjt, hj1t]
      try with_reducible rfl
     try simp only [Act.put, zA1, zA2, zA3, zA4, zA5, zA6]
     refine wpAnyH_take (i := 5) (oi := _) (v := ?_) rfl (by kernel_rfl) (by kernel_rfl) (by kernel_rfl) (fun _ _ _ h => h) (Or.inl ⟨by kernel_rfl, ?_⟩) (by assumption) ?_
     rotate_left
     ·rintro w hw
      obtain ⟨s0, s1, s2, s3, s4, s5, s6, s7, s8, s9⟩ := HS.out w hw
      go_simp
      try with_reducible rfl
     try simp only [Act.put, zA1, zA2, zA3, zA4, zA5, zA6]
     refine wpAnyH_take (i := 6) (oi := _) (v := ?_) rfl (by kernel_rfl) (by kernel_rfl) (by kernel_rfl) (fun _ _ _ h => h) (Or.inl ⟨by kernel_rfl, ?_⟩) (by assumption) ?_
     rotate_left
     ·rintro w hw
      obtain ⟨s0, s1, s2, s3, s4, s5, s6, s7, s8, s9⟩ := HS.out w hw
      go_simp
      try with_reducible rfl
     try simp only [Act.put, zA1, zA2, zA3, zA4, zA5, zA6]
     refine wpAnyH_take (i := 7) (oi := _) (v := ?_) rfl (by kernel_rfl) (by kernel_rfl) (by kernel_rfl) (fun _ _ _ h => h) (Or.inl ⟨by kernel_rfl, ?_⟩) (by assumption) ?_
     rotate_left
     ·rintro w hw
      obtain ⟨s0, s1, s2, s3, s4, s5, s6, s7, s8, s9⟩ := HS.out w hw
      go_simp
      try with_reducible rfl
     try simp only [Act.put, zA1, zA2, zA3, zA4, zA5, zA6]
     refine wpAnyH_take (i := 8) (oi := _) (v := ?_) rfl (by kernel_rfl) (by kernel_rfl) (by kernel_rfl) (fun _ _ _ h => h) (Or.inl ⟨by kernel_rfl, ?_⟩) (by assumption) ?_
     rotate_left
     ·rintro w hw
      obtain ⟨s0, s1, s2, s3, s4, s5, s6, s7, s8, s9⟩ := HS.out w hw
      go_simp
      try with_reducible rfl
     try simp only [Act.put, zA1, zA2, zA3, zA4, zA5, zA6]
     refine wpAnyH_take (i := 9) (oi := _) (v := ?_) rfl (by kernel_rfl) (by kernel_rfl) (by kernel_rfl) (fun _ _ _ h => h) (Or.inl ⟨by kernel_rfl, ?_⟩) (by assumption) ?_
     rotate_left
     ·rintro w hw
      obtain ⟨s0, s1, s2, s3, s4, s5, s6, s7, s8, s9⟩ := HS.out w hw
      go_simp
      try with_reducible rfl
     try simp only [Act.put, zA1, zA2, zA3, zA4, zA5, zA6]
     refine wpAnyH_take (i := 10) (oi := _) (v := ?_) rfl (by kernel_rfl) (by kernel_rfl) (by kernel_rfl) (fun _ _ _ h => h) (Or.inl ⟨by kernel_rfl, ?_⟩) (by assumption) ?_
     rotate_left
     ·rintro w hw
      obtain ⟨s0, s1, s2, s3, s4, s5, s6, s7, s8, s9⟩ := HS.out w hw
      go_simp
      try with_reducible rfl
     try simp only [Act.put, zA1, zA2, zA3, zA4, zA5, zA6]
     refine wpAnyH_take (i := 11) (oi := _) (v := ?_) rfl (by kernel_rfl) (by kernel_rfl) (by kernel_rfl) (fun _ _ _ h => h) (Or.inl ⟨by kernel_rfl, ?_⟩) (by assumption) ?_
     rotate_left
     ·rintro w hw
      obtain ⟨s0, s1, s2, s3, s4, s5, s6, s7, s8, s9⟩ := HS.out w hw
      go_simp
      try simp only [hw1, if_pos hjj, if_pos hj11, hjt, hj1t]
      try with_reducible rfl
     try simp only [Act.put, zA1, zA2, zA3, zA4, zA5, zA6]
     refine wpAnyH_take (i := 12) (oi := _) (v := ?_) rfl (by kernel_rfl) (by kernel_rfl) (by kernel_rfl) (fun _ _ _ h => h) (Or.inl ⟨by kernel_rfl, ?_⟩) (by assumption) ?_
     rotate_left
     ·rintro w hw
      obtain ⟨s0, s1, s2, s3, s4, s5, s6, s7, s8, s9⟩ := HS.out w hw
      go_simp
      try simp only [hw1, if_pos hjj, if_pos hj11, hjt, hj1t]
      try with_reducible rfl
     try simp only [Act.put, zA1, zA2, zA3, zA4, zA5, zA6]
     refine wpAnyH_take (i := 13) (oi := _) (v := ?_) rfl (by kernel_rfl) (by kernel_rfl) (by kernel_rfl) (fun _ _ _ h => h) (Or.inl ⟨by kernel_rfl, ?_⟩) (by assumption) ?_
     rotate_left
     ·rintro w hw
      obtain ⟨s0, s1, s2, s3, s4, s5, s6, s7, s8, s9⟩ := HS.out w hw
      go_simp
      try simp only [hw1, if_pos hjj, if_pos hj11, hjt, hj1t]
      try with_reducible rfl
     try simp only [Act.put, zA1, zA2, zA3, zA4, zA5, zA6]
     refine wpAnyH_take (i := 14) (oi := _) (v := ?_) rfl (by kernel_rfl) (by kernel_rfl) (by kernel_rfl) (fun _ _ _ h => h) (Or.inl ⟨by kernel_rfl, ?_⟩) (by assumption) ?_
     rotate_left
     ·rintro w hw
      obtain ⟨s0, s1, s2, s3, s4, s5, s6, s7, s8, s9⟩ := HS.out w hw
      go_simp
      try with_reducible rfl
     try simp only [Act.put, zA1, zA2, zA3, zA4, zA5, zA6]
     refine wpAnyH_take (i := 15) (oi := _) (v := ?_) rfl (by kernel_rfl) (by kernel_rfl) (by kernel_rfl) (fun _ _ _ h => h) (Or.inl ⟨by kernel_rfl, ?_⟩) (by assumption) ?_
     rotate_left
     ·rintro w hw
      obtain ⟨s0, s1, s2, s3, s4, s5, s6, s7, s8, s9⟩ := HS.out w hw
      go_simp
      try with_reducible rfl
     try simp only [Act.put, zA1, zA2, zA3, zA4, zA5, zA6]
     refine wpAnyH_take (i := 16) (oi := _) (v := ?_) rfl (by kernel_rfl) (by kernel_rfl) (by kernel_rfl) (fun _ _ _ h => h) (Or.inl ⟨by kernel_rfl, ?_⟩) (by assumption) ?_
     rotate_left
     ·rintro w hw
      obtain ⟨s0, s1, s2, s3, s4, s5, s6, s7, s8, s9⟩ := HS.out w hw
      go_simp
      try with_reducible rfl
     try simp only [Act.put, zA1, zA2, zA3, zA4, zA5, zA6]
     refine wpAnyH_ready (rs := [17]) (by kernel_rfl) (by simp) ?_
     refine AllReadyH.cons (o := _) rfl (fun K hKK => ?_) AllReadyH.nil
     go_simp
     go_at_call 36
     refine (HC.out _).mono ?_
     rintro e w5 ⟨rfl, hb5⟩
     have hX := bstep hHeld hb5
     clear hHeld hb5
     go_wp2_with fail
     refine hKK.out _ _ ?_ (fun hHeld => ?_)
     ·exact hX
     clear hKK K
     try simp only [Act.put, zA1, zA2, zA3, zA4, zA5, zA6]
     refine wpAnyH_take (i := 18) (oi := _) (v := ?_) rfl (by kernel_rfl) (by kernel_rfl) (by kernel_rfl) (fun _ _ _ h => h) (Or.inl ⟨by kernel_rfl, ?_⟩) (by assumption) ?_
     rotate_left
     ·rintro w hw
      obtain ⟨s0, s1, s2, s3, s4, s5, s6, s7, s8, s9⟩ := HS.out w hw
      go_simp
      try with_reducible rfl
     try simp only [Act.put, zA1, zA2, zA3, zA4, zA5, zA6]
     refine wpAnyH_done (by kernel_rfl) ?_ _
     clear hHeld
     have HX := Lib.hid hX
     clear hX HC
     obtain ⟨wz, rfl⟩ : ∃ wz : World, wz = w5 := ⟨_, rfl⟩
     by_cases hzz : z = 0
     ·have hyx : iy < ix := hz1c hzz
      have hyxi : ¬ (ix : Int) < (iy : Int) := by omega
      subst hzz
      go_wp2_with fail
      refine wp_region_held_drew (S := fun w' => Below wz.heap.size wz w') (by kernel_rfl) ?_ (fun hHeld => ?_)
      ·exact (Below.refl _ _).drew
      refine wpAnyH_take (i := 0) (oi := _) (v := ?_) rfl (by kernel_rfl) (by kernel_rfl) (by kernel_rfl) (fun _ _ _ h => h) (Or.inl ⟨by kernel_rfl, ?_⟩) (by assumption) ?_
      rotate_left
      ·rintro w hw
       obtain ⟨s0, s1, s2, s3, s4, s5, s6, s7, s8, s9⟩ := HS.out w (bstep HX.out hw)
       go_simp
       try with_reducible rfl
      try simp only [Act.put, zA1, zA2, zA3, zA4, zA5, zA6]
      refine wpAnyH_take (i := 1) (oi := _) (v := ?_) rfl (by kernel_rfl) (by kernel_rfl) (by kernel_rfl) (fun _ _ _ h => h) (Or.inl ⟨by kernel_rfl, ?_⟩) (by assumption) ?_
      rotate_left
      ·rintro w hw
       obtain ⟨s0, s1, s2, s3, s4, s5, s6, s7, s8, s9⟩ := HS.out w (bstep HX.out hw)
       go_simp
       try with_reducible rfl
      try simp only [Act.put, zA1, zA2, zA3, zA4, zA5, zA6]
      refine wpAnyH_take (i := 2) (oi := _) (v := ?_) rfl (by kernel_rfl) (by kernel_rfl) (by kernel_rfl) (fun _ _ _ h => h) (Or.inl ⟨by kernel_rfl, ?_⟩) (by assumption) ?_
      rotate_left
      ·rintro w hw
       obtain ⟨s0, s1, s2, s3, s4, s5, s6, s7, s8, s9⟩ := HS.out w (bstep HX.out hw)
       go_simp
       try with_reducible rfl
      try simp only [Act.put, zA1, zA2, zA3, zA4, zA5, zA6]
      refine wpAnyH_take (i := 3) (oi := _) (v := ?_) rfl (by kernel_rfl) (by kernel_rfl) (by kernel_rfl) (fun _ _ _ h => h) (Or.inl ⟨by kernel_rfl, ?_⟩) (by assumption) ?_
      rotate_left
      ·rintro w hw
       obtain ⟨s0, s1, s2, s3, s4, s5, s6, s7, s8, s9⟩ := HS.out w (bstep HX.out hw)
       go_simp
       try with_reducible rfl
      try simp only [Act.put, zA1, zA2, zA3, zA4, zA5, zA6]
      refine wpAnyH_take (i := 4) (oi := _) (v := ?_) rfl (by kernel_rfl) (by kernel_rfl) (by kernel_rfl) (fun _ _ _ h => h) (Or.inl ⟨by kernel_rfl, ?_⟩) (by assumption) ?_
      rotate_left
      ·rintro w hw
       obtain ⟨s0, s1, s2, s3, s4, s5, s6, s7, s8, s9⟩ := HS.out w (bstep HX.out hw)
       go_simp
       try with_reducible rfl
      try simp only [Act.put, zA1, zA2, zA3, zA4, zA5, zA6]
      refine wpAnyH_take (i := 5) (oi := _) (v := ?_) rfl (by kernel_rfl) (by kernel_rfl) (by kernel_rfl) (fun _ _ _ h => h) (Or.inl ⟨by kernel_rfl, ?_⟩) (by assumption) ?_
      rotate_left
      ·rintro w hw
       obtain ⟨s0, s1, s2, s3, s4, s5, s6, s7, s8, s9⟩ := HS.out w (bstep HX.out hw)
       go_simp
       try with_reducible rfl
      try simp only [Act.put, zA1, zA2, zA3, zA4, zA5, zA6]
      refine wpAnyH_take (i := 6) (oi := _) (v := ?_) rfl (by kernel_rfl) (by kernel_rfl) (by kernel_rfl) (fun _ _ _ h => h) (Or.inl ⟨by kernel_rfl, ?_⟩) (by assumption) ?_
      rotate_left
      ·rintro w hw
       obtain ⟨s0, s1, s2, s3, s4, s5, s6, s7, s8, s9⟩ := HS.out w (bstep HX.out hw)
       go_simp
       try with_reducible rfl
      try simp only [Act.put, zA1, zA2, zA3, zA4, zA5, zA6]
      refine wpAnyH_take (i := 7) (oi := _) (v := ?_) rfl (by kernel_rfl) (by kernel_rfl) (by kernel_rfl) (fun _ _ _ h => h) (Or.inl ⟨by kernel_rfl, ?_⟩) (by assumption) ?_
      rotate_left
      ·rintro w hw
       obtain ⟨s0, s1, s2, s3, s4, s5, s6, s7, s8, s9⟩ := HS.out w (bstep HX.out hw)
       go_simp
       try with_reducible rfl
      try simp only [Act.put, zA1, zA2, zA3, zA4, zA5, zA6]
      refine wpAnyH_take (i := 8) (oi := _) (v := ?_) rfl (by kernel_rfl) (by kernel_rfl) (by kernel_rfl) (fun _ _ _ h => h) (Or.inl ⟨by kernel_rfl, ?_⟩) (by assumption) ?_
      rotate_left
      ·rintro w hw
       obtain ⟨s0, s1, s2, s3, s4, s5, s6, s7, s8, s9⟩ := HS.out w (bstep HX.out hw)
       go_simp
       try with_reducible rfl
      try simp only [Act.put, zA1, zA2, zA3, zA4, zA5, zA6]
      refine wpAnyH_take (i := 9) (oi := _) (v := ?_) rfl (by kernel_rfl) (by kernel_rfl) (by kernel_rfl) (fun _ _ _ h => h) (Or.inl ⟨by kernel_rfl, ?_⟩) (by assumption) ?_
      rotate_left
      ·rintro w hw
       obtain ⟨s0, s1, s2, s3, s4, s5, s6, s7, s8, s9⟩ := HS.out w (bstep HX.out hw)
       go_simp
       try simp only [hw1, if_pos hjj, if_pos hj11, hjt, hj1t]
       try with_reducible rfl
      try simp only [Act.put, zA1, zA2, zA3, zA4, zA5, zA6]
      refine wpAnyH_take (i := 10) (oi := _) (v := ?_) rfl (by kernel_rfl) (by kernel_rfl) (by kernel_rfl) (fun _ _ _ h => h) (Or.inl ⟨by kernel_rfl, ?_⟩) (by assumption) ?_
      rotate_left
      ·rintro w hw
       obtain ⟨s0, s1, s2, s3, s4, s5, s6, s7, s8, s9⟩ := HS.out w (bstep HX.out hw)
       go_simp
       try simp only [hw1, if_pos hjj, if_pos hj11, hjt, hj1t]
       try with_reducible rfl
      try simp only [Act.put, zA1, zA2, zA3, zA4, zA5, zA6]
      refine wpAnyH_take (i := 11) (oi := _) (v := ?_) rfl (by kernel_rfl) (by kernel_rfl) (by kernel_rfl) (fun _ _ _ h => h) (Or.inl ⟨by kernel_rfl, ?_⟩) (by assumption) ?_
      rotate_left
      ·rintro w hw
       obtain ⟨s0, s1, s2, s3, s4, s5, s6, s7, s8, s9⟩ := HS.out w (bstep HX.out hw)
       go_simp
       try with_reducible rfl
      try simp only [Act.put, zA1, zA2, zA3, zA4, zA5, zA6]
      refine wpAnyH_take (i := 12) (oi := _) (v := ?_) rfl (by kernel_rfl) (by kernel_rfl) (by kernel_rfl) (fun _ _ _ h => h) (Or.inl ⟨by kernel_rfl, ?_⟩) (by assumption) ?_
      rotate_left
      ·rintro w hw
       obtain ⟨s0, s1, s2, s3, s4, s5, s6, s7, s8, s9⟩ := HS.out w (bstep HX.out hw)
       go_simp
       try with_reducible rfl
      try simp only [Act.put, zA1, zA2, zA3, zA4, zA5, zA6]
      refine wpAnyH_take (i := 13) (oi := _) (v := ?_) rfl (by kernel_rfl) (by kernel_rfl) (by kernel_rfl) (fun _ _ _ h => h) (Or.inl ⟨by kernel_rfl, ?_⟩) (by assumption) ?_
      rotate_left
      ·rintro w hw
       obtain ⟨s0, s1, s2, s3, s4, s5, s6, s7, s8, s9⟩ := HS.out w (bstep HX.out hw)
       go_simp
       try with_reducible rfl
      try simp only [Act.put, zA1, zA2, zA3, zA4, zA5, zA6]
      refine wpAnyH_take (i := 14) (oi := _) (v := ?_) rfl (by kernel_rfl) (by kernel_rfl) (by kernel_rfl) (fun _ _ _ h => h) (Or.inl ⟨by kernel_rfl, ?_⟩) (by assumption) ?_
      rotate_left
      ·rintro w hw
       obtain ⟨s0, s1, s2, s3, s4, s5, s6, s7, s8, s9⟩ := HS.out w (bstep HX.out hw)
       go_simp
       try with_reducible rfl
      try simp only [Act.put, zA1, zA2, zA3, zA4, zA5, zA6]
      refine wpAnyH_take (i := 15) (oi := _) (v := ?_) rfl (by kernel_rfl) (by kernel_rfl) (by kernel_rfl) (fun _ _ _ h => h) (Or.inl ⟨by kernel_rfl, ?_⟩) (by assumption) ?_
      rotate_left
      ·rintro w hw
       obtain ⟨s0, s1, s2, s3, s4, s5, s6, s7, s8, s9⟩ := HS.out w (bstep HX.out hw)
       go_simp
       try with_reducible rfl
      try simp only [Act.put, zA1, zA2, zA3, zA4, zA5, zA6]
      refine wpAnyH_take (i := 16) (oi := _) (v := ?_) rfl (by kernel_rfl) (by kernel_rfl) (by kernel_rfl) (fun _ _ _ h => h) (Or.inl ⟨by kernel_rfl, ?_⟩) (by assumption) ?_
      rotate_left
      ·rintro w hw
       obtain ⟨s0, s1, s2, s3, s4, s5, s6, s7, s8, s9⟩ := HS.out w (bstep HX.out hw)
       go_simp
       try simp only [hw1, if_pos hjj, if_pos hj11, hjt, hj1t]
       try with_reducible rfl
      try simp only [Act.put, zA1, zA2, zA3, zA4, zA5, zA6]
      refine wpAnyH_take (i := 17) (oi := _) (v := ?_) rfl (by kernel_rfl) (by kernel_rfl) (by kernel_rfl) (fun _ _ _ h => h) (Or.inl ⟨by kernel_rfl, ?_⟩) (by assumption) ?_
      rotate_left
      ·rintro w hw
       obtain ⟨s0, s1, s2, s3, s4, s5, s6, s7, s8, s9⟩ := HS.out w (bstep HX.out hw)
       go_simp
       try simp only [hw1, if_pos hjj, if_pos hj11, hjt, hj1t]
       try with_reducible rfl
      try simp only [Act.put, zA1, zA2, zA3, zA4, zA5, zA6]
      refine wpAnyH_take (i := 18) (oi := _) (v := ?_) rfl (by kernel_rfl) (by kernel_rfl) (by kernel_rfl) (fun _ _ _ h => h) (Or.inl ⟨by kernel_rfl, ?_⟩) (by assumption) ?_
      rotate_left
      ·rintro w hw
       obtain ⟨s0, s1, s2, s3, s4, s5, s6, s7, s8, s9⟩ := HS.out w (bstep HX.out hw)
       go_simp
       try simp only [hw1, if_pos hjj, if_pos hj11, hjt, hj1t]
       try with_reducible rfl
      try simp only [Act.put, zA1, zA2, zA3, zA4, zA5, zA6]
      refine wpAnyH_take (i := 19) (oi := _) (v := ?_) rfl (by kernel_rfl) (by kernel_rfl) (by kernel_rfl) (fun _ _ _ h => h) (Or.inl ⟨by kernel_rfl, ?_⟩) (by assumption) ?_
      rotate_left
      ·rintro w hw
       obtain ⟨s0, s1, s2, s3, s4, s5, s6, s7, s8, s9⟩ := HS.out w (bstep HX.out hw)
       go_simp
       try with_reducible rfl
      try simp only [Act.put, zA1, zA2, zA3, zA4, zA5, zA6]
      refine wpAnyH_take (i := 20) (oi := _) (v := ?_) rfl (by kernel_rfl) (by kernel_rfl) (by kernel_rfl) (fun _ _ _ h => h) (Or.inl ⟨by kernel_rfl, ?_⟩) (by assumption) ?_
      rotate_left
      ·rintro w hw
       obtain ⟨s0, s1, s2, s3, s4, s5, s6, s7, s8, s9⟩ := HS.out w (bstep HX.out hw)
       go_simp
       try with_reducible rfl
      try simp only [Act.put, zA1, zA2, zA3, zA4, zA5, zA6]
      refine wpAnyH_take (i := 21) (oi := _) (v := ?_) rfl (by kernel_rfl) (by kernel_rfl) (by kernel_rfl) (fun _ _ _ h => h) (Or.inl ⟨by kernel_rfl, ?_⟩) (by assumption) ?_
      rotate_left
      ·rintro w hw
       obtain ⟨s0, s1, s2, s3, s4, s5, s6, s7, s8, s9⟩ := HS.out w (bstep HX.out hw)
       go_simp
       try with_reducible rfl
      try simp only [Act.put, zA1, zA2, zA3, zA4, zA5, zA6]
      refine wpAnyH_take (i := 22) (oi := _) (v := ?_) rfl (by kernel_rfl) (by kernel_rfl) (by kernel_rfl) (fun _ _ _ h => h) (Or.inl ⟨by kernel_rfl, ?_⟩) (by assumption) ?_
      rotate_left
      ·rintro w hw
       obtain ⟨s0, s1, s2, s3, s4, s5, s6, s7, s8, s9⟩ := HS.out w (bstep HX.out hw)
       go_simp
       try with_reducible rfl
      try simp only [Act.put, zA1, zA2, zA3, zA4, zA5, zA6]
      refine wpAnyH_take (i := 23) (oi := _) (v := ?_) rfl (by kernel_rfl) (by kernel_rfl) (by kernel_rfl) (fun _ _ _ h => h) (Or.inl ⟨by kernel_rfl, ?_⟩) (by assumption) ?_
      rotate_left
      ·rintro w hw
       obtain ⟨s0, s1, s2, s3, s4, s5, s6, s7, s8, s9⟩ := HS.out w (bstep HX.out hw)
       go_simp
       try with_reducible rfl
      try simp only [Act.put, zA1, zA2, zA3, zA4, zA5, zA6]
      refine wpAnyH_done (by kernel_rfl) ?_ _
      have hX := bstep HX.out hHeld
      clear hHeld
      have HB2 := Lib.hid (bstep HB.out hX)
      clear hX HS HX
      go_wp2
      go_roundw
      case rel => exact ⟨j + 1, by go_num, by omega, HB2⟩
      case measure => simp [RowKit.intOf]; omega
     ·have hzp : ¬ z < 0 := by omega
      have hdz : decide (z < 0) = false := by simpa using hzp
      have hzb : (z == 0) = false := by rw [beq_eq_false_iff_ne]; exact hzz
      go_wp2_with fail
      refine wp_region_held_drew (S := fun w' => Below wz.heap.size wz w') (by kernel_rfl) ?_ (fun hHeld => ?_)
      ·exact (Below.refl _ _).drew
      refine wpAnyH_take (i := 0) (oi := _) (v := ?_) rfl (by kernel_rfl) (by kernel_rfl) (by kernel_rfl) (fun _ _ _ h => h) (Or.inl ⟨by kernel_rfl, ?_⟩) (by assumption) ?_
      rotate_left
      ·rintro w hw
       obtain ⟨s0, s1, s2, s3, s4, s5, s6, s7, s8, s9⟩ := HS.out w (bstep HX.out hw)
       go_simp
       try simp only [hzb, hdz]
       try with_reducible rfl
      try simp only [Act.put, zA1, zA2, zA3, zA4, zA5, zA6]
      refine wpAnyH_take (i := 1) (oi := _) (v := ?_) rfl (by kernel_rfl) (by kernel_rfl) (by kernel_rfl) (fun _ _ _ h => h) (Or.inl ⟨by kernel_rfl, ?_⟩) (by assumption) ?_
      rotate_left
      ·rintro w hw
       obtain ⟨s0, s1, s2, s3, s4, s5, s6, s7, s8, s9⟩ := HS.out w (bstep HX.out hw)
       go_simp
       try simp only [hzb, hdz]
       try with_reducible rfl
      try simp only [Act.put, zA1, zA2, zA3, zA4, zA5, zA6]
      refine wpAnyH_take (i := 2) (oi := _) (v := ?_) rfl (by kernel_rfl) (by kernel_rfl) (by kernel_rfl) (fun _ _ _ h => h) (Or.inl ⟨by kernel_rfl, ?_⟩) (by assumption) ?_
      rotate_left
      ·rintro w hw
       obtain ⟨s0, s1, s2, s3, s4, s5, s6, s7, s8, s9⟩ := HS.out w (bstep HX.out hw)
       go_simp
       try simp only [hzb, hdz]
       try with_reducible rfl
      try simp only [Act.put, zA1, zA2, zA3, zA4, zA5, zA6]
      refine wpAnyH_take (i := 3) (oi := _) (v := ?_) rfl (by kernel_rfl) (by kernel_rfl) (by kernel_rfl) (fun _ _ _ h => h) (Or.inl ⟨by kernel_rfl, ?_⟩) (by assumption) ?_
      rotate_left
      ·rintro w hw
       obtain ⟨s0, s1, s2, s3, s4, s5, s6, s7, s8, s9⟩ := HS.out w (bstep HX.out hw)
       go_simp
       try simp only [hzb, hdz]
       try with_reducible rfl
      try simp only [Act.put, zA1, zA2, zA3, zA4, zA5, zA6]
      refine wpAnyH_take (i := 4) (oi := _) (v := ?_) rfl (by kernel_rfl) (by kernel_rfl) (by kernel_rfl) (fun _ _ _ h => h) (Or.inl ⟨by kernel_rfl, ?_⟩) (by assumption) ?_
      rotate_left
      ·rintro w hw
       obtain ⟨s0, s1, s2, s3, s4, s5, s6, s7, s8, s9⟩ := HS.out w (bstep HX.out hw)
       go_simp
       try simp only [hzb, hdz]
       try with_reducible rfl
      try simp only [Act.put, zA1, zA2, zA3, zA4, zA5, zA6]
      refine wpAnyH_take (i := 5) (oi := _) (v := ?_) rfl (by kernel_rfl) (by kernel_rfl) (by kernel_rfl) (fun _ _ _ h => h) (Or.inl ⟨by kernel_rfl, ?_⟩) (by assumption) ?_
      rotate_left
      ·rintro w hw
       obtain ⟨s0, s1, s2, s3, s4, s5, s6, s7, s8, s9⟩ := HS.out w (bstep HX.out hw)
       go_simp
       try simp only [hzb, hdz]
       try with_reducible rfl
      try simp only [Act.put, zA1, zA2, zA3, zA4, zA5, zA6]
      refine wpAnyH_take (i := 6) (oi := _) (v := undef) rfl (by kernel_rfl) (by kernel_rfl) (by kernel_rfl) (fun _ _ _ h => h) (Or.inr ⟨by kernel_rfl, rfl⟩) (by assumption) ?_
      try simp only [Act.put, zA1, zA2, zA3, zA4, zA5, zA6]
      refine wpAnyH_take (i := 7) (oi := _) (v := undef) rfl (by kernel_rfl) (by kernel_rfl) (by kernel_rfl) (fun _ _ _ h => h) (Or.inr ⟨by kernel_rfl, rfl⟩) (by assumption) ?_
      try simp only [Act.put, zA1, zA2, zA3, zA4, zA5, zA6]
      refine wpAnyH_take (i := 8) (oi := _) (v := undef) rfl (by kernel_rfl) (by kernel_rfl) (by kernel_rfl) (fun _ _ _ h => h) (Or.inr ⟨by kernel_rfl, rfl⟩) (by assumption) ?_
      try simp only [Act.put, zA1, zA2, zA3, zA4, zA5, zA6]
      refine wpAnyH_take (i := 9) (oi := _) (v := undef) rfl (by kernel_rfl) (by kernel_rfl) (by kernel_rfl) (fun _ _ _ h => h) (Or.inr ⟨by kernel_rfl, rfl⟩) (by assumption) ?_
      try simp only [Act.put, zA1, zA2, zA3, zA4, zA5, zA6]
      refine wpAnyH_take (i := 10) (oi := _) (v := undef) rfl (by kernel_rfl) (by kernel_rfl) (by kernel_rfl) (fun _ _ _ h => h) (Or.inr ⟨by kernel_rfl, rfl⟩) (by assumption) ?_
      try simp only [Act.put, zA1, zA2, zA3, zA4, zA5, zA6]
      refine wpAnyH_take (i := 11) (oi := _) (v := undef) rfl (by kernel_rfl) (by kernel_rfl) (by kernel_rfl) (fun _ _ _ h => h) (Or.inr ⟨by kernel_rfl, rfl⟩) (by assumption) ?_
      try simp only [Act.put, zA1, zA2, zA3, zA4, zA5, zA6]
      refine wpAnyH_take (i := 12) (oi := _) (v := undef) rfl (by kernel_rfl) (by kernel_rfl) (by kernel_rfl) (fun _ _ _ h => h) (Or.inr ⟨by kernel_rfl, rfl⟩) (by assumption) ?_
      try simp only [Act.put, zA1, zA2, zA3, zA4, zA5, zA6]
      refine wpAnyH_take (i := 13) (oi := _) (v := undef) rfl (by kernel_rfl) (by kernel_rfl) (by kernel_rfl) (fun _ _ _ h => h) (Or.inr ⟨by kernel_rfl, rfl⟩) (by assumption) ?_
      try simp only [Act.put, zA1, zA2, zA3, zA4, zA5, zA6]
      refine wpAnyH_take (i := 14) (oi := _) (v := undef) rfl (by kernel_rfl) (by kernel_rfl) (by kernel_rfl) (fun _ _ _ h => h) (Or.inr ⟨by kernel_rfl, rfl⟩) (by assumption) ?_
      try simp only [Act.put, zA1, zA2, zA3, zA4, zA5, zA6]
      refine wpAnyH_take (i := 15) (oi := _) (v := undef) rfl (by kernel_rfl) (by kernel_rfl) (by kernel_rfl) (fun _ _ _ h => h) (Or.inr ⟨by kernel_rfl, rfl⟩) (by assumption) ?_
      try simp only [Act.put, zA1, zA2, zA3, zA4, zA5, zA6]
      refine wpAnyH_take (i := 16) (oi := _) (v := undef) rfl (by kernel_rfl) (by kernel_rfl) (by kernel_rfl) (fun _ _ _ h => h) (Or.inr ⟨by kernel_rfl, rfl⟩) (by assumption) ?_
      try simp only [Act.put, zA1, zA2, zA3, zA4, zA5, zA6]
      refine wpAnyH_take (i := 17) (oi := _) (v := undef) rfl (by kernel_rfl) (by kernel_rfl) (by kernel_rfl) (fun _ _ _ h => h) (Or.inr ⟨by kernel_rfl, rfl⟩) (by assumption) ?_
      try simp only [Act.put, zA1, zA2, zA3, zA4, zA5, zA6]
      refine wpAnyH_take (i := 18) (oi := _) (v := undef) rfl (by kernel_rfl) (by kernel_rfl) (by kernel_rfl) (fun _ _ _ h => h) (Or.inr ⟨by kernel_rfl, rfl⟩) (by assumption) ?_
      try simp only [Act.put, zA1, zA2, zA3, zA4, zA5, zA6]
      refine wpAnyH_take (i := 19) (oi := _) (v := undef) rfl (by kernel_rfl) (by kernel_rfl) (by kernel_rfl) (fun _ _ _ h => h) (Or.inr ⟨by kernel_rfl, rfl⟩) (by assumption) ?_
      try simp only [Act.put, zA1, zA2, zA3, zA4, zA5, zA6]
      refine wpAnyH_take (i := 20) (oi := _) (v := undef) rfl (by kernel_rfl) (by kernel_rfl) (by kernel_rfl) (fun _ _ _ h => h) (Or.inr ⟨by kernel_rfl, rfl⟩) (by assumption) ?_
      try simp only [Act.put, zA1, zA2, zA3, zA4, zA5, zA6]
      refine wpAnyH_take (i := 21) (oi := _) (v := undef) rfl (by kernel_rfl) (by kernel_rfl) (by kernel_rfl) (fun _ _ _ h => h) (Or.inr ⟨by kernel_rfl, rfl⟩) (by assumption) ?_
      try simp only [Act.put, zA1, zA2, zA3, zA4, zA5, zA6]
      refine wpAnyH_take (i := 22) (oi := _) (v := ?_) rfl (by kernel_rfl) (by kernel_rfl) (by kernel_rfl) (fun _ _ _ h => h) (Or.inl ⟨by kernel_rfl, ?_⟩) (by assumption) ?_
      rotate_left
      ·rintro w hw
       obtain ⟨s0, s1, s2, s3, s4, s5, s6, s7, s8, s9⟩ := HS.out w (bstep HX.out hw)
       go_simp
       try with_reducible rfl
      try simp only [Act.put, zA1, zA2, zA3, zA4, zA5, zA6]
      refine wpAnyH_take (i := 23) (oi := _) (v := ?_) rfl (by kernel_rfl) (by kernel_rfl) (by kernel_rfl) (fun _ _ _ h => h) (Or.inl ⟨by kernel_rfl, ?_⟩) (by assumption) ?_
      rotate_left
      ·rintro w hw
       obtain ⟨s0, s1, s2, s3, s4, s5, s6, s7, s8, s9⟩ := HS.out w (bstep HX.out hw)
       go_simp
       try with_reducible rfl
      try simp only [Act.put, zA1, zA2, zA3, zA4, zA5, zA6]
      refine wpAnyH_done (by kernel_rfl) ?_ _
      have hX := bstep HX.out hHeld
      clear hHeld
      have HB2 := Lib.hid (bstep HB.out hX)
      clear hX HS HX
      go_wp2
      go_roundw
      case rel => exact ⟨j + 1, by go_num, by omega, HB2⟩
      case measure => simp [RowKit.intOf]; omega
    ·have hjni : ¬ ((j : Int) + 1 < (n : Int)) := by omega
     have HBF := Lib.hid (bstep HBX.out HB.out)
     have HIF := Lib.hid (HIX.out.below HB.out)
     clear HB HBX HIX HPA HRF HCM hjn
     obtain ⟨q, hq⟩ : ∃ q : Nat, pk % (n : Int) = (q : Int) ∧ q < n := ⟨(pk % (n : Int)).toNat, by have := Int.emod_nonneg pk (show (n : Int) ≠ 0 by omega); have := Int.emod_lt_of_pos pk hni0; omega⟩
     have hw64 : wrap64 pk = pk := by simp [wrap64]; omega
     have hkq : (wrap64 pk).tmod (n : Int) = (q : Int) := by rw [hw64, Int.tmod_eq_emod_of_nonneg hp1]; exact hq.1
     have hqn := hq.2
     have hkq2 : pk % (n : Int) = (q : Int) := hq.1
     have hEr := HM.out _ HBF.out
     obtain ⟨b, off, E, rfl, hbl, hE, e0, e1, e2, e3, e4⟩ := hEr.at_ hqn
     have hsrc0 := hEr.cells
     have hbW : b < wr.heap.size := Nat.lt_of_lt_of_le hbl hEr.2.1
     have hrow0 := World.ownsRow_lit wr #[] 0 (base := wr.heap.size) (e := 65) (size := 5) (Nat.le_refl _) (by decide) rfl
     have hb10 : Below wr.heap.size wr (wr.alloc (.cells #[] 65)) := balloc _ (Below.refl _ _)
     have hsrc : ∀ j u, (L.flatMap entC)[j]? = some u → (wr.alloc (.cells #[] 65)).cell? ((⟨b, off, none⟩ : Addr).add j) = some u := fun j u hu => (hb10.cell (p := (⟨b, off, none⟩ : Addr).add j) (by rw [add_at]; exact hbW)).trans (hsrc0 j u hu)
     have hlen5 : (L.flatMap entC).length = n * 5 := by rw [entC_len, HALL.out.2.2.2.1]
     have HQ := Lib.hid hq
     clear hsrc0
     have HE := Lib.hid hE
     clear hq e0 e1 e2 e3 e4 hEr hE
     go_wp2_with (at_builtin; refine wpList_append_own _ rfl _ _ 22 rfl wr.heap.size 65 j0 (.agg #[.string ⟨#[]⟩, .string ⟨#[]⟩, .string ⟨#[]⟩, .int .i64 0, .string ⟨#[]⟩]) 5 72 Tryz.underlying22 hj' hy0 hy1 hy2 rfl (by decide) _ _ _ rfl hrow0 ⟨b, off, none⟩ n cap (L.flatMap entC) rfl hlen5 hsrc (entC_one L) ?c3 ?c4 ?c5 ?_)
     case c3 => unfold maxLen; omega
     case c4 => omega
     intro v' w2 hown' hgrow _
     have hb2 : Below wr.heap.size wr w2 := hb10.grown hgrow hb10.size (fun r hr => (World.ownsRow.lt hrow0 r hr).1)
     have hOB : w2.ownsRow wr.heap.size 65 5 v' n (L.flatMap entC) := by simpa using hown'
     obtain ⟨gB, cB, rfl, hgB1, hgB2⟩ := ownSome hOB hn0
     have hcB : ∀ r, r < 5 → w2.cell? ⟨gB, q * 5 + r, none⟩ = (entC E)[r]? := fun r hr => by rw [World.ownsRow.cellAt hOB (q * 5 + r) (by omega), entC_at L q E r HE.out hr]
     have s2 := hcB 2 (by decide)
     have s3 := hcB 3 (by decide)
     have z3 := World.ownsRow.frozenAt hOB (q * 5 + 3)
     have hchk := entsE_zero [] L (chkEnts_zero HALL.out.2.2.1).2.1 E (List.mem_of_getElem? HE.out)
     have hrg := chk_range hchk
     have HOB := Lib.hid hOB
     have HB2 := Lib.hid (bstep HBF.out hb2)
     have HBW2 := Lib.hid hb2
     have HCH := Lib.hid hchk
     clear hown' hgrow hrow0 hb10 hcB hOB hsrc hlen5 hb2 hchk hbl hbW
     obtain ⟨nm, cl, kd, v, r⟩ := E
     simp [entC] at s2 s3
     simp only at hrg
     have hq0 : (0 : Int) ≤ (q : Int) := by omega
     have hqi : (q : Int) < (n : Int) := by omega
     have hqt : ((q : Int)).toNat = q := by omega
     have HR := Lib.hid hrg
     have HW : Hid (∀ nv : Int, 0 ≤ nv → nv ≤ 864000999 → IntKind.i64.wrap nv = nv) := Lib.hid fun nv a b => IntWalk.i64_in _ (by omega)
     clear hrg
     by_cases ht : kd = sTime
     ·have k1 : (kd.toList == [116, 105, 109, 101]) = true := by rw [time_beq]; simp [ht]
      have hv : 1 ≤ v ∧ v ≤ 863999999 := by
       have := HCH.out
       simp only at this
       rw [ht] at this
       refine ⟨chk_one this, ?_⟩
       rcases HR.out with q | q
       ·exact absurd (ht.symm.trans q.1) (by decide)
       ·exact q.2.2
      have hwv : IntKind.i64.wrap (v - pk) = v - pk := IntWalk.i64_in _ (by omega)
      have HT := Lib.hid ht
      have HV := Lib.hid hv
      clear ht
      go_wp2_with fail
      case inl h =>
       have HKY : Hid (mkeyP kd (v - pk) ≤ mkeyP kd v) := Lib.hid (by rw [HT.out, mk_time, mk_time]; omega)
       obtain ⟨nv, hnv⟩ : ∃ nv : Int, nv = v - pk := ⟨_, rfl⟩
       rw [← hnv] at HKY ⊢
       have hst := World.ownsRow.stored HOB.out (q * 5 + 3) (.int .i64 nv)
       rw [flat_set L q ⟨nm, cl, kd, v, r⟩ nv HE.out] at hst
       obtain ⟨w3, hw3⟩ : ∃ w3, w3 = w2.setCell ⟨gB, q * 5 + 2 + 1, none⟩ (.int .i64 nv) := ⟨_, rfl⟩
       rw [show w2.setCell ⟨gB, q * 5 + 3, none⟩ (.int .i64 nv) = w3 from hw3.symm] at hst
       rw [← hw3]
       have hb23 : Below wr.heap.size wr w3 := HBW2.out.grown hst.2 HBW2.out.size (fun r hr => by cases hr; exact hgB1)
       obtain ⟨L', hL'⟩ : ∃ L', L' = L.set q ((⟨nm, cl, kd, v, r⟩ : Ent).with_ nv) := ⟨_, rfl⟩
       rw [← hL'] at hst
       have hll : L'.length = n := by rw [hL', List.length_set, HALL.out.2.2.2.1]
       have HOK : Hid (∀ x ∈ L', x.ok) := Lib.hid (by
        rw [hL']
        intro x hx
        rcases List.mem_or_eq_of_mem_set hx with q1 | q1
        ·exact (HALL.out.1 x q1).1
        ·subst q1
         exact (HALL.out.1 _ (List.mem_of_getElem? HE.out)).1)
       have hO3 : OwnEnts w3 wr.heap.size 65 (.slice (some ⟨gB, 0, none⟩) n cB) L' := by unfold OwnEnts; rw [hll]; exact hst.1
       obtain ⟨A3, c3, hA3, hR3⟩ := Ents.of_own hO3 hll
       cases hA3
       have HR3 := Lib.hid hR3
       have HB3 := Lib.hid (bstep HBF.out hb23)
       have HI3 := Lib.hid (HIF.out.below hb23)
       have HL' := Lib.hid hL'
       have HLL := Lib.hid hll
       have hq9 : Hid (q < n) := Lib.hid hqn
       clear hst hO3 hb23 hw3 hL' hR3 HBW2 HBF HIF HOB hgB1 hgB2 s2 s3 z3 hwv k1 hkq hkq2 hnv hll
       have hn4' : n ≤ 24 := by omega
       refine (l4own_big L' n cB (some ⟨gB, 0, none⟩) _ w3 HR3.out (by omega)).mono ?_
       rintro e w4 ⟨v4, rfl, hOE4, hb4⟩
       obtain ⟨A4, c4, rfl, hR4⟩ := Ents.of_own hOE4 HLL.out
       have hb34 : Below w3.heap.size w3 w4 := hb4
       have HRC4 := r4CheckEntrants_all L' n c4 A4 _ w4 hR4 (by omega) HOK.out
       clear hOE4 hR4
       by_cases hX2 : chkEnts L' = 0
       ·rw [hX2] at HRC4
        go_wp2_with fail
        refine HRC4.mono ?_
        rintro e w5 ⟨rfl, hb5⟩
        have hb35 : Below w3.heap.size w3 w5 := bstep hb34 hb5
        have hor := seedOrder_ok L' n cB (some ⟨gB, 0, none⟩) _ kk w5 (HR3.out.below hb35 (Nat.le_refl _)) (by omega) HOK.out (by have := (bstep HB3.out hb35).size; omega) (by have := HALL.out.2.2.2.2.1; omega) (by have := HALL.out.2.2.2.2.2; omega) hX2
        have HB5 := Lib.hid (bstep HB3.out hb35)
        have HI5 := Lib.hid (HI3.out.below hb35)
        clear hb34 hb5 hb35 HRC4 HB3 HI3 hb4
        go_wp2_with fail
        refine hor.mono ?_
        rintro e w6' ⟨gO2, rfl, hrO2, hbn⟩
        have HI6 := Lib.hid (HI5.out.below hbn)
        have HB6 := Lib.hid (bstep HB5.out hbn)
        have HIO := Lib.hid (RowZ.ints hrO2)
        have HOF2 : Hid ((ordZ L' kk).Nodup ∧ (∀ x ∈ ordZ L' kk, 0 ≤ x ∧ x < (n : Int)) ∧ (ordZ L' kk).length = n) := Lib.hid ⟨ordZ_nodup hX2 kk, fun x q => by have := ordZ_mem hX2 kk q; rw [HLL.out] at this; exact this, (ordZ_len hX2 kk).trans HLL.out⟩
        clear hbn hor hrO2 HB5 HI5
        have hF2 := form_one (c := n) 30 HIO.out (by omega) HOF2.out.1 HOF2.out.2.1
        go_wp2_with fail
        refine hF2.mono ?_
        rintro e w7' ⟨rfl, hbn⟩
        have hb67 : Below w6'.heap.size w6' w7' := bstep (balloc _ (Below.refl _ _)) hbn
        have HI7 := Lib.hid (HI6.out.below hb67)
        have HJ7 := Lib.hid (HIO.out.below hb67)
        have HB7' := Lib.hid (bstep HB6.out hb67)
        have HLE : Hid ((ordZ L' kk).idxOf (q : Int) ≤ O.idxOf (q : Int)) := Lib.hid (by
         rw [← HOO.out, HL'.out]
         exact ord_better HALL.out.2.2.1 kk HE.out (by rw [← HL'.out]; exact hX2) HKY.out)
        have HM1 : Hid ((q : Int) ∈ O) := Lib.hid (by rw [← HOO.out]; exact ordZ_self HALL.out.2.2.1 kk (by rw [HALL.out.2.2.2.1]; exact hq9.out))
        have HM2 : Hid ((q : Int) ∈ ordZ L' kk) := Lib.hid (ordZ_self hX2 kk (by rw [HLL.out]; exact hq9.out))
        obtain ⟨O2, hO2⟩ : ∃ O2, O2 = ordZ L' kk := ⟨_, rfl⟩
        rw [← hO2] at HLE HM2 HOF2 HJ7
        clear hbn hb67 HIO HI6 HB6 hF2 hO2 hX2 HE
        go_wp2
        go_loopw [19, 20, 196] (fun b a i ws => ∃ k : Nat, k ≤ n ∧ i = .int .i64 k ∧ b = .int .i64 (posZ O q k) ∧ a = .int .i64 (posZ O2 q k) ∧ Hid (Below w7'.heap.size w7' ws)) (fun _ _ i _ => n - (RowKit.intOf i).toNat)
        case atStart => exact ⟨0, by omega, rfl, by rw [posZ_zero], by rw [posZ_zero], Lib.hid (Below.refl _ _)⟩
        case round =>
         obtain ⟨k, hk, rfl, rfl, rfl, HB⟩ := hrel
         by_cases hlt : k < n
         ·have hkl : (k : Int) < (n : Int) := by omega
          have hk0 : (0 : Int) ≤ (k : Int) := by omega
          have hkt : ((k : Int)).toNat = k := by omega
          obtain ⟨_, c0⟩ := IntsZ.at_ (HI7.out.below HB.out) hlt
          obtain ⟨_, c1⟩ := IntsZ.at_ (HJ7.out.below HB.out) hlt
          obtain ⟨x, hx⟩ : ∃ x, ga O k = x := ⟨_, rfl⟩
          obtain ⟨x2, hx2⟩ : ∃ x2, ga O2 k = x2 := ⟨_, rfl⟩
          rw [hx] at c0
          rw [hx2] at c1
          have HX1 : Hid ((x = (q : Int) → posZ O q (k + 1) = (k : Int)) ∧ (x ≠ (q : Int) → posZ O q (k + 1) = posZ O q k)) := Lib.hid ⟨fun e => posZ_hit HOF.out.1 (by rw [HOF.out.2.2]; exact hlt) (hx.trans e), fun e => posZ_miss (by rw [HOF.out.2.2]; exact hlt) (by rw [hx]; exact e)⟩
          have HX2 : Hid ((x2 = (q : Int) → posZ O2 q (k + 1) = (k : Int)) ∧ (x2 ≠ (q : Int) → posZ O2 q (k + 1) = posZ O2 q k)) := Lib.hid ⟨fun e => posZ_hit HOF2.out.1 (by rw [HOF2.out.2.2]; exact hlt) (hx2.trans e), fun e => posZ_miss (by rw [HOF2.out.2.2]; exact hlt) (by rw [hx2]; exact e)⟩
          obtain ⟨p1, hp1'⟩ : ∃ p1, posZ O q k = p1 := ⟨_, rfl⟩
          obtain ⟨p2, hp2'⟩ : ∃ p2, posZ O2 q k = p2 := ⟨_, rfl⟩
          rw [hp1'] at HX1 ⊢
          rw [hp2'] at HX2 ⊢
          clear hx hx2 hp1' hp2'
          by_cases e1 : x = (q : Int)
          ·have b1 : (x == (q : Int)) = true := by simpa using e1
           have P1 := Lib.hid (HX1.out.1 e1)
           by_cases e2 : x2 = (q : Int)
           ·have b2 : (x2 == (q : Int)) = true := by simpa using e2
            have P2 := Lib.hid (HX2.out.1 e2)
            clear HX1 HX2 e1 e2
            go_wp2
            go_roundw
            case rel => exact ⟨k + 1, by omega, by go_num, by rw [P1.out], by rw [P2.out], HB⟩
            case measure => simp [RowKit.intOf]; omega
           ·have b2 : (x2 == (q : Int)) = false := by simpa using e2
            have P2 := Lib.hid (HX2.out.2 e2)
            clear HX1 HX2 e1 e2
            go_wp2
            go_roundw
            case rel => exact ⟨k + 1, by omega, by go_num, by rw [P1.out], by rw [P2.out], HB⟩
            case measure => simp [RowKit.intOf]; omega
          ·have b1 : (x == (q : Int)) = false := by simpa using e1
           have P1 := Lib.hid (HX1.out.2 e1)
           by_cases e2 : x2 = (q : Int)
           ·have b2 : (x2 == (q : Int)) = true := by simpa using e2
            have P2 := Lib.hid (HX2.out.1 e2)
            clear HX1 HX2 e1 e2
            go_wp2
            go_roundw
            case rel => exact ⟨k + 1, by omega, by go_num, by rw [P1.out], by rw [P2.out], HB⟩
            case measure => simp [RowKit.intOf]; omega
           ·have b2 : (x2 == (q : Int)) = false := by simpa using e2
            have P2 := Lib.hid (HX2.out.2 e2)
            clear HX1 HX2 e1 e2
            go_wp2
            go_roundw
            case rel => exact ⟨k + 1, by omega, by go_num, by rw [P1.out], by rw [P2.out], HB⟩
            case measure => simp [RowKit.intOf]; omega
         ·obtain rfl : k = n := by omega
          have hkn : ¬ (k : Int) < (k : Int) := by omega
          rw [posZ_full HOF.out.2.2 HM1.out, posZ_full HOF2.out.2.2 HM2.out]
          have hle : (O2.idxOf (q : Int) : Int) ≤ (O.idxOf (q : Int) : Int) := by have := HLE.out; omega
          have HBL := Lib.hid (bstep HB7'.out HB.out)
          go_wp2
          go_ret
          exact ⟨rfl, HBL.out⟩
       ·have hne : (chkEnts L' != 0) = true := by simpa using hX2
        go_wp2_with fail
        refine HRC4.mono ?_
        rintro e w5 ⟨rfl, hb5⟩
        have HB5 := Lib.hid (bstep HB3.out (bstep hb34 hb5))
        clear hb34 hb5 HB3
        go_wp2
        go_ret
        exact ⟨rfl, HB5.out⟩
      case inr h =>
       have HKY : Hid (mkeyP kd 1 ≤ mkeyP kd v) := Lib.hid (by rw [HT.out, mk_time, mk_time]; exact HV.out.1)
       obtain ⟨nv, hnv⟩ : ∃ nv : Int, nv = (1 : Int) := ⟨_, rfl⟩
       rw [← hnv] at HKY ⊢
       have hst := World.ownsRow.stored HOB.out (q * 5 + 3) (.int .i64 nv)
       rw [flat_set L q ⟨nm, cl, kd, v, r⟩ nv HE.out] at hst
       obtain ⟨w3, hw3⟩ : ∃ w3, w3 = w2.setCell ⟨gB, q * 5 + 2 + 1, none⟩ (.int .i64 nv) := ⟨_, rfl⟩
       rw [show w2.setCell ⟨gB, q * 5 + 3, none⟩ (.int .i64 nv) = w3 from hw3.symm] at hst
       rw [← hw3]
       have hb23 : Below wr.heap.size wr w3 := HBW2.out.grown hst.2 HBW2.out.size (fun r hr => by cases hr; exact hgB1)
       obtain ⟨L', hL'⟩ : ∃ L', L' = L.set q ((⟨nm, cl, kd, v, r⟩ : Ent).with_ nv) := ⟨_, rfl⟩
       rw [← hL'] at hst
       have hll : L'.length = n := by rw [hL', List.length_set, HALL.out.2.2.2.1]
       have HOK : Hid (∀ x ∈ L', x.ok) := Lib.hid (by
        rw [hL']
        intro x hx
        rcases List.mem_or_eq_of_mem_set hx with q1 | q1
        ·exact (HALL.out.1 x q1).1
        ·subst q1
         exact (HALL.out.1 _ (List.mem_of_getElem? HE.out)).1)
       have hO3 : OwnEnts w3 wr.heap.size 65 (.slice (some ⟨gB, 0, none⟩) n cB) L' := by unfold OwnEnts; rw [hll]; exact hst.1
       obtain ⟨A3, c3, hA3, hR3⟩ := Ents.of_own hO3 hll
       cases hA3
       have HR3 := Lib.hid hR3
       have HB3 := Lib.hid (bstep HBF.out hb23)
       have HI3 := Lib.hid (HIF.out.below hb23)
       have HL' := Lib.hid hL'
       have HLL := Lib.hid hll
       have hq9 : Hid (q < n) := Lib.hid hqn
       clear hst hO3 hb23 hw3 hL' hR3 HBW2 HBF HIF HOB hgB1 hgB2 s2 s3 z3 hwv k1 hkq hkq2 hnv hll
       have hn4' : n ≤ 24 := by omega
       refine (l4own_big L' n cB (some ⟨gB, 0, none⟩) _ w3 HR3.out (by omega)).mono ?_
       rintro e w4 ⟨v4, rfl, hOE4, hb4⟩
       obtain ⟨A4, c4, rfl, hR4⟩ := Ents.of_own hOE4 HLL.out
       have hb34 : Below w3.heap.size w3 w4 := hb4
       have HRC4 := r4CheckEntrants_all L' n c4 A4 _ w4 hR4 (by omega) HOK.out
       clear hOE4 hR4
       by_cases hX2 : chkEnts L' = 0
       ·rw [hX2] at HRC4
        go_wp2_with fail
        refine HRC4.mono ?_
        rintro e w5 ⟨rfl, hb5⟩
        have hb35 : Below w3.heap.size w3 w5 := bstep hb34 hb5
        have hor := seedOrder_ok L' n cB (some ⟨gB, 0, none⟩) _ kk w5 (HR3.out.below hb35 (Nat.le_refl _)) (by omega) HOK.out (by have := (bstep HB3.out hb35).size; omega) (by have := HALL.out.2.2.2.2.1; omega) (by have := HALL.out.2.2.2.2.2; omega) hX2
        have HB5 := Lib.hid (bstep HB3.out hb35)
        have HI5 := Lib.hid (HI3.out.below hb35)
        clear hb34 hb5 hb35 HRC4 HB3 HI3 hb4
        go_wp2_with fail
        refine hor.mono ?_
        rintro e w6' ⟨gO2, rfl, hrO2, hbn⟩
        have HI6 := Lib.hid (HI5.out.below hbn)
        have HB6 := Lib.hid (bstep HB5.out hbn)
        have HIO := Lib.hid (RowZ.ints hrO2)
        have HOF2 : Hid ((ordZ L' kk).Nodup ∧ (∀ x ∈ ordZ L' kk, 0 ≤ x ∧ x < (n : Int)) ∧ (ordZ L' kk).length = n) := Lib.hid ⟨ordZ_nodup hX2 kk, fun x q => by have := ordZ_mem hX2 kk q; rw [HLL.out] at this; exact this, (ordZ_len hX2 kk).trans HLL.out⟩
        clear hbn hor hrO2 HB5 HI5
        have hF2 := form_one (c := n) 30 HIO.out (by omega) HOF2.out.1 HOF2.out.2.1
        go_wp2_with fail
        refine hF2.mono ?_
        rintro e w7' ⟨rfl, hbn⟩
        have hb67 : Below w6'.heap.size w6' w7' := bstep (balloc _ (Below.refl _ _)) hbn
        have HI7 := Lib.hid (HI6.out.below hb67)
        have HJ7 := Lib.hid (HIO.out.below hb67)
        have HB7' := Lib.hid (bstep HB6.out hb67)
        have HLE : Hid ((ordZ L' kk).idxOf (q : Int) ≤ O.idxOf (q : Int)) := Lib.hid (by
         rw [← HOO.out, HL'.out]
         exact ord_better HALL.out.2.2.1 kk HE.out (by rw [← HL'.out]; exact hX2) HKY.out)
        have HM1 : Hid ((q : Int) ∈ O) := Lib.hid (by rw [← HOO.out]; exact ordZ_self HALL.out.2.2.1 kk (by rw [HALL.out.2.2.2.1]; exact hq9.out))
        have HM2 : Hid ((q : Int) ∈ ordZ L' kk) := Lib.hid (ordZ_self hX2 kk (by rw [HLL.out]; exact hq9.out))
        obtain ⟨O2, hO2⟩ : ∃ O2, O2 = ordZ L' kk := ⟨_, rfl⟩
        rw [← hO2] at HLE HM2 HOF2 HJ7
        clear hbn hb67 HIO HI6 HB6 hF2 hO2 hX2 HE
        go_wp2
        go_loopw [19, 20, 196] (fun b a i ws => ∃ k : Nat, k ≤ n ∧ i = .int .i64 k ∧ b = .int .i64 (posZ O q k) ∧ a = .int .i64 (posZ O2 q k) ∧ Hid (Below w7'.heap.size w7' ws)) (fun _ _ i _ => n - (RowKit.intOf i).toNat)
        case atStart => exact ⟨0, by omega, rfl, by rw [posZ_zero], by rw [posZ_zero], Lib.hid (Below.refl _ _)⟩
        case round =>
         obtain ⟨k, hk, rfl, rfl, rfl, HB⟩ := hrel
         by_cases hlt : k < n
         ·have hkl : (k : Int) < (n : Int) := by omega
          have hk0 : (0 : Int) ≤ (k : Int) := by omega
          have hkt : ((k : Int)).toNat = k := by omega
          obtain ⟨_, c0⟩ := IntsZ.at_ (HI7.out.below HB.out) hlt
          obtain ⟨_, c1⟩ := IntsZ.at_ (HJ7.out.below HB.out) hlt
          obtain ⟨x, hx⟩ : ∃ x, ga O k = x := ⟨_, rfl⟩
          obtain ⟨x2, hx2⟩ : ∃ x2, ga O2 k = x2 := ⟨_, rfl⟩
          rw [hx] at c0
          rw [hx2] at c1
          have HX1 : Hid ((x = (q : Int) → posZ O q (k + 1) = (k : Int)) ∧ (x ≠ (q : Int) → posZ O q (k + 1) = posZ O q k)) := Lib.hid ⟨fun e => posZ_hit HOF.out.1 (by rw [HOF.out.2.2]; exact hlt) (hx.trans e), fun e => posZ_miss (by rw [HOF.out.2.2]; exact hlt) (by rw [hx]; exact e)⟩
          have HX2 : Hid ((x2 = (q : Int) → posZ O2 q (k + 1) = (k : Int)) ∧ (x2 ≠ (q : Int) → posZ O2 q (k + 1) = posZ O2 q k)) := Lib.hid ⟨fun e => posZ_hit HOF2.out.1 (by rw [HOF2.out.2.2]; exact hlt) (hx2.trans e), fun e => posZ_miss (by rw [HOF2.out.2.2]; exact hlt) (by rw [hx2]; exact e)⟩
          obtain ⟨p1, hp1'⟩ : ∃ p1, posZ O q k = p1 := ⟨_, rfl⟩
          obtain ⟨p2, hp2'⟩ : ∃ p2, posZ O2 q k = p2 := ⟨_, rfl⟩
          rw [hp1'] at HX1 ⊢
          rw [hp2'] at HX2 ⊢
          clear hx hx2 hp1' hp2'
          by_cases e1 : x = (q : Int)
          ·have b1 : (x == (q : Int)) = true := by simpa using e1
           have P1 := Lib.hid (HX1.out.1 e1)
           by_cases e2 : x2 = (q : Int)
           ·have b2 : (x2 == (q : Int)) = true := by simpa using e2
            have P2 := Lib.hid (HX2.out.1 e2)
            clear HX1 HX2 e1 e2
            go_wp2
            go_roundw
            case rel => exact ⟨k + 1, by omega, by go_num, by rw [P1.out], by rw [P2.out], HB⟩
            case measure => simp [RowKit.intOf]; omega
           ·have b2 : (x2 == (q : Int)) = false := by simpa using e2
            have P2 := Lib.hid (HX2.out.2 e2)
            clear HX1 HX2 e1 e2
            go_wp2
            go_roundw
            case rel => exact ⟨k + 1, by omega, by go_num, by rw [P1.out], by rw [P2.out], HB⟩
            case measure => simp [RowKit.intOf]; omega
          ·have b1 : (x == (q : Int)) = false := by simpa using e1
           have P1 := Lib.hid (HX1.out.2 e1)
           by_cases e2 : x2 = (q : Int)
           ·have b2 : (x2 == (q : Int)) = true := by simpa using e2
            have P2 := Lib.hid (HX2.out.1 e2)
            clear HX1 HX2 e1 e2
            go_wp2
            go_roundw
            case rel => exact ⟨k + 1, by omega, by go_num, by rw [P1.out], by rw [P2.out], HB⟩
            case measure => simp [RowKit.intOf]; omega
           ·have b2 : (x2 == (q : Int)) = false := by simpa using e2
            have P2 := Lib.hid (HX2.out.2 e2)
            clear HX1 HX2 e1 e2
            go_wp2
            go_roundw
            case rel => exact ⟨k + 1, by omega, by go_num, by rw [P1.out], by rw [P2.out], HB⟩
            case measure => simp [RowKit.intOf]; omega
         ·obtain rfl : k = n := by omega
          have hkn : ¬ (k : Int) < (k : Int) := by omega
          rw [posZ_full HOF.out.2.2 HM1.out, posZ_full HOF2.out.2.2 HM2.out]
          have hle : (O2.idxOf (q : Int) : Int) ≤ (O.idxOf (q : Int) : Int) := by have := HLE.out; omega
          have HBL := Lib.hid (bstep HB7'.out HB.out)
          go_wp2
          go_ret
          exact ⟨rfl, HBL.out⟩
       ·have hne : (chkEnts L' != 0) = true := by simpa using hX2
        go_wp2_with fail
        refine HRC4.mono ?_
        rintro e w5 ⟨rfl, hb5⟩
        have HB5 := Lib.hid (bstep HB3.out (bstep hb34 hb5))
        clear hb34 hb5 HB3
        go_wp2
        go_ret
        exact ⟨rfl, HB5.out⟩
     ·have k1 : (kd.toList == [116, 105, 109, 101]) = false := by rw [time_beq]; simp [ht]
      by_cases hn : kd = sNone
      ·have k2 : (kd.toList == [110, 111, 110, 101]) = true := by rw [none_beq]; simp [hn]
       clear hn ht
       go_wp2
       go_ret
       exact ⟨rfl, HB2.out⟩
      ·have k2 : (kd.toList == [110, 111, 110, 101]) = false := by rw [none_beq]; simp [hn]
       have hv : 0 ≤ v ∧ v ≤ 863999999 := by
        rcases HR.out with q | q
        ·exact absurd q.1 hn
        ·exact q.2
       have hwv : IntKind.i64.wrap (v + pk) = v + pk := IntWalk.i64_in _ (by omega)
       have HKY : Hid (mkeyP kd (v + pk) ≤ mkeyP kd v) := Lib.hid (by rw [mk_else hn ht, mk_else hn ht]; omega)
       clear ht hn
       go_wp2_with fail
       obtain ⟨nv, hnv⟩ : ∃ nv : Int, nv = v + pk := ⟨_, rfl⟩
       rw [← hnv] at HKY ⊢
       have hst := World.ownsRow.stored HOB.out (q * 5 + 3) (.int .i64 nv)
       rw [flat_set L q ⟨nm, cl, kd, v, r⟩ nv HE.out] at hst
       obtain ⟨w3, hw3⟩ : ∃ w3, w3 = w2.setCell ⟨gB, q * 5 + 2 + 1, none⟩ (.int .i64 nv) := ⟨_, rfl⟩
       rw [show w2.setCell ⟨gB, q * 5 + 3, none⟩ (.int .i64 nv) = w3 from hw3.symm] at hst
       rw [← hw3]
       have hb23 : Below wr.heap.size wr w3 := HBW2.out.grown hst.2 HBW2.out.size (fun r hr => by cases hr; exact hgB1)
       obtain ⟨L', hL'⟩ : ∃ L', L' = L.set q ((⟨nm, cl, kd, v, r⟩ : Ent).with_ nv) := ⟨_, rfl⟩
       rw [← hL'] at hst
       have hll : L'.length = n := by rw [hL', List.length_set, HALL.out.2.2.2.1]
       have HOK : Hid (∀ x ∈ L', x.ok) := Lib.hid (by
        rw [hL']
        intro x hx
        rcases List.mem_or_eq_of_mem_set hx with q1 | q1
        ·exact (HALL.out.1 x q1).1
        ·subst q1
         exact (HALL.out.1 _ (List.mem_of_getElem? HE.out)).1)
       have hO3 : OwnEnts w3 wr.heap.size 65 (.slice (some ⟨gB, 0, none⟩) n cB) L' := by unfold OwnEnts; rw [hll]; exact hst.1
       obtain ⟨A3, c3, hA3, hR3⟩ := Ents.of_own hO3 hll
       cases hA3
       have HR3 := Lib.hid hR3
       have HB3 := Lib.hid (bstep HBF.out hb23)
       have HI3 := Lib.hid (HIF.out.below hb23)
       have HL' := Lib.hid hL'
       have HLL := Lib.hid hll
       have hq9 : Hid (q < n) := Lib.hid hqn
       clear hst hO3 hb23 hw3 hL' hR3 HBW2 HBF HIF HOB hgB1 hgB2 s2 s3 z3 hwv k1 hkq hkq2 hnv hll
       have hn4' : n ≤ 24 := by omega
       refine (l4own_big L' n cB (some ⟨gB, 0, none⟩) _ w3 HR3.out (by omega)).mono ?_
       rintro e w4 ⟨v4, rfl, hOE4, hb4⟩
       obtain ⟨A4, c4, rfl, hR4⟩ := Ents.of_own hOE4 HLL.out
       have hb34 : Below w3.heap.size w3 w4 := hb4
       have HRC4 := r4CheckEntrants_all L' n c4 A4 _ w4 hR4 (by omega) HOK.out
       clear hOE4 hR4
       by_cases hX2 : chkEnts L' = 0
       ·rw [hX2] at HRC4
        go_wp2_with fail
        refine HRC4.mono ?_
        rintro e w5 ⟨rfl, hb5⟩
        have hb35 : Below w3.heap.size w3 w5 := bstep hb34 hb5
        have hor := seedOrder_ok L' n cB (some ⟨gB, 0, none⟩) _ kk w5 (HR3.out.below hb35 (Nat.le_refl _)) (by omega) HOK.out (by have := (bstep HB3.out hb35).size; omega) (by have := HALL.out.2.2.2.2.1; omega) (by have := HALL.out.2.2.2.2.2; omega) hX2
        have HB5 := Lib.hid (bstep HB3.out hb35)
        have HI5 := Lib.hid (HI3.out.below hb35)
        clear hb34 hb5 hb35 HRC4 HB3 HI3 hb4
        go_wp2_with fail
        refine hor.mono ?_
        rintro e w6' ⟨gO2, rfl, hrO2, hbn⟩
        have HI6 := Lib.hid (HI5.out.below hbn)
        have HB6 := Lib.hid (bstep HB5.out hbn)
        have HIO := Lib.hid (RowZ.ints hrO2)
        have HOF2 : Hid ((ordZ L' kk).Nodup ∧ (∀ x ∈ ordZ L' kk, 0 ≤ x ∧ x < (n : Int)) ∧ (ordZ L' kk).length = n) := Lib.hid ⟨ordZ_nodup hX2 kk, fun x q => by have := ordZ_mem hX2 kk q; rw [HLL.out] at this; exact this, (ordZ_len hX2 kk).trans HLL.out⟩
        clear hbn hor hrO2 HB5 HI5
        have hF2 := form_one (c := n) 30 HIO.out (by omega) HOF2.out.1 HOF2.out.2.1
        go_wp2_with fail
        refine hF2.mono ?_
        rintro e w7' ⟨rfl, hbn⟩
        have hb67 : Below w6'.heap.size w6' w7' := bstep (balloc _ (Below.refl _ _)) hbn
        have HI7 := Lib.hid (HI6.out.below hb67)
        have HJ7 := Lib.hid (HIO.out.below hb67)
        have HB7' := Lib.hid (bstep HB6.out hb67)
        have HLE : Hid ((ordZ L' kk).idxOf (q : Int) ≤ O.idxOf (q : Int)) := Lib.hid (by
         rw [← HOO.out, HL'.out]
         exact ord_better HALL.out.2.2.1 kk HE.out (by rw [← HL'.out]; exact hX2) HKY.out)
        have HM1 : Hid ((q : Int) ∈ O) := Lib.hid (by rw [← HOO.out]; exact ordZ_self HALL.out.2.2.1 kk (by rw [HALL.out.2.2.2.1]; exact hq9.out))
        have HM2 : Hid ((q : Int) ∈ ordZ L' kk) := Lib.hid (ordZ_self hX2 kk (by rw [HLL.out]; exact hq9.out))
        obtain ⟨O2, hO2⟩ : ∃ O2, O2 = ordZ L' kk := ⟨_, rfl⟩
        rw [← hO2] at HLE HM2 HOF2 HJ7
        clear hbn hb67 HIO HI6 HB6 hF2 hO2 hX2 HE
        go_wp2
        go_loopw [19, 20, 196] (fun b a i ws => ∃ k : Nat, k ≤ n ∧ i = .int .i64 k ∧ b = .int .i64 (posZ O q k) ∧ a = .int .i64 (posZ O2 q k) ∧ Hid (Below w7'.heap.size w7' ws)) (fun _ _ i _ => n - (RowKit.intOf i).toNat)
        case atStart => exact ⟨0, by omega, rfl, by rw [posZ_zero], by rw [posZ_zero], Lib.hid (Below.refl _ _)⟩
        case round =>
         obtain ⟨k, hk, rfl, rfl, rfl, HB⟩ := hrel
         by_cases hlt : k < n
         ·have hkl : (k : Int) < (n : Int) := by omega
          have hk0 : (0 : Int) ≤ (k : Int) := by omega
          have hkt : ((k : Int)).toNat = k := by omega
          obtain ⟨_, c0⟩ := IntsZ.at_ (HI7.out.below HB.out) hlt
          obtain ⟨_, c1⟩ := IntsZ.at_ (HJ7.out.below HB.out) hlt
          obtain ⟨x, hx⟩ : ∃ x, ga O k = x := ⟨_, rfl⟩
          obtain ⟨x2, hx2⟩ : ∃ x2, ga O2 k = x2 := ⟨_, rfl⟩
          rw [hx] at c0
          rw [hx2] at c1
          have HX1 : Hid ((x = (q : Int) → posZ O q (k + 1) = (k : Int)) ∧ (x ≠ (q : Int) → posZ O q (k + 1) = posZ O q k)) := Lib.hid ⟨fun e => posZ_hit HOF.out.1 (by rw [HOF.out.2.2]; exact hlt) (hx.trans e), fun e => posZ_miss (by rw [HOF.out.2.2]; exact hlt) (by rw [hx]; exact e)⟩
          have HX2 : Hid ((x2 = (q : Int) → posZ O2 q (k + 1) = (k : Int)) ∧ (x2 ≠ (q : Int) → posZ O2 q (k + 1) = posZ O2 q k)) := Lib.hid ⟨fun e => posZ_hit HOF2.out.1 (by rw [HOF2.out.2.2]; exact hlt) (hx2.trans e), fun e => posZ_miss (by rw [HOF2.out.2.2]; exact hlt) (by rw [hx2]; exact e)⟩
          obtain ⟨p1, hp1'⟩ : ∃ p1, posZ O q k = p1 := ⟨_, rfl⟩
          obtain ⟨p2, hp2'⟩ : ∃ p2, posZ O2 q k = p2 := ⟨_, rfl⟩
          rw [hp1'] at HX1 ⊢
          rw [hp2'] at HX2 ⊢
          clear hx hx2 hp1' hp2'
          by_cases e1 : x = (q : Int)
          ·have b1 : (x == (q : Int)) = true := by simpa using e1
           have P1 := Lib.hid (HX1.out.1 e1)
           by_cases e2 : x2 = (q : Int)
           ·have b2 : (x2 == (q : Int)) = true := by simpa using e2
            have P2 := Lib.hid (HX2.out.1 e2)
            clear HX1 HX2 e1 e2
            go_wp2
            go_roundw
            case rel => exact ⟨k + 1, by omega, by go_num, by rw [P1.out], by rw [P2.out], HB⟩
            case measure => simp [RowKit.intOf]; omega
           ·have b2 : (x2 == (q : Int)) = false := by simpa using e2
            have P2 := Lib.hid (HX2.out.2 e2)
            clear HX1 HX2 e1 e2
            go_wp2
            go_roundw
            case rel => exact ⟨k + 1, by omega, by go_num, by rw [P1.out], by rw [P2.out], HB⟩
            case measure => simp [RowKit.intOf]; omega
          ·have b1 : (x == (q : Int)) = false := by simpa using e1
           have P1 := Lib.hid (HX1.out.2 e1)
           by_cases e2 : x2 = (q : Int)
           ·have b2 : (x2 == (q : Int)) = true := by simpa using e2
            have P2 := Lib.hid (HX2.out.1 e2)
            clear HX1 HX2 e1 e2
            go_wp2
            go_roundw
            case rel => exact ⟨k + 1, by omega, by go_num, by rw [P1.out], by rw [P2.out], HB⟩
            case measure => simp [RowKit.intOf]; omega
           ·have b2 : (x2 == (q : Int)) = false := by simpa using e2
            have P2 := Lib.hid (HX2.out.2 e2)
            clear HX1 HX2 e1 e2
            go_wp2
            go_roundw
            case rel => exact ⟨k + 1, by omega, by go_num, by rw [P1.out], by rw [P2.out], HB⟩
            case measure => simp [RowKit.intOf]; omega
         ·obtain rfl : k = n := by omega
          have hkn : ¬ (k : Int) < (k : Int) := by omega
          rw [posZ_full HOF.out.2.2 HM1.out, posZ_full HOF2.out.2.2 HM2.out]
          have hle : (O2.idxOf (q : Int) : Int) ≤ (O.idxOf (q : Int) : Int) := by have := HLE.out; omega
          have HBL := Lib.hid (bstep HB7'.out HB.out)
          go_wp2
          go_ret
          exact ⟨rfl, HBL.out⟩
       ·have hne : (chkEnts L' != 0) = true := by simpa using hX2
        go_wp2_with fail
        refine HRC4.mono ?_
        rintro e w5 ⟨rfl, hb5⟩
        have HB5 := Lib.hid (bstep HB3.out (bstep hb34 hb5))
        clear hb34 hb5 HB3
        go_wp2
        go_ret
        exact ⟨rfl, HB5.out⟩
end Go.Mk
