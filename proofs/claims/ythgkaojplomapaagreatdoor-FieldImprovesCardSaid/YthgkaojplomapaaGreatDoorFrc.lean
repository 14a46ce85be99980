/-
  Proved: Ranking of package field: the first error of the rows, or their places in the order of their ranks, in new memory. Conditions: at most 1,000 rows, where the slices say, with names no longer than an int says, and at most 1,000 trials each.
  Proved: Results of package field: the first error of the rows, or the athletes and marks of their places in the order of their ranks, in new memory. Conditions: those of Ranking.
  Proved: the reference's Series returns a row's marks that are not below 0, in descending order, in new memory. Conditions: at most 12 trials, where the slice says.
  Proved: the reference's greater and RowRanks: the ranks of rows, as rowRanks has them. Conditions: at most 100 rows, each with at most 12 trials, where the slices say.
-/
import Derived.Test.YthgkaojplomapaaGreatDoorFrb
section
set_option linter.unusedVariables false
set_option linter.unusedSimpArgs false
open Go Go.Proofs Go.RowKit
set_option maxRecDepth 100000
namespace Go.Mk
theorem trsE_zero : ∀ {T : List Int}, trsE T = 0 → ∀ t ∈ T, -2 ≤ t ∧ t ≤ 999999
 | [], _, t, ht => by simp at ht
 | x :: T, h, t, ht => by
  rw [trsE] at h
  by_cases hx : rngE x (-2) 999999 = 0
  ·rw [if_pos hx] at h
   rcases List.mem_cons.1 ht with rfl | ht
   ·unfold rngE at hx
    by_cases q : t < -2 ∨ 999999 < t
    ·rw [if_pos q] at hx; simp at hx
    ·omega
   ·exact trsE_zero h t ht
  ·rw [if_neg hx] at h
   exact absurd h hx
theorem rwsE_zero : ∀ {P : List ByteArray} {L : List RowR}, rwsE P L = 0 → ∀ r ∈ L, trialsE r = 0
 | _, [], _, r, hr => by simp at hr
 | P, x :: L, h, r, hr => by
  rw [rwsE] at h
  by_cases hx : rowE P x = 0
  ·rw [if_pos hx] at h
   rcases List.mem_cons.1 hr with rfl | hr
   ·unfold rowE at hx
    simp only [fstN] at hx
    split at hx
    ·split at hx <;> simp_all
    ·simp_all
   ·exact rwsE_zero h r hr
  ·rw [if_neg hx] at h
   exact absurd h hx
theorem rows_ok {L : List RowR} (h : rowsE L = 0) : L.length ≤ 32 ∧ ∀ r ∈ L, r.n ≤ 6 ∧ ∀ t ∈ r.T, -2 ≤ t ∧ t ≤ 999999 := by
 unfold rowsE at h
 by_cases h1 : 32 < L.length
 ·rw [if_pos h1] at h; simp at h
 ·rw [if_neg h1] at h
  refine ⟨by omega, fun r hr => ?_⟩
  have h2 := rwsE_zero h r hr
  unfold trialsE at h2
  by_cases h3 : 6 < r.n
  ·rw [if_pos h3] at h2; simp at h2
  ·rw [if_neg h3] at h2
   exact ⟨by omega, trsE_zero h2⟩
def mkOf (r : RowR) : ByteArray × Int × ByteArray := match serD r.T with
 | [] => (sNone, 0, if decide (0 < r.n) || !r.rt then sNM else sDNS)
 | h :: _ => (sLength, h, ⟨#[]⟩)
theorem rowM_eq (r : RowR) : rowM r = .agg #[.string (mkOf r).1, .int .i64 (mkOf r).2.1, .string (mkOf r).2.2] := by
 unfold rowM mkOf
 cases serD r.T with
 | nil =>
  dsimp only
  unfold noM mkV
  split <;> rfl
 | cons h l => rfl
def plcOf (L : List RowR) (n i : Nat) (r : RowR) : Plc := ⟨r.s, (rkB (rkR (sersOf L)) (rkBt (sersOf L)) n i : Nat), (mkOf r).1, (mkOf r).2.1, (mkOf r).2.2⟩
def plcsOf (L : List RowR) : List Plc := L.mapIdx fun i r => plcOf L L.length i r
def rankL (L : List RowR) : List Plc := arrL L.length (plcsOf L)
theorem rkB_le (R : Nat → Bool) (b : Nat → Nat → Bool) (n i : Nat) (hi : i < n) (hb : b i i = false) : rkB R b n i ≤ n := by
 unfold rkB
 split
 ·have : ∀ m, m ≤ n → (cntB b i m ≤ m ∧ (i < m → cntB b i m + 1 ≤ m)) := by
   intro m
   induction m with
   | zero => intro _; exact ⟨Nat.le_refl _, fun h => by omega⟩
   | succ m ih =>
    intro hm
    obtain ⟨h1, h2⟩ := ih (by omega)
    rw [cntB]
    by_cases e : m = i
    ·subst e
     rw [hb]
     simp
     omega
    ·refine ⟨by split <;> omega, fun h => ?_⟩
     have := h2 (by omega)
     split <;> omega
  have := (this n (Nat.le_refl _)).2 hi
  omega
 ·omega
theorem cmpL_self : ∀ l : List Int, cmpL l l = 0
 | [] => rfl
 | a :: l => by rw [cmpL, cmpL_self l]; simp [cmpZ]
theorem plcs_len (L : List RowR) : (plcsOf L).length = L.length := by unfold plcsOf; simp
theorem plcs_at {L : List RowR} {i : Nat} {r : RowR} (h : L[i]? = some r) : (plcsOf L)[i]? = some (plcOf L L.length i r) := by
 unfold plcsOf
 rw [List.getElem?_mapIdx, h]; rfl
theorem plcs_rk (L : List RowR) : ∀ p ∈ plcsOf L, 0 ≤ p.rk ∧ p.rk ≤ L.length := by
 intro p hp
 obtain ⟨i, hi⟩ := List.mem_iff_getElem?.1 hp
 have hl := (List.getElem?_eq_some_iff.1 hi).1
 rw [plcs_len] at hl
 rw [plcs_at (List.getElem?_eq_getElem hl)] at hi
 obtain rfl := Option.some.inj hi
 refine ⟨Int.natCast_nonneg _, ?_⟩
 have := rkB_le (rkR (sersOf L)) (rkBt (sersOf L)) L.length i hl (by unfold rkBt; rw [cmpL_self]; rfl)
 show ((rkB _ _ _ _ : Nat) : Int) ≤ _
 omega
theorem news5 (w : World) (p : Plc) (t : TypeId) (q : Nat) (hq : q = w.heap.size) : ∀ (j : Nat) (u : Value), p.cells[j]? = some u → (w.alloc (.cells #[.string p.nm, .int .i64 p.rk, .string p.kd, .int .i64 p.vl, .string p.rs] t)).cell? ((⟨q, 0, none⟩ : Addr).add j) = some u := by
 intro j u hj
 subst hq
 match j, hj with
 | 0, hj => simp [Plc.cells] at hj; subst hj; simp [Addr.add]
 | 1, hj => simp [Plc.cells] at hj; subst hj; simp [Addr.add]
 | 2, hj => simp [Plc.cells] at hj; subst hj; simp [Addr.add]
 | 3, hj => simp [Plc.cells] at hj; subst hj; simp [Addr.add]
 | 4, hj => simp [Plc.cells] at hj; subst hj; simp [Addr.add]
theorem one5 (p : Plc) : ∀ u ∈ p.cells, u.oneCell' = true := by
 intro u hu
 simp [Plc.cells] at hu
 rcases hu with rfl | rfl | rfl | rfl | rfl <;> rfl
theorem own_lowP {w : World} {B B' : Nat} {v : Value} {L : List Plc} (h : OwnPlcs w B v L) (hB : B' ≤ B) : OwnPlcs w B' v L := by
 refine ⟨h.1, ?_⟩
 rcases h.2 with q | ⟨g, cap, cur, a, b, c⟩
 ·exact .inl q
 ·exact .inr ⟨g, cap, cur, a, Nat.le_trans hB b, c⟩
set_option maxHeartbeats 8000000 in
theorem fdRanking_any (L : List RowR) (n cap : Nat) (A : Option Addr) (w : World) (hZ : Rows w A n L) (hn : n ≤ 1000) (hs : ∀ r ∈ L, r.s.size ≤ maxLen ∧ r.n ≤ 1000 ∧ r.T.length = r.n) :
  Calls Tryz.prog 24 #[.slice A n cap] w (fun e w' => ∃ v, e = .returned (.tuple #[v, .int .i64 (rowsE L)]) ∧ OwnPlcs w' w.heap.size v (if rowsE L = 0 then rankL L else []) ∧ Below w.heap.size w w') := by
 obtain ⟨i0, hi, hz0, hz1, hz2⟩ := info_parts infoPlc
 have hC := fdCheckRows_any L n cap A w hZ hn (fun r hr => ⟨(hs r hr).1, (hs r hr).2.1⟩)
 have hLn : L.length = n := hZ.1
 by_cases h0 : rowsE L = 0
 ·rw [h0] at hC ⊢
  rw [if_pos rfl]
  obtain ⟨h32, hrow⟩ := rows_ok h0
  have hn32 : n ≤ 32 := by omega
  have hni : (n : Int) ≤ 32 := by omega
  have HR : Hid (∀ w', Below w.heap.size w w' → Calls Tryz.prog 73 #[.slice A n cap] w' (fun e w'' => ∃ g, e = .returned (.slice (some ⟨g, 0, none⟩) n n) ∧ Row w'' g (ranksB (rkR (sersOf L)) (rkBt (sersOf L)) n) ∧ w'.heap.size ≤ g ∧ Below w'.heap.size w' w'')) := Lib.hid fun w' hb =>
   fdRowRanks_any L n cap A w' (hZ.below hb) (by omega) (fun r hr => ⟨by have := (hrow r hr).1; omega, (hs r hr).2.2, fun t ht => ((hrow r hr).2 t ht).2⟩)
  have HMk : Hid (∀ (k : Nat) (r : RowR) (w' : World), L[k]? = some r → IntsZ w' r.A r.n r.T → Calls Tryz.prog 74 #[.agg #[.string r.s, .slice r.A r.n r.c, .bool r.rt]] w' (RetPost (.agg #[.string (mkOf r).1, .int .i64 (mkOf r).2.1, .string (mkOf r).2.2]) w')) := Lib.hid fun k r w' hk hT => by
   have := hrow r (List.mem_of_getElem? hk)
   rw [← rowM_eq]
   exact fdRowMark_any r w' hT (by omega) (fun t ht => (this.2 t ht).2)
  have HAr : Hid (∀ (v : Value) (w' : World), OwnPlcs w' w.heap.size v (plcsOf L) → ∃ A' c', v = .slice A' n c' ∧ Calls Tryz.prog 49 #[.slice A' n c'] w' (fun e w'' => ∃ v, e = .returned v ∧ OwnPlcs w'' w'.heap.size v (rankL L) ∧ Below w'.heap.size w' w'')) := Lib.hid fun v w' ho => by
   obtain ⟨A', c', rfl, hP⟩ := PlcsZ.of_own ho
   rw [plcs_len, hLn] at hP ⊢
   refine ⟨A', c', rfl, ?_⟩
   have := fdArranged_any (plcsOf L) n (by omega) (fun p hp => by have := plcs_rk L p hp; rw [hLn] at this; exact this) A' c' w' hP
   unfold rankL
   rw [hLn]
   exact this
  have H := Lib.hid hZ
  have HL := Lib.hid hLn
  have HPa : Hid (∀ (k : Nat) (r : RowR), L[k]? = some r → (plcsOf L)[k]? = some (plcOf L n k r)) := Lib.hid fun k r h => by rw [← hLn]; exact plcs_at h
  have HPl : Hid ((plcsOf L).length = n) := Lib.hid (by rw [plcs_len, hLn])
  clear hZ hs hrow h0 h32 hLn
  go_enter Tryz.func24, Tryz.ntmps24
  go_wp2_with fail
  refine hC.mono ?_
  rintro e w1 ⟨rfl, hb1⟩
  have hR := HR.out w1 hb1
  clear hC
  go_wp2_with fail
  refine hR.mono ?_
  rintro e w2 ⟨g, rfl, hrw, hg, hb2⟩
  have hgl : g < w2.heap.size := hrw.1
  have hb12 := bstep hb1 hb2
  have HRW := Lib.hid hrw
  have HB12 := Lib.hid hb12
  have HG := Lib.hid (And.intro hg hgl)
  have hgw : w.heap.size ≤ g := Nat.le_trans hb1.size hg
  have HGW := Lib.hid hgw
  clear hR hrw hg hgl hb1 hb2 hb12 hgw
  go_wp2
  go_loopw [5, 16] (fun v i wr => ∃ k : Nat, k ≤ n ∧ i = .int .i64 k ∧ OwnPlcs wr w2.heap.size v ((plcsOf L).take k) ∧ Below w2.heap.size w2 wr) (fun _ i _ => n - (RowKit.intOf i).toNat)
  case atStart => exact ⟨0, by omega, rfl, World.ownsRow_nil _ _ _ _, Below.refl _ _⟩
  case round =>
   obtain ⟨k, hk, rfl, hown, hb⟩ := hrel
   by_cases hlt : k < n
   ·have hbw : Below w.heap.size w wr := bstep HB12.out hb
    obtain ⟨b', off, r, rfl, hbl, hx, ⟨hc0, hc1, hc2⟩, hT, hcap⟩ := H.out.at_ hlt
    have hki : (k : Int) < (n : Int) := by omega
    have hk0 : (0 : Int) ≤ (k : Int) := by omega
    have hkt : ((k : Int)).toNat = k := by omega
    have hlen : ((plcsOf L).take k).length = k := by rw [List.length_take, HPl.out]; omega
    have hpx := HPa.out k r hx
    have hst : (plcsOf L).take (k + 1) = (plcsOf L).take k ++ [plcOf L n k r] := by rw [List.take_add_one, hpx]; rfl
    have hrk : (ranksB (rkR (sersOf L)) (rkBt (sersOf L)) n).getD k 0 = rkB (rkR (sersOf L)) (rkBt (sersOf L)) n k := by
     unfold ranksB
     rw [List.getD_eq_getElem?_getD, List.getElem?_map, List.getElem?_range hlt]; rfl
    have hrl : (ranksB (rkR (sersOf L)) (rkBt (sersOf L)) n).length = n := by unfold ranksB; simp
    have hcell := ((HRW.out.below hb HG.out.2 hb.size).at_ (j := k) (by rw [hrl]; exact hlt)).1
    rw [hrk] at hcell
    have Hst := Lib.hid hst
    have Hlen := Lib.hid hlen
    have HB := Lib.hid hb
    have HOX := Lib.hid hown
    have HMr : Hid (∀ w', Below w2.heap.size w2 w' → Calls Tryz.prog 74 #[.agg #[.string r.s, .slice r.A r.n r.c, .bool r.rt]] w' (RetPost (.agg #[.string (mkOf r).1, .int .i64 (mkOf r).2.1, .string (mkOf r).2.2]) w')) := Lib.hid fun w' hb' => HMk.out k r w' hx (hT.below (bstep HB12.out hb'))
    have HX : Hid (∀ w', Below w2.heap.size w2 w' → w'.cell? ⟨b', off + k * 3, none⟩ = some (.string r.s) ∧ w'.cell? ⟨b', off + k * 3 + 1, none⟩ = some (.slice r.A r.n r.c) ∧ w'.cell? ⟨b', off + k * 3 + 2, none⟩ = some (.bool r.rt) ∧ Below w2.heap.size w2 w') := Lib.hid fun w' hb' =>
     have hq := bstep HB12.out hb'
     ⟨(hq.cell (p := ⟨b', _, none⟩) hbl).trans hc0, (hq.cell (p := ⟨b', _, none⟩) hbl).trans hc1, (hq.cell (p := ⟨b', _, none⟩) hbl).trans hc2, hb'⟩
    have hPE : plcOf L n k r = ⟨r.s, (rkB (rkR (sersOf L)) (rkBt (sersOf L)) n k : Nat), (mkOf r).1, (mkOf r).2.1, (mkOf r).2.2⟩ := rfl
    rw [hPE] at Hst
    generalize rkB (rkR (sersOf L)) (rkBt (sersOf L)) n k = rk at *
    generalize (mkOf r).1 = mk1 at *
    generalize (mkOf r).2.1 = mk2 at *
    generalize (mkOf r).2.2 = mk3 at *
    generalize hP : (plcsOf L).take k = P at *
    have HP := Lib.hid hP
    clear hst hlen hx hown hb hbw hT hcap hpx hrk hrl hc0 hc1 hc2 hPE hP
    obtain ⟨c0, c1, c2, _⟩ := HX.out wr HB.out
    go_wp2
    refine wp_region_held_drew (S := fun w' => w'.cell? ⟨b', off + k * 3, none⟩ = some (.string r.s) ∧ w'.cell? ⟨b', off + k * 3 + 1, none⟩ = some (.slice r.A r.n r.c) ∧ w'.cell? ⟨b', off + k * 3 + 2, none⟩ = some (.bool r.rt) ∧ Below w2.heap.size w2 w') (by kernel_rfl) ?_ (fun hHeld => ?_)
    ·exact HX.out _ (by first | exact Below.drew HB.out | exact Below.drew (below_drewN HB.out _))
    refine wpAnyH_take (i := 0) (oi := _) (v := ?_) rfl (by kernel_rfl) (by kernel_rfl) (by kernel_rfl) (fun _ _ _ h => h) (Or.inl ⟨by rfl, ?_⟩) (by assumption) ?_
    rotate_left
    ·rintro w ⟨s0, s1, s2, s3⟩
     go_simp
     try with_reducible rfl
    try simp only [Act.put, zA1, zA2, zA3, zA4, zA5, zA6]
    refine wpAnyH_take (i := 1) (oi := _) (v := ?_) rfl (by kernel_rfl) (by kernel_rfl) (by kernel_rfl) (fun _ _ _ h => h) (Or.inl ⟨by rfl, ?_⟩) (by assumption) ?_
    rotate_left
    ·rintro w ⟨s0, s1, s2, s3⟩
     go_simp
     try with_reducible rfl
    try simp only [Act.put, zA1, zA2, zA3, zA4, zA5, zA6]
    refine wpAnyH_take (i := 2) (oi := _) (v := ?_) rfl (by kernel_rfl) (by kernel_rfl) (by kernel_rfl) (fun _ _ _ h => h) (Or.inl ⟨by rfl, ?_⟩) (by assumption) ?_
    rotate_left
    ·rintro w ⟨s0, s1, s2, s3⟩
     go_simp
     try with_reducible rfl
    try simp only [Act.put, zA1, zA2, zA3, zA4, zA5, zA6]
    refine wpAnyH_take (i := 3) (oi := _) (v := ?_) rfl (by kernel_rfl) (by kernel_rfl) (by kernel_rfl) (fun _ _ _ h => h) (Or.inl ⟨by rfl, ?_⟩) (by assumption) ?_
    rotate_left
    ·rintro w ⟨s0, s1, s2, s3⟩
     go_simp
     try with_reducible rfl
    try simp only [Act.put, zA1, zA2, zA3, zA4, zA5, zA6]
    refine wpAnyH_take (i := 4) (oi := _) (v := ?_) rfl (by kernel_rfl) (by kernel_rfl) (by kernel_rfl) (fun _ _ _ h => h) (Or.inl ⟨by rfl, ?_⟩) (by assumption) ?_
    rotate_left
    ·rintro w ⟨s0, s1, s2, s3⟩
     go_simp
     try with_reducible rfl
    try simp only [Act.put, zA1, zA2, zA3, zA4, zA5, zA6]
    refine wpAnyH_take (i := 5) (oi := _) (v := ?_) rfl (by kernel_rfl) (by kernel_rfl) (by kernel_rfl) (fun _ _ _ h => h) (Or.inl ⟨by rfl, ?_⟩) (by assumption) ?_
    rotate_left
    ·rintro w ⟨s0, s1, s2, s3⟩
     go_simp
     try with_reducible rfl
    try simp only [Act.put, zA1, zA2, zA3, zA4, zA5, zA6]
    refine wpAnyH_take (i := 6) (oi := _) (v := ?_) rfl (by kernel_rfl) (by kernel_rfl) (by kernel_rfl) (fun _ _ _ h => h) (Or.inl ⟨by rfl, ?_⟩) (by assumption) ?_
    rotate_left
    ·rintro w ⟨s0, s1, s2, s3⟩
     go_simp
     try with_reducible rfl
    try simp only [Act.put, zA1, zA2, zA3, zA4, zA5, zA6]
    refine wpAnyH_take (i := 7) (oi := _) (v := ?_) rfl (by kernel_rfl) (by kernel_rfl) (by kernel_rfl) (fun _ _ _ h => h) (Or.inl ⟨by rfl, ?_⟩) (by assumption) ?_
    rotate_left
    ·rintro w ⟨s0, s1, s2, s3⟩
     go_simp
     try with_reducible rfl
    try simp only [Act.put, zA1, zA2, zA3, zA4, zA5, zA6]
    refine wpAnyH_take (i := 8) (oi := _) (v := ?_) rfl (by kernel_rfl) (by kernel_rfl) (by kernel_rfl) (fun _ _ _ h => h) (Or.inl ⟨by rfl, ?_⟩) (by assumption) ?_
    rotate_left
    ·rintro w ⟨s0, s1, s2, s3⟩
     go_simp
     try with_reducible rfl
    try simp only [Act.put, zA1, zA2, zA3, zA4, zA5, zA6]
    refine wpAnyH_take (i := 9) (oi := _) (v := ?_) rfl (by kernel_rfl) (by kernel_rfl) (by kernel_rfl) (fun _ _ _ h => h) (Or.inl ⟨by rfl, ?_⟩) (by assumption) ?_
    rotate_left
    ·rintro w ⟨s0, s1, s2, s3⟩
     go_simp
     try with_reducible rfl
    try simp only [Act.put, zA1, zA2, zA3, zA4, zA5, zA6]
    refine wpAnyH_take (i := 10) (oi := _) (v := ?_) rfl (by kernel_rfl) (by kernel_rfl) (by kernel_rfl) (fun _ _ _ h => h) (Or.inl ⟨by rfl, ?_⟩) (by assumption) ?_
    rotate_left
    ·rintro w ⟨s0, s1, s2, s3⟩
     go_simp
     try with_reducible rfl
    try simp only [Act.put, zA1, zA2, zA3, zA4, zA5, zA6]
    refine wpAnyH_ready (rs := [11]) (by kernel_rfl) (by simp) ?_
    refine AllReadyH.cons (o := _) rfl (fun K hKK => ?_) AllReadyH.nil
    go_simp
    go_at_call 74
    refine (HMr.out _ hHeld.2.2.2).mono ?_
    rintro e w5 ⟨rfl, hb5⟩
    have ho5 := ownN (World.ownsRow.drew HOX.out) hb5
    rw [Hlen.out] at ho5
    have hX := bstep hHeld.2.2.2 hb5
    clear hHeld hb5
    go_wp2_with fail
    refine hKK.out _ _ ?_ (fun hHeld => ?_)
    ·exact HX.out _ hX
    clear hKK K
    try simp only [Act.put, zA1, zA2, zA3, zA4, zA5, zA6]
    clear hX
    refine wpAnyH_take (i := 12) (oi := _) (v := ?_) rfl (by kernel_rfl) (by kernel_rfl) (by kernel_rfl) (fun _ _ _ h => h) (Or.inl ⟨by rfl, ?_⟩) (by assumption) ?_
    rotate_left
    ·rintro w ⟨s0, s1, s2, s3⟩
     go_simp
     try with_reducible rfl
    try simp only [Act.put, zA1, zA2, zA3, zA4, zA5, zA6]
    refine wpAnyH_ready (rs := [13]) (by kernel_rfl) (by simp) ?_
    refine AllReadyH.cons (o := _) rfl (fun K hKK => ?_) AllReadyH.nil
    go_simp
    have hbA : Below w2.heap.size w2 (w5.alloc (.cells #[.string r.s, .int .i64 (rk : Int), .string mk1, .int .i64 mk2, .string mk3] 61)) := hHeld.2.2.2.alloc hHeld.2.2.2.size _
    refine hKK.out _ _ ?_ (fun hHeld => ?_)
    ·exact HX.out _ hbA
    clear hKK K
    try simp only [Act.put, zA1, zA2, zA3, zA4, zA5, zA6]
    refine wpAnyH_ready (rs := [14]) (by kernel_rfl) (by simp) ?_
    refine AllReadyH.cons (o := _) rfl (fun K hKK => ?_) AllReadyH.nil
    refine wp_append_own _ _ _ 29 rfl w2.heap.size 61 i0 (.agg #[.string ⟨#[]⟩, .int .i64 0, .string ⟨#[]⟩, .int .i64 0, .string ⟨#[]⟩]) 5 64 Tryz.underlying29 hi hz0 hz1 hz2 rfl (by decide) _ _ _ rfl (World.ownsRow.alloc ho5 _) ⟨w5.heap.size, 0, none⟩ 1 1 (Plc.cells ⟨r.s, (rk : Int), mk1, mk2, mk3⟩) rfl rfl (news5 _ ⟨r.s, (rk : Int), mk1, mk2, mk3⟩ _ _ rfl) (one5 _) (by unfold maxLen; omega) (by omega) hbA.size ?_
    intro v' w6 hown6 hgrow6 _
    have hb6 : Below w2.heap.size w2 w6 := hbA.grown hgrow6 hbA.size (fun q hq => (World.ownsRow.lt ho5 q hq).1)
    have ho6 : OwnPlcs w6 w2.heap.size v' (P ++ [⟨r.s, (rk : Int), mk1, mk2, mk3⟩]) := OwnPlcs.next (by rw [Hlen.out]; exact hown6)
    refine hKK.out _ _ ?_ (fun hHeld => ?_)
    ·exact HX.out _ hb6
    clear hKK K
    try simp only [Act.put, zA1, zA2, zA3, zA4, zA5, zA6]
    clear hown6 hgrow6 ho5
    refine wpAnyH_ready (rs := [15]) (by kernel_rfl) (by simp) ?_
    refine AllReadyH.cons (o := _) rfl (fun K hKK => ?_) AllReadyH.nil
    go_simp
    refine hKK.out _ _ ?_ (fun hHeld => ?_)
    ·exact HX.out _ hb6
    clear hKK K
    try simp only [Act.put, zA1, zA2, zA3, zA4, zA5, zA6]
    refine wpAnyH_done (by kernel_rfl) ?_ _
    have hX := hb6
    go_wp2
    go_roundw
    case rel => exact ⟨k + 1, by omega, by go_num, by rw [Hst.out]; exact ho6, hX⟩
    case measure => simp [RowKit.intOf]; omega
   ·have hkn : k = n := by omega
    rw [hkn, List.take_of_length_le (by rw [HPl.out]; omega)] at hown
    have ho : OwnPlcs wr w.heap.size _ (plcsOf L) := own_lowP hown (Nat.le_trans HB12.out.size (Nat.le_refl _))
    obtain ⟨A', c', rfl, hAr⟩ := HAr.out _ wr ho
    have HB := Lib.hid (bstep HB12.out hb)
    clear hown ho hb
    go_wp2_with fail
    refine hAr.mono ?_
    rintro e w6 ⟨v6, rfl, ho6, hb6⟩
    have HF := Lib.hid (And.intro (own_lowP ho6 HB.out.size) (bstep HB.out hb6))
    clear ho6 hb6 hAr
    go_wp2
    go_ret2
    exact ⟨_, rfl, HF.out⟩
 ·rw [if_neg h0]
  have hne : (rowsE L != 0) = true := by rw [bne_iff_ne]; exact h0
  generalize rowsE L = y at *
  clear h0 hZ hs
  go_enter Tryz.func24, Tryz.ntmps24
  go_wp2_with fail
  refine hC.mono ?_
  rintro e w1 ⟨rfl, hb1⟩
  go_wp2
  go_ret2
  exact ⟨_, rfl, World.ownsRow_nil _ _ _ _, hb1⟩
end Go.Mk
end
section
set_option linter.unusedVariables false
set_option linter.unusedSimpArgs false
open Go Go.Proofs Go.RowKit
set_option maxRecDepth 100000
namespace Go.Mk
def resC (p : Plc) : List Value := [.string p.nm, .string p.kd, .int .i64 p.vl, .string p.rs]
theorem PlcsZ.at_ {w : World} {A : Option Addr} {n : Nat} {L : List Plc} (h : PlcsZ w A n L) {k : Nat} (hk : k < n) : ∃ b off p, A = some ⟨b, off, none⟩ ∧ b < w.heap.size ∧ L[k]? = some p ∧ Cel5 w b (off + k * 5) p := by
  obtain ⟨b, off, e, hlt, hc⟩ := h.2 (by omega)
  have hl : k < L.length := by rw [h.1]; exact hk
  exact ⟨b, off, L[k], e, hlt, List.getElem?_eq_getElem hl, hc k _ (List.getElem?_eq_getElem hl)⟩
theorem arrL_len {n : Nat} {L : List Plc} (hn : L.length = n) (hr : ∀ p ∈ L, 0 ≤ p.rk ∧ p.rk ≤ n) : (arrL n L).length = n := by
  rw [← byKey_arr L n hn, List.length_map, (byKey_perm (fun i => bhd n (plF L i)) n (n + 1) (fun x hx => by
    have h3 := toks_mem.1 hx
    have h4 : x.toNat < L.length := by omega
    have h5 : plF L x ∈ L := by unfold plF; rw [List.getD_eq_getElem?_getD, List.getElem?_eq_getElem h4]; exact List.getElem_mem h4
    have h6 := hr _ h5
    unfold bhd
    split <;> omega)).length_eq, toks_len]
theorem rankL_len (L : List RowR) : (rankL L).length = L.length := by
  unfold rankL
  exact arrL_len (plcs_len L) (plcs_rk L)
end Go.Mk
end
section
set_option linter.unusedVariables false
set_option linter.unusedSimpArgs false
open Go Go.Proofs Go.RowKit Go.Sort
set_option maxRecDepth 100000
namespace Go.Mk
theorem OwnZ.at_ {w : World} {B k c : Nat} {a : Option Addr} {Q : List Int} (h : OwnZ w B (.slice a k c) Q) (hl : Q.length = k) {j : Nat} (hj : j < k) : ∃ go, a = some ⟨go, 0, none⟩ ∧ B ≤ go ∧ go < w.heap.size ∧ k ≤ c ∧ (c : Int) ≤ 9223372036854775807 ∧ w.cell? ⟨go, j, none⟩ = some (.int .i64 (ga Q j)) := by
  unfold OwnZ at h
  rw [hl] at h
  obtain ⟨g, cap, hv, hb, hg⟩ := ownSome h (by omega)
  cases hv
  refine ⟨g, rfl, hb, hg, ?_⟩
  have hcap : k ≤ c ∧ (c : Int) ≤ 9223372036854775807 := by
    rcases h.2 with ⟨q, _⟩ | ⟨g', cap', cur, a, b, c1, d, e1, f, hx⟩
    · simp at q
    · obtain ⟨rfl, rfl⟩ : g = g' ∧ c = cap' := by simpa using a
      have : maxLen = 9223372036854775807 := rfl
      exact ⟨by omega, by omega⟩
  refine ⟨hcap.1, hcap.2, ?_⟩
  rw [World.ownsRow.cellAt h j (by omega), List.getElem?_map, ga_at (by omega)]; rfl
theorem own_low {w : World} {B B' e size n : Nat} {v : Value} {xs : List Value} (h : w.ownsRow B e size v n xs) (hB : B' ≤ B) : w.ownsRow B' e size v n xs := by
  refine ⟨h.1, ?_⟩
  rcases h.2 with q | ⟨g, cap, cur, a, b, c⟩
  · exact .inl q
  · exact .inr ⟨g, cap, cur, a, Nat.le_trans hB b, c⟩
theorem ints_one (L : List Int) : ∀ u ∈ L.map (fun z => Value.int .i64 z), u.oneCell' = true := by
  intro u hu
  obtain ⟨z, _, rfl⟩ := List.mem_map.1 hu
  rfl
def atD (x : Int) (Q : List Int) : Nat → Nat
  | 0 => 0
  | j + 1 => if ga Q j < x then atD x Q j else j + 1
def insD (Q : List Int) (x : Int) : List Int := Q.take (atD x Q Q.length) ++ x :: Q.drop (atD x Q Q.length)
def serG : List Int → List Int → List Int
  | Q, [] => Q
  | Q, x :: l => if x < 0 then serG Q l else serG (insD Q x) l
end Go.Mk
end
section
set_option linter.unusedVariables false
set_option linter.unusedSimpArgs false
open Go Go.Proofs Go.RowKit
set_option maxRecDepth 100000
namespace Go.Mk
def rksZ (L : List RowR) : List Int := (List.range L.length).map fun i => ((rkB (rkR (sersOf L)) (rkBt (sersOf L)) L.length i : Nat) : Int)
end Go.Mk
end
