/-
  Proved: the reference's Ranking returns the places of rows in the order of their ranks, in new memory. Conditions: at most 100 rows, each with at most 12 trials, where the slices say.
-/
import Derived.Test.YtclapdfkgafenaaGreatDoorFrh
set_option linter.unusedVariables false
set_option linter.unusedSimpArgs false
open Go Go.Proofs Go.RowKit
set_option maxRecDepth 100000
namespace Go.Mk
theorem rksZ_at {L : List RowR} {n k : Nat} (hn : L.length = n) (hk : k < n) : (rksZ L)[k]? = some ((rkB (rkR (sersOf L)) (rkBt (sersOf L)) n k : Nat) : Int) := by
 unfold rksZ
 rw [hn, List.getElem?_map, List.getElem?_range hk]; rfl
theorem mkOf_some {r : RowR} {S : List Int} (h : serD r.T = S) (m : Nat) (hm : S.length = m) (h0 : 0 < m) : ∃ z, S[0]? = some z ∧ mkOf r = (sLength, z, ⟨#[]⟩) := by
 subst h
 unfold mkOf
 cases hS : serD r.T with
 | nil => rw [hS] at hm; simp at hm; omega
 | cons z l => exact ⟨z, rfl, rfl⟩
theorem mkOf_none {r : RowR} {S : List Int} (h : serD r.T = S) (hm : S.length = 0) : mkOf r = (sNone, 0, if decide (r.n = 0) && r.rt then sDNS else sNM) := by
 subst h
 unfold mkOf
 cases hS : serD r.T with
 | nil =>
  dsimp only
  congr 2
  by_cases q : r.n = 0
  ·cases r.rt <;> simp [q]
  ·have : 0 < r.n := by omega
   simp [q, this]
 | cons z l => rw [hS] at hm; simp at hm
theorem three_blk {w : World} {g : Nat} {a b c : Value} {t : TypeId} (k : w.heap[g]? = some (.cells #[a, b, c] t (0, 0))) : (w.cell? ⟨g, 0, none⟩ = some a ∧ w.cell? ⟨g, 1, none⟩ = some b ∧ w.cell? ⟨g, 2, none⟩ = some c) ∧ (w.frozen? ⟨g, 0, none⟩ = false ∧ w.frozen? ⟨g, 1, none⟩ = false ∧ w.frozen? ⟨g, 2, none⟩ = false) :=
 ⟨⟨Go.Joins.cell_of_block k 0, Go.Joins.cell_of_block k 1, Go.Joins.cell_of_block k 2⟩, Go.Joins.unfrozen_of_block k 0, Go.Joins.unfrozen_of_block k 1, Go.Joins.unfrozen_of_block k 2⟩
theorem apartM {w : World} {q B : Nat} {a b c : Value} {v : Value} {L : List Plc} (hk : w.heap[q]? = some (.cells #[a, b, c] 41 (0, 0))) (h : OwnPlR w B v L) : v.ownBlock = none ∨ v.ownBlock ≠ some q := by
 rcases h.2 with ⟨e, _⟩ | ⟨g, cap, cur, e, _, hg, _⟩
 ·exact .inl (by rw [e]; rfl)
 ·right
  rw [e]
  intro q'
  have q' : g = q := by simpa [Value.ownBlock] using q'
  subst q'
  rw [hg] at hk
  have h1 := Option.some.inj hk
  injection h1 with _ h2 _
  exact absurd h2 (by decide)
theorem ownThree {w : World} {q B : Nat} {v : Value} {L : List Plc} (hq : OwnPlR w B v L → v.ownBlock = none ∨ v.ownBlock ≠ some q) (h : OwnPlR w B v L) (a b c : Value) : OwnPlR (((w.setCell ⟨q, 0, none⟩ a).setCell ⟨q, 1, none⟩ b).setCell ⟨q, 2, none⟩ c) B v L :=
 World.ownsRow.kept h (((grown_set w q 0 a).trans (grown_set _ q 1 b)).trans (grown_set _ q 2 c)) (hq h)
theorem intsThree {w : World} {q n : Nat} {A : Option Addr} {L : List Int} (h : IntsZ w A n L) (hq : 0 < n → ∃ g o, A = some ⟨g, o, none⟩ ∧ g < q) (a b c : Value) : IntsZ (((w.setCell ⟨q, 0, none⟩ a).setCell ⟨q, 1, none⟩ b).setCell ⟨q, 2, none⟩ c) A n L := by
 refine ⟨h.1, fun h0 => ?_⟩
 obtain ⟨g, o, e, hl, hc⟩ := h.2 h0
 obtain ⟨g', o', e', hlt⟩ := hq h0
 rw [e] at e'
 cases e'
 have hg := (((grown_set w q 0 a).trans (grown_set _ q 1 b)).trans (grown_set _ q 2 c))
 exact ⟨g, o, e, Nat.lt_of_lt_of_le hl hg.size, fun j x hx => hg.cell (hc j x hx) (fun e => absurd (show g = q by simpa using e) (by omega))⟩
set_option maxHeartbeats 16000000 in
theorem r6Ranking_any (L : List RowR) (n cap : Nat) (A : Option Addr) (w : World) (hZ : Rows w A n L) (hn : n ≤ 100) (hs : ∀ r ∈ L, r.n ≤ 12) :
  Calls Tryz.prog 13 #[.slice A n cap] w (fun e w' => ∃ v, e = .returned v ∧ OwnPlR w' w.heap.size v (rankL L) ∧ Below w.heap.size w w') := by
 obtain ⟨i0, hi, hz0, hz1, hz2⟩ := info_parts infoPlR
 have hni : (n : Int) ≤ 100 := by omega
 have hR := r6RowRanks_any L n cap A w hZ hn hs
 have H := Lib.hid hZ
 have HL := Lib.hid hZ.1
 have HSr : Hid (∀ (k : Nat) (r : RowR) (w' : World), L[k]? = some r → IntsZ w' r.A r.n r.T → Calls Tryz.prog 52 #[.agg #[.string r.s, .slice r.A r.n r.c, .bool r.rt]] w' (fun e w'' => ∃ v, e = .returned v ∧ OwnZ w'' w'.heap.size v (serD r.T) ∧ Below w'.heap.size w' w'')) := Lib.hid fun k r w' hk hT =>
  r6Series_any r w' hT (hs r (List.mem_of_getElem? hk))
 have HOr : Hid (∀ (v : Value) (w' : World), OwnPlR w' w.heap.size v (plcsOf L) → ∃ A' c', v = .slice A' n c' ∧ Calls Tryz.prog 54 #[.slice A' n c'] w' (fun e w'' => ∃ v, e = .returned v ∧ OwnPlR w'' w'.heap.size v (rankL L) ∧ Below w'.heap.size w' w'')) := Lib.hid fun v w' ho => by
  obtain ⟨A', c', rfl, hP⟩ := PlcsZ.of_ownR ho
  rw [plcs_len, hZ.1] at hP ⊢
  refine ⟨A', c', rfl, ?_⟩
  have := r6ordered_any (plcsOf L) n c' A' w' hP hn
  rw [ordP_eq n (plcsOf L) (fun p hp => by have := plcs_rk L p hp; rw [hZ.1] at this; exact this)] at this
  unfold rankL
  rw [hZ.1]
  exact this
 have HPa : Hid (∀ (k : Nat) (r : RowR), L[k]? = some r → (plcsOf L)[k]? = some (plcOf L n k r)) := Lib.hid fun k r h => by rw [← hZ.1]; exact plcs_at h
 have HPl : Hid ((plcsOf L).length = n) := Lib.hid (by rw [plcs_len, hZ.1])
 have HRa : Hid (∀ k, k < n → (rksZ L)[k]? = some ((rkB (rkR (sersOf L)) (rkBt (sersOf L)) n k : Nat) : Int)) := Lib.hid fun k hk => rksZ_at hZ.1 hk
 have HRl : Hid ((rksZ L).length = n) := Lib.hid (by unfold rksZ; simp [hZ.1])
 clear hZ hs
 go_enter Tryz.func13, Tryz.ntmps13
 go_wp2_with fail
 refine hR.mono ?_
 rintro e w2 ⟨v2, rfl, ho2, hb2⟩
 obtain ⟨A2, c2, rfl, hI2⟩ := IntsZ.of_own ho2
 rw [HRl.out] at hI2 ⊢
 have HI2 := Lib.hid hI2
 have HB2 := Lib.hid hb2
 clear ho2 hI2 hb2 hR
 go_wp2
 go_loopw [4, 5] (fun v i wr => ∃ k : Nat, k ≤ n ∧ i = .int .i64 k ∧ OwnPlR wr w2.heap.size v ((plcsOf L).take k) ∧ Below w2.heap.size w2 wr) (fun _ i _ => n - (RowKit.intOf i).toNat)
 case atStart => exact ⟨0, by omega, rfl, World.ownsRow_nil _ _ _ _, Below.refl _ _⟩
 case round =>
  obtain ⟨k, hk, rfl, hown, hb⟩ := hrel
  by_cases hlt : k < n
  ·have hbw : Below w.heap.size w wr := bstep HB2.out hb
   obtain ⟨b', off, r, rfl, hbl, hx, ⟨hc0, hc1, hc2⟩, hT, hcap⟩ := H.out.at_ hlt
   obtain ⟨b3, off3, z3, rfl, hbl3, hz3, hc3⟩ := HI2.out.cellAt hlt
   have hrk := HRa.out k hlt
   rw [hz3] at hrk
   obtain rfl := Option.some.inj hrk
   have hki : (k : Int) < (n : Int) := by omega
   have hk0 : (0 : Int) ≤ (k : Int) := by omega
   have hkt : ((k : Int)).toNat = k := by omega
   have hlen : ((plcsOf L).take k).length = k := by rw [List.length_take, HPl.out]; omega
   have hpx := HPa.out k r hx
   have hst : (plcsOf L).take (k + 1) = (plcsOf L).take k ++ [plcOf L n k r] := by rw [List.take_add_one, hpx]; rfl
   have Hst := Lib.hid hst
   have Hlen := Lib.hid hlen
   have HPE : Hid (plcOf L n k r = ⟨r.s, (rkB (rkR (sersOf L)) (rkBt (sersOf L)) n k : Nat), (mkOf r).1, (mkOf r).2.1, (mkOf r).2.2⟩) := Lib.hid rfl
   have d0 := (hbw.cell (p := ⟨b', _, none⟩) hbl).trans hc0
   have d1 := (hbw.cell (p := ⟨b', _, none⟩) hbl).trans hc1
   have d2 := (hbw.cell (p := ⟨b', _, none⟩) hbl).trans hc2
   have hS := HSr.out k r wr hx (hT.below hbw)
   have HX : Hid (∀ w', Below w2.heap.size w2 w' → (w'.cell? ⟨b', off + k * 3, none⟩ = some (.string r.s) ∧ w'.cell? ⟨b', off + k * 3 + 1, none⟩ = some (.slice r.A r.n r.c) ∧ w'.cell? ⟨b', off + k * 3 + 2, none⟩ = some (.bool r.rt)) ∧ w'.cell? ⟨b3, off3 + k, none⟩ = some (.int .i64 ((rkB (rkR (sersOf L)) (rkBt (sersOf L)) n k : Nat) : Int)) ∧ Below w2.heap.size w2 w') := Lib.hid fun w' hb' =>
    have hq := bstep HB2.out hb'
    ⟨⟨(hq.cell (p := ⟨b', _, none⟩) hbl).trans hc0, (hq.cell (p := ⟨b', _, none⟩) hbl).trans hc1, (hq.cell (p := ⟨b', _, none⟩) hbl).trans hc2⟩, (hb'.cell (p := ⟨b3, _, none⟩) hbl3).trans hc3, hb'⟩
   have HMS : Hid (∀ S, serD r.T = S → ∀ m, S.length = m → 0 < m → ∃ z, S[0]? = some z ∧ mkOf r = (sLength, z, ⟨#[]⟩)) := Lib.hid fun S h m hm h0 => mkOf_some h m hm h0
   have HMN : Hid (∀ S, serD r.T = S → S.length = 0 → mkOf r = (sNone, 0, if decide (r.n = 0) && r.rt then sDNS else sNM)) := Lib.hid fun S h hm => mkOf_none h hm
   have HOX := Lib.hid hown
   have HB := Lib.hid hb
   generalize rkB (rkR (sersOf L)) (rkBt (sersOf L)) n k = rk at *
   generalize hP : (plcsOf L).take k = P at *
   have HP := Lib.hid hP
   obtain ⟨S, hSS⟩ : ∃ S, serD r.T = S := ⟨_, rfl⟩
   rw [hSS] at hS
   have HMS2 := Lib.hid (HMS.out S hSS)
   have HMN2 := Lib.hid (HMN.out S hSS)
   clear hst hlen hx hown hb hbw hT hcap hpx hrk hz3 hc0 hc1 hc2 hc3 hbl hbl3 hP HMS HMN hSS
   go_wp2_with fail
   refine hS.mono ?_
   rintro e w5 ⟨v5, rfl, ho5, hb5⟩
   obtain ⟨A5, c5, rfl, hI5⟩ := IntsZ.of_own ho5
   obtain ⟨m5, hm5⟩ : ∃ m, S.length = m := ⟨_, rfl⟩
   rw [hm5] at hI5 ⊢
   have HM5 := Lib.hid hm5
   have HI5 := Lib.hid hI5
   have HB5 := Lib.hid (bstep HB.out hb5)
   have ho5b := ownN HOX.out hb5
   have HO5 : Hid (OwnPlR w5 w2.heap.size _ P) := Lib.hid ho5b
   clear ho5 hI5 hb5 ho5b hS hm5
   have hU := fun w' => r6unmarked_any (decide (r.n = 0)) r.rt w'
   obtain ⟨⟨d0, d1, d2⟩, d3, _⟩ := HX.out w5 HB5.out
   have hrn : ((r.n : Int) == 0) = decide (r.n = 0) := by
    by_cases q : r.n = 0
    ·simp [q]
    ·simp [q]
   obtain ⟨tx, htx⟩ : ∃ tx, (if decide (r.n = 0) && r.rt then sDNS else sNM) = tx := ⟨_, rfl⟩
   rw [htx] at hU HMN2
   have hU2 : ∀ w', Calls Tryz.prog 53 #[.bool (decide (r.n = 0)), .bool r.rt] w' (RetPost (.agg #[.string ⟨#[110, 111, 110, 101]⟩, .int .i64 0, .string tx]) w') := hU
   have HU := Lib.hid hU2
   clear hU hU2 htx
   go_wp2_with fail
   refine wp_region_held_drew (S := fun w' => (w'.cell? ⟨b', off + k * 3, none⟩ = some (.string r.s) ∧ w'.cell? ⟨b', off + k * 3 + 1, none⟩ = some (.slice r.A r.n r.c) ∧ w'.cell? ⟨b', off + k * 3 + 2, none⟩ = some (.bool r.rt)) ∧ w'.cell? ⟨b3, off3 + k, none⟩ = some (.int .i64 (rk : Int)) ∧ Below w2.heap.size w2 w') (by kernel_rfl) ?_ (fun hHeld => ?_)
   ·exact HX.out _ (by first | exact Below.drew HB5.out | exact Below.drew (below_drewN HB5.out _))
   refine wpAnyH_take (i := 0) (oi := _) (v := ?_) rfl (by kernel_rfl) (by kernel_rfl) (by kernel_rfl) (fun _ _ _ h => h) (Or.inl ⟨by rfl, ?_⟩) (by assumption) ?_
   rotate_left
   ·rintro w ⟨⟨s0, s1, s2⟩, s3, s4⟩
    go_simp
    try simp only [hrn]
    try with_reducible rfl
   try simp only [Act.put, zA1, zA2, zA3, zA4, zA5, zA6]
   refine wpAnyH_take (i := 1) (oi := _) (v := ?_) rfl (by kernel_rfl) (by kernel_rfl) (by kernel_rfl) (fun _ _ _ h => h) (Or.inl ⟨by rfl, ?_⟩) (by assumption) ?_
   rotate_left
   ·rintro w ⟨⟨s0, s1, s2⟩, s3, s4⟩
    go_simp
    try simp only [hrn]
    try with_reducible rfl
   try simp only [Act.put, zA1, zA2, zA3, zA4, zA5, zA6]
   refine wpAnyH_take (i := 2) (oi := _) (v := ?_) rfl (by kernel_rfl) (by kernel_rfl) (by kernel_rfl) (fun _ _ _ h => h) (Or.inl ⟨by rfl, ?_⟩) (by assumption) ?_
   rotate_left
   ·rintro w ⟨⟨s0, s1, s2⟩, s3, s4⟩
    go_simp
    try simp only [hrn]
    try with_reducible rfl
   try simp only [Act.put, zA1, zA2, zA3, zA4, zA5, zA6]
   refine wpAnyH_take (i := 3) (oi := _) (v := ?_) rfl (by kernel_rfl) (by kernel_rfl) (by kernel_rfl) (fun _ _ _ h => h) (Or.inl ⟨by rfl, ?_⟩) (by assumption) ?_
   rotate_left
   ·rintro w ⟨⟨s0, s1, s2⟩, s3, s4⟩
    go_simp
    try simp only [hrn]
    try with_reducible rfl
   try simp only [Act.put, zA1, zA2, zA3, zA4, zA5, zA6]
   refine wpAnyH_take (i := 4) (oi := _) (v := ?_) rfl (by kernel_rfl) (by kernel_rfl) (by kernel_rfl) (fun _ _ _ h => h) (Or.inl ⟨by rfl, ?_⟩) (by assumption) ?_
   rotate_left
   ·rintro w ⟨⟨s0, s1, s2⟩, s3, s4⟩
    go_simp
    try simp only [hrn]
    try with_reducible rfl
   try simp only [Act.put, zA1, zA2, zA3, zA4, zA5, zA6]
   refine wpAnyH_take (i := 5) (oi := _) (v := ?_) rfl (by kernel_rfl) (by kernel_rfl) (by kernel_rfl) (fun _ _ _ h => h) (Or.inl ⟨by rfl, ?_⟩) (by assumption) ?_
   rotate_left
   ·rintro w ⟨⟨s0, s1, s2⟩, s3, s4⟩
    go_simp
    try simp only [hrn]
    try with_reducible rfl
   try simp only [Act.put, zA1, zA2, zA3, zA4, zA5, zA6]
   refine wpAnyH_take (i := 6) (oi := _) (v := ?_) rfl (by kernel_rfl) (by kernel_rfl) (by kernel_rfl) (fun _ _ _ h => h) (Or.inl ⟨by rfl, ?_⟩) (by assumption) ?_
   rotate_left
   ·rintro w ⟨⟨s0, s1, s2⟩, s3, s4⟩
    go_simp
    try simp only [hrn]
    try with_reducible rfl
   try simp only [Act.put, zA1, zA2, zA3, zA4, zA5, zA6]
   refine wpAnyH_take (i := 7) (oi := _) (v := ?_) rfl (by kernel_rfl) (by kernel_rfl) (by kernel_rfl) (fun _ _ _ h => h) (Or.inl ⟨by rfl, ?_⟩) (by assumption) ?_
   rotate_left
   ·rintro w ⟨⟨s0, s1, s2⟩, s3, s4⟩
    go_simp
    try simp only [hrn]
    try with_reducible rfl
   try simp only [Act.put, zA1, zA2, zA3, zA4, zA5, zA6]
   refine wpAnyH_take (i := 8) (oi := _) (v := ?_) rfl (by kernel_rfl) (by kernel_rfl) (by kernel_rfl) (fun _ _ _ h => h) (Or.inl ⟨by rfl, ?_⟩) (by assumption) ?_
   rotate_left
   ·rintro w ⟨⟨s0, s1, s2⟩, s3, s4⟩
    go_simp
    try simp only [hrn]
    try with_reducible rfl
   try simp only [Act.put, zA1, zA2, zA3, zA4, zA5, zA6]
   refine wpAnyH_take (i := 9) (oi := _) (v := ?_) rfl (by kernel_rfl) (by kernel_rfl) (by kernel_rfl) (fun _ _ _ h => h) (Or.inl ⟨by rfl, ?_⟩) (by assumption) ?_
   rotate_left
   ·rintro w ⟨⟨s0, s1, s2⟩, s3, s4⟩
    go_simp
    try simp only [hrn]
    try with_reducible rfl
   try simp only [Act.put, zA1, zA2, zA3, zA4, zA5, zA6]
   refine wpAnyH_take (i := 10) (oi := _) (v := ?_) rfl (by kernel_rfl) (by kernel_rfl) (by kernel_rfl) (fun _ _ _ h => h) (Or.inl ⟨by rfl, ?_⟩) (by assumption) ?_
   rotate_left
   ·rintro w ⟨⟨s0, s1, s2⟩, s3, s4⟩
    go_simp
    try simp only [hrn]
    try with_reducible rfl
   try simp only [Act.put, zA1, zA2, zA3, zA4, zA5, zA6]
   refine wpAnyH_take (i := 11) (oi := _) (v := ?_) rfl (by kernel_rfl) (by kernel_rfl) (by kernel_rfl) (fun _ _ _ h => h) (Or.inl ⟨by rfl, ?_⟩) (by assumption) ?_
   rotate_left
   ·rintro w ⟨⟨s0, s1, s2⟩, s3, s4⟩
    go_simp
    try simp only [hrn]
    try with_reducible rfl
   try simp only [Act.put, zA1, zA2, zA3, zA4, zA5, zA6]
   generalize hwd : World.drew w5 = wd at hHeld ⊢
   have hod := World.ownsRow.drew HO5.out
   rw [hwd] at hod
   have HID : Hid (IntsZ wd A5 m5 S) := Lib.hid (by rw [← hwd]; exact HI5.out.below (Below.drew (Below.refl _ _)))
   have HOD := Lib.hid hod
   clear hwd hod
   refine wpAnyH_ready (rs := [12, 13]) (by kernel_rfl) (by simp) ?_
   refine AllReadyH.cons (o := _) rfl (fun K hKK => ?_) ?_
   ·skip
    go_simp
    go_at_call 53
    refine (HU.out _).mono ?_
    rintro e w6 ⟨rfl, hb6⟩
    have hX := bstep hHeld.2.2 hb6
    have HO6 := Lib.hid (ownN HOD.out hb6)
    have HI6 := Lib.hid (HID.out.below hb6)
    clear hHeld hb6
    go_wp2_with fail
    refine hKK.out _ _ ?_ (fun hHeld => ?_)
    ·exact HX.out _ hX
    clear hKK K
    try simp only [Act.put, zA1, zA2, zA3, zA4, zA5, zA6]
    clear hX
    refine wpAnyH_ready (rs := [13]) (by kernel_rfl) (by simp) ?_
    refine AllReadyH.cons (o := _) rfl (fun K hKK => ?_) AllReadyH.nil
    go_simp
    have hA : Below w2.heap.size w2 (w6.alloc (.cells #[.string ⟨#[]⟩, .int .i64 0, .string ⟨#[]⟩] 41)) := hHeld.2.2.alloc hHeld.2.2.size _
    have hb6 := hHeld.2.2
    refine hKK.out _ _ ?_ (fun hHeld => ?_)
    ·exact HX.out _ hA
    clear hKK K
    try simp only [Act.put, zA1, zA2, zA3, zA4, zA5, zA6]
    refine wpAnyH_ready (rs := [14]) (by kernel_rfl) (by simp) ?_
    refine AllReadyH.cons (o := _) rfl (fun K hKK => ?_) AllReadyH.nil
    go_simp
    have hA2 : Below w2.heap.size w2 (w6.alloc (.cells #[.string ⟨#[110, 111, 110, 101]⟩, .int .i64 0, .string tx] 41)) := hb6.alloc hb6.size _
    refine hKK.out _ _ ?_ (fun hHeld => ?_)
    ·exact HX.out _ hA2
    clear hKK K
    try simp only [Act.put, zA1, zA2, zA3, zA4, zA5, zA6]
    refine wpAnyH_done (by kernel_rfl) ?_ _
    obtain ⟨wf, hwf⟩ : ∃ wf, w6.alloc (.cells #[.string ⟨#[110, 111, 110, 101]⟩, .int .i64 0, .string tx] 41) = wf := ⟨_, rfl⟩
    obtain ⟨q, hq⟩ : ∃ q, w6.heap.size = q := ⟨_, rfl⟩
    have hblk : wf.heap[q]? = some (.cells #[.string ⟨#[110, 111, 110, 101]⟩, .int .i64 0, .string tx] 41 (0, 0)) := by rw [← hwf, ← hq]; exact World.alloc_heap_new w6 _
    have hof := World.ownsRow.alloc HO6.out (.cells #[.string ⟨#[110, 111, 110, 101]⟩, .int .i64 0, .string tx] 41)
    rw [hwf] at hof
    have hqi : w2.heap.size ≤ q := by rw [← hq]; exact hb6.size
    have hapart : Hid (IntsZ wf A5 m5 S ∧ (∀ v L', OwnPlR wf w2.heap.size v L' → v.ownBlock = none ∨ v.ownBlock ≠ some q) ∧ (0 < m5 → ∃ g o, A5 = some ⟨g, o, none⟩ ∧ g < q)) := Lib.hid (by
     refine ⟨by rw [← hwf]; exact HI6.out.below (balloc _ (Below.refl _ _)), fun v L' h => apartM hblk h, fun h => ?_⟩
     obtain ⟨g, o, x, e1, e2, _⟩ := HI6.out.cellAt h
     exact ⟨g, o, e1, by omega⟩)
    have hbf : Below w2.heap.size w2 wf := by rw [← hwf]; exact hA2
    try rw [hwf, hq]
    obtain ⟨⟨d0, d1, d2⟩, d3, _⟩ := HX.out wf hbf
    have HBF := Lib.hid hbf
    have HOF := Lib.hid hof
    have HQI := Lib.hid hqi
    by_cases hp : 0 < m5
    ·have hpi : (0 : Int) < (m5 : Int) := by omega
     obtain ⟨z0, hz0', hmk⟩ := HMS2.out m5 HM5.out hp
     have HMK := Lib.hid hmk
     obtain ⟨g5, o5, z5, rfl, _, hz5, hc5⟩ := hapart.out.1.cellAt hp
     obtain rfl : z0 = z5 := by rw [hz0'] at hz5; exact Option.some.inj hz5
     rw [Nat.add_zero] at hc5
     obtain ⟨⟨e0, e1, e2⟩, f0, f1, f2⟩ := three_blk hblk
     have hblk2 := three_set hblk (.string ⟨#[108, 101, 110, 103, 116, 104]⟩) (.int .i64 z0) (.string ⟨#[]⟩)
     have hbf2 := three_below hbf hqi (.string ⟨#[108, 101, 110, 103, 116, 104]⟩) (.int .i64 z0) (.string ⟨#[]⟩)
     obtain ⟨wg, hwg⟩ : ∃ wg, ((wf.setCell ⟨q, 0, none⟩ (.string ⟨#[108, 101, 110, 103, 116, 104]⟩)).setCell ⟨q, 1, none⟩ (.int .i64 z0)).setCell ⟨q, 2, none⟩ (.string ⟨#[]⟩) = wg := ⟨_, rfl⟩
     have hog := ownThree (L := P) (apartM hblk) HOF.out (.string ⟨#[108, 101, 110, 103, 116, 104]⟩) (.int .i64 z0) (.string ⟨#[]⟩)
     rw [hwg] at hblk2 hbf2 hog
     have HOG := Lib.hid hog
     have HBG := Lib.hid hbf2
     obtain ⟨⟨g0, g1, g2⟩, _⟩ := three_blk hblk2
     have HGQ := Lib.hid hblk2
     clear hz0' hmk hz5 hblk hblk2 hbf hbf2 hof hog hqi hapart d0 d1 d2 d3 g0 g1 g2
     go_wp2_with fail
     obtain ⟨⟨d0, d1, d2⟩, d3, _⟩ := HX.out wg HBG.out
     obtain ⟨⟨g0, g1, g2⟩, _⟩ := three_blk HGQ.out
     clear e0 e1 e2 f0 f1 f2 hc5
     have HPP : Hid (plcOf L n k r = ⟨r.s, (rk : Int), ⟨#[108, 101, 110, 103, 116, 104]⟩, z0, ⟨#[]⟩⟩) := Lib.hid (by rw [HPE.out, HMK.out]; rfl)
     have HY : Hid (∀ w', Below wg.heap.size wg w' → ((w'.cell? ⟨b', off + k * 3, none⟩ = some (.string r.s) ∧ w'.cell? ⟨b3, off3 + k, none⟩ = some (.int .i64 (rk : Int))) ∧ (w'.cell? ⟨q, 0, none⟩ = some (.string ⟨#[108, 101, 110, 103, 116, 104]⟩) ∧ w'.cell? ⟨q, 1, none⟩ = some (.int .i64 z0) ∧ w'.cell? ⟨q, 2, none⟩ = some (.string ⟨#[]⟩)) ∧ Below w2.heap.size w2 w')) := Lib.hid fun w' hb' => by
      have h1 := HX.out w' (bstep HBG.out hb')
      have h2 := three_blk ((hb'.block q (Array.getElem?_eq_some_iff.1 HGQ.out).1).trans HGQ.out)
      exact ⟨⟨h1.1.1, h1.2.1⟩, h2.1, h1.2.2⟩
     try clear g0 g1 g2
     have ho8 := HOG.out
     try unfold OwnPlR at ho8
     rw [Hlen.out] at ho8
     clear d0 d1 d2 d3
     go_wp2_with fail
     refine wp_region_held_drew (S := fun w' => (w'.cell? ⟨b', off + k * 3, none⟩ = some (.string r.s) ∧ w'.cell? ⟨b3, off3 + k, none⟩ = some (.int .i64 (rk : Int))) ∧ (w'.cell? ⟨q, 0, none⟩ = some (.string ⟨#[108, 101, 110, 103, 116, 104]⟩) ∧ w'.cell? ⟨q, 1, none⟩ = some (.int .i64 z0) ∧ w'.cell? ⟨q, 2, none⟩ = some (.string ⟨#[]⟩)) ∧ Below w2.heap.size w2 w') (by kernel_rfl) ?_ (fun hHeld => ?_)
     ·exact HY.out _ (by first | exact Below.drew (Below.refl _ _) | exact Below.drew (below_drewN (Below.refl _ _) _))
     refine wpAnyH_take (i := 0) (oi := _) (v := ?_) rfl (by kernel_rfl) (by kernel_rfl) (by kernel_rfl) (fun _ _ _ h => h) (Or.inl ⟨by rfl, ?_⟩) (by assumption) ?_
     rotate_left
     ·rintro w ⟨⟨s0, s3⟩, ⟨g0, g1, g2⟩, s4⟩
      go_simp
      try with_reducible rfl
     try simp only [Act.put, zA1, zA2, zA3, zA4, zA5, zA6]
     refine wpAnyH_take (i := 1) (oi := _) (v := ?_) rfl (by kernel_rfl) (by kernel_rfl) (by kernel_rfl) (fun _ _ _ h => h) (Or.inl ⟨by rfl, ?_⟩) (by assumption) ?_
     rotate_left
     ·rintro w ⟨⟨s0, s3⟩, ⟨g0, g1, g2⟩, s4⟩
      go_simp
      try with_reducible rfl
     try simp only [Act.put, zA1, zA2, zA3, zA4, zA5, zA6]
     refine wpAnyH_take (i := 2) (oi := _) (v := ?_) rfl (by kernel_rfl) (by kernel_rfl) (by kernel_rfl) (fun _ _ _ h => h) (Or.inl ⟨by rfl, ?_⟩) (by assumption) ?_
     rotate_left
     ·rintro w ⟨⟨s0, s3⟩, ⟨g0, g1, g2⟩, s4⟩
      go_simp
      try with_reducible rfl
     try simp only [Act.put, zA1, zA2, zA3, zA4, zA5, zA6]
     refine wpAnyH_take (i := 3) (oi := _) (v := ?_) rfl (by kernel_rfl) (by kernel_rfl) (by kernel_rfl) (fun _ _ _ h => h) (Or.inl ⟨by rfl, ?_⟩) (by assumption) ?_
     rotate_left
     ·rintro w ⟨⟨s0, s3⟩, ⟨g0, g1, g2⟩, s4⟩
      go_simp
      try with_reducible rfl
     try simp only [Act.put, zA1, zA2, zA3, zA4, zA5, zA6]
     refine wpAnyH_take (i := 4) (oi := _) (v := ?_) rfl (by kernel_rfl) (by kernel_rfl) (by kernel_rfl) (fun _ _ _ h => h) (Or.inl ⟨by rfl, ?_⟩) (by assumption) ?_
     rotate_left
     ·rintro w ⟨⟨s0, s3⟩, ⟨g0, g1, g2⟩, s4⟩
      go_simp
      try with_reducible rfl
     try simp only [Act.put, zA1, zA2, zA3, zA4, zA5, zA6]
     refine wpAnyH_take (i := 5) (oi := _) (v := ?_) rfl (by kernel_rfl) (by kernel_rfl) (by kernel_rfl) (fun _ _ _ h => h) (Or.inl ⟨by rfl, ?_⟩) (by assumption) ?_
     rotate_left
     ·rintro w ⟨⟨s0, s3⟩, ⟨g0, g1, g2⟩, s4⟩
      go_simp
      try with_reducible rfl
     try simp only [Act.put, zA1, zA2, zA3, zA4, zA5, zA6]
     refine wpAnyH_take (i := 6) (oi := _) (v := ?_) rfl (by kernel_rfl) (by kernel_rfl) (by kernel_rfl) (fun _ _ _ h => h) (Or.inl ⟨by rfl, ?_⟩) (by assumption) ?_
     rotate_left
     ·rintro w ⟨⟨s0, s3⟩, ⟨g0, g1, g2⟩, s4⟩
      go_simp
      try with_reducible rfl
     try simp only [Act.put, zA1, zA2, zA3, zA4, zA5, zA6]
     refine wpAnyH_take (i := 7) (oi := _) (v := ?_) rfl (by kernel_rfl) (by kernel_rfl) (by kernel_rfl) (fun _ _ _ h => h) (Or.inl ⟨by rfl, ?_⟩) (by assumption) ?_
     rotate_left
     ·rintro w ⟨⟨s0, s3⟩, ⟨g0, g1, g2⟩, s4⟩
      go_simp
      try with_reducible rfl
     try simp only [Act.put, zA1, zA2, zA3, zA4, zA5, zA6]
     refine wpAnyH_take (i := 8) (oi := _) (v := ?_) rfl (by kernel_rfl) (by kernel_rfl) (by kernel_rfl) (fun _ _ _ h => h) (Or.inl ⟨by rfl, ?_⟩) (by assumption) ?_
     rotate_left
     ·rintro w ⟨⟨s0, s3⟩, ⟨g0, g1, g2⟩, s4⟩
      go_simp
      try with_reducible rfl
     try simp only [Act.put, zA1, zA2, zA3, zA4, zA5, zA6]
     refine wpAnyH_take (i := 9) (oi := _) (v := ?_) rfl (by kernel_rfl) (by kernel_rfl) (by kernel_rfl) (fun _ _ _ h => h) (Or.inl ⟨by rfl, ?_⟩) (by assumption) ?_
     rotate_left
     ·rintro w ⟨⟨s0, s3⟩, ⟨g0, g1, g2⟩, s4⟩
      go_simp
      try with_reducible rfl
     try simp only [Act.put, zA1, zA2, zA3, zA4, zA5, zA6]
     refine wpAnyH_take (i := 10) (oi := _) (v := ?_) rfl (by kernel_rfl) (by kernel_rfl) (by kernel_rfl) (fun _ _ _ h => h) (Or.inl ⟨by rfl, ?_⟩) (by assumption) ?_
     rotate_left
     ·rintro w ⟨⟨s0, s3⟩, ⟨g0, g1, g2⟩, s4⟩
      go_simp
      try with_reducible rfl
     try simp only [Act.put, zA1, zA2, zA3, zA4, zA5, zA6]
     refine wpAnyH_take (i := 11) (oi := _) (v := ?_) rfl (by kernel_rfl) (by kernel_rfl) (by kernel_rfl) (fun _ _ _ h => h) (Or.inl ⟨by rfl, ?_⟩) (by assumption) ?_
     rotate_left
     ·rintro w ⟨⟨s0, s3⟩, ⟨g0, g1, g2⟩, s4⟩
      go_simp
      try with_reducible rfl
     try simp only [Act.put, zA1, zA2, zA3, zA4, zA5, zA6]
     have hbW := hHeld.2.2
     have ho9 := World.ownsRow.drew ho8
     generalize hwe : World.drew wg = we at hbW ho9 hHeld ⊢
     have HBE : Hid (Below wg.heap.size wg we) := Lib.hid (by rw [← hwe]; exact Below.drew (Below.refl _ _))
     clear hwe
     refine wpAnyH_ready (rs := [12]) (by kernel_rfl) (by simp) ?_
     refine AllReadyH.cons (o := _) rfl (fun K hKK => ?_) AllReadyH.nil
     go_simp
     have hbA : Below w2.heap.size w2 (we.alloc (.cells #[.string r.s, .int .i64 (rk : Int), .string ⟨#[108, 101, 110, 103, 116, 104]⟩, .int .i64 z0, .string ⟨#[]⟩] 45)) := hbW.alloc hbW.size _
     have hbA2 : Below wg.heap.size wg (we.alloc (.cells #[.string r.s, .int .i64 (rk : Int), .string ⟨#[108, 101, 110, 103, 116, 104]⟩, .int .i64 z0, .string ⟨#[]⟩] 45)) := HBE.out.alloc HBE.out.size _
     refine hKK.out _ _ ?_ (fun hHeld => ?_)
     ·exact HY.out _ hbA2
     clear hKK K
     try simp only [Act.put, zA1, zA2, zA3, zA4, zA5, zA6]
     refine wpAnyH_ready (rs := [13]) (by kernel_rfl) (by simp) ?_
     refine AllReadyH.cons (o := _) rfl (fun K hKK => ?_) AllReadyH.nil
     refine wp_append_own _ _ _ 36 rfl w2.heap.size 45 i0 (.agg #[.string ⟨#[]⟩, .int .i64 0, .string ⟨#[]⟩, .int .i64 0, .string ⟨#[]⟩]) 5 64 Tryz.underlying36 hi hz0 hz1 hz2 rfl (by decide) _ _ _ rfl (World.ownsRow.alloc ho9 _) ⟨we.heap.size, 0, none⟩ 1 1 (Plc.cells ⟨r.s, (rk : Int), ⟨#[108, 101, 110, 103, 116, 104]⟩, z0, ⟨#[]⟩⟩) rfl rfl (news5 _ ⟨r.s, (rk : Int), ⟨#[108, 101, 110, 103, 116, 104]⟩, z0, ⟨#[]⟩⟩ _ _ rfl) (one5 _) (by unfold maxLen; omega) (by omega) hbA.size ?_
     intro v' w9 hown9 hgrow9 _
     have hb9 : Below w2.heap.size w2 w9 := hbA.grown hgrow9 hbA.size (fun q' hq' => (World.ownsRow.lt ho9 q' hq').1)
     have hoo9 : OwnPlR w9 w2.heap.size v' (P ++ [⟨r.s, (rk : Int), ⟨#[108, 101, 110, 103, 116, 104]⟩, z0, ⟨#[]⟩⟩]) := OwnPlR.next (by rw [Hlen.out]; exact hown9)
     refine hKK.out _ _ ?_ (fun hHeld => ?_)
     ·have h1 := HX.out w9 hb9
      have hap := apartM (L := P) HGQ.out HOG.out
      have h2 := three_blk ((hgrow9.block q (Nat.lt_of_lt_of_le (Array.getElem?_eq_some_iff.1 HGQ.out).1 hbA2.size) (fun e => hap.elim (fun h => absurd (e.trans h) (by simp)) (fun h => h e.symm))).trans ((hbA2.block q (Array.getElem?_eq_some_iff.1 HGQ.out).1).trans HGQ.out))
      exact ⟨⟨h1.1.1, h1.2.1⟩, h2.1, hb9⟩
     clear hKK K
     try simp only [Act.put, zA1, zA2, zA3, zA4, zA5, zA6]
     clear hown9 hgrow9 ho9 ho8
     refine wpAnyH_ready (rs := [14]) (by kernel_rfl) (by simp) ?_
     refine AllReadyH.cons (o := _) rfl (fun K hKK => ?_) AllReadyH.nil
     go_simp
     refine hKK.out _ _ ?_ (fun hHeld => ?_)
     ·exact hHeld
     clear hKK K
     try simp only [Act.put, zA1, zA2, zA3, zA4, zA5, zA6]
     refine wpAnyH_done (by kernel_rfl) ?_ _
     go_wp2
     go_roundw
     case rel => exact ⟨k + 1, by omega, by go_num, by rw [Hst.out, HPP.out]; exact hoo9, hb9⟩
     case measure => simp [RowKit.intOf]; omega
    ·have hpi : ¬ (0 : Int) < (m5 : Int) := by omega
     have hmk := HMN2.out (by have := HM5.out; omega)
     have HMK := Lib.hid hmk
     have HGQ := Lib.hid hblk
     have HPP : Hid (plcOf L n k r = ⟨r.s, (rk : Int), ⟨#[110, 111, 110, 101]⟩, 0, tx⟩) := Lib.hid (by rw [HPE.out, HMK.out]; rfl)
     clear hmk hblk hbf hof hqi hapart
     have HY : Hid (∀ w', Below wf.heap.size wf w' → ((w'.cell? ⟨b', off + k * 3, none⟩ = some (.string r.s) ∧ w'.cell? ⟨b3, off3 + k, none⟩ = some (.int .i64 (rk : Int))) ∧ (w'.cell? ⟨q, 0, none⟩ = some (.string ⟨#[110, 111, 110, 101]⟩) ∧ w'.cell? ⟨q, 1, none⟩ = some (.int .i64 0) ∧ w'.cell? ⟨q, 2, none⟩ = some (.string tx)) ∧ Below w2.heap.size w2 w')) := Lib.hid fun w' hb' => by
      have h1 := HX.out w' (bstep HBF.out hb')
      have h2 := three_blk ((hb'.block q (Array.getElem?_eq_some_iff.1 HGQ.out).1).trans HGQ.out)
      exact ⟨⟨h1.1.1, h1.2.1⟩, h2.1, h1.2.2⟩
     try clear g0 g1 g2
     have ho8 := HOF.out
     try unfold OwnPlR at ho8
     rw [Hlen.out] at ho8
     clear d0 d1 d2 d3
     go_wp2_with fail
     refine wp_region_held_drew (S := fun w' => (w'.cell? ⟨b', off + k * 3, none⟩ = some (.string r.s) ∧ w'.cell? ⟨b3, off3 + k, none⟩ = some (.int .i64 (rk : Int))) ∧ (w'.cell? ⟨q, 0, none⟩ = some (.string ⟨#[110, 111, 110, 101]⟩) ∧ w'.cell? ⟨q, 1, none⟩ = some (.int .i64 0) ∧ w'.cell? ⟨q, 2, none⟩ = some (.string tx)) ∧ Below w2.heap.size w2 w') (by kernel_rfl) ?_ (fun hHeld => ?_)
     ·exact HY.out _ (by first | exact Below.drew (Below.refl _ _) | exact Below.drew (below_drewN (Below.refl _ _) _))
     refine wpAnyH_take (i := 0) (oi := _) (v := ?_) rfl (by kernel_rfl) (by kernel_rfl) (by kernel_rfl) (fun _ _ _ h => h) (Or.inl ⟨by rfl, ?_⟩) (by assumption) ?_
     rotate_left
     ·rintro w ⟨⟨s0, s3⟩, ⟨g0, g1, g2⟩, s4⟩
      go_simp
      try with_reducible rfl
     try simp only [Act.put, zA1, zA2, zA3, zA4, zA5, zA6]
     refine wpAnyH_take (i := 1) (oi := _) (v := ?_) rfl (by kernel_rfl) (by kernel_rfl) (by kernel_rfl) (fun _ _ _ h => h) (Or.inl ⟨by rfl, ?_⟩) (by assumption) ?_
     rotate_left
     ·rintro w ⟨⟨s0, s3⟩, ⟨g0, g1, g2⟩, s4⟩
      go_simp
      try with_reducible rfl
     try simp only [Act.put, zA1, zA2, zA3, zA4, zA5, zA6]
     refine wpAnyH_take (i := 2) (oi := _) (v := ?_) rfl (by kernel_rfl) (by kernel_rfl) (by kernel_rfl) (fun _ _ _ h => h) (Or.inl ⟨by rfl, ?_⟩) (by assumption) ?_
     rotate_left
     ·rintro w ⟨⟨s0, s3⟩, ⟨g0, g1, g2⟩, s4⟩
      go_simp
      try with_reducible rfl
     try simp only [Act.put, zA1, zA2, zA3, zA4, zA5, zA6]
     refine wpAnyH_take (i := 3) (oi := _) (v := ?_) rfl (by kernel_rfl) (by kernel_rfl) (by kernel_rfl) (fun _ _ _ h => h) (Or.inl ⟨by rfl, ?_⟩) (by assumption) ?_
     rotate_left
     ·rintro w ⟨⟨s0, s3⟩, ⟨g0, g1, g2⟩, s4⟩
      go_simp
      try with_reducible rfl
     try simp only [Act.put, zA1, zA2, zA3, zA4, zA5, zA6]
     refine wpAnyH_take (i := 4) (oi := _) (v := ?_) rfl (by kernel_rfl) (by kernel_rfl) (by kernel_rfl) (fun _ _ _ h => h) (Or.inl ⟨by rfl, ?_⟩) (by assumption) ?_
     rotate_left
     ·rintro w ⟨⟨s0, s3⟩, ⟨g0, g1, g2⟩, s4⟩
      go_simp
      try with_reducible rfl
     try simp only [Act.put, zA1, zA2, zA3, zA4, zA5, zA6]
     refine wpAnyH_take (i := 5) (oi := _) (v := ?_) rfl (by kernel_rfl) (by kernel_rfl) (by kernel_rfl) (fun _ _ _ h => h) (Or.inl ⟨by rfl, ?_⟩) (by assumption) ?_
     rotate_left
     ·rintro w ⟨⟨s0, s3⟩, ⟨g0, g1, g2⟩, s4⟩
      go_simp
      try with_reducible rfl
     try simp only [Act.put, zA1, zA2, zA3, zA4, zA5, zA6]
     refine wpAnyH_take (i := 6) (oi := _) (v := ?_) rfl (by kernel_rfl) (by kernel_rfl) (by kernel_rfl) (fun _ _ _ h => h) (Or.inl ⟨by rfl, ?_⟩) (by assumption) ?_
     rotate_left
     ·rintro w ⟨⟨s0, s3⟩, ⟨g0, g1, g2⟩, s4⟩
      go_simp
      try with_reducible rfl
     try simp only [Act.put, zA1, zA2, zA3, zA4, zA5, zA6]
     refine wpAnyH_take (i := 7) (oi := _) (v := ?_) rfl (by kernel_rfl) (by kernel_rfl) (by kernel_rfl) (fun _ _ _ h => h) (Or.inl ⟨by rfl, ?_⟩) (by assumption) ?_
     rotate_left
     ·rintro w ⟨⟨s0, s3⟩, ⟨g0, g1, g2⟩, s4⟩
      go_simp
      try with_reducible rfl
     try simp only [Act.put, zA1, zA2, zA3, zA4, zA5, zA6]
     refine wpAnyH_take (i := 8) (oi := _) (v := ?_) rfl (by kernel_rfl) (by kernel_rfl) (by kernel_rfl) (fun _ _ _ h => h) (Or.inl ⟨by rfl, ?_⟩) (by assumption) ?_
     rotate_left
     ·rintro w ⟨⟨s0, s3⟩, ⟨g0, g1, g2⟩, s4⟩
      go_simp
      try with_reducible rfl
     try simp only [Act.put, zA1, zA2, zA3, zA4, zA5, zA6]
     refine wpAnyH_take (i := 9) (oi := _) (v := ?_) rfl (by kernel_rfl) (by kernel_rfl) (by kernel_rfl) (fun _ _ _ h => h) (Or.inl ⟨by rfl, ?_⟩) (by assumption) ?_
     rotate_left
     ·rintro w ⟨⟨s0, s3⟩, ⟨g0, g1, g2⟩, s4⟩
      go_simp
      try with_reducible rfl
     try simp only [Act.put, zA1, zA2, zA3, zA4, zA5, zA6]
     refine wpAnyH_take (i := 10) (oi := _) (v := ?_) rfl (by kernel_rfl) (by kernel_rfl) (by kernel_rfl) (fun _ _ _ h => h) (Or.inl ⟨by rfl, ?_⟩) (by assumption) ?_
     rotate_left
     ·rintro w ⟨⟨s0, s3⟩, ⟨g0, g1, g2⟩, s4⟩
      go_simp
      try with_reducible rfl
     try simp only [Act.put, zA1, zA2, zA3, zA4, zA5, zA6]
     refine wpAnyH_take (i := 11) (oi := _) (v := ?_) rfl (by kernel_rfl) (by kernel_rfl) (by kernel_rfl) (fun _ _ _ h => h) (Or.inl ⟨by rfl, ?_⟩) (by assumption) ?_
     rotate_left
     ·rintro w ⟨⟨s0, s3⟩, ⟨g0, g1, g2⟩, s4⟩
      go_simp
      try with_reducible rfl
     try simp only [Act.put, zA1, zA2, zA3, zA4, zA5, zA6]
     have hbW := hHeld.2.2
     have ho9 := World.ownsRow.drew ho8
     generalize hwe : World.drew wf = we at hbW ho9 hHeld ⊢
     have HBE : Hid (Below wf.heap.size wf we) := Lib.hid (by rw [← hwe]; exact Below.drew (Below.refl _ _))
     clear hwe
     refine wpAnyH_ready (rs := [12]) (by kernel_rfl) (by simp) ?_
     refine AllReadyH.cons (o := _) rfl (fun K hKK => ?_) AllReadyH.nil
     go_simp
     have hbA : Below w2.heap.size w2 (we.alloc (.cells #[.string r.s, .int .i64 (rk : Int), .string ⟨#[110, 111, 110, 101]⟩, .int .i64 0, .string tx] 45)) := hbW.alloc hbW.size _
     have hbA2 : Below wf.heap.size wf (we.alloc (.cells #[.string r.s, .int .i64 (rk : Int), .string ⟨#[110, 111, 110, 101]⟩, .int .i64 0, .string tx] 45)) := HBE.out.alloc HBE.out.size _
     refine hKK.out _ _ ?_ (fun hHeld => ?_)
     ·exact HY.out _ hbA2
     clear hKK K
     try simp only [Act.put, zA1, zA2, zA3, zA4, zA5, zA6]
     refine wpAnyH_ready (rs := [13]) (by kernel_rfl) (by simp) ?_
     refine AllReadyH.cons (o := _) rfl (fun K hKK => ?_) AllReadyH.nil
     refine wp_append_own _ _ _ 36 rfl w2.heap.size 45 i0 (.agg #[.string ⟨#[]⟩, .int .i64 0, .string ⟨#[]⟩, .int .i64 0, .string ⟨#[]⟩]) 5 64 Tryz.underlying36 hi hz0 hz1 hz2 rfl (by decide) _ _ _ rfl (World.ownsRow.alloc ho9 _) ⟨we.heap.size, 0, none⟩ 1 1 (Plc.cells ⟨r.s, (rk : Int), ⟨#[110, 111, 110, 101]⟩, 0, tx⟩) rfl rfl (news5 _ ⟨r.s, (rk : Int), ⟨#[110, 111, 110, 101]⟩, 0, tx⟩ _ _ rfl) (one5 _) (by unfold maxLen; omega) (by omega) hbA.size ?_
     intro v' w9 hown9 hgrow9 _
     have hb9 : Below w2.heap.size w2 w9 := hbA.grown hgrow9 hbA.size (fun q' hq' => (World.ownsRow.lt ho9 q' hq').1)
     have hoo9 : OwnPlR w9 w2.heap.size v' (P ++ [⟨r.s, (rk : Int), ⟨#[110, 111, 110, 101]⟩, 0, tx⟩]) := OwnPlR.next (by rw [Hlen.out]; exact hown9)
     refine hKK.out _ _ ?_ (fun hHeld => ?_)
     ·have h1 := HX.out w9 hb9
      have hap := apartM (L := P) HGQ.out HOF.out
      have h2 := three_blk ((hgrow9.block q (Nat.lt_of_lt_of_le (Array.getElem?_eq_some_iff.1 HGQ.out).1 hbA2.size) (fun e => hap.elim (fun h => absurd (e.trans h) (by simp)) (fun h => h e.symm))).trans ((hbA2.block q (Array.getElem?_eq_some_iff.1 HGQ.out).1).trans HGQ.out))
      exact ⟨⟨h1.1.1, h1.2.1⟩, h2.1, hb9⟩
     clear hKK K
     try simp only [Act.put, zA1, zA2, zA3, zA4, zA5, zA6]
     clear hown9 hgrow9 ho9 ho8
     refine wpAnyH_ready (rs := [14]) (by kernel_rfl) (by simp) ?_
     refine AllReadyH.cons (o := _) rfl (fun K hKK => ?_) AllReadyH.nil
     go_simp
     refine hKK.out _ _ ?_ (fun hHeld => ?_)
     ·exact hHeld
     clear hKK K
     try simp only [Act.put, zA1, zA2, zA3, zA4, zA5, zA6]
     refine wpAnyH_done (by kernel_rfl) ?_ _
     go_wp2
     go_roundw
     case rel => exact ⟨k + 1, by omega, by go_num, by rw [Hst.out, HPP.out]; exact hoo9, hb9⟩
     case measure => simp [RowKit.intOf]; omega
   ·refine AllReadyH.cons (o := _) rfl (fun K hKK => ?_) AllReadyH.nil
    go_simp
    have hA : Below w2.heap.size w2 (wd.alloc (.cells #[.string ⟨#[]⟩, .int .i64 0, .string ⟨#[]⟩] 41)) := hHeld.2.2.alloc hHeld.2.2.size _
    have hbd := hHeld.2.2
    refine hKK.out _ _ ?_ (fun hHeld => ?_)
    ·exact HX.out _ hA
    clear hKK K
    try simp only [Act.put, zA1, zA2, zA3, zA4, zA5, zA6]
    refine wpAnyH_ready (rs := [12]) (by kernel_rfl) (by simp) ?_
    refine AllReadyH.cons (o := _) rfl (fun K hKK => ?_) AllReadyH.nil
    go_simp
    go_at_call 53
    refine (HU.out _).mono ?_
    rintro e w6 ⟨rfl, hb6⟩
    have hX := bstep hHeld.2.2 hb6
    obtain ⟨q, hq⟩ : ∃ q, wd.heap.size = q := ⟨_, rfl⟩
    have hk6 : w6.heap[q]? = some (.cells #[.string ⟨#[]⟩, .int .i64 0, .string ⟨#[]⟩] 41 (0, 0)) := (hb6.block q (by rw [← hq]; simp)).trans (by rw [← hq]; exact World.alloc_heap_new wd _)
    have HO6 := Lib.hid (ownN (World.ownsRow.alloc HOD.out _) hb6)
    have HI6 := Lib.hid ((HID.out.below (balloc _ (Below.refl _ _))).below hb6)
    have HIq : Hid (0 < m5 → ∃ g o, A5 = some ⟨g, o, none⟩ ∧ g < q) := Lib.hid fun h => by obtain ⟨g, o, x, e1, e2, _⟩ := HID.out.cellAt h; exact ⟨g, o, e1, by omega⟩
    clear hHeld hb6
    go_wp2_with fail
    refine hKK.out _ _ ?_ (fun hHeld => ?_)
    ·exact HX.out _ hX
    clear hKK K
    try simp only [Act.put, zA1, zA2, zA3, zA4, zA5, zA6]
    have hqi : w2.heap.size ≤ q := by rw [← hq]; exact hbd.size
    obtain ⟨⟨e0, e1, e2⟩, f0, f1, f2⟩ := three_blk hk6
    have hblk := three_set hk6 (.string ⟨#[110, 111, 110, 101]⟩) (.int .i64 0) (.string tx)
    have hbf := three_below hX hqi (.string ⟨#[110, 111, 110, 101]⟩) (.int .i64 0) (.string tx)
    try rw [hq]
    refine wpAnyH_ready (rs := [14]) (by kernel_rfl) (by simp) ?_
    refine AllReadyH.cons (o := _) rfl (fun K hKK => ?_) AllReadyH.nil
    go_simp
    refine hKK.out _ _ ?_ (fun hHeld => ?_)
    ·exact HX.out _ hbf
    clear hKK K
    try simp only [Act.put, zA1, zA2, zA3, zA4, zA5, zA6]
    refine wpAnyH_done (by kernel_rfl) ?_ _
    obtain ⟨wf, hwf⟩ : ∃ wf, ((w6.setCell ⟨q, 0, none⟩ (.string ⟨#[110, 111, 110, 101]⟩)).setCell ⟨q, 1, none⟩ (.int .i64 0)).setCell ⟨q, 2, none⟩ (.string tx) = wf := ⟨_, rfl⟩
    have hof := ownThree (L := P) (apartM hk6) HO6.out (.string ⟨#[110, 111, 110, 101]⟩) (.int .i64 0) (.string tx)
    rw [hwf] at hblk hbf hof ⊢
    have hapart : Hid (IntsZ wf A5 m5 S ∧ (∀ v L', OwnPlR wf w2.heap.size v L' → v.ownBlock = none ∨ v.ownBlock ≠ some q) ∧ (0 < m5 → ∃ g o, A5 = some ⟨g, o, none⟩ ∧ g < q)) := Lib.hid (by
     refine ⟨by rw [← hwf]; exact intsThree HI6.out HIq.out _ _ _, fun v L' h => apartM hblk h, HIq.out⟩)
    clear e0 e1 e2 f0 f1 f2 hk6
    obtain ⟨⟨d0, d1, d2⟩, d3, _⟩ := HX.out wf hbf
    have HBF := Lib.hid hbf
    have HOF := Lib.hid hof
    have HQI := Lib.hid hqi
    by_cases hp : 0 < m5
    ·have hpi : (0 : Int) < (m5 : Int) := by omega
     obtain ⟨z0, hz0', hmk⟩ := HMS2.out m5 HM5.out hp
     have HMK := Lib.hid hmk
     obtain ⟨g5, o5, z5, rfl, _, hz5, hc5⟩ := hapart.out.1.cellAt hp
     obtain rfl : z0 = z5 := by rw [hz0'] at hz5; exact Option.some.inj hz5
     rw [Nat.add_zero] at hc5
     obtain ⟨⟨e0, e1, e2⟩, f0, f1, f2⟩ := three_blk hblk
     have hblk2 := three_set hblk (.string ⟨#[108, 101, 110, 103, 116, 104]⟩) (.int .i64 z0) (.string ⟨#[]⟩)
     have hbf2 := three_below hbf hqi (.string ⟨#[108, 101, 110, 103, 116, 104]⟩) (.int .i64 z0) (.string ⟨#[]⟩)
     obtain ⟨wg, hwg⟩ : ∃ wg, ((wf.setCell ⟨q, 0, none⟩ (.string ⟨#[108, 101, 110, 103, 116, 104]⟩)).setCell ⟨q, 1, none⟩ (.int .i64 z0)).setCell ⟨q, 2, none⟩ (.string ⟨#[]⟩) = wg := ⟨_, rfl⟩
     have hog := ownThree (L := P) (apartM hblk) HOF.out (.string ⟨#[108, 101, 110, 103, 116, 104]⟩) (.int .i64 z0) (.string ⟨#[]⟩)
     rw [hwg] at hblk2 hbf2 hog
     have HOG := Lib.hid hog
     have HBG := Lib.hid hbf2
     obtain ⟨⟨g0, g1, g2⟩, _⟩ := three_blk hblk2
     have HGQ := Lib.hid hblk2
     clear hz0' hmk hz5 hblk hblk2 hbf hbf2 hof hog hqi hapart d0 d1 d2 d3 g0 g1 g2
     go_wp2_with fail
     obtain ⟨⟨d0, d1, d2⟩, d3, _⟩ := HX.out wg HBG.out
     obtain ⟨⟨g0, g1, g2⟩, _⟩ := three_blk HGQ.out
     clear e0 e1 e2 f0 f1 f2 hc5
     have HPP : Hid (plcOf L n k r = ⟨r.s, (rk : Int), ⟨#[108, 101, 110, 103, 116, 104]⟩, z0, ⟨#[]⟩⟩) := Lib.hid (by rw [HPE.out, HMK.out]; rfl)
     have HY : Hid (∀ w', Below wg.heap.size wg w' → ((w'.cell? ⟨b', off + k * 3, none⟩ = some (.string r.s) ∧ w'.cell? ⟨b3, off3 + k, none⟩ = some (.int .i64 (rk : Int))) ∧ (w'.cell? ⟨q, 0, none⟩ = some (.string ⟨#[108, 101, 110, 103, 116, 104]⟩) ∧ w'.cell? ⟨q, 1, none⟩ = some (.int .i64 z0) ∧ w'.cell? ⟨q, 2, none⟩ = some (.string ⟨#[]⟩)) ∧ Below w2.heap.size w2 w')) := Lib.hid fun w' hb' => by
      have h1 := HX.out w' (bstep HBG.out hb')
      have h2 := three_blk ((hb'.block q (Array.getElem?_eq_some_iff.1 HGQ.out).1).trans HGQ.out)
      exact ⟨⟨h1.1.1, h1.2.1⟩, h2.1, h1.2.2⟩
     try clear g0 g1 g2
     have ho8 := HOG.out
     try unfold OwnPlR at ho8
     rw [Hlen.out] at ho8
     clear d0 d1 d2 d3
     go_wp2_with fail
     refine wp_region_held_drew (S := fun w' => (w'.cell? ⟨b', off + k * 3, none⟩ = some (.string r.s) ∧ w'.cell? ⟨b3, off3 + k, none⟩ = some (.int .i64 (rk : Int))) ∧ (w'.cell? ⟨q, 0, none⟩ = some (.string ⟨#[108, 101, 110, 103, 116, 104]⟩) ∧ w'.cell? ⟨q, 1, none⟩ = some (.int .i64 z0) ∧ w'.cell? ⟨q, 2, none⟩ = some (.string ⟨#[]⟩)) ∧ Below w2.heap.size w2 w') (by kernel_rfl) ?_ (fun hHeld => ?_)
     ·exact HY.out _ (by first | exact Below.drew (Below.refl _ _) | exact Below.drew (below_drewN (Below.refl _ _) _))
     refine wpAnyH_take (i := 0) (oi := _) (v := ?_) rfl (by kernel_rfl) (by kernel_rfl) (by kernel_rfl) (fun _ _ _ h => h) (Or.inl ⟨by rfl, ?_⟩) (by assumption) ?_
     rotate_left
     ·rintro w ⟨⟨s0, s3⟩, ⟨g0, g1, g2⟩, s4⟩
      go_simp
      try with_reducible rfl
     try simp only [Act.put, zA1, zA2, zA3, zA4, zA5, zA6]
     refine wpAnyH_take (i := 1) (oi := _) (v := ?_) rfl (by kernel_rfl) (by kernel_rfl) (by kernel_rfl) (fun _ _ _ h => h) (Or.inl ⟨by rfl, ?_⟩) (by assumption) ?_
     rotate_left
     ·rintro w ⟨⟨s0, s3⟩, ⟨g0, g1, g2⟩, s4⟩
      go_simp
      try with_reducible rfl
     try simp only [Act.put, zA1, zA2, zA3, zA4, zA5, zA6]
     refine wpAnyH_take (i := 2) (oi := _) (v := ?_) rfl (by kernel_rfl) (by kernel_rfl) (by kernel_rfl) (fun _ _ _ h => h) (Or.inl ⟨by rfl, ?_⟩) (by assumption) ?_
     rotate_left
     ·rintro w ⟨⟨s0, s3⟩, ⟨g0, g1, g2⟩, s4⟩
      go_simp
      try with_reducible rfl
     try simp only [Act.put, zA1, zA2, zA3, zA4, zA5, zA6]
     refine wpAnyH_take (i := 3) (oi := _) (v := ?_) rfl (by kernel_rfl) (by kernel_rfl) (by kernel_rfl) (fun _ _ _ h => h) (Or.inl ⟨by rfl, ?_⟩) (by assumption) ?_
     rotate_left
     ·rintro w ⟨⟨s0, s3⟩, ⟨g0, g1, g2⟩, s4⟩
      go_simp
      try with_reducible rfl
     try simp only [Act.put, zA1, zA2, zA3, zA4, zA5, zA6]
     refine wpAnyH_take (i := 4) (oi := _) (v := ?_) rfl (by kernel_rfl) (by kernel_rfl) (by kernel_rfl) (fun _ _ _ h => h) (Or.inl ⟨by rfl, ?_⟩) (by assumption) ?_
     rotate_left
     ·rintro w ⟨⟨s0, s3⟩, ⟨g0, g1, g2⟩, s4⟩
      go_simp
      try with_reducible rfl
     try simp only [Act.put, zA1, zA2, zA3, zA4, zA5, zA6]
     refine wpAnyH_take (i := 5) (oi := _) (v := ?_) rfl (by kernel_rfl) (by kernel_rfl) (by kernel_rfl) (fun _ _ _ h => h) (Or.inl ⟨by rfl, ?_⟩) (by assumption) ?_
     rotate_left
     ·rintro w ⟨⟨s0, s3⟩, ⟨g0, g1, g2⟩, s4⟩
      go_simp
      try with_reducible rfl
     try simp only [Act.put, zA1, zA2, zA3, zA4, zA5, zA6]
     refine wpAnyH_take (i := 6) (oi := _) (v := ?_) rfl (by kernel_rfl) (by kernel_rfl) (by kernel_rfl) (fun _ _ _ h => h) (Or.inl ⟨by rfl, ?_⟩) (by assumption) ?_
     rotate_left
     ·rintro w ⟨⟨s0, s3⟩, ⟨g0, g1, g2⟩, s4⟩
      go_simp
      try with_reducible rfl
     try simp only [Act.put, zA1, zA2, zA3, zA4, zA5, zA6]
     refine wpAnyH_take (i := 7) (oi := _) (v := ?_) rfl (by kernel_rfl) (by kernel_rfl) (by kernel_rfl) (fun _ _ _ h => h) (Or.inl ⟨by rfl, ?_⟩) (by assumption) ?_
     rotate_left
     ·rintro w ⟨⟨s0, s3⟩, ⟨g0, g1, g2⟩, s4⟩
      go_simp
      try with_reducible rfl
     try simp only [Act.put, zA1, zA2, zA3, zA4, zA5, zA6]
     refine wpAnyH_take (i := 8) (oi := _) (v := ?_) rfl (by kernel_rfl) (by kernel_rfl) (by kernel_rfl) (fun _ _ _ h => h) (Or.inl ⟨by rfl, ?_⟩) (by assumption) ?_
     rotate_left
     ·rintro w ⟨⟨s0, s3⟩, ⟨g0, g1, g2⟩, s4⟩
      go_simp
      try with_reducible rfl
     try simp only [Act.put, zA1, zA2, zA3, zA4, zA5, zA6]
     refine wpAnyH_take (i := 9) (oi := _) (v := ?_) rfl (by kernel_rfl) (by kernel_rfl) (by kernel_rfl) (fun _ _ _ h => h) (Or.inl ⟨by rfl, ?_⟩) (by assumption) ?_
     rotate_left
     ·rintro w ⟨⟨s0, s3⟩, ⟨g0, g1, g2⟩, s4⟩
      go_simp
      try with_reducible rfl
     try simp only [Act.put, zA1, zA2, zA3, zA4, zA5, zA6]
     refine wpAnyH_take (i := 10) (oi := _) (v := ?_) rfl (by kernel_rfl) (by kernel_rfl) (by kernel_rfl) (fun _ _ _ h => h) (Or.inl ⟨by rfl, ?_⟩) (by assumption) ?_
     rotate_left
     ·rintro w ⟨⟨s0, s3⟩, ⟨g0, g1, g2⟩, s4⟩
      go_simp
      try with_reducible rfl
     try simp only [Act.put, zA1, zA2, zA3, zA4, zA5, zA6]
     refine wpAnyH_take (i := 11) (oi := _) (v := ?_) rfl (by kernel_rfl) (by kernel_rfl) (by kernel_rfl) (fun _ _ _ h => h) (Or.inl ⟨by rfl, ?_⟩) (by assumption) ?_
     rotate_left
     ·rintro w ⟨⟨s0, s3⟩, ⟨g0, g1, g2⟩, s4⟩
      go_simp
      try with_reducible rfl
     try simp only [Act.put, zA1, zA2, zA3, zA4, zA5, zA6]
     have hbW := hHeld.2.2
     have ho9 := World.ownsRow.drew ho8
     generalize hwe : World.drew wg = we at hbW ho9 hHeld ⊢
     have HBE : Hid (Below wg.heap.size wg we) := Lib.hid (by rw [← hwe]; exact Below.drew (Below.refl _ _))
     clear hwe
     refine wpAnyH_ready (rs := [12]) (by kernel_rfl) (by simp) ?_
     refine AllReadyH.cons (o := _) rfl (fun K hKK => ?_) AllReadyH.nil
     go_simp
     have hbA : Below w2.heap.size w2 (we.alloc (.cells #[.string r.s, .int .i64 (rk : Int), .string ⟨#[108, 101, 110, 103, 116, 104]⟩, .int .i64 z0, .string ⟨#[]⟩] 45)) := hbW.alloc hbW.size _
     have hbA2 : Below wg.heap.size wg (we.alloc (.cells #[.string r.s, .int .i64 (rk : Int), .string ⟨#[108, 101, 110, 103, 116, 104]⟩, .int .i64 z0, .string ⟨#[]⟩] 45)) := HBE.out.alloc HBE.out.size _
     refine hKK.out _ _ ?_ (fun hHeld => ?_)
     ·exact HY.out _ hbA2
     clear hKK K
     try simp only [Act.put, zA1, zA2, zA3, zA4, zA5, zA6]
     refine wpAnyH_ready (rs := [13]) (by kernel_rfl) (by simp) ?_
     refine AllReadyH.cons (o := _) rfl (fun K hKK => ?_) AllReadyH.nil
     refine wp_append_own _ _ _ 36 rfl w2.heap.size 45 i0 (.agg #[.string ⟨#[]⟩, .int .i64 0, .string ⟨#[]⟩, .int .i64 0, .string ⟨#[]⟩]) 5 64 Tryz.underlying36 hi hz0 hz1 hz2 rfl (by decide) _ _ _ rfl (World.ownsRow.alloc ho9 _) ⟨we.heap.size, 0, none⟩ 1 1 (Plc.cells ⟨r.s, (rk : Int), ⟨#[108, 101, 110, 103, 116, 104]⟩, z0, ⟨#[]⟩⟩) rfl rfl (news5 _ ⟨r.s, (rk : Int), ⟨#[108, 101, 110, 103, 116, 104]⟩, z0, ⟨#[]⟩⟩ _ _ rfl) (one5 _) (by unfold maxLen; omega) (by omega) hbA.size ?_
     intro v' w9 hown9 hgrow9 _
     have hb9 : Below w2.heap.size w2 w9 := hbA.grown hgrow9 hbA.size (fun q' hq' => (World.ownsRow.lt ho9 q' hq').1)
     have hoo9 : OwnPlR w9 w2.heap.size v' (P ++ [⟨r.s, (rk : Int), ⟨#[108, 101, 110, 103, 116, 104]⟩, z0, ⟨#[]⟩⟩]) := OwnPlR.next (by rw [Hlen.out]; exact hown9)
     refine hKK.out _ _ ?_ (fun hHeld => ?_)
     ·have h1 := HX.out w9 hb9
      have hap := apartM (L := P) HGQ.out HOG.out
      have h2 := three_blk ((hgrow9.block q (Nat.lt_of_lt_of_le (Array.getElem?_eq_some_iff.1 HGQ.out).1 hbA2.size) (fun e => hap.elim (fun h => absurd (e.trans h) (by simp)) (fun h => h e.symm))).trans ((hbA2.block q (Array.getElem?_eq_some_iff.1 HGQ.out).1).trans HGQ.out))
      exact ⟨⟨h1.1.1, h1.2.1⟩, h2.1, hb9⟩
     clear hKK K
     try simp only [Act.put, zA1, zA2, zA3, zA4, zA5, zA6]
     clear hown9 hgrow9 ho9 ho8
     refine wpAnyH_ready (rs := [14]) (by kernel_rfl) (by simp) ?_
     refine AllReadyH.cons (o := _) rfl (fun K hKK => ?_) AllReadyH.nil
     go_simp
     refine hKK.out _ _ ?_ (fun hHeld => ?_)
     ·exact hHeld
     clear hKK K
     try simp only [Act.put, zA1, zA2, zA3, zA4, zA5, zA6]
     refine wpAnyH_done (by kernel_rfl) ?_ _
     go_wp2
     go_roundw
     case rel => exact ⟨k + 1, by omega, by go_num, by rw [Hst.out, HPP.out]; exact hoo9, hb9⟩
     case measure => simp [RowKit.intOf]; omega
    ·have hpi : ¬ (0 : Int) < (m5 : Int) := by omega
     have hmk := HMN2.out (by have := HM5.out; omega)
     have HMK := Lib.hid hmk
     have HGQ := Lib.hid hblk
     have HPP : Hid (plcOf L n k r = ⟨r.s, (rk : Int), ⟨#[110, 111, 110, 101]⟩, 0, tx⟩) := Lib.hid (by rw [HPE.out, HMK.out]; rfl)
     clear hmk hblk hbf hof hqi hapart
     have HY : Hid (∀ w', Below wf.heap.size wf w' → ((w'.cell? ⟨b', off + k * 3, none⟩ = some (.string r.s) ∧ w'.cell? ⟨b3, off3 + k, none⟩ = some (.int .i64 (rk : Int))) ∧ (w'.cell? ⟨q, 0, none⟩ = some (.string ⟨#[110, 111, 110, 101]⟩) ∧ w'.cell? ⟨q, 1, none⟩ = some (.int .i64 0) ∧ w'.cell? ⟨q, 2, none⟩ = some (.string tx)) ∧ Below w2.heap.size w2 w')) := Lib.hid fun w' hb' => by
      have h1 := HX.out w' (bstep HBF.out hb')
      have h2 := three_blk ((hb'.block q (Array.getElem?_eq_some_iff.1 HGQ.out).1).trans HGQ.out)
      exact ⟨⟨h1.1.1, h1.2.1⟩, h2.1, h1.2.2⟩
     try clear g0 g1 g2
     have ho8 := HOF.out
     try unfold OwnPlR at ho8
     rw [Hlen.out] at ho8
     clear d0 d1 d2 d3
     go_wp2_with fail
     refine wp_region_held_drew (S := fun w' => (w'.cell? ⟨b', off + k * 3, none⟩ = some (.string r.s) ∧ w'.cell? ⟨b3, off3 + k, none⟩ = some (.int .i64 (rk : Int))) ∧ (w'.cell? ⟨q, 0, none⟩ = some (.string ⟨#[110, 111, 110, 101]⟩) ∧ w'.cell? ⟨q, 1, none⟩ = some (.int .i64 0) ∧ w'.cell? ⟨q, 2, none⟩ = some (.string tx)) ∧ Below w2.heap.size w2 w') (by kernel_rfl) ?_ (fun hHeld => ?_)
     ·exact HY.out _ (by first | exact Below.drew (Below.refl _ _) | exact Below.drew (below_drewN (Below.refl _ _) _))
     refine wpAnyH_take (i := 0) (oi := _) (v := ?_) rfl (by kernel_rfl) (by kernel_rfl) (by kernel_rfl) (fun _ _ _ h => h) (Or.inl ⟨by rfl, ?_⟩) (by assumption) ?_
     rotate_left
     ·rintro w ⟨⟨s0, s3⟩, ⟨g0, g1, g2⟩, s4⟩
      go_simp
      try with_reducible rfl
     try simp only [Act.put, zA1, zA2, zA3, zA4, zA5, zA6]
     refine wpAnyH_take (i := 1) (oi := _) (v := ?_) rfl (by kernel_rfl) (by kernel_rfl) (by kernel_rfl) (fun _ _ _ h => h) (Or.inl ⟨by rfl, ?_⟩) (by assumption) ?_
     rotate_left
     ·rintro w ⟨⟨s0, s3⟩, ⟨g0, g1, g2⟩, s4⟩
      go_simp
      try with_reducible rfl
     try simp only [Act.put, zA1, zA2, zA3, zA4, zA5, zA6]
     refine wpAnyH_take (i := 2) (oi := _) (v := ?_) rfl (by kernel_rfl) (by kernel_rfl) (by kernel_rfl) (fun _ _ _ h => h) (Or.inl ⟨by rfl, ?_⟩) (by assumption) ?_
     rotate_left
     ·rintro w ⟨⟨s0, s3⟩, ⟨g0, g1, g2⟩, s4⟩
      go_simp
      try with_reducible rfl
     try simp only [Act.put, zA1, zA2, zA3, zA4, zA5, zA6]
     refine wpAnyH_take (i := 3) (oi := _) (v := ?_) rfl (by kernel_rfl) (by kernel_rfl) (by kernel_rfl) (fun _ _ _ h => h) (Or.inl ⟨by rfl, ?_⟩) (by assumption) ?_
     rotate_left
     ·rintro w ⟨⟨s0, s3⟩, ⟨g0, g1, g2⟩, s4⟩
      go_simp
      try with_reducible rfl
     try simp only [Act.put, zA1, zA2, zA3, zA4, zA5, zA6]
     refine wpAnyH_take (i := 4) (oi := _) (v := ?_) rfl (by kernel_rfl) (by kernel_rfl) (by kernel_rfl) (fun _ _ _ h => h) (Or.inl ⟨by rfl, ?_⟩) (by assumption) ?_
     rotate_left
     ·rintro w ⟨⟨s0, s3⟩, ⟨g0, g1, g2⟩, s4⟩
      go_simp
      try with_reducible rfl
     try simp only [Act.put, zA1, zA2, zA3, zA4, zA5, zA6]
     refine wpAnyH_take (i := 5) (oi := _) (v := ?_) rfl (by kernel_rfl) (by kernel_rfl) (by kernel_rfl) (fun _ _ _ h => h) (Or.inl ⟨by rfl, ?_⟩) (by assumption) ?_
     rotate_left
     ·rintro w ⟨⟨s0, s3⟩, ⟨g0, g1, g2⟩, s4⟩
      go_simp
      try with_reducible rfl
     try simp only [Act.put, zA1, zA2, zA3, zA4, zA5, zA6]
     refine wpAnyH_take (i := 6) (oi := _) (v := ?_) rfl (by kernel_rfl) (by kernel_rfl) (by kernel_rfl) (fun _ _ _ h => h) (Or.inl ⟨by rfl, ?_⟩) (by assumption) ?_
     rotate_left
     ·rintro w ⟨⟨s0, s3⟩, ⟨g0, g1, g2⟩, s4⟩
      go_simp
      try with_reducible rfl
     try simp only [Act.put, zA1, zA2, zA3, zA4, zA5, zA6]
     refine wpAnyH_take (i := 7) (oi := _) (v := ?_) rfl (by kernel_rfl) (by kernel_rfl) (by kernel_rfl) (fun _ _ _ h => h) (Or.inl ⟨by rfl, ?_⟩) (by assumption) ?_
     rotate_left
     ·rintro w ⟨⟨s0, s3⟩, ⟨g0, g1, g2⟩, s4⟩
      go_simp
      try with_reducible rfl
     try simp only [Act.put, zA1, zA2, zA3, zA4, zA5, zA6]
     refine wpAnyH_take (i := 8) (oi := _) (v := ?_) rfl (by kernel_rfl) (by kernel_rfl) (by kernel_rfl) (fun _ _ _ h => h) (Or.inl ⟨by rfl, ?_⟩) (by assumption) ?_
     rotate_left
     ·rintro w ⟨⟨s0, s3⟩, ⟨g0, g1, g2⟩, s4⟩
      go_simp
      try with_reducible rfl
     try simp only [Act.put, zA1, zA2, zA3, zA4, zA5, zA6]
     refine wpAnyH_take (i := 9) (oi := _) (v := ?_) rfl (by kernel_rfl) (by kernel_rfl) (by kernel_rfl) (fun _ _ _ h => h) (Or.inl ⟨by rfl, ?_⟩) (by assumption) ?_
     rotate_left
     ·rintro w ⟨⟨s0, s3⟩, ⟨g0, g1, g2⟩, s4⟩
      go_simp
      try with_reducible rfl
     try simp only [Act.put, zA1, zA2, zA3, zA4, zA5, zA6]
     refine wpAnyH_take (i := 10) (oi := _) (v := ?_) rfl (by kernel_rfl) (by kernel_rfl) (by kernel_rfl) (fun _ _ _ h => h) (Or.inl ⟨by rfl, ?_⟩) (by assumption) ?_
     rotate_left
     ·rintro w ⟨⟨s0, s3⟩, ⟨g0, g1, g2⟩, s4⟩
      go_simp
      try with_reducible rfl
     try simp only [Act.put, zA1, zA2, zA3, zA4, zA5, zA6]
     refine wpAnyH_take (i := 11) (oi := _) (v := ?_) rfl (by kernel_rfl) (by kernel_rfl) (by kernel_rfl) (fun _ _ _ h => h) (Or.inl ⟨by rfl, ?_⟩) (by assumption) ?_
     rotate_left
     ·rintro w ⟨⟨s0, s3⟩, ⟨g0, g1, g2⟩, s4⟩
      go_simp
      try with_reducible rfl
     try simp only [Act.put, zA1, zA2, zA3, zA4, zA5, zA6]
     have hbW := hHeld.2.2
     have ho9 := World.ownsRow.drew ho8
     generalize hwe : World.drew wf = we at hbW ho9 hHeld ⊢
     have HBE : Hid (Below wf.heap.size wf we) := Lib.hid (by rw [← hwe]; exact Below.drew (Below.refl _ _))
     clear hwe
     refine wpAnyH_ready (rs := [12]) (by kernel_rfl) (by simp) ?_
     refine AllReadyH.cons (o := _) rfl (fun K hKK => ?_) AllReadyH.nil
     go_simp
     have hbA : Below w2.heap.size w2 (we.alloc (.cells #[.string r.s, .int .i64 (rk : Int), .string ⟨#[110, 111, 110, 101]⟩, .int .i64 0, .string tx] 45)) := hbW.alloc hbW.size _
     have hbA2 : Below wf.heap.size wf (we.alloc (.cells #[.string r.s, .int .i64 (rk : Int), .string ⟨#[110, 111, 110, 101]⟩, .int .i64 0, .string tx] 45)) := HBE.out.alloc HBE.out.size _
     refine hKK.out _ _ ?_ (fun hHeld => ?_)
     ·exact HY.out _ hbA2
     clear hKK K
     try simp only [Act.put, zA1, zA2, zA3, zA4, zA5, zA6]
     refine wpAnyH_ready (rs := [13]) (by kernel_rfl) (by simp) ?_
     refine AllReadyH.cons (o := _) rfl (fun K hKK => ?_) AllReadyH.nil
     refine wp_append_own _ _ _ 36 rfl w2.heap.size 45 i0 (.agg #[.string ⟨#[]⟩, .int .i64 0, .string ⟨#[]⟩, .int .i64 0, .string ⟨#[]⟩]) 5 64 Tryz.underlying36 hi hz0 hz1 hz2 rfl (by decide) _ _ _ rfl (World.ownsRow.alloc ho9 _) ⟨we.heap.size, 0, none⟩ 1 1 (Plc.cells ⟨r.s, (rk : Int), ⟨#[110, 111, 110, 101]⟩, 0, tx⟩) rfl rfl (news5 _ ⟨r.s, (rk : Int), ⟨#[110, 111, 110, 101]⟩, 0, tx⟩ _ _ rfl) (one5 _) (by unfold maxLen; omega) (by omega) hbA.size ?_
     intro v' w9 hown9 hgrow9 _
     have hb9 : Below w2.heap.size w2 w9 := hbA.grown hgrow9 hbA.size (fun q' hq' => (World.ownsRow.lt ho9 q' hq').1)
     have hoo9 : OwnPlR w9 w2.heap.size v' (P ++ [⟨r.s, (rk : Int), ⟨#[110, 111, 110, 101]⟩, 0, tx⟩]) := OwnPlR.next (by rw [Hlen.out]; exact hown9)
     refine hKK.out _ _ ?_ (fun hHeld => ?_)
     ·have h1 := HX.out w9 hb9
      have hap := apartM (L := P) HGQ.out HOF.out
      have h2 := three_blk ((hgrow9.block q (Nat.lt_of_lt_of_le (Array.getElem?_eq_some_iff.1 HGQ.out).1 hbA2.size) (fun e => hap.elim (fun h => absurd (e.trans h) (by simp)) (fun h => h e.symm))).trans ((hbA2.block q (Array.getElem?_eq_some_iff.1 HGQ.out).1).trans HGQ.out))
      exact ⟨⟨h1.1.1, h1.2.1⟩, h2.1, hb9⟩
     clear hKK K
     try simp only [Act.put, zA1, zA2, zA3, zA4, zA5, zA6]
     clear hown9 hgrow9 ho9 ho8
     refine wpAnyH_ready (rs := [14]) (by kernel_rfl) (by simp) ?_
     refine AllReadyH.cons (o := _) rfl (fun K hKK => ?_) AllReadyH.nil
     go_simp
     refine hKK.out _ _ ?_ (fun hHeld => ?_)
     ·exact hHeld
     clear hKK K
     try simp only [Act.put, zA1, zA2, zA3, zA4, zA5, zA6]
     refine wpAnyH_done (by kernel_rfl) ?_ _
     go_wp2
     go_roundw
     case rel => exact ⟨k + 1, by omega, by go_num, by rw [Hst.out, HPP.out]; exact hoo9, hb9⟩
     case measure => simp [RowKit.intOf]; omega
  ·have hkn : k = n := by omega
   rw [hkn, List.take_of_length_le (by rw [HPl.out]; omega)] at hown
   have ho : OwnPlR wr w.heap.size _ (plcsOf L) := hown.low HB2.out.size
   obtain ⟨A', c', rfl, hAr⟩ := HOr.out _ wr ho
   have HB := Lib.hid (bstep HB2.out hb)
   clear hown ho hb
   go_wp2_with fail
   refine hAr.mono ?_
   rintro e w6 ⟨v6, rfl, ho6, hb6⟩
   have HF := Lib.hid (And.intro (OwnPlR.low ho6 HB.out.size) (bstep HB.out hb6))
   clear ho6 hb6 hAr
   go_wp2
   go_ret
   exact ⟨_, rfl, HF.out⟩
end Go.Mk
