/-
  Proved: plain facts on cards for FieldStands: what a tally says of the heights, who is first, how the ranks
  Proved: the reference's best, compare and total as what the tally of a card
-/
import Derived.Test.YthgkaojplomapaaGreatDoorFgo
set_option maxHeartbeats 32000000
set_option linter.unusedVariables false
set_option linter.unusedSimpArgs false
open Go Go.Proofs Go.RowKit
set_option maxRecDepth 100000
section
namespace Go.Mk
def sumX : List (List UInt8) → Nat
 | [] => 0
 | x :: l => nxL x + sumX l
theorem sumX_snoc : ∀ (P : List (List UInt8)) (x : List UInt8), sumX (P ++ [x]) = sumX P + nxL x
 | [], x => by simp [sumX]
 | a :: P, x => by rw [List.cons_append, sumX, sumX, sumX_snoc P x]; omega
theorem sumX_take {H : List (List UInt8)} {k : Nat} {x : List UInt8} (h : H[k]? = some x) : sumX (H.take (k + 1)) = sumX (H.take k) + nxL x := by
 rw [List.take_add_one, h, Option.toList_some, sumX_snoc]
def TalF (H : List (List UInt8)) (t : Tal) : Prop := (t.a = 0 ∧ t.b = 0 ∧ t.c = 0) ∨ ∃ (k : Nat) (x : List UInt8), t.a = (k : Int) + 1 ∧ H[k]? = some x ∧ t.b = -((nxL x : Nat) : Int) ∧ t.c = -((sumX (H.take (k + 1)) : Nat) : Int)
theorem talF_go : ∀ (H P : List (List UInt8)) (t : Tal), TalF (P ++ H) t → TalF (P ++ H) (talG P.length (sumX P) t H)
 | [], P, t, h => h
 | x :: l, P, t, h => by
  have e : P ++ x :: l = (P ++ [x]) ++ l := by simp
  rw [talG]
  split
  ·have := talF_go l (P ++ [x]) ⟨(P.length : Int) + 1, -((nxL x : Nat) : Int), -((sumX P + nxL x : Nat) : Int)⟩ (by
    refine .inr ⟨P.length, x, rfl, by simp, rfl, ?_⟩
    rw [← e, show (P ++ x :: l).take (P.length + 1) = P ++ [x] by rw [List.take_length_add_append]; simp, sumX_snoc])
   rw [← e, List.length_append, List.length_singleton, sumX_snoc] at this
   exact this
  ·have := talF_go l (P ++ [x]) t (by rw [← e]; exact h)
   rw [← e, List.length_append, List.length_singleton, sumX_snoc] at this
   exact this
theorem tal_facts (H : List (List UInt8)) : TalF H (talL H) := talF_go H [] _ (.inl ⟨rfl, rfl, rfl⟩)
theorem cmpT (t u : Tal) : cmpL t.l u.l = if t.a = u.a then (if t.b = u.b then cmpZ t.c u.c else cmpZ t.b u.b) else cmpZ t.a u.a := by
 have hz : ∀ a b : Int, cmpZ a b = 0 ↔ a = b := fun a b => by
  unfold cmpZ
  by_cases q1 : a < b
  ·rw [if_pos q1]; omega
  ·rw [if_neg q1]
   by_cases q2 : b < a
   ·rw [if_pos q2]; omega
   ·rw [if_neg q2]; omega
 show cmpL [t.a, t.b, t.c] [u.a, u.b, u.c] = _
 simp only [cmpL, hz]
 by_cases h1 : t.a = u.a
 ·rw [if_pos h1, if_pos h1]
  by_cases h2 : t.b = u.b
  ·rw [if_pos h2, if_pos h2]
   by_cases h3 : t.c = u.c
   ·rw [if_pos h3, (hz _ _).2 h3]
   ·rw [if_neg h3]
  ·rw [if_neg h2, if_neg h2]
 ·rw [if_neg h1, if_neg h1]
def CardV (r : CardR) : Prop := (∀ x ∈ r.H, htE (bl x) = 0) ∧ ∀ x ∈ r.O, bl x = [111] ∨ bl x = [120]
theorem cardV_of {s : ByteArray} {r : CardR} (h : frmE s (bls r.H) (bls r.O) = 0) : CardV r ∧ r.H.length ≤ 24 ∧ r.O.length ≤ 24 := by
 unfold frmE at h
 by_cases q : fstN [nmE s, if 24 < (bls r.H).length ∨ 24 < (bls r.O).length then 5 else 0] ≠ 0
 ·rw [if_pos q] at h; exact absurd h q
 ·rw [if_neg q] at h
  have q' : fstN [nmE s, if 24 < (bls r.H).length ∨ 24 < (bls r.O).length then 5 else 0] = 0 := Classical.byContradiction fun z => q z
  obtain ⟨_, q2⟩ := fst2_zero q'
  rw [bls_length, bls_length] at q2
  obtain ⟨h1, h2, _⟩ := fst3_zero h
  have h24 : ¬ (24 < r.H.length ∨ 24 < r.O.length) := fun z => by rw [if_pos z] at q2; cases q2
  refine ⟨⟨fun x hx => fstT_all htE h1 _ (List.mem_map_of_mem hx), fun x hx => ?_⟩, by omega, by omega⟩
  have := fstT_all ofE h2 _ (List.mem_map_of_mem hx)
  unfold ofE at this
  split at this
  ·assumption
  ·cases this
def fstC (L : List CardR) (r : CardR) : Bool := decide (0 < (talR r).a) && decide ((talR r).l = (bestT L).l)
theorem leS_a {t u : Tal} (h : leS t.l u.l) : t.a ≤ u.a := by
 have : leS [t.a, t.b, t.c] [u.a, u.b, u.c] := h
 unfold leS at this
 omega
theorem first_all {L : List CardR} {r : CardR} (hr : r ∈ L) : (decide (0 < (talR r).a) && L.all fun x => !(decide (0 < (talR x).a) && decide (0 < cmpL (talR x).l (talR r).l))) = fstC L r := by
 unfold fstC
 by_cases h0 : 0 < (talR r).a
 ·rw [decide_eq_true h0, Bool.true_and, Bool.true_and]
  obtain ⟨h1, y, hy, ey⟩ := bestT_max (List.ne_nil_of_mem hr)
  by_cases h2 : (talR r).l = (bestT L).l
  ·rw [decide_eq_true h2, List.all_eq_true]
   intro x hx
   have : ¬ 0 < cmpL (talR x).l (talR r).l := fun z => (cmpL_pos _ _).1 z (by rw [h2]; exact h1 x hx)
   rw [decide_eq_false this, Bool.and_false]; rfl
  ·rw [decide_eq_false h2]
   rw [← Bool.not_eq_true, List.all_eq_true]
   intro z
   have z1 := z y hy
   have z2 : leS (talR r).l (talR y).l := by rw [ey]; exact h1 r hr
   have z3 := leS_a z2
   rw [decide_eq_true (show 0 < (talR y).a by omega), Bool.true_and] at z1
   have z4 : ¬ 0 < cmpL (talR y).l (talR r).l := by simpa using z1
   have z5 : leS (talR y).l (talR r).l := Classical.byContradiction fun q => z4 ((cmpL_pos _ _).2 q)
   exact h2 ((leS_anti z2 z5).trans ey)
 ·rw [decide_eq_false h0]; rfl
theorem fstB_eq {L : List CardR} {i : Nat} {r : CardR} (h : L[i]? = some r) : fstB L (bestT L) i = fstC L r := by
 unfold fstB fstC
 rw [talA_at h]
def fstsL (L : List CardR) : List Nat := (List.range L.length).filter (fstB L (bestT L))
theorem fsts_mem {L : List CardR} {i : Nat} : i ∈ fstsL L ↔ i < L.length ∧ fstB L (bestT L) i = true := by
 unfold fstsL
 rw [List.mem_filter, List.mem_range]
theorem fsts_take (L : List CardR) (f : Nat → Bool) (k : Nat) : (List.range (k + 1)).filter f = (List.range k).filter f ++ if f k then [k] else [] := by
 rw [List.range_succ, List.filter_append]
 congr 1
 by_cases q : f k = true <;> simp [q]
theorem fsts_none {L : List CardR} (h0 : L ≠ []) : fstsL L = [] ↔ ¬ 0 < (bestT L).a := by
 obtain ⟨h1, y, hy, ey⟩ := bestT_max h0
 have ea : (talR y).a = (bestT L).a := by
  have := congrArg (fun l => l.headD 0) ey
  exact this
 obtain ⟨j, hj⟩ := List.mem_iff_getElem?.1 hy
 have hjl := (List.getElem?_eq_some_iff.1 hj).1
 constructor
 ·intro h z
  have : j ∈ fstsL L := fsts_mem.2 ⟨hjl, by rw [fstB_eq hj]; unfold fstC; rw [decide_eq_true (by omega), decide_eq_true ey]; rfl⟩
  rw [h] at this; cases this
 ·intro h
  refine List.eq_nil_iff_forall_not_mem.2 fun i hi => ?_
  obtain ⟨hl, hb⟩ := fsts_mem.1 hi
  rw [fstB_eq (List.getElem?_eq_getElem hl)] at hb
  unfold fstC at hb
  rw [Bool.and_eq_true, decide_eq_true_eq, decide_eq_true_eq] at hb
  have := congrArg (fun l => l.headD 0) hb.2
  have e : (talR L[i]).a = (bestT L).a := this
  omega
theorem fsts_head {L : List CardR} {i : Nat} {l : List Nat} (h : fstsL L = i :: l) : ∃ r, L[i]? = some r ∧ (talR r).a = (bestT L).a ∧ 0 < (talR r).a := by
 obtain ⟨hl, hb⟩ := fsts_mem.1 (show i ∈ fstsL L by rw [h]; exact List.mem_cons_self)
 rw [fstB_eq (List.getElem?_eq_getElem hl)] at hb
 unfold fstC at hb
 rw [Bool.and_eq_true, decide_eq_true_eq, decide_eq_true_eq] at hb
 have := congrArg (fun l => l.headD 0) hb.2
 exact ⟨L[i], List.getElem?_eq_getElem hl, this, hb.1⟩
def rfB (L : List CardR) (k i : Nat) : Bool := decide (0 < (talA L k).a) && decide (0 < if cmpL (talA L k).l (talA L i).l = 0 ∧ fstB L (bestT L) i = true then offP L k i else cmpL (talA L k).l (talA L i).l)
theorem rfB_eq {L : List CardR} {k i : Nat} (hi : 0 < (talA L i).a) : rfB L k i = stB L (bestT L) k i := by
 unfold rfB stB
 by_cases hk : 0 < (talA L k).a
 ·rw [decide_eq_true hk, Bool.true_and]
  by_cases h0 : cmpL (talA L k).l (talA L i).l = 0
  ·have e := (cmpL_zero _ _).1 h0
   have ef : fstB L (bestT L) k = fstB L (bestT L) i := by
    unfold fstB
    rw [e, decide_eq_true hk, decide_eq_true hi]
   rw [ef, h0]
   cases fstB L (bestT L) i with
   | true => simp
   | false => simp
  ·rw [if_neg (fun z => h0 z.1), decide_eq_false h0, Bool.false_and, Bool.or_false]
 ·rw [decide_eq_false hk, Bool.false_and]
  have h1 : ¬ 0 < cmpL (talA L k).l (talA L i).l := by
   rw [cmpT, if_neg (by omega)]
   unfold cmpZ
   rw [if_pos (by omega)]; decide
  have h2 : ¬ cmpL (talA L k).l (talA L i).l = 0 := by
   rw [cmpT, if_neg (by omega)]
   unfold cmpZ
   rw [if_pos (by omega)]; decide
  rw [decide_eq_false h1, decide_eq_false h2]; rfl
theorem cnt_ref {L : List CardR} {i : Nat} (hi : 0 < (talA L i).a) : ∀ m, cntB (rfB L) i m = cntB (stB L (bestT L)) i m
 | 0 => rfl
 | m + 1 => by rw [cntB, cntB, cnt_ref hi m, rfB_eq hi]
def clC (r : CardR) (k : Nat) : Bool := match r.O[k]? with
 | some x => decide (bl x = [111])
 | none => false
def clL (L : List CardR) (k : Nat) : Bool := L.any fun r => clC r k
def hgtO (L : List CardR) (G : List Int) (st : Int) : Nat → Int
 | 0 => G.getD ((bestT L).a - 1).toNat 0 + st
 | k + 1 => if clL L k then hgtO L G st k + st else max (hgtO L G st k - st) st
def rndG (m : Nat) (L : List CardR) : Nat := L.foldl (fun m r => max m r.no) m
theorem rndG_drop {L : List CardR} {k : Nat} {r : CardR} (h : L[k]? = some r) (m : Nat) : rndG m (L.drop k) = rndG (max m r.no) (L.drop (k + 1)) := by
 obtain ⟨hk, rfl⟩ := List.getElem?_eq_some_iff.1 h
 rw [List.drop_eq_getElem_cons hk]; rfl
theorem rndG_le {b : Nat} : ∀ (L : List CardR) (m : Nat), m ≤ b → (∀ r ∈ L, r.no ≤ b) → rndG m L ≤ b
 | [], m, h, _ => h
 | r :: L, m, h, hr => rndG_le L (max m r.no) (by have := hr r List.mem_cons_self; omega) fun q hq => hr q (List.mem_cons_of_mem _ hq)
theorem any_drop {L : List CardR} {k : Nat} {r : CardR} (f : CardR → Bool) (h : L[k]? = some r) : (L.drop k).any f = (f r || (L.drop (k + 1)).any f) := by
 obtain ⟨hk, rfl⟩ := List.getElem?_eq_some_iff.1 h
 rw [List.drop_eq_getElem_cons hk, List.any_cons]
theorem hgt_ok {G : List Int} : ∀ (G : List Int) (p : Option Int), hgtsE p G = 0 → ∀ x ∈ G, 10 ≤ x ∧ x ≤ 999999
 | [], p, _, x, hx => by cases hx
 | g :: G, p, h, x, hx => by
  rw [hgtsE] at h
  split at h
  ·rename_i q
   rcases List.mem_cons.1 hx with rfl | hx
   ·unfold hgtE at q
    obtain ⟨q1, _⟩ := fst2_zero q
    unfold tenE at q1
    obtain ⟨q2, _⟩ := fst2_zero q1
    unfold rngE at q2
    split at q2
    ·cases q2
    ·omega
   ·exact hgt_ok (G := G) G _ h x hx
  ·rename_i q; exact absurd h q
theorem ver_ok {N : List ByteArray} {G : List Int} {st : Int} (h : verE N G st = 0) : (∀ x ∈ G, 10 ≤ x ∧ x ≤ 999999) ∧ 10 ≤ st ∧ st ≤ 1000 := by
 unfold verE at h
 obtain ⟨_, _, h3, h4⟩ := fst4_zero h
 refine ⟨?_, ?_⟩
 ·split at h3
  ·cases h3
  ·exact hgt_ok (G := G) G none h3
 ·unfold tenE at h4
  obtain ⟨q2, _⟩ := fst2_zero h4
  unfold rngE at q2
  split at q2
  ·cases q2
  ·omega
theorem hgtO_range {L : List CardR} {G : List Int} {st : Int} (hG : ∀ x ∈ G, 10 ≤ x ∧ x ≤ 999999) (h1 : 10 ≤ st) (h2 : st ≤ 1000) : ∀ k, st ≤ hgtO L G st k ∧ hgtO L G st k ≤ 1000000 + (k + 1 : Nat) * 1000
 | 0 => by
  have : 0 ≤ G.getD ((bestT L).a - 1).toNat 0 ∧ G.getD ((bestT L).a - 1).toNat 0 ≤ 999999 := by
   rw [List.getD_eq_getElem?_getD]
   cases hx : G[((bestT L).a - 1).toNat]? with
   | none => simp
   | some x => have := hG x (List.mem_of_getElem? hx); simp; omega
  unfold hgtO
  omega
 | k + 1 => by
  have := hgtO_range (L := L) hG h1 h2 k
  unfold hgtO
  split <;> omega
end Go.Mk
end
section
namespace Go.Mk
theorem r6best_any (r : CardR) (w : World) (hZ : CardZ w r) (hn : r.nh ≤ 1000) (hs : ∀ x ∈ r.H, x.size ≤ 5000) (hv : CardV r) :
  Calls Tryz.prog 64 #[r.val] w (RetPost (.int .i64 ((talR r).a - 1)) w) := by
 have hml : maxLen = 9223372036854775807 := rfl
 obtain ⟨g, hg⟩ : ∃ g, w.heap.size = g := ⟨_, rfl⟩
 obtain ⟨w1, hw1⟩ : ∃ w1, w.alloc (.cells #[.string r.s, .slice r.AH r.nh r.ch, .slice r.AO r.no r.co, .bool r.rt] 66) = w1 := ⟨_, rfl⟩
 have hb1 : Below w.heap.size w w1 := by rw [← hw1]; exact balloc _ (Below.refl _ _)
 have k1 : w1.cell? ⟨g, 1, none⟩ = some (.slice r.AH r.nh r.ch) := by rw [← hw1, ← hg]; simp
 have H := Lib.hid hZ.1
 have HL : Hid ((bls r.H).length = r.nh) := Lib.hid (by rw [bls_length]; exact hZ.1.1)
 have HS : Hid (∀ (k : Nat) (x : ByteArray), r.H[k]? = some x → x.size ≤ maxLen ∧ (lastB (bl x) = 111 ↔ endL (bl x) = [111])) := Lib.hid fun k x hx => by
  have h1 := hs x (List.mem_of_getElem? hx)
  have h2 := shaped_facts (hv.1 x (List.mem_of_getElem? hx))
  exact ⟨by omega, h2.2.2⟩
 have hni : (r.nh : Int) ≤ 1000 := by omega
 have HB1 := Lib.hid hb1
 obtain ⟨T, hT⟩ : ∃ T, talL (bls r.H) = T := ⟨_, rfl⟩
 show Calls Tryz.prog _ _ w (RetPost (.int .i64 ((talL (bls r.H)).a - 1)) w)
 rw [hT]
 have HT : Hid (talG 0 0 ⟨0, 0, 0⟩ ((bls r.H).drop 0) = T) := Lib.hid hT
 clear hZ hn hs hT hv hb1
 obtain ⟨s, AH, nh, ch, HH, AO, no, co, O, rt⟩ := r
 unfold CardR.val
 dsimp only at *
 go_enter Tryz.func64, Tryz.ntmps64
 go_wp2
 go_loopw [3, 4] (fun v i wr => ∃ (k all : Nat) (t : Tal), k ≤ nh ∧ i = .int .i64 k ∧ v = .int .i64 (t.a - 1) ∧ Hid (0 ≤ t.a ∧ t.a ≤ 1000 ∧ t.a ≤ k) ∧ Hid (talG k all t ((bls HH).drop k) = T) ∧ Below w1.heap.size w1 wr) (fun _ i _ => nh - (RowKit.intOf i).toNat)
 case atStart => exact ⟨0, 0, ⟨0, 0, 0⟩, by omega, rfl, rfl, Lib.hid (by decide), HT, Below.refl _ _⟩
 case round =>
  obtain ⟨k, all, t, hk, rfl, rfl, hta, HK, hb⟩ := hrel
  have k1' := (hb.cell (p := ⟨g, 1, none⟩) (by rw [← hw1, ← hg]; simp)).trans k1
  by_cases hlt : k < nh
  ·obtain ⟨b', off, x, rfl, hbl, hx, hcx⟩ := (H.out.below (bstep HB1.out hb)).at_ hlt
   have hki : (k : Int) < (nh : Int) := by omega
   have hk0 : (0 : Int) ≤ (k : Int) := by omega
   have hkt : ((k : Int)).toNat = k := by omega
   obtain ⟨hx1, hx2⟩ := HS.out k x hx
   have hst := HK.out
   rw [talG_drop (bls_get hx)] at hst
   have hC := r6last_any x wr hx1
   have c1 := n111 (lastB (bl x))
   by_cases he : endL (bl x) = [111]
   ·rw [if_pos he] at hst
    rw [decide_eq_true (hx2.2 he)] at c1
    have Hst := Lib.hid hst
    have HB := Lib.hid hb
    clear hst he hx hx2 hx1 hb HK hw1 hg
    go_wp2_with fail
    refine hC.mono ?_
    rintro e w2 ⟨rfl, rfl⟩
    go_wp2
    exact ⟨⟨k + 1, _, _, by omega, by go_num, by simp, Lib.hid ⟨by simp; omega, by simp; omega, by simp⟩, Hst, HB.out⟩, by simp [RowKit.intOf]; omega⟩
   ·rw [if_neg he] at hst
    rw [decide_eq_false (fun z => he (hx2.1 z))] at c1
    have Hst := Lib.hid hst
    have HB := Lib.hid hb
    have HA := Lib.hid hta.out
    clear hst he hx hx2 hx1 hb HK hw1 hg hta
    go_wp2_with fail
    refine hC.mono ?_
    rintro e w2 ⟨rfl, rfl⟩
    go_wp2
    go_roundw
    case rel => exact ⟨k + 1, _, t, by omega, by go_num, rfl, Lib.hid ⟨HA.out.1, HA.out.2.1, by have := HA.out.2.2; omega⟩, Hst, HB.out⟩
    case measure => simp [RowKit.intOf]; omega
  ·have hst := HK.out
   rw [List.drop_eq_nil_of_le (by rw [HL.out]; omega), talG] at hst
   subst hst
   have HB := Lib.hid (bstep HB1.out hb)
   clear hb HK hw1 hg
   go_wp2
   go_ret
   exact ⟨rfl, HB.out⟩
theorem r6compare_any (a b : Int) (w : World) : Calls Tryz.prog 118 #[.int .i64 a, .int .i64 b] w (RetSame (.int .i64 (cmpZ a b)) w) := by
 unfold cmpZ
 by_cases h1 : a < b
 ·rw [if_pos h1]
  have h2 : ¬ b < a := by omega
  go_enter Tryz.func118, Tryz.ntmps118
  go_wp2
  go_ret
  exact ⟨rfl, rfl⟩
 ·rw [if_neg h1]
  by_cases h2 : b < a
  ·rw [if_pos h2]
   go_enter Tryz.func118, Tryz.ntmps118
   go_wp2
   go_ret
   exact ⟨rfl, rfl⟩
  ·rw [if_neg h2]
   go_enter Tryz.func118, Tryz.ntmps118
   go_wp2
   go_ret
   exact ⟨rfl, rfl⟩
theorem r6total_any (r : CardR) (w : World) (hZ : CardZ w r) (hn : r.nh ≤ 1000) (hs : ∀ x ∈ r.H, x.size ≤ 5000) (hv : CardV r) :
  Calls Tryz.prog 119 #[r.val] w (RetPost (.int .i64 (-(talR r).c)) w) := by
 have hml : maxLen = 9223372036854775807 := rfl
 obtain ⟨g, hg⟩ : ∃ g, w.heap.size = g := ⟨_, rfl⟩
 obtain ⟨w1, hw1⟩ : ∃ w1, w.alloc (.cells #[.string r.s, .slice r.AH r.nh r.ch, .slice r.AO r.no r.co, .bool r.rt] 66) = w1 := ⟨_, rfl⟩
 have hb1 : Below w.heap.size w w1 := by rw [← hw1]; exact balloc _ (Below.refl _ _)
 have hgl : g < w1.heap.size := by rw [← hw1, ← hg]; simp
 have HC : Hid (∀ w', Below w1.heap.size w1 w' → w'.cell? ⟨g, 0, none⟩ = some (.string r.s) ∧ w'.cell? ⟨g, 1, none⟩ = some (.slice r.AH r.nh r.ch) ∧ w'.cell? ⟨g, 2, none⟩ = some (.slice r.AO r.no r.co) ∧ w'.cell? ⟨g, 3, none⟩ = some (.bool r.rt)) := Lib.hid fun w' hb => by
  refine ⟨?_, ?_, ?_, ?_⟩
  all_goals
   refine (hb.cell (p := ⟨g, _, none⟩) hgl).trans ?_
   rw [← hw1, ← hg]; simp
 have H := Lib.hid hZ.1
 have HS : Hid (∀ (k : Nat) (x : ByteArray), r.H[k]? = some x → x.size ≤ maxLen ∧ cx (bl x) = nxL (bl x) ∧ nxL (bl x) ≤ 5000) := Lib.hid fun k x hx => by
  have h1 := hs x (List.mem_of_getElem? hx)
  have h2 := shaped_facts (hv.1 x (List.mem_of_getElem? hx))
  have h3 := nxL_le (bl x)
  rw [show (bl x).length = x.size from Array.length_toList] at h3
  exact ⟨by omega, h2.1, by omega⟩
 have hni : (r.nh : Int) ≤ 1000 := by omega
 have HB1 := Lib.hid hb1
 have HBE : Hid (∀ w', Below w1.heap.size w1 w' → Calls Tryz.prog 64 #[r.val] w' (RetPost (.int .i64 ((talR r).a - 1)) w')) := Lib.hid fun w' hb => r6best_any r w' (hZ.below (bstep hb1 hb)) hn hs hv
 obtain ⟨m, hm, hmn, hmc⟩ : ∃ m : Nat, (talR r).a = (m : Int) ∧ m ≤ r.nh ∧ (talR r).c = -((sumX ((bls r.H).take m) : Nat) : Int) := by
  have hl : (bls r.H).length = r.nh := by rw [bls_length]; exact hZ.1.1
  rcases tal_facts (bls r.H) with ⟨h1, _, h3⟩ | ⟨k, x, h1, h2, _, h4⟩
  ·exact ⟨0, h1, by omega, by rw [List.take_zero]; exact h3⟩
  ·have := (List.getElem?_eq_some_iff.1 h2).1
   exact ⟨k + 1, by unfold talR; omega, by omega, h4⟩
 rw [hmc, Int.neg_neg]
 rw [hm] at HBE
 have HST : Hid (∀ (k : Nat) (x : ByteArray), r.H[k]? = some x → sumX ((bls r.H).take (k + 1)) = sumX ((bls r.H).take k) + nxL (bl x)) := Lib.hid fun k x hx => sumX_take (bls_get hx)
 clear hZ hn hs hv hb1 hm hmc hgl
 obtain ⟨k0, k1, k2, k3⟩ := HC.out w1 (Below.refl _ _)
 obtain ⟨s, AH, nh, ch, HH, AO, no, co, O, rt⟩ := r
 unfold CardR.val at *
 dsimp only at *
 go_enter Tryz.func119, Tryz.ntmps119
 go_wp2
 go_loopw [3, 4] (fun v i wr => ∃ k : Nat, k ≤ m ∧ i = .int .i64 k ∧ v = .int .i64 (sumX ((bls HH).take k) : Nat) ∧ Hid (sumX ((bls HH).take k) ≤ 5000 * k) ∧ Below w1.heap.size w1 wr) (fun _ i _ => m - (RowKit.intOf i).toNat)
 case atStart => exact ⟨0, by omega, rfl, by rw [List.take_zero]; rfl, Lib.hid (by rw [List.take_zero]; exact Nat.le_refl _), Below.refl _ _⟩
 case round =>
  obtain ⟨k, hk, rfl, rfl, hall, hb⟩ := hrel
  clear k0 k1 k2 k3
  obtain ⟨k0, k1, k2, k3⟩ := HC.out wr hb
  have hBE := HBE.out wr hb
  by_cases hlt : k < m
  ·have hlt2 : k < nh := by omega
   have hkm : (k : Int) ≤ (m : Int) - 1 := by omega
   have hki : (k : Int) < (nh : Int) := by omega
   have hk0 : (0 : Int) ≤ (k : Int) := by omega
   have hkt : ((k : Int)).toNat = k := by omega
   have HB := Lib.hid hb
   have hst' : ∃ x, HH[k]? = some x := by
    obtain ⟨_, _, x, _, _, hx, _⟩ := (H.out.below (bstep HB1.out hb)).at_ hlt2
    exact ⟨x, hx⟩
   obtain ⟨x, hx⟩ := hst'
   have hst := HST.out k x hx
   obtain ⟨hx1, hx2, hx3⟩ := HS.out k x hx
   have HA := hall.out
   obtain ⟨f, hf⟩ : ∃ f, nxL (bl x) = f := ⟨_, rfl⟩
   obtain ⟨q, hq⟩ : ∃ q, sumX ((bls HH).take k) = q := ⟨_, rfl⟩
   rw [hf] at hst hx2 hx3
   rw [hq] at hst HA ⊢
   have Hst := Lib.hid hst
   have HX := Lib.hid hx
   have HF : Hid (∀ w' : World, Calls Tryz.prog 112 #[.string x] w' (RetSame (.int .i64 (f : Nat)) w')) := Lib.hid fun w' => by rw [← hx2]; exact r6failures_any x w' hx1
   have hqi : (q : Int) ≤ 5000000 := by omega
   have hq0 : (0 : Int) ≤ (q : Int) := by omega
   have hfi : (f : Int) ≤ 5000 := by omega
   have hf0 : (0 : Int) ≤ (f : Int) := by omega
   have HA' := Lib.hid HA
   have HX3 := Lib.hid hx3
   clear hst hx hx1 hx2 hx3 hf hq hb hall HA hw1 hg
   go_wp2_with fail
   refine hBE.mono ?_
   rintro e w2 ⟨rfl, hb2⟩
   have hb3 := bstep HB.out hb2
   have HB3 := Lib.hid hb3
   obtain ⟨b', off, x', rfl, hbl, hx', hcx⟩ := (H.out.below (bstep HB1.out hb3)).at_ hlt2
   have ex : x' = x := by have := HX.out; rw [this] at hx'; exact (Option.some.inj hx').symm
   subst ex
   clear k0 k1 k2 k3 hb2 hBE hb3 hx'
   obtain ⟨k0, k1, k2, k3⟩ := HC.out w2 HB3.out
   go_wp2_with fail
   refine (HF.out _).mono ?_
   rintro e w3 ⟨rfl, rfl⟩
   go_wp2
   exact ⟨⟨k + 1, by omega, by go_num, by rw [Hst.out]; go_num, Lib.hid (by rw [Hst.out]; have := HA'.out; have := HX3.out; omega), HB3.out⟩, by simp [RowKit.intOf]; omega⟩
  ·have hkm : k = m := by omega
   have hkm2 : ¬ (k : Int) ≤ (m : Int) - 1 := by omega
   have HB := Lib.hid hb
   have HE := Lib.hid hkm
   clear hb hkm hw1 hg
   go_wp2_with fail
   refine hBE.mono ?_
   rintro e w2 ⟨rfl, hb2⟩
   have HB3 := Lib.hid (bstep HB1.out (bstep HB.out hb2))
   clear hb2
   go_wp2
   have := HE.out
   subst this
   go_ret
   exact ⟨rfl, HB3.out⟩
end Go.Mk
end
