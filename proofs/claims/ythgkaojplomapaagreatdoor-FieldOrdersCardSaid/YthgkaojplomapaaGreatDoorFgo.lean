/-
  Proved: plain facts on what FieldOrders asks of the places of cards. Conditions: the cards have no error.
  Proved: what the first loop of FieldOrders keeps: two rows of cards, a row of names and three boxes, which lie apart. No condition.
  Proved: the standing of cards that are the same but for where their texts lie; what short cards are. Conditions: the cards have no error.
-/
import Derived.Test.YthgkaojplomapaaGreatDoorFgn
import Derived.Test.YthgkaojplomapaaGreatDoorFgm
import Derived.Maps.AppendAt
set_option linter.unusedVariables false
set_option linter.unusedSimpArgs false
open Go Go.Proofs Go.RowKit
set_option maxRecDepth 100000
section
namespace Go.Mk
theorem crdE_mk {N : List ByteArray} {G : List Int} {st : Int} {L : List CardR} (hv : verE N G st = 0) (hl : L.length = N.length) (h : ∀ (k : Nat) (r : CardR), L[k]? = some r → N[k]? = some r.s ∧ frmE r.s (bls r.H) (bls r.O) = 0 ∧ r.nh ≤ G.length) : crdE N G st L = 0 := by
 have hc : ∀ (M : List CardR) (k : Nat), (∀ (j : Nat) (r : CardR), M[j]? = some r → N[k + j]? = some r.s ∧ frmE r.s (bls r.H) (bls r.O) = 0 ∧ r.nh ≤ G.length) → cdsE N G.length k M = 0 := by
  intro M
  induction M with
  | nil => intro k _; rfl
  | cons r M ih =>
   intro k hM
   obtain ⟨h1, h2, h3⟩ := hM 0 r rfl
   rw [Nat.add_zero] at h1
   have h0 : cdE N G.length k r = 0 := by
    unfold cdE
    rw [if_pos h1, h2, if_neg (by omega)]
    simp [fstN]
   rw [cdsE, if_pos h0]
   refine ih (k + 1) fun j q hq => ?_
   have := hM (j + 1) q (by simpa using hq)
   rw [show k + 1 + j = k + (j + 1) by omega]
   exact this
 unfold crdE
 rw [hv, if_pos hl, hc L 0 (fun j r hr => by rw [Nat.zero_add]; exact h j r hr)]
 simp [fstN]
theorem crdR_crdE {N : List ByteArray} {G : List Int} {st : Int} {L : List CardR} (hv : verE N G st = 0) : crdE N G st L = 0 ↔ crdR N G L = 0 := by
 unfold crdE crdR
 rw [hv]
 by_cases h : L.length = N.length
 ·rw [if_pos h, if_pos h]
  by_cases q : cdsE N G.length 0 L = 0
  ·simp [fstN, q]
  ·simp [fstN, q]
 ·rw [if_neg h, if_neg h]
  simp [fstN]
theorem verE_reverse {N : List ByteArray} {G : List Int} {st : Int} (h : verE N G st = 0) : verE N.reverse G st = 0 := by
 unfold verE at h ⊢
 obtain ⟨h1, h2, h3, h4⟩ := fst4_zero h
 have h5 : athE N.reverse = 0 := by
  obtain ⟨a, b, c, d⟩ := (athE_iff N).1 h1
  exact (athE_iff _).2 ⟨by rw [List.length_reverse]; exact a, by rw [List.length_reverse]; exact b, fun s hs => c s (List.mem_reverse.1 hs), ((List.reverse_perm N).nodup_iff).2 d⟩
 rw [h5, h2, h3, h4]
 simp [fstN]
theorem names_eq {N : List ByteArray} {L : List CardR} (hl : L.length = N.length) (h : ∀ (k : Nat) (r : CardR), L[k]? = some r → N[k]? = some r.s) : L.map (·.s) = N := by
 apply List.ext_getElem?
 intro j
 rw [List.getElem?_map]
 cases hj : L[j]? with
 | none =>
  rw [List.getElem?_eq_none_iff] at hj
  rw [List.getElem?_eq_none (by omega)]; rfl
 | some r => rw [h j r hj]; rfl
theorem crdE_reverse {N : List ByteArray} {G : List Int} {st : Int} {L : List CardR} (h : crdE N G st L = 0) : crdE N.reverse G st L.reverse = 0 := by
 obtain ⟨hv, hl, _, _, hr⟩ := crdE_ok h
 refine crdE_mk (verE_reverse hv) (by simpa using hl) fun k r hk => ?_
 have hkl := (List.getElem?_eq_some_iff.1 hk).1
 rw [List.length_reverse] at hkl
 rw [List.getElem?_reverse hkl] at hk
 obtain ⟨h1, h2, h3⟩ := hr _ r hk
 refine ⟨?_, h2, h3⟩
 rw [List.getElem?_reverse (by omega), ← hl]
 exact h1
theorem frmE_plain {s : ByteArray} {H O : List (List UInt8)} (h : frmE s H O = 0) : frmE s H [] = 0 := by
 unfold frmE at h ⊢
 by_cases h1 : fstN [nmE s, if 24 < H.length ∨ 24 < O.length then 5 else 0] ≠ 0
 ·rw [if_pos h1] at h; exact absurd h h1
 ·rw [if_neg h1] at h
  obtain ⟨a1, a2⟩ := fst2_zero (Classical.not_not.1 h1)
  obtain ⟨b1, b2, b3⟩ := fst3_zero h
  have h24 : ¬ (24 < H.length ∨ 24 < (@List.nil (List UInt8)).length) := by
   by_cases q : 24 < H.length ∨ 24 < O.length
   ·rw [if_pos q] at a2; simp at a2
   ·simp at q ⊢; omega
  rw [a1, if_neg h24, if_neg (by simp [fstN]), b1, b3]
  simp [fstN, fstT]
theorem crdE_plain {N : List ByteArray} {G : List Int} {st : Int} {L : List CardR} (h : crdE N G st L = 0) : crdE N G st (L.map plainC) = 0 := by
 obtain ⟨hv, hl, _, _, hr⟩ := crdE_ok h
 refine crdE_mk hv (by rw [List.length_map]; exact hl) fun k r hk => ?_
 rw [List.getElem?_map] at hk
 cases hx : L[k]? with
 | none => rw [hx] at hk; cases hk
 | some x =>
  rw [hx] at hk
  obtain rfl : plainC x = r := by simpa using hk
  obtain ⟨h1, h2, h3⟩ := hr k x hx
  exact ⟨h1, frmE_plain h2, h3⟩
theorem placed_card {N : List ByteArray} {G : List Int} {st : Int} {L : List CardR} (h : crdE N G st L = 0) {i : Nat} {r : CardR} (hi : L[i]? = some r) :
  plcBy (standL G L) r.s = some ⟨r.s, (rkC L r : Nat), (mkC G r).1, (mkC G r).2.1, (mkC G r).2.2⟩ := by
 obtain ⟨hv, hl, _, _, hr⟩ := crdE_ok h
 have hN : L.map (·.s) = N := names_eq hl fun k r hk => (hr k r hk).1
 have hnd : (L.map (·.s)).Nodup := by
  rw [hN]
  unfold verE at hv
  exact ((athE_iff N).1 (fst4_zero hv).1).2.2.2
 have hnm : (plcsC G L).map (·.nm) = L.map (·.s) := by
  apply List.ext_getElem?
  intro j
  rw [List.getElem?_map, List.getElem?_map]
  cases hj : L[j]? with
  | none => rw [List.getElem?_eq_none (by rw [plcsC_len]; exact List.getElem?_eq_none_iff.1 hj)]; rfl
  | some q => rw [plcsC_at hj]; rfl
 have hperm : (standL G L).Perm (plcsC G L) := arr_perm (plcsC_len G L) (plcsC_rk G L)
 have hp : ((standL G L).map (·.nm)).Nodup := by
  rw [(hperm.map (·.nm)).nodup_iff, hnm]
  exact hnd
 have hm : plcC G L L.length i r ∈ standL G L := hperm.mem_iff.2 (List.mem_of_getElem? (plcsC_at hi))
 have := plcBy_mem hp hm
 unfold plcC at this
 rw [rkC_eq hi] at this
 exact this
theorem rkC_zero {L : List CardR} {r : CardR} : rkC L r = 0 ↔ ¬ 0 < (talR r).a := by
 unfold rkC
 by_cases h : 0 < (talR r).a
 ·simp [h]
 ·simp [h]
structure AskO (p r s : Plc) : Prop where
 same : p.rk = r.rk ∧ p.kd = r.kd ∧ p.vl = r.vl ∧ p.rs = r.rs
 mark : 0 < p.rk → p.kd = s.kd ∧ p.vl = s.vl ∧ p.rs = s.rs
 kind : (p.rk = 0 ∧ p.kd = sNone) ∨ (0 < p.rk ∧ p.kd = sLength)
 fst : 1 < s.rk → p.rk = s.rk
theorem orders_asked {N : List ByteArray} {G : List Int} {st : Int} {L : List CardR} (h : crdE N G st L = 0) {i : Nat} {x : CardR} (hi : L[i]? = some x) :
  ∃ p r s : Plc, plcBy (standL G L) x.s = some p ∧ plcBy (standL G L.reverse) x.s = some r ∧ plcBy (standL G (L.map plainC)) x.s = some s ∧ AskO p r s := by
 have hil := (List.getElem?_eq_some_iff.1 hi).1
 have hir : L.reverse[L.length - 1 - i]? = some x := by
  rw [List.getElem?_reverse (by omega), show L.length - 1 - (L.length - 1 - i) = i by omega]; exact hi
 have hip : (L.map plainC)[i]? = some (plainC x) := by rw [List.getElem?_map, hi]; rfl
 have hpp : plcBy (standL G (L.map plainC)) x.s = some ⟨x.s, (rkC (L.map plainC) (plainC x) : Nat), (mkC G (plainC x)).1, (mkC G (plainC x)).2.1, (mkC G (plainC x)).2.2⟩ := placed_card (crdE_plain h) hip
 refine ⟨_, _, _, placed_card h hi, placed_card (crdE_reverse h) hir, hpp, ⟨⟨?_, rfl, rfl, rfl⟩, fun hp => ?_, ?_, fun hs => ?_⟩⟩
 ·show ((rkC L x : Nat) : Int) = (rkC L.reverse x : Nat)
  rw [rkC_perm (List.reverse_perm L).symm]
 ·have ha : 0 < (talR x).a := Classical.byContradiction fun q => by
   have := (rkC_zero (L := L)).2 (show ¬ 0 < (talR x).a from q)
   have hp' : (0 : Int) < (rkC L x : Nat) := hp
   omega
  have e : mkC G x = mkC G (plainC x) := by
   unfold mkC
   rw [tal_plain, if_pos ha, if_pos ha]
  dsimp only
  rw [e]
  exact ⟨rfl, rfl, rfl⟩
 ·by_cases ha : 0 < (talR x).a
  ·right
   refine ⟨?_, ?_⟩
   ·have : rkC L x ≠ 0 := fun q => (rkC_zero.1 q) ha
    dsimp only
    omega
   ·dsimp only
    unfold mkC
    rw [if_pos ha]
  ·left
   refine ⟨?_, ?_⟩
   ·dsimp only
    rw [rkC_zero.2 ha]; rfl
   ·dsimp only
    unfold mkC
    rw [if_neg ha]
 ·dsimp only at hs ⊢
  rw [rkC_plain (List.mem_of_getElem? hi) (by omega)]
theorem hgts_pw : ∀ (G : List Int) (p : Option Int), hgtsE p G = 0 → (∀ q, p = some q → ∀ x ∈ G, q < x) ∧ G.Pairwise (· < ·)
 | [], p, _ => ⟨(fun q _ x hx => by cases hx), List.Pairwise.nil⟩
 | g :: G, p, h => by
  rw [hgtsE] at h
  split at h
  ·rename_i h0
   obtain ⟨h1, h2⟩ := hgts_pw G (some g) h
   have hg : ∀ q, p = some q → q < g := fun q e => by
    subst e
    unfold hgtE at h0
    obtain ⟨_, h3⟩ := fst2_zero h0
    dsimp only at h3
    by_cases c : g ≤ q
    ·rw [if_pos c] at h3; simp at h3
    ·omega
   refine ⟨fun q e x hx => ?_, List.pairwise_cons.2 ⟨fun x hx => h1 g rfl x hx, h2⟩⟩
   rcases List.mem_cons.1 hx with rfl | hx
   ·exact hg q e
   ·have := hg q e
    have := h1 g rfl x hx
    omega
  ·exact absurd h (by assumption)
theorem orders_pair {N : List ByteArray} {G : List Int} {st : Int} {L : List CardR} (h : crdE N G st L = 0) (hT : ∀ r ∈ L, r.H.length = r.nh) {i j : Nat} {x y : CardR} (hi : L[i]? = some x) (hj : L[j]? = some y) {p o : Plc} (hp : plcBy (standL G L) x.s = some p) (ho : plcBy (standL G L) y.s = some o)
  (h1 : 0 < p.rk) (h2 : 0 < o.rk) (h3 : o.vl < p.vl) : p.rk < o.rk := by
 rw [placed_card h hi] at hp
 rw [placed_card h hj] at ho
 obtain rfl := Option.some.inj hp
 obtain rfl := Option.some.inj ho
 dsimp only at *
 have hxa : 0 < (talR x).a := Classical.byContradiction fun q => by have := (rkC_zero (L := L)).2 q; omega
 have hya : 0 < (talR y).a := Classical.byContradiction fun q => by have := (rkC_zero (L := L)).2 q; omega
 obtain ⟨hv, hl, _, _, hr⟩ := crdE_ok h
 have hpw : G.Pairwise (· < ·) := by
  unfold verE at hv
  obtain ⟨_, _, q3, _⟩ := fst4_zero hv
  by_cases q : 24 < G.length
  ·rw [if_pos q] at q3; simp at q3
  ·rw [if_neg q] at q3
   exact (hgts_pw G none q3).2
 unfold mkC at h3
 rw [if_pos hxa, if_pos hya] at h3
 dsimp only at h3
 have tx := tal_range x
 have ty := tal_range y
 have lx := (hr i x hi).2.2
 have ly := (hr j y hj).2.2
 have nx' := hT x (List.mem_of_getElem? hi)
 have ny' := hT y (List.mem_of_getElem? hj)
 have hlt : (talR y).a < (talR x).a := Classical.byContradiction fun q => by
  have hx1 : ((talR x).a - 1).toNat < G.length := by omega
  have hy1 : ((talR y).a - 1).toNat < G.length := by omega
  rw [List.getD_eq_getElem?_getD, List.getD_eq_getElem?_getD, List.getElem?_eq_getElem hx1, List.getElem?_eq_getElem hy1] at h3
  dsimp only [Option.getD_some] at h3
  rcases Nat.lt_or_eq_of_le (show ((talR x).a - 1).toNat ≤ ((talR y).a - 1).toNat by omega) with c | c
  ·have := List.pairwise_iff_getElem.1 hpw _ _ hx1 hy1 c
   omega
  ·have e : G[((talR x).a - 1).toNat] = G[((talR y).a - 1).toNat] := by simp only [c]
   omega
 have hne : ¬ leS (talR x).l (talR y).l := fun q => by
  rcases q with q | ⟨q, _⟩
  ·omega
  ·omega
 have := rkC_lt (List.mem_of_getElem? hi) hxa hya hne
 omega
end Go.Mk
end
section
namespace Go.Mk
theorem row_apart_box {w : World} {B e s n p : Nat} {v : Value} {xs : List Value} {cs : Array Value} {t : TypeId} {f : Nat × Nat} (ho : w.ownsRow B e s v n xs) (hk : w.heap[p]? = some (.cells cs t f)) (he : e ≠ t) : v.ownBlock ≠ some p := fun hv => by
 rcases ho.2 with ⟨a, b⟩ | ⟨g, cap, cur, a, _, hg, _⟩
 ·rw [a] at hv; simp [Value.ownBlock] at hv
 ·rw [a] at hv
  obtain rfl : g = p := by simpa [Value.ownBlock] using hv
  rw [hg] at hk
  simp only [Option.some.injEq, Obj.cells.injEq] at hk
  exact he hk.2.1
theorem box_grown {w w' : World} {B e s n p : Nat} {v : Value} {xs : List Value} {cs : Array Value} {t : TypeId} {f : Nat × Nat} (ho : w.ownsRow B e s v n xs) (hk : w.heap[p]? = some (.cells cs t f)) (he : e ≠ t) (hg : w.grownBy w' v.ownBlock) : w'.heap[p]? = some (.cells cs t f) :=
 (hg.block p (Array.getElem?_eq_some_iff.1 hk).1 (fun z => row_apart_box ho hk he z.symm)).trans hk
structure LoopO (w : World) (g g7 g8 : Nat) (AN AG : Option Addr) (nN cN m cG : Nat) (st : Int) (u8 v9 v10 vN : Value) (P Q : List CardR) (Ns : List ByteArray) (wr : World) : Prop where
 b3 : wr.heap[g]? = some (.cells #[.slice AN nN cN, .slice AG m cG, .int .i64 st] 25 (0, 0))
 b7 : wr.heap[g7]? = some (.cells #[.slice AN nN cN, .slice AG m cG, .int .i64 st] 33 (0, 0))
 b8 : wr.heap[g8]? = some (.cells #[u8, .slice AG m cG, .int .i64 st] 33 (0, 0))
 r9 : wr.ownsRow w.heap.size 66 4 v9 P.length (P.flatMap CardR.cells)
 r10 : wr.ownsRow w.heap.size 66 4 v10 Q.length (Q.flatMap CardR.cells)
 rN : wr.ownsRow w.heap.size 9 1 vN Ns.length (Ns.map Value.string)
 dis : ∀ q, v9.ownBlock = some q → v10.ownBlock ≠ some q
 bel : Below w.heap.size w wr
variable {w w1 w2 : World} {g g7 g8 : Nat} {AN AG : Option Addr} {nN cN m cG : Nat} {st : Int} {u8 v9 v10 vN v' : Value} {P Q : List CardR} {Ns : List ByteArray}
theorem LoopO.below (h : LoopO w g g7 g8 AN AG nN cN m cG st u8 v9 v10 vN P Q Ns w1) (hb : Below w1.heap.size w1 w2) : LoopO w g g7 g8 AN AG nN cN m cG st u8 v9 v10 vN P Q Ns w2 :=
 ⟨(hb.block g (Array.getElem?_eq_some_iff.1 h.b3).1).trans h.b3, (hb.block _ (Array.getElem?_eq_some_iff.1 h.b7).1).trans h.b7, (hb.block _ (Array.getElem?_eq_some_iff.1 h.b8).1).trans h.b8, ownN h.r9 hb, ownN h.r10 hb, ownN h.rN hb, h.dis, bstep h.bel hb⟩
theorem snocC {w : World} {B n : Nat} {v : Value} {P : List CardR} {r : CardR} (hn : P.length = n) (h : w.ownsRow B 66 4 v (n + 1) (P.flatMap CardR.cells ++ r.cells)) : w.ownsRow B 66 4 v (P ++ [r]).length ((P ++ [r]).flatMap CardR.cells) := by
 rw [List.length_append, List.length_singleton, List.flatMap_append, List.flatMap_singleton, hn]
 exact h
theorem LoopO.app9 (h : LoopO w g g7 g8 AN AG nN cN m cG st u8 v9 v10 vN P Q Ns w1) {n : Nat} (hn : P.length = n) {r : CardR} (ho : w2.ownsRow w.heap.size 66 4 v' (n + 1) (P.flatMap CardR.cells ++ r.cells)) (hg : w1.grownBy w2 v9.ownBlock) (hat : v'.ownBlock = v9.ownBlock ∨ v'.ownBlock = some w1.heap.size) :
  LoopO w g g7 g8 AN AG nN cN m cG st u8 v' v10 vN (P ++ [r]) Q Ns w2 := by
 refine ⟨box_grown h.r9 h.b3 (by decide) hg, box_grown h.r9 h.b7 (by decide) hg, box_grown h.r9 h.b8 (by decide) hg, snocC hn ho, World.ownsRow.kept h.r10 hg ?_, World.ownsRow.kept h.rN hg (own_apart (by decide) h.rN h.r9), ?_, h.bel.grown hg h.bel.size (fun r hr => (World.ownsRow.lt h.r9 r hr).1)⟩
 ·cases hq : v10.ownBlock with
  | none => exact .inl rfl
  | some q => exact .inr fun e => h.dis q e.symm hq
 ·intro q hq hq2
  rcases hat with e | e
  ·exact h.dis q (by rw [← e]; exact hq) hq2
  ·rw [hq] at e
   have := (World.ownsRow.lt h.r10 q hq2).2
   have : q = w1.heap.size := Option.some.inj e
   omega
theorem LoopO.app10 (h : LoopO w g g7 g8 AN AG nN cN m cG st u8 v9 v10 vN P Q Ns w1) {n : Nat} (hn : Q.length = n) {r : CardR} (ho : w2.ownsRow w.heap.size 66 4 v' (n + 1) (Q.flatMap CardR.cells ++ r.cells)) (hg : w1.grownBy w2 v10.ownBlock) (hat : v'.ownBlock = v10.ownBlock ∨ v'.ownBlock = some w1.heap.size) :
  LoopO w g g7 g8 AN AG nN cN m cG st u8 v9 v' vN P (Q ++ [r]) Ns w2 := by
 refine ⟨box_grown h.r10 h.b3 (by decide) hg, box_grown h.r10 h.b7 (by decide) hg, box_grown h.r10 h.b8 (by decide) hg, World.ownsRow.kept h.r9 hg ?_, snocC hn ho, World.ownsRow.kept h.rN hg (own_apart (by decide) h.rN h.r10), ?_, h.bel.grown hg h.bel.size (fun r hr => (World.ownsRow.lt h.r10 r hr).1)⟩
 ·cases hq : v9.ownBlock with
  | none => exact .inl rfl
  | some q => exact .inr fun e => h.dis q hq e.symm
 ·intro q hq hq2
  rcases hat with e | e
  ·exact h.dis q hq (by rw [← e]; exact hq2)
  ·rw [hq2] at e
   have := (World.ownsRow.lt h.r9 q hq).2
   have : q = w1.heap.size := Option.some.inj e
   omega
theorem LoopO.appN (h : LoopO w g g7 g8 AN AG nN cN m cG st u8 v9 v10 vN P Q Ns w1) {n : Nat} (hn : Ns.length = n) {s : ByteArray} (ho : w2.ownsRow w.heap.size 9 1 v' (n + 1) (Ns.map Value.string ++ [.string s])) (hg : w1.grownBy w2 vN.ownBlock) :
  LoopO w g g7 g8 AN AG nN cN m cG st u8 v9 v10 v' P Q (Ns ++ [s]) w2 := by
 refine ⟨box_grown h.rN h.b3 (by decide) hg, box_grown h.rN h.b7 (by decide) hg, box_grown h.rN h.b8 (by decide) hg, World.ownsRow.kept h.r9 hg (own_apart (by decide) h.r9 h.rN), World.ownsRow.kept h.r10 hg (own_apart (by decide) h.r10 h.rN), ?_, h.dis, h.bel.grown hg h.bel.size (fun r hr => (World.ownsRow.lt h.rN r hr).1)⟩
 rw [List.length_append, List.length_singleton, List.map_append, hn]
 exact ho
theorem LoopO.set8 (h : LoopO w g g7 g8 AN AG nN cN m cG st u8 v9 v10 vN P Q Ns w1) (hgw : w.heap.size ≤ g8) (h38 : g ≠ g8) (h78 : g7 ≠ g8) (u : Value) : LoopO w g g7 g8 AN AG nN cN m cG st u v9 v10 vN P Q Ns (w1.setCell ⟨g8, 0, none⟩ u) := by
 have ob : ∀ k, k ≠ g8 → (w1.setCell ⟨g8, 0, none⟩ u).heap[k]? = w1.heap[k]? := fun k hk => heap_setCell_other _ ⟨g8, 0, none⟩ k u (fun e => hk e)
 have hg := grown_set w1 g8 0 u
 refine ⟨(ob _ h38).trans h.b3, (ob _ h78).trans h.b7, Go.Joins.block_setCell (i := 0) h.b8 u, World.ownsRow.kept h.r9 hg (.inr (row_apart_box h.r9 h.b8 (by decide))), World.ownsRow.kept h.r10 hg (.inr (row_apart_box h.r10 h.b8 (by decide))), World.ownsRow.kept h.rN hg (.inr (row_apart_box h.rN h.b8 (by decide))), h.dis, h.bel.setCell (p := ⟨g8, 0, none⟩) hgw _⟩
theorem Cards.of_row {w : World} {B : Nat} {v : Value} {L : List CardR} (h : w.ownsRow B 66 4 v L.length (L.flatMap CardR.cells)) (hz : ∀ r ∈ L, CardZ w r) : ∃ A c, v = .slice A L.length c ∧ Cards w A L.length L := by
 rcases h.2 with ⟨a, b⟩ | ⟨g, cap, cur, a, b, c, d, e1, f, hx⟩
 ·exact ⟨none, 0, by rw [a, b], rfl, fun hn => absurd hn (by omega)⟩
 ·refine ⟨_, cap, a, rfl, fun _ => ⟨g, 0, rfl, (Array.getElem?_eq_some_iff.1 c).1, fun j p hp => ?_⟩⟩
  have hj := (List.getElem?_eq_some_iff.1 hp).1
  rw [a] at h
  refine ⟨⟨?_, ?_, ?_, ?_⟩, hz p (List.mem_of_getElem? hp)⟩ <;> rw [Nat.zero_add]
  ·rw [World.ownsRow.cellAt h (j * 4) (by omega)]; exact (card_at _ j _ 0 hp (by decide)).trans rfl
  ·rw [World.ownsRow.cellAt h (j * 4 + 1) (by omega)]; exact (card_at _ j _ 1 hp (by decide)).trans rfl
  ·rw [World.ownsRow.cellAt h (j * 4 + 2) (by omega)]; exact (card_at _ j _ 2 hp (by decide)).trans rfl
  ·rw [World.ownsRow.cellAt h (j * 4 + 3) (by omega)]; exact (card_at _ j _ 3 hp (by decide)).trans rfl
theorem infoR6Card : (Tryz.prog.info? 66).map (fun i => (i.zero, i.size, i.bytes)) = some (some (.agg #[.string ⟨#[]⟩, .slice none 0 0, .slice none 0 0, .bool false]), 4, 72) := by kernel_rfl
end Go.Mk
end
section
namespace Go.Mk
theorem cdsE_nrm (N : List ByteArray) (m : Nat) : ∀ (L : List CardR) (k : Nat), cdsE N m k (L.map cnrm) = cdsE N m k L
 | [], _ => rfl
 | r :: L, k => by
  rw [List.map_cons, cdsE, cdsE, cdsE_nrm N m L (k + 1)]
  rfl
theorem crdE_nrm (N : List ByteArray) (G : List Int) (st : Int) (L : List CardR) : crdE N G st (L.map cnrm) = crdE N G st L := by
 unfold crdE
 rw [List.length_map, cdsE_nrm]
theorem tals_nrm (L : List CardR) : (L.map cnrm).map talR = L.map talR := by rw [List.map_map]; rfl
theorem talA_nrm (L : List CardR) : talA (L.map cnrm) = talA L := by
 funext i
 unfold talA
 rw [tals_nrm]
theorem offP_nrm (L : List CardR) : offP (L.map cnrm) = offP L := by
 funext i j
 unfold offP
 rw [List.getElem?_map, List.getElem?_map]
 cases L[i]? with
 | none => rfl
 | some x =>
  cases L[j]? with
  | none => rfl
  | some y => rfl
theorem bestT_nrm (L : List CardR) : bestT (L.map cnrm) = bestT L := by unfold bestT; rw [tals_nrm]
theorem stR_nrm (L : List CardR) : stR (L.map cnrm) = stR L := by
 funext i
 unfold stR
 rw [talA_nrm]
theorem stB_nrm (L : List CardR) (t : Tal) : stB (L.map cnrm) t = stB L t := by
 funext i j
 unfold stB fstB
 rw [talA_nrm, offP_nrm]
theorem plcsC_nrm (G : List Int) (L : List CardR) : plcsC G (L.map cnrm) = plcsC G L := by
 unfold plcsC
 apply List.ext_getElem?
 intro i
 rw [List.getElem?_mapIdx, List.getElem?_mapIdx, List.getElem?_map, List.length_map]
 cases L[i]? with
 | none => rfl
 | some r =>
  show some (plcC G (L.map cnrm) L.length i (cnrm r)) = some (plcC G L L.length i r)
  unfold plcC
  rw [stR_nrm, bestT_nrm, stB_nrm]
  rfl
theorem standL_nrm (G : List Int) (L : List CardR) : standL G (L.map cnrm) = standL G L := by unfold standL; rw [List.length_map, plcsC_nrm]
theorem same_cards {N : List ByteArray} {G : List Int} {st : Int} {L M : List CardR} (h : L.map cnrm = M.map cnrm) : crdE N G st L = crdE N G st M ∧ standL G L = standL G M ∧ L.length = M.length := by
 refine ⟨?_, ?_, by simpa using congrArg List.length h⟩
 ·rw [← crdE_nrm N G st L, h, crdE_nrm]
 ·rw [← standL_nrm G L, h, standL_nrm]
theorem same_memC {L M : List CardR} (h : M.map cnrm = L.map cnrm) {P : CardR → Prop} (hP : ∀ r, P r ↔ P (cnrm r)) (hL : ∀ r ∈ L, P r) : ∀ r ∈ M, P r := by
 intro r hr
 have h1 : cnrm r ∈ L.map cnrm := by rw [← h]; exact List.mem_map_of_mem hr
 obtain ⟨q, hq, e⟩ := List.mem_map.1 h1
 rw [hP, ← e, ← hP]
 exact hL q hq
theorem stand_same {N : List ByteArray} {G : List Int} {L' M : List CardR} {n c' nN cN m cG : Nat} {A' AN AG : Option Addr} {st : Int} {w' : World} (hN : TextsZ w' AN nN N) (hnN : nN ≤ 1000) (hcN : nN ≤ cN) (hsN : ∀ x ∈ N, x.size ≤ maxLen) (hG : IntsZ w' AG m G) (hm : m ≤ 1000)
  (hR : Cards w' A' n L') (hn : n ≤ 20) (h : L'.map cnrm = M.map cnrm) (hM : crdE N G st M = 0) (hS : ∀ r ∈ M, CardS r) :
  Calls Tryz.prog 8 #[.agg #[.slice AN nN cN, .slice AG m cG, .int .i64 st], .slice A' n c'] w' (fun e w'' => ∃ v, e = .returned (.tuple #[v, .int .i64 0]) ∧ OwnPlcs w'' w'.heap.size v (standL G M) ∧ Below w'.heap.size w' w'') := by
 obtain ⟨q1, q2, q3⟩ := same_cards (N := N) (G := G) (st := st) h
 have := fdStanding_any N nN cN AN G AG m cG st L' n c' A' w' hN hnN hcN hsN hG hm hR hn (same_memC h (P := CardS) (fun r => Iff.rfl) hS)
 rw [q1, hM, if_pos rfl, q2] at this
 exact this
theorem shV_true {N : List ByteArray} {G : List Int} {L : List CardR} (h : shV N G L = true) : (N.length ≤ 35 ∧ ∀ x ∈ N, x.size ≤ 40) ∧ G.length ≤ 27 ∧ L.length ≤ 35 ∧ ∀ r ∈ L, r.s.size ≤ 40 ∧ r.H.length ≤ 30 ∧ r.O.length ≤ 30 ∧ (∀ x ∈ r.H, x.size ≤ 10) ∧ ∀ x ∈ r.O, x.size ≤ 10 := by
 unfold shV at h
 rw [Bool.and_eq_true, Bool.and_eq_true, Bool.and_eq_true, List.all_eq_true] at h
 obtain ⟨h1, h2, h3, h4⟩ := h
 refine ⟨?_, by simpa using h2, by simpa using h3, fun r hr => ?_⟩
 ·unfold shNm at h1
  rw [Bool.and_eq_true, List.all_eq_true] at h1
  exact ⟨by simpa using h1.1, fun x hx => by simpa using h1.2 x hx⟩
 ·have := h4 r hr
  unfold shC at this
  simp only [Bool.and_eq_true, List.all_eq_true, decide_eq_true_eq] at this
  obtain ⟨a, b, c, d, e⟩ := this
  exact ⟨a, b, c, d, e⟩
theorem shV_cards {N : List ByteArray} {G : List Int} {L : List CardR} {w : World} {A : Option Addr} {n : Nat} (h : shV N G L = true) (hZ : Cards w A n L) : ∀ r ∈ L, CardS r ∧ r.nh ≤ 30 ∧ r.no ≤ 30 ∧ CardZ w r := by
 obtain ⟨_, _, _, h4⟩ := shV_true h
 intro r hr
 obtain ⟨a, b, c, d, e⟩ := h4 r hr
 obtain ⟨j, hj⟩ := List.mem_iff_getElem?.1 hr
 have hjl := (List.getElem?_eq_some_iff.1 hj).1
 rw [hZ.1] at hjl
 obtain ⟨_, _, _, _, hc⟩ := hZ.2 (by omega)
 obtain ⟨_, hz⟩ := hc j r hj
 have l1 := hz.1.1
 have l2 := hz.2.2.1.1
 refine ⟨⟨by unfold maxLen; omega, by omega, by omega, fun x hx => by have := d x hx; omega, fun x hx => by have := e x hx; omega⟩, by omega, by omega, hz⟩
end Go.Mk
end
