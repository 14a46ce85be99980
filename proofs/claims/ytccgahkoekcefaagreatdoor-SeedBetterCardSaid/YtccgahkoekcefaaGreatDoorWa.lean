/-
  Proved: plain facts on the places of entrants in their order: the place of an element in a list in a strict order is the number of those below it; an entrant whose mark becomes no worse does not come later. Conditions: entrants without an error.
-/
import Derived.Test.YtccgahkoekcefaaGreatDoorQm
set_option linter.unusedVariables false
set_option linter.unusedSimpArgs false
open Go Go.Proofs Go.RowKit
set_option maxRecDepth 100000
namespace Go.Mk
def ltB (L : List Ent) (D : List Int) (x y : Int) : Bool := decide (keyE L x < keyE L y) || (decide (keyE L x = keyE L y) && (decide (D.idxOf x < D.idxOf y) || (decide (D.idxOf x = D.idxOf y) && decide (x < y))))
theorem ltB_iff (L : List Ent) (D : List Int) (x y : Int) : ltB L D x y = true ↔ ltE L D x y := by
  unfold ltB ltE
  simp [Bool.or_eq_true, Bool.and_eq_true, decide_eq_true_eq]
theorem idx_count {lt : Int → Int → Prop} (ho : Ord lt) (b : Int → Bool) (x : Int) (hb : ∀ y, b y = true ↔ lt y x) : ∀ O : List Int, O.Pairwise lt → x ∈ O → O.idxOf x = O.countP b
  | [], _, h => by cases h
  | z :: O, hp, hm => by
    rw [List.pairwise_cons] at hp
    by_cases e : z = x
    · subst e
      rw [List.idxOf_cons_self]
      symm
      rw [List.countP_eq_zero]
      intro y hy q
      have hq := (hb y).1 q
      rcases List.mem_cons.1 hy with rfl | hy
      · exact ho.irr hq
      · exact ho.irr (ho.trans hq (hp.1 y hy))
    · have hm2 : x ∈ O := by
        rcases List.mem_cons.1 hm with q | q
        · exact absurd q.symm e
        · exact q
      rw [List.idxOf_cons, show (z == x) = false by simpa using e, cond_false, idx_count ho b x hb O hp.2 hm2, List.countP_cons, if_pos ((hb z).2 (hp.1 x hm2))]
theorem keyE_set {L : List Ent} {k : Nat} {e : Ent} (y : Int) (hy : 0 ≤ y) (hne : y ≠ (k : Int)) : keyE (L.set k e) y = keyE L y := by
  unfold keyE entAt
  rw [List.getD_eq_getElem?_getD, List.getD_eq_getElem?_getD, List.getElem?_set_ne (by omega)]
theorem keyE_at {L : List Ent} {k : Nat} {e : Ent} (h : L[k]? = some e) : keyE L (k : Int) = mkeyP e.kind e.value := by
  unfold keyE
  rw [entAt_of h]
theorem ord_better {L : List Ent} (h : chkEnts L = 0) (key : Nat) {k : Nat} {e e' : Ent} (he : L[k]? = some e) (h' : chkEnts (L.set k e') = 0) (hk : mkeyP e'.kind e'.value ≤ mkeyP e.kind e.value) :
    (ordZ (L.set k e') key).idxOf (k : Int) ≤ (ordZ L key).idxOf (k : Int) := by
  have hkl := (List.getElem?_eq_some_iff.1 he).1
  have hl : (L.set k e').length = L.length := List.length_set
  obtain ⟨a1, a2⟩ := ordZ_ok h key
  obtain ⟨b1, b2⟩ := ordZ_ok h' key
  rw [hl] at b1 b2
  have hp : (drawnZ key L.length).Perm ((List.range L.length).map fun x : Nat => (x : Int)) := by
    unfold drawnZ
    exact (Sh.order_perm key L.length).map _
  have hm : (k : Int) ∈ drawnZ key L.length := hp.mem_iff.2 (List.mem_map.2 ⟨k, List.mem_range.2 hkl, rfl⟩)
  rw [idx_count (ltE_ord L _) (fun y => ltB L (drawnZ key L.length) y k) k (fun y => ltB_iff _ _ _ _) _ a1 (a2.mem_iff.2 hm),
    idx_count (ltE_ord (L.set k e') _) (fun y => ltB (L.set k e') (drawnZ key L.length) y k) k (fun y => ltB_iff _ _ _ _) _ b1 (b2.mem_iff.2 hm), a2.countP_eq, b2.countP_eq]
  refine List.countP_mono_left fun y hy q => ?_
  obtain ⟨y1, y2⟩ := drawnZ_mem key L.length hy
  rw [ltB_iff] at q ⊢
  have e1 : keyE L (k : Int) = mkeyP e.kind e.value := keyE_at he
  have e2 : keyE (L.set k e') (k : Int) = mkeyP e'.kind e'.value := keyE_at (by rw [List.getElem?_set_self hkl])
  by_cases hyk : y = (k : Int)
  · subst hyk
    exact absurd q (ltE_ord _ _).irr
  · have e3 := keyE_set (L := L) (k := k) (e := e') y y1 hyk
    unfold ltE at q ⊢
    omega
def invZ (D : List Int) (n i : Nat) : List Int := (List.range n).map fun x : Nat => if D.idxOf (x : Int) < i then (D.idxOf (x : Int) : Int) else 0
theorem invZ_len (D : List Int) (n i : Nat) : (invZ D n i).length = n := by simp [invZ]
theorem invZ_zero (D : List Int) (n : Nat) : invZ D n 0 = List.replicate n 0 := by
  unfold invZ
  apply List.ext_getElem?
  intro i
  by_cases h : i < n <;> simp [h]
theorem invZ_step {D : List Int} (hn : D.Nodup) {n i d : Nat} (hd : d < n) (hi : D[i]? = some (d : Int)) : invZ D n (i + 1) = (invZ D n i).set d (i : Int) := by
  have hil := (List.getElem?_eq_some_iff.1 hi).1
  have hx : D.idxOf (d : Int) = i := by
    have := idx_at hn hil
    rw [ga_at hil] at hi
    rw [Option.some.inj hi] at this
    exact this
  unfold invZ
  apply List.ext_getElem?
  intro j
  rw [List.getElem?_set]
  by_cases hj : j < n
  · by_cases e : d = j
    · subst e
      simp [hd, hx]
    · rw [if_neg e]
      simp only [List.getElem?_map, List.getElem?_range hj, Option.map_some]
      congr 1
      have hne : D.idxOf (j : Int) ≠ i := fun q => e (by
        have hm : (j : Int) ∈ D := by
          rw [← List.idxOf_lt_length_iff, q]; exact hil
        have := List.getElem_idxOf (xs := D) (x := (j : Int)) (by rw [q]; exact hil)
        have h2 := (List.getElem?_eq_some_iff.1 hi).2
        simp only [q] at this
        rw [h2] at this
        omega)
      by_cases h1 : D.idxOf (j : Int) < i
      · rw [if_pos h1, if_pos (by omega)]
      · rw [if_neg h1, if_neg (by omega)]
  · have q1 : ¬ d = j := by omega
    rw [if_neg q1]
    simp [hj]
theorem invZ_full {D : List Int} {n : Nat} (hl : D.length = n) {x : Nat} (hx : x < n) (hm : (x : Int) ∈ D) : ga (invZ D n n) x = (D.idxOf (x : Int) : Int) := by
  have h1 : D.idxOf (x : Int) < n := by rw [← hl]; exact List.idxOf_lt_length_of_mem hm
  have : (invZ D n n)[x]? = some (D.idxOf (x : Int) : Int) := by
    unfold invZ
    simp [hx, h1]
  have h2 := ga_at (L := invZ D n n) (i := x) (by rw [invZ_len]; exact hx)
  rw [h2] at this
  exact Option.some.inj this
end Go.Mk
