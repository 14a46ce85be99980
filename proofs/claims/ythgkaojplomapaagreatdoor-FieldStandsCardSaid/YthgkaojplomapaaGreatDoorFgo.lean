/-
  Proved: plain facts on what FieldOrders asks of the places of cards. Conditions: the cards have no error.
  Proved: what the first loop of FieldOrders keeps: two rows of cards, a row of names and three boxes, which
  Proved: the standing of cards that are the same but for where their texts lie; what short cards
-/
import Derived.Test.YthgkaojplomapaaGreatDoorFgn
import Derived.Test.YthgkaojplomapaaGreatDoorFgm
import Derived.Maps.AppendAt
set_option maxHeartbeats 32000000
set_option linter.unusedVariables false
set_option linter.unusedSimpArgs false
open Go Go.Proofs Go.RowKit
set_option maxRecDepth 100000
section
namespace Go.Mk
structure AskO (p r s : Plc) : Prop where
 same : p.rk = r.rk ∧ p.kd = r.kd ∧ p.vl = r.vl ∧ p.rs = r.rs
 mark : 0 < p.rk → p.kd = s.kd ∧ p.vl = s.vl ∧ p.rs = s.rs
 kind : (p.rk = 0 ∧ p.kd = sNone) ∨ (0 < p.rk ∧ p.kd = sLength)
 fst : 1 < s.rk → p.rk = s.rk
end Go.Mk
end
section
namespace Go.Mk
structure LoopO (w : World) (g g7 g8 : Nat) (AN AG : Option Addr) (nN cN m cG : Nat) (st : Int) (u8 v9 v10 vN : Value) (P Q : List CardR) (Ns : List ByteArray) (wr : World) : Prop where
 b3 : wr.heap[g]? = some (.cells #[.slice AN nN cN, .slice AG m cG, .int .i64 st] 25 (0, 0))
 b7 : wr.heap[g7]? = some (.cells #[.slice AN nN cN, .slice AG m cG, .int .i64 st] 33 (0, 0))
 b8 : wr.heap[g8]? = some (.cells #[u8, .slice AG m cG, .int .i64 st] 33 (0, 0))
 r9 : wr.ownsRow w.heap.size 66 4 v9 P.length (P.flatMap CardR.cells)
 r10 : wr.ownsRow w.heap.size 66 4 v10 Q.length (Q.flatMap CardR.cells)
 rN : wr.ownsRow w.heap.size 9 1 vN Ns.length (Ns.map Value.string)
 dis : ∀ q, v9.ownBlock = some q → v10.ownBlock ≠ some q
 bel : Below w.heap.size w wr
variable {w w1 w2 : World} {g g7 g8 : Nat} {AN AG : Option Addr} {nN cN m cG : Nat} {st : Int} {u8 v9 v10 vN v' : Value} {P Q : List CardR} {Ns : List ByteArray}
end Go.Mk
end
section
namespace Go.Mk
theorem cdsE_nrm (N : List ByteArray) (m : Nat) : ∀ (L : List CardR) (k : Nat), cdsE N m k (L.map cnrm) = cdsE N m k L
 | [], _ => rfl
 | r :: L, k => by
  rw [List.map_cons, cdsE, cdsE, cdsE_nrm N m L (k + 1)]
  rfl
theorem crdE_nrm (N : List ByteArray) (G : List Int) (st : Int) (L : List CardR) : crdE N G st (L.map cnrm) = crdE N G st L := by
 unfold crdE
 rw [List.length_map, cdsE_nrm]
theorem tals_nrm (L : List CardR) : (L.map cnrm).map talR = L.map talR := by rw [List.map_map]; rfl
theorem talA_nrm (L : List CardR) : talA (L.map cnrm) = talA L := by
 funext i
 unfold talA
 rw [tals_nrm]
theorem offP_nrm (L : List CardR) : offP (L.map cnrm) = offP L := by
 funext i j
 unfold offP
 rw [List.getElem?_map, List.getElem?_map]
 cases L[i]? with
 | none => rfl
 | some x =>
  cases L[j]? with
  | none => rfl
  | some y => rfl
theorem bestT_nrm (L : List CardR) : bestT (L.map cnrm) = bestT L := by unfold bestT; rw [tals_nrm]
theorem stR_nrm (L : List CardR) : stR (L.map cnrm) = stR L := by
 funext i
 unfold stR
 rw [talA_nrm]
theorem stB_nrm (L : List CardR) (t : Tal) : stB (L.map cnrm) t = stB L t := by
 funext i j
 unfold stB fstB
 rw [talA_nrm, offP_nrm]
theorem plcsC_nrm (G : List Int) (L : List CardR) : plcsC G (L.map cnrm) = plcsC G L := by
 unfold plcsC
 apply List.ext_getElem?
 intro i
 rw [List.getElem?_mapIdx, List.getElem?_mapIdx, List.getElem?_map, List.length_map]
 cases L[i]? with
 | none => rfl
 | some r =>
  show some (plcC G (L.map cnrm) L.length i (cnrm r)) = some (plcC G L L.length i r)
  unfold plcC
  rw [stR_nrm, bestT_nrm, stB_nrm]
  rfl
theorem standL_nrm (G : List Int) (L : List CardR) : standL G (L.map cnrm) = standL G L := by unfold standL; rw [List.length_map, plcsC_nrm]
theorem same_cards {N : List ByteArray} {G : List Int} {st : Int} {L M : List CardR} (h : L.map cnrm = M.map cnrm) : crdE N G st L = crdE N G st M ∧ standL G L = standL G M ∧ L.length = M.length := by
 refine ⟨?_, ?_, by simpa using congrArg List.length h⟩
 ·rw [← crdE_nrm N G st L, h, crdE_nrm]
 ·rw [← standL_nrm G L, h, standL_nrm]
theorem same_memC {L M : List CardR} (h : M.map cnrm = L.map cnrm) {P : CardR → Prop} (hP : ∀ r, P r ↔ P (cnrm r)) (hL : ∀ r ∈ L, P r) : ∀ r ∈ M, P r := by
 intro r hr
 have h1 : cnrm r ∈ L.map cnrm := by rw [← h]; exact List.mem_map_of_mem hr
 obtain ⟨q, hq, e⟩ := List.mem_map.1 h1
 rw [hP, ← e, ← hP]
 exact hL q hq
theorem shV_true {N : List ByteArray} {G : List Int} {L : List CardR} (h : shV N G L = true) : (N.length ≤ 35 ∧ ∀ x ∈ N, x.size ≤ 40) ∧ G.length ≤ 27 ∧ L.length ≤ 35 ∧ ∀ r ∈ L, r.s.size ≤ 40 ∧ r.H.length ≤ 30 ∧ r.O.length ≤ 30 ∧ (∀ x ∈ r.H, x.size ≤ 10) ∧ ∀ x ∈ r.O, x.size ≤ 10 := by
 unfold shV at h
 rw [Bool.and_eq_true, Bool.and_eq_true, Bool.and_eq_true, List.all_eq_true] at h
 obtain ⟨h1, h2, h3, h4⟩ := h
 refine ⟨?_, by simpa using h2, by simpa using h3, fun r hr => ?_⟩
 ·unfold shNm at h1
  rw [Bool.and_eq_true, List.all_eq_true] at h1
  exact ⟨by simpa using h1.1, fun x hx => by simpa using h1.2 x hx⟩
 ·have := h4 r hr
  unfold shC at this
  simp only [Bool.and_eq_true, List.all_eq_true, decide_eq_true_eq] at this
  obtain ⟨a, b, c, d, e⟩ := this
  exact ⟨a, b, c, d, e⟩
theorem shV_cards {N : List ByteArray} {G : List Int} {L : List CardR} {w : World} {A : Option Addr} {n : Nat} (h : shV N G L = true) (hZ : Cards w A n L) : ∀ r ∈ L, CardS r ∧ r.nh ≤ 30 ∧ r.no ≤ 30 ∧ CardZ w r := by
 obtain ⟨_, _, _, h4⟩ := shV_true h
 intro r hr
 obtain ⟨a, b, c, d, e⟩ := h4 r hr
 obtain ⟨j, hj⟩ := List.mem_iff_getElem?.1 hr
 have hjl := (List.getElem?_eq_some_iff.1 hj).1
 rw [hZ.1] at hjl
 obtain ⟨_, _, _, _, hc⟩ := hZ.2 (by omega)
 obtain ⟨_, hz⟩ := hc j r hj
 have l1 := hz.1.1
 have l2 := hz.2.2.1.1
 refine ⟨⟨by unfold maxLen; omega, by omega, by omega, fun x hx => by have := d x hx; omega, fun x hx => by have := e x hx; omega⟩, by omega, by omega, hz⟩
end Go.Mk
end
