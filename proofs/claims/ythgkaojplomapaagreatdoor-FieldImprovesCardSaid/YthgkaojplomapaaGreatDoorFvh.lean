/-
  Proved: rows in new memory of which one trial is stored anew, or one row gets a slice of trials of its own; the ranking of rows that are the same but for where their trials lie. Conditions: the rows' trials lie in different blocks; the rows have no error.
-/
import Derived.Test.YthgkaojplomapaaGreatDoorFvb
import Derived.Test.YthgkaojplomapaaGreatDoorFrk
set_option linter.unusedVariables false
set_option linter.unusedSimpArgs false
open Go Go.Proofs Go.RowKit
set_option maxRecDepth 100000
namespace Go.Mk
theorem AprR.ne {P : List RowR} (h : AprR P) {i j : Nat} {r q : RowR} (hi : P[i]? = some r) (hj : P[j]? = some q) (hne : i ≠ j) {g : Nat} (hg : (Value.slice r.A r.n r.c).ownBlock = some g) : (Value.slice q.A q.n q.c).ownBlock ≠ some g := by
  obtain ⟨li, rfl⟩ := List.getElem?_eq_some_iff.1 hi
  obtain ⟨lj, rfl⟩ := List.getElem?_eq_some_iff.1 hj
  have hp := List.pairwise_iff_getElem.1 h
  rcases Nat.lt_or_gt_of_ne hne with q | q
  · intro e
    exact hp i j li lj q g e hg
  · exact hp j i lj li q g hg
theorem own_form {w : World} {B : Nat} {v : Value} {L : List RowR} (h : OwnRows w B v L) (h0 : 0 < L.length) :
    ∃ b c, v = .slice (some ⟨b, 0, none⟩) L.length c ∧ B ≤ b ∧ b < w.heap.size ∧ ∀ (j : Nat) (r : RowR), L[j]? = some r →
      w.cell? ⟨b, 0 + j * 3, none⟩ = some (.string r.s) ∧ w.cell? ⟨b, 0 + j * 3 + 1, none⟩ = some (.slice r.A r.n r.c) ∧ w.cell? ⟨b, 0 + j * 3 + 2, none⟩ = some (.bool r.rt) ∧ IntsZ w r.A r.n r.T ∧ r.n ≤ r.c := by
  obtain ⟨A, c, rfl, hZ⟩ := Rows.of_own h
  rcases h.1.2 with ⟨a, b0⟩ | ⟨g, cap, cur, a, hb, hc, _⟩
  · omega
  · simp only [Value.slice.injEq, true_and] at a
    obtain ⟨rfl, rfl⟩ := a
    obtain ⟨b, off, e, hlt, hcs⟩ := hZ.2 h0
    simp only [Option.some.injEq, Addr.mk.injEq, and_true] at e
    obtain ⟨rfl, rfl⟩ := e
    exact ⟨g, c, rfl, hb, hlt, hcs⟩
theorem rows_store {w : World} {B : Nat} {v : Value} {L : List RowR} (h : OwnRows w B v L) (ha : AprR L) {k : Nat} {r : RowR} (hk : L[k]? = some r) {j : Nat} (hj : j < r.n) :
    ∃ b c g, v = .slice (some ⟨b, 0, none⟩) L.length c ∧ b < w.heap.size ∧ B ≤ g ∧ g < w.heap.size ∧ w.cell? ⟨b, 0 + k * 3 + 1, none⟩ = some (.slice (some ⟨g, 0, none⟩) r.n r.c) ∧
      w.cell? ⟨g, 0 + j, none⟩ = some (.int .i64 (r.T.getD j 0)) ∧ w.frozen? ⟨g, 0 + j, none⟩ = false ∧
      ∀ x : Int, Rows (w.setCell ⟨g, 0 + j, none⟩ (.int .i64 x)) (some ⟨b, 0, none⟩) L.length (L.set k { r with T := r.T.set j x }) := by
  have hkl := (List.getElem?_eq_some_iff.1 hk).1
  obtain ⟨b, c, rfl, hBb, hlt, hcs⟩ := own_form h (by omega)
  have hrow := h.2 r (List.mem_of_getElem? hk)
  obtain ⟨hI, hnc, hcm, hTl⟩ := ints_of_row hrow
  obtain ⟨g, hg⟩ : ∃ g, r.A = some ⟨g, 0, none⟩ := by
    rcases hrow.2 with ⟨a, b0⟩ | ⟨g, cap, cur, a, _⟩
    · omega
    · simp only [Value.slice.injEq] at a
      exact ⟨g, a.1⟩
  obtain ⟨rs, rA, rn, rc, rT, rt⟩ := r
  dsimp only at *
  subst hg
  have hbg : b ≠ g := by
    rcases own_apart (by decide : (55 : Nat) ≠ 3) h.1 hrow with e | e
    · simp [Value.ownBlock] at e
    · intro e2
      subst e2
      exact e rfl
  have hlg := World.ownsRow.lt hrow g rfl
  refine ⟨b, c, g, rfl, hlt, hlg.1, hlg.2, (hcs k _ hk).2.1, ?_, World.ownsRow.frozenAt hrow _, fun x => ?_⟩
  · rw [Nat.zero_add, World.ownsRow.cellAt hrow j (by omega), List.getElem?_map, List.getD_eq_getElem?_getD, List.getElem?_eq_getElem (by omega)]; rfl
  · rw [Nat.zero_add]
    have hst := World.ownsRow.stored hrow j (.int .i64 x)
    have hother : ∀ o, (w.setCell ⟨g, j, none⟩ (.int .i64 x)).cell? ⟨b, o, none⟩ = w.cell? ⟨b, o, none⟩ := fun o => World.cell?_setCell_other _ _ _ _ (fun e => hbg (congrArg Addr.block e).symm)
    refine ⟨by simp, fun _ => ⟨b, 0, rfl, by simpa using hlt, fun i q hq => ?_⟩⟩
    by_cases hik : i = k
    · subst hik
      rw [List.getElem?_set_self hkl] at hq
      obtain rfl := Option.some.inj hq
      obtain ⟨h1, h2, h3, _, _⟩ := hcs i _ hk
      refine ⟨(hother _).trans h1, (hother _).trans h2, (hother _).trans h3, ?_, hnc⟩
      exact (ints_of_row (T := rT.set j x) (by rw [List.map_set]; exact hst.1)).1
    · rw [List.getElem?_set_ne (Ne.symm hik)] at hq
      obtain ⟨h1, h2, h3, _, h5⟩ := hcs i q hq
      have hne := AprR.ne ha hk hq (Ne.symm hik) (g := g) rfl
      exact ⟨(hother _).trans h1, (hother _).trans h2, (hother _).trans h3, (ints_of_row (World.ownsRow.kept (h.2 q (List.mem_of_getElem? hq)) (grown_set w g j _) (.inr hne))).1, h5⟩
theorem rows_slice {w : World} {B : Nat} {v : Value} {L : List RowR} (h : OwnRows w B v L) {k : Nat} {r : RowR} (hk : L[k]? = some r) (x : Int) :
    ∃ b c, v = .slice (some ⟨b, 0, none⟩) L.length c ∧ B ≤ b ∧ b < w.heap.size ∧ w.cell? ⟨b, 0 + k * 3 + 1, none⟩ = some (.slice r.A r.n r.c) ∧ (∀ o, w.frozen? ⟨b, o, none⟩ = false) ∧
      Rows ((w.alloc (.cells #[.int .i64 x] 3)).setCell ⟨b, 0 + k * 3 + 1, none⟩ (.slice (some ⟨w.heap.size, 0, none⟩) 1 1)) (some ⟨b, 0, none⟩) L.length (L.set k { r with A := some ⟨w.heap.size, 0, none⟩, n := 1, c := 1, T := [x] }) := by
  have hkl := (List.getElem?_eq_some_iff.1 hk).1
  obtain ⟨b, c, rfl, hBb, hlt, hcs⟩ := own_form h (by omega)
  obtain ⟨w1, hw1⟩ : ∃ w1, w.alloc (.cells #[.int .i64 x] 3) = w1 := ⟨_, rfl⟩
  have hb1 : Below w.heap.size w w1 := by rw [← hw1]; exact balloc _ (Below.refl _ _)
  have hc0 : w1.cell? ⟨w.heap.size, 0, none⟩ = some (.int .i64 x) := by rw [← hw1]; simp
  have hs1 : w.heap.size < w1.heap.size := by rw [← hw1]; simp
  rw [hw1]
  refine ⟨b, c, rfl, hBb, hlt, (hcs k _ hk).2.1, fun o => World.ownsRow.frozenAt h.1 o, by simp, fun _ => ⟨b, 0, rfl, by simp; omega, fun i q hq => ?_⟩⟩
  have hkeep : ∀ o, o ≠ 0 + k * 3 + 1 → (w1.setCell ⟨b, 0 + k * 3 + 1, none⟩ (.slice (some ⟨w.heap.size, 0, none⟩) 1 1)).cell? ⟨b, o, none⟩ = w.cell? ⟨b, o, none⟩ := fun o ho => (World.cell?_setCell_other _ _ _ _ (fun e => ho (congrArg Addr.off e).symm)).trans (hb1.cell (p := ⟨b, o, none⟩) hlt)
  have hfar : ∀ g o, g ≠ b → (w1.setCell ⟨b, 0 + k * 3 + 1, none⟩ (.slice (some ⟨w.heap.size, 0, none⟩) 1 1)).cell? ⟨g, o, none⟩ = w1.cell? ⟨g, o, none⟩ := fun g o hg => World.cell?_setCell_other _ _ _ _ (fun e => hg (congrArg Addr.block e).symm)
  by_cases hik : i = k
  · subst hik
    rw [List.getElem?_set_self hkl] at hq
    obtain rfl := Option.some.inj hq
    obtain ⟨h1, h2, h3, _, _⟩ := hcs i _ hk
    have hat : (w1.setCell ⟨b, 0 + i * 3 + 1, none⟩ (.slice (some ⟨w.heap.size, 0, none⟩) 1 1)).cell? ⟨b, 0 + i * 3 + 1, none⟩ = some (.slice (some ⟨w.heap.size, 0, none⟩) 1 1) := World.cell?_setCell_same _ _ _ ((hb1.cell (p := ⟨b, _, none⟩) hlt).trans h2)
    refine ⟨(hkeep _ (by omega)).trans h1, hat, (hkeep _ (by omega)).trans h3, ⟨rfl, fun _ => ⟨w.heap.size, 0, rfl, by simpa using hs1, fun t z hz => ?_⟩⟩, Nat.le_refl _⟩
    have ht : t = 0 := by
      have := (List.getElem?_eq_some_iff.1 hz).1
      simp at this
      omega
    subst ht
    obtain rfl : x = z := by simpa using hz
    exact (hfar _ _ (by omega)).trans hc0
  · rw [List.getElem?_set_ne (Ne.symm hik)] at hq
    obtain ⟨h1, h2, h3, _, h5⟩ := hcs i q hq
    have hq2 := h.2 q (List.mem_of_getElem? hq)
    have hne : (Value.slice q.A q.n q.c).ownBlock = none ∨ (Value.slice q.A q.n q.c).ownBlock ≠ some b := by
      rcases own_apart (by decide : (3 : Nat) ≠ 55) hq2 h.1 with e | e
      · exact .inl e
      · exact .inr e
    refine ⟨(hkeep _ (by omega)).trans h1, (hkeep _ (by omega)).trans h2, (hkeep _ (by omega)).trans h3, ?_, h5⟩
    exact (ints_of_row (World.ownsRow.kept (ownN hq2 hb1) (grown_set w1 b _ _) hne)).1
theorem nrm_eq {q r : RowR} (h : nrm q = nrm r) : q.s = r.s ∧ q.n = r.n ∧ q.T = r.T ∧ q.rt = r.rt := by
  obtain ⟨a1, a2, a3, a4, a5, a6⟩ := q
  obtain ⟨b1, b2, b3, b4, b5, b6⟩ := r
  unfold nrm at h
  simp only [RowR.mk.injEq, true_and] at h
  exact ⟨h.1, h.2.1, h.2.2.1, h.2.2.2⟩
theorem nrm_at {L M : List RowR} (h : M.map nrm = L.map nrm) {i : Nat} {r : RowR} (hr : L[i]? = some r) : ∃ q, M[i]? = some q ∧ nrm q = nrm r := by
  have h1 : (M.map nrm)[i]? = some (nrm r) := by rw [h, List.getElem?_map, hr]; rfl
  rw [List.getElem?_map] at h1
  cases hq : M[i]? with
  | none => rw [hq] at h1; cases h1
  | some q => rw [hq] at h1; exact ⟨q, rfl, by simpa using h1⟩
theorem nrm_set {L M : List RowR} (h : M.map nrm = L.map nrm) (i : Nat) {q r : RowR} (hq : nrm q = nrm r) : (M.set i q).map nrm = (L.set i r).map nrm := by
  rw [List.map_set, List.map_set, h, hq]
theorem rank_same {L' M : List RowR} {n c' : Nat} {A' : Option Addr} {w' : World} (hR : Rows w' A' n L') (h : L'.map nrm = M.map nrm) (hM : rowsE M = 0) (hm : ∀ r ∈ M, r.s.size ≤ 40 ∧ r.n ≤ 10 ∧ r.T.length = r.n) (hn : n ≤ 35) :
    Calls Tryz.prog 24 #[.slice A' n c'] w' (fun e w'' => ∃ v, e = .returned (.tuple #[v, .int .i64 0]) ∧ OwnPlcs w'' w'.heap.size v (rankL M) ∧ Below w'.heap.size w' w'') := by
  obtain ⟨q1, q2, q3⟩ := same_rows h
  have q4 := same_mem h (P := fun r => r.s.size ≤ 40 ∧ r.n ≤ 10 ∧ r.T.length = r.n) (fun r => Iff.rfl) hm
  have := fdRanking_any L' n c' A' w' hR (by omega) (fun r hr => ⟨by have := (q4 r hr).1; unfold maxLen; omega, by have := (q4 r hr).2.1; omega, (q4 r hr).2.2⟩)
  rw [q1, hM, if_pos rfl, q2] at this
  exact this
end Go.Mk
