/-
  Proved: pure facts for the law MarkPreorder: marks in the cells of an own row, a turned list, the count of better marks. No assumption beyond those named.
-/
import Derived.Test.YtapglbjojpkblaaGreatDoorMx
set_option linter.unusedVariables false
set_option linter.unusedSimpArgs false
open Go Go.Proofs Go.RowKit
set_option maxRecDepth 100000
namespace Go.Mk
/-- The cells of marks. -/
def cellsM (L : List M) : List Value := L.flatMap fun m => [.string m.1, .int .i64 m.2.1, .string m.2.2]
theorem cellsM_len (L : List M) : (cellsM L).length = L.length * 3 := by
  unfold cellsM
  induction L with
  | nil => rfl
  | cons m l ih => rw [List.flatMap_cons, List.length_append, ih]; simp; omega
theorem cellsM_at (L : List M) : ∀ (i : Nat) (m : M), L[i]? = some m → (cellsM L)[i * 3]? = some (.string m.1) ∧ (cellsM L)[i * 3 + 1]? = some (.int .i64 m.2.1) ∧ (cellsM L)[i * 3 + 2]? = some (.string m.2.2) := by
  induction L with
  | nil => intro i m h; cases h
  | cons q l ih =>
    intro i m h
    have e : cellsM (q :: l) = .string q.1 :: .int .i64 q.2.1 :: .string q.2.2 :: cellsM l := rfl
    cases i with
    | zero =>
      obtain rfl : q = m := by simpa using h
      rw [e]
      exact ⟨rfl, rfl, rfl⟩
    | succ i =>
      have h' : l[i]? = some m := by simpa using h
      obtain ⟨a, b, c⟩ := ih i m h'
      rw [e, show (i + 1) * 3 = i * 3 + 1 + 1 + 1 by omega, show i * 3 + 1 + 1 + 1 + 1 = (i * 3 + 1) + 1 + 1 + 1 by omega, show i * 3 + 1 + 1 + 1 + 2 = (i * 3 + 2) + 1 + 1 + 1 by omega]
      simp only [List.getElem?_cons_succ]
      exact ⟨a, b, c⟩
theorem cellsM_append (L : List M) (m : M) : cellsM (L ++ [m]) = cellsM L ++ [.string m.1, .int .i64 m.2.1, .string m.2.2] := by simp [cellsM]
theorem Marks.of_own {w : World} {base e n : Nat} {v : Value} {L : List M} (h : w.ownsRow base e 3 v n (cellsM L)) : ∃ A cap, v = .slice A n cap ∧ Marks w w.heap.size A n L := by
  have hl : L.length = n := by have := h.1; rw [cellsM_len] at this; omega
  rcases h.2 with ⟨a, b⟩ | ⟨g, cap, cur, a, b, c, d, e1, f, hx⟩
  · subst b
    exact ⟨none, 0, a, hl, Nat.le_refl _, fun hn => absurd hn (by omega)⟩
  · have hg : g < w.heap.size := by
      rcases Nat.lt_or_ge g w.heap.size with hq | hq
      · exact hq
      · rw [Array.getElem?_eq_none hq] at c; cases c
    have hc : ∀ (j : Nat) (u : Value), j < n * 3 → (cellsM L)[j]? = some u → w.cell? ⟨g, j, none⟩ = some u := fun j u hj hu => by
      rw [← hx, List.getElem?_take, if_pos hj] at hu
      have h2 : cur[j]? = some u := by simpa using hu
      simp [World.cell?, c, h2]
    refine ⟨_, cap, a, hl, Nat.le_refl _, fun _ => ⟨g, 0, rfl, hg, fun i m hm => ?_⟩⟩
    have hi : i < n := by rw [← hl]; exact (List.getElem?_eq_some_iff.1 hm).1
    obtain ⟨p0, p1, p2⟩ := cellsM_at L i m hm
    rw [Nat.zero_add]
    exact ⟨hc _ _ (by omega) p0, hc _ _ (by omega) p1, hc _ _ (by omega) p2⟩

/-- The marks of a list in a drawn order. -/
def turnL (L : List M) (p : List Nat) : List M := p.map fun i => L.getD i (⟨#[]⟩, 0, ⟨#[]⟩)
theorem turnL_perm (L : List M) (p : List Nat) (h : p.Perm (List.range L.length)) : (turnL L p).Perm L := by
  have e : (List.range L.length).map (fun i => L.getD i (⟨#[]⟩, 0, ⟨#[]⟩)) = L := by
    apply List.ext_getElem?
    intro i
    rw [List.getElem?_map]
    rcases Nat.lt_or_ge i L.length with hi | hi
    · rw [List.getElem?_range hi]
      simp [List.getD_eq_getElem?_getD, List.getElem?_eq_getElem hi]
    · rw [List.getElem?_eq_none (by simpa using hi), List.getElem?_eq_none hi]
      rfl
  have := h.map (fun i => L.getD i ((⟨#[]⟩, 0, ⟨#[]⟩) : M))
  rw [e] at this
  exact this
theorem turnL_take (L : List M) (p : List Nat) (k i : Nat) (m : M) (hp : p[k]? = some i) (hL : L[i]? = some m) : turnL L (p.take (k + 1)) = turnL L (p.take k) ++ [m] := by
  obtain ⟨hk, e⟩ := List.getElem?_eq_some_iff.1 hp
  unfold turnL
  rw [List.take_succ_eq_append_getElem hk, e]
  simp [List.getD_eq_getElem?_getD, hL]
theorem turnL_at (L : List M) (p : List Nat) (k i : Nat) (m : M) (hp : p[k]? = some i) (hL : L[i]? = some m) : (turnL L p)[k]? = some m := by
  unfold turnL
  rw [List.getElem?_map, hp]
  simp [List.getD_eq_getElem?_getD, hL]

/-- How many marks of a list are better than one of them. -/
def bet (b : Bool) (x : M) (L : List M) : Nat := (L.filter fun m => decide (cm b m x < 0)).length
theorem bet_take (b : Bool) (x : M) (L : List M) (k : Nat) (m : M) (h : L[k]? = some m) : bet b x (L.take (k + 1)) = bet b x (L.take k) + (if cm b m x < 0 then 1 else 0) := by
  obtain ⟨hk, e⟩ := List.getElem?_eq_some_iff.1 h
  unfold bet
  rw [List.take_succ_eq_append_getElem hk, e, List.filter_append, List.length_append]
  congr 1
  by_cases q : cm b m x < 0 <;> simp [q]
theorem bet_le (b : Bool) (x : M) (L : List M) (k : Nat) : bet b x (L.take k) ≤ k := by
  unfold bet
  refine Nat.le_trans (List.length_filter_le _ _) ?_
  rw [List.length_take]
  exact Nat.min_le_left _ _
theorem bet_rank (b : Bool) (x : M) (L : List M) (h : x.1 ≠ sNone) : rankM b L x = 1 + bet b x L := by
  unfold rankM bet
  rw [if_neg (by rw [none_beq]; simp [h])]
  unfold cntB
  congr 2
  exact List.filter_congr fun m _ => isBetter_cm b m x h
theorem rankM_none (b : Bool) (x : M) (L : List M) (h : x.1 = sNone) : rankM b L x = 0 := by
  unfold rankM
  rw [if_pos (by rw [none_beq]; simp [h])]
theorem rankM_le (b : Bool) (x : M) (L : List M) : rankM b L x ≤ L.length + 1 := by
  by_cases h : x.1 = sNone
  · rw [rankM_none b x L h]; omega
  · rw [bet_rank b x L h]
    have := bet_le b x L L.length
    rw [List.take_length] at this
    omega
end Go.Mk
