/-
  Proved: Ranking of package field: the first error of the rows, or their places in the order of their ranks, in new memory. Conditions: at most 1,000 rows, where the slices say, with names no longer than an int says, and at most 1,000 trials each.
  Proved: Results of package field: the first error of the rows, or the athletes and marks of their places in the order of their ranks, in new memory. Conditions: those of Ranking.
-/
import Derived.Test.YtclapdfkgafenaaGreatDoorFrb
section
set_option linter.unusedVariables false
set_option linter.unusedSimpArgs false
open Go Go.Proofs Go.RowKit
set_option maxRecDepth 100000
namespace Go.Mk
theorem trsE_zero : ∀ {T : List Int}, trsE T = 0 → ∀ t ∈ T, -2 ≤ t ∧ t ≤ 999999
  | [], _, t, ht => by simp at ht
  | x :: T, h, t, ht => by
    rw [trsE] at h
    by_cases hx : rngE x (-2) 999999 = 0
    · rw [if_pos hx] at h
      rcases List.mem_cons.1 ht with rfl | ht
      · unfold rngE at hx
        by_cases q : t < -2 ∨ 999999 < t
        · rw [if_pos q] at hx; simp at hx
        · omega
      · exact trsE_zero h t ht
    · rw [if_neg hx] at h
      exact absurd h hx
theorem rwsE_zero : ∀ {P : List ByteArray} {L : List RowR}, rwsE P L = 0 → ∀ r ∈ L, trialsE r = 0
  | _, [], _, r, hr => by simp at hr
  | P, x :: L, h, r, hr => by
    rw [rwsE] at h
    by_cases hx : rowE P x = 0
    · rw [if_pos hx] at h
      rcases List.mem_cons.1 hr with rfl | hr
      · unfold rowE at hx
        simp only [fstN] at hx
        split at hx
        · split at hx <;> simp_all
        · simp_all
      · exact rwsE_zero h r hr
    · rw [if_neg hx] at h
      exact absurd h hx
theorem rows_ok {L : List RowR} (h : rowsE L = 0) : L.length ≤ 32 ∧ ∀ r ∈ L, r.n ≤ 6 ∧ ∀ t ∈ r.T, -2 ≤ t ∧ t ≤ 999999 := by
  unfold rowsE at h
  by_cases h1 : 32 < L.length
  · rw [if_pos h1] at h; simp at h
  · rw [if_neg h1] at h
    refine ⟨by omega, fun r hr => ?_⟩
    have h2 := rwsE_zero h r hr
    unfold trialsE at h2
    by_cases h3 : 6 < r.n
    · rw [if_pos h3] at h2; simp at h2
    · rw [if_neg h3] at h2
      exact ⟨by omega, trsE_zero h2⟩
def mkOf (r : RowR) : ByteArray × Int × ByteArray := match serD r.T with
  | [] => (sNone, 0, if decide (0 < r.n) || !r.rt then sNM else sDNS)
  | h :: _ => (sLength, h, ⟨#[]⟩)
def plcOf (L : List RowR) (n i : Nat) (r : RowR) : Plc := ⟨r.s, (rkB (rkR (sersOf L)) (rkBt (sersOf L)) n i : Nat), (mkOf r).1, (mkOf r).2.1, (mkOf r).2.2⟩
def plcsOf (L : List RowR) : List Plc := L.mapIdx fun i r => plcOf L L.length i r
def rankL (L : List RowR) : List Plc := arrL L.length (plcsOf L)
theorem plcs_len (L : List RowR) : (plcsOf L).length = L.length := by unfold plcsOf; simp
theorem plcs_at {L : List RowR} {i : Nat} {r : RowR} (h : L[i]? = some r) : (plcsOf L)[i]? = some (plcOf L L.length i r) := by
  unfold plcsOf
  rw [List.getElem?_mapIdx, h]; rfl
end Go.Mk
end
section
set_option linter.unusedVariables false
set_option linter.unusedSimpArgs false
open Go Go.Proofs Go.RowKit
set_option maxRecDepth 100000
namespace Go.Mk
def resC (p : Plc) : List Value := [.string p.nm, .string p.kd, .int .i64 p.vl, .string p.rs]
def OwnRes (w : World) (B : Nat) (v : Value) (L : List Plc) : Prop := w.ownsRow B 43 4 v L.length (L.flatMap resC)
theorem OwnRes.next {w1 : World} {B : Nat} {v' : Value} {L : List Plc} {p : Plc} (h : w1.ownsRow B 43 4 v' (L.length + 1) (L.flatMap resC ++ resC p)) : OwnRes w1 B v' (L ++ [p]) := by
  unfold OwnRes
  rw [List.length_append, List.flatMap_append]
  simpa using h
theorem PlcsZ.at_ {w : World} {A : Option Addr} {n : Nat} {L : List Plc} (h : PlcsZ w A n L) {k : Nat} (hk : k < n) : ∃ b off p, A = some ⟨b, off, none⟩ ∧ b < w.heap.size ∧ L[k]? = some p ∧ Cel5 w b (off + k * 5) p := by
  obtain ⟨b, off, e, hlt, hc⟩ := h.2 (by omega)
  have hl : k < L.length := by rw [h.1]; exact hk
  exact ⟨b, off, L[k], e, hlt, List.getElem?_eq_getElem hl, hc k _ (List.getElem?_eq_getElem hl)⟩
end Go.Mk
end
