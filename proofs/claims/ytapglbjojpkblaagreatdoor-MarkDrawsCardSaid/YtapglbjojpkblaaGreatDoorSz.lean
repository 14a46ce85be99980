/-
  Proved: mark.Shares refuses a total out of range (3), and weights that are not valid, with their own error. Conditions: the weights lie where the slice says.
  Proved: what the law MarkDraws walks through, as posts: the two drawn orders, the two shares. Conditions: those of the parts.
-/
import Derived.Test.YtapglbjojpkblaaGreatDoorSx
import Derived.Test.YtapglbjojpkblaaGreatDoorDr
import Derived.Test.YtapglbjojpkblaaGreatDoorSy
section
set_option linter.unusedVariables false
set_option linter.unusedSimpArgs false
open Go Go.Proofs Go.RowKit
set_option maxRecDepth 100000
namespace Go.Mk
set_option maxHeartbeats 400000 in
theorem Shares_range (n cap : Nat) (A : Option Addr) (w : World) (T : Int) (h : T < 0 ∨ 999999999 < T) :
    Calls Tryz.prog 15 #[.int .i64 T, .slice A n cap] w (RetPost (.tuple #[.slice none 0 0, .int .i64 3]) w) := by
  go_enter Tryz.func15, Tryz.ntmps15
  go_wp2
  all_goals first | (go_ret2; exact ⟨rfl, Below.refl _ _⟩) | (exfalso; omega)
set_option maxHeartbeats 400000 in
theorem Shares_ck (L : List Int) (n cap : Nat) (A : Option Addr) (B : Nat) (w : World) (hM : Zs w B A n L) (T : Int) (hT0 : 0 ≤ T) (hT1 : T ≤ 999999999) (hsm : n ≤ 260) (c : Int) (hc : ckW L = c) (h0 : c ≠ 0) :
    Calls Tryz.prog 15 #[.int .i64 T, .slice A n cap] w (RetPost (.tuple #[.slice none 0 0, .int .i64 c]) w) := by
  have hC := checkWeights_any L n cap A B w hM hsm
  rw [hc] at hC
  have hb : (c != 0) = true := by rw [bne_iff_ne]; exact h0
  clear hM hc h0 hsm
  go_enter Tryz.func15, Tryz.ntmps15
  go_wp2_with fail
  refine hC.mono ?_
  rintro e w2 ⟨rfl, hb2⟩
  go_wp2
  go_ret2
  exact ⟨rfl, hb2⟩
end Go.Mk
end
section
set_option linter.unusedVariables false
set_option linter.unusedSimpArgs false
open Go Go.Proofs Go.RowKit
set_option maxRecDepth 100000
namespace Go.Mk
/-- Integers that are not negative, read as numbers. -/
theorem row_of_rowI {w : World} {g : Nat} {L : List Int} (h : RowI w g L) (h0 : ∀ z ∈ L, 0 ≤ z) : Row w g (L.map Int.toNat) := by
  refine ⟨h.1, fun j v hv => ?_⟩
  rw [List.getElem?_map] at hv
  cases hz : L[j]? with
  | none => rw [hz] at hv; cases hv
  | some z =>
    rw [hz] at hv
    obtain rfl : z.toNat = v := by simpa using hv
    have := h.2 j z hz
    rwa [Int.toNat_of_nonneg (h0 z (List.mem_of_getElem? hz))]
theorem dealt_nonneg (T : Int) (L : List Int) (P : List Nat) (k n : Nat) (hT : 0 ≤ T) (hL : ∀ z ∈ L, 0 ≤ z) (hS : 0 < L.sum) : ∀ z ∈ (List.range n).map (Sh.dealt (bs T L) P k), 0 ≤ z := by
  intro z hz
  obtain ⟨i, _, rfl⟩ := List.mem_map.1 hz
  have hb : 0 ≤ bs T L i := by
    unfold bs
    refine Int.ediv_nonneg (Int.mul_nonneg hT ?_) (by omega)
    rw [List.getD_eq_getElem?_getD]
    cases hx : L[i]? with
    | none => simp
    | some y => exact hL y (List.mem_of_getElem? hx)
  unfold Sh.dealt
  split <;> omega
theorem ckW_ok {L : List Int} (h : ckW L = 0) : (∀ z ∈ L, 0 ≤ z ∧ z ≤ 999999999) ∧ 0 < L.sum ∧ L.length ≤ 256 := by
  unfold ckW at h
  by_cases h1 : L.length = 0
  · rw [if_pos h1] at h; cases h
  rw [if_neg h1] at h
  by_cases h2 : 256 < L.length
  · rw [if_pos h2] at h; cases h
  rw [if_neg h2] at h
  by_cases h3 : (L.any fun z => decide (z < 0) || decide (999999999 < z)) = true
  · rw [if_pos h3] at h; cases h
  rw [if_neg h3] at h
  by_cases h4 : (L.all fun z => decide (z = 0)) = true
  · rw [if_pos h4] at h; cases h
  have hr : ∀ z ∈ L, 0 ≤ z ∧ z ≤ 999999999 := by
    intro z hz
    by_cases a : z < 0
    · exact absurd (List.any_eq_true.2 ⟨z, hz, by simp [a]⟩) h3
    by_cases b : 999999999 < z
    · exact absurd (List.any_eq_true.2 ⟨z, hz, by simp [b]⟩) h3
    omega
  refine ⟨hr, ?_, by omega⟩
  have hz := sum_zero L fun z hz => (hr z hz).1
  have hne : L.sum ≠ 0 := fun e => h4 (List.all_eq_true.2 fun z hm => by simpa using hz.2.1 e z hm)
  omega
/-- What the draws give in the law: refused with the same error, or twice the same order. -/
def DrawsOf (K N : Int) : Prop :=
  (∃ b : Int, (b != 0) = true ∧ (b == 0) = false ∧ (∀ w, Calls Tryz.prog 13 #[.int .i64 K, .int .i64 N] w (RetPost (.tuple #[.slice none 0 0, .int .i64 b]) w)) ∧ (∀ w, Calls Tryz.prog 9 #[.int .i64 K, .int .i64 N] w (RetPost (.int .i64 b) w))) ∨
  (∃ (n : Nat) (O : List Nat), O.length = n ∧ n ≤ 300 ∧
    (∀ w, Calls Tryz.prog 13 #[.int .i64 K, .int .i64 N] w fun e w' => ∃ A, e = .returned (.tuple #[.slice A n n, .int .i64 0]) ∧ IntsAt w' A n O ∧ Below w.heap.size w w') ∧
    (∀ w, Calls Tryz.prog 9 #[.int .i64 K, .int .i64 N] w (RetPost (.int .i64 0) w)) ∧
    (∀ w, Calls Tryz.prog 11 #[.int .i64 K, .int .i64 N] w fun e w' => ∃ A, e = .returned (.slice A n n) ∧ IntsAt w' A n O ∧ Below w.heap.size w w'))
theorem drawsOf (K N : Int) : DrawsOf K N := by
  by_cases h : K < 1 ∨ 2147483646 < K ∨ N < 0 ∨ 256 < N
  · exact .inl ⟨3, rfl, rfl, fun w => draw_bad K N w h, fun w => refCheckDraw_bad K N w h⟩
  · obtain ⟨k, rfl⟩ : ∃ k : Nat, K = (k : Int) := ⟨K.toNat, by omega⟩
    obtain ⟨n, rfl⟩ : ∃ n : Nat, N = (n : Int) := ⟨N.toNat, by omega⟩
    refine .inr ⟨n, Sh.order k n, Sh.order_length k n, by omega, fun w => ?_, fun w => refCheckDraw_ok k n w (by omega) (by omega) (by omega), fun w => ?_⟩
    · refine (draw_any k n w (by omega) (by omega) (by omega)).mono ?_
      rintro e w' ⟨g, rfl, hr, _, hb⟩
      exact ⟨_, rfl, .of_row hr n (Sh.order_length k n), hb⟩
    · refine (refDraw_any k n w (by omega) (by omega) (by omega)).mono ?_
      rintro e w' ⟨g, rfl, hr, _, hb⟩
      exact ⟨_, rfl, .of_row hr n (Sh.order_length k n), hb⟩
/-- What the shares give in the law, from a world on: refused with the same error, or many of them, or twice the same. -/
def SharesOf (T : Int) (n cap : Nat) (A : Option Addr) (W : World) : Prop :=
  (∃ b c : Int, (b != 0) = true ∧ (b == 0) = false ∧ ((T < 0 ∧ b = 3) ∨ (0 ≤ T ∧ 999999999 < T ∧ b = 3) ∨ (0 ≤ T ∧ T ≤ 999999999 ∧ b = c)) ∧
    (∀ w, Below W.heap.size W w → Calls Tryz.prog 15 #[.int .i64 T, .slice A n cap] w (RetPost (.tuple #[.slice none 0 0, .int .i64 b]) w)) ∧
    (∀ w, Below W.heap.size W w → Calls Tryz.prog 18 #[.slice A n cap] w (RetPost (.int .i64 c) w))) ∨
  (0 ≤ T ∧ T ≤ 999999999 ∧
    (∀ w, Below W.heap.size W w → Calls Tryz.prog 15 #[.int .i64 T, .slice A n cap] w fun e w' => ∃ (A' : Option Addr) (O : List Nat), O.length = n ∧ e = .returned (.tuple #[.slice A' n n, .int .i64 0]) ∧ IntsAt w' A' n O ∧ Below w.heap.size w w' ∧
      (40 < (n : Int) ∨ ((n : Int) ≤ 40 ∧ ∀ w2, Below W.heap.size W w2 → Calls Tryz.prog 19 #[.int .i64 T, .slice A n cap] w2 fun e2 w3 => ∃ A2, e2 = .returned (.slice A2 n n) ∧ IntsAt w3 A2 n O ∧ Below w2.heap.size w2 w3))) ∧
    (∀ w, Below W.heap.size W w → Calls Tryz.prog 18 #[.slice A n cap] w (RetPost (.int .i64 0) w)))
theorem sharesOf (T : Int) (L : List Int) (n cap : Nat) (A : Option Addr) (B : Nat) (W : World) (hM : Zs W B A n L) (hn : n ≤ 260) : SharesOf T n cap A W := by
  have hMM : ∀ w, Below W.heap.size W w → Zs w B A n L := fun w hb => hM.below hb hM.2.1
  have hC : ∀ w, Below W.heap.size W w → Calls Tryz.prog 18 #[.slice A n cap] w (RetPost (.int .i64 (ckW L)) w) := fun w hb => refCheckWeights_any L n cap A B w (hMM w hb) hn
  by_cases h1 : T < 0
  · exact .inl ⟨3, ckW L, rfl, rfl, .inl ⟨h1, rfl⟩, fun w _ => Shares_range n cap A w T (.inl h1), hC⟩
  by_cases h2 : 999999999 < T
  · exact .inl ⟨3, ckW L, rfl, rfl, .inr (.inl ⟨by omega, h2, rfl⟩), fun w _ => Shares_range n cap A w T (.inr h2), hC⟩
  by_cases h3 : ckW L = 0
  · obtain ⟨hr, hs, hl⟩ := ckW_ok h3
    have hl2 : n ≤ 256 := by rw [← hM.1]; exact hl
    rw [h3] at hC
    refine .inr ⟨by omega, by omega, fun w hb => ?_, hC⟩
    refine (Shares_any sortOK L n cap A B w (hMM w hb) T (by omega) (by omega) hr hs hl2 h3).mono ?_
    rintro e w' ⟨g, P, hO, rfl, hrow, _, hb2⟩
    have hnn : ∀ z ∈ (List.range n).map (Sh.dealt (bs T L) P (lft T L)), 0 ≤ z := dealt_nonneg T L P _ n (by omega) (fun z hz => (hr z hz).1) hs
    refine ⟨_, ((List.range n).map (Sh.dealt (bs T L) P (lft T L))).map Int.toNat, by simp, rfl, .of_row (row_of_rowI hrow hnn) n (by simp), hb2, ?_⟩
    by_cases h4 : 40 < (n : Int)
    · exact .inl h4
    · refine .inr ⟨by omega, fun w2 hb3 => ?_⟩
      refine (refShares_any L n cap A B w2 (hMM w2 hb3) T (by omega) (by omega) hr hs (by omega) P hO).mono ?_
      rintro e w3 ⟨g2, rfl, hrow2, _, hb4⟩
      exact ⟨_, rfl, .of_row (row_of_rowI hrow2 hnn) n (by simp), hb4⟩
  · exact .inl ⟨ckW L, ckW L, by rw [bne_iff_ne]; exact h3, by rw [beq_eq_false_iff_ne]; exact h3, .inr (.inr ⟨by omega, by omega, rfl⟩), fun w hb => Shares_ck L n cap A B w (hMM w hb) T (by omega) (by omega) hn _ rfl h3, hC⟩
end Go.Mk
end
