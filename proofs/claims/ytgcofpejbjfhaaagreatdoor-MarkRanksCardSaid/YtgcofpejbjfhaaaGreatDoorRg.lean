/-
  Proved: what the reference's Compare and Wind, and the small functions of the laws return. Conditions: those on the marks where it says so.
-/
import Derived.Test.YtgcofpejbjfhaaaGreatDoorRf
set_option linter.unusedVariables false
set_option linter.unusedSimpArgs false
open Go Go.Proofs Go.RowKit
set_option maxRecDepth 100000
namespace Go.Mk

/-- The order of two marks of which one is none. -/
def cmpn (a b : Bool) : Int := if a && b then 0 else if b then -1 else 1
set_option maxHeartbeats 1000000 in
theorem refCompare_none (s1 r1 s2 r2 : ByteArray) (v1 v2 : Int) (b1 b2 : Bool) (h1 : (s1.toList == [110, 111, 110, 101]) = b1) (h2 : (s2.toList == [110, 111, 110, 101]) = b2) (h : (b1 || b2) = true) (w : World) :
    Calls Tryz.prog 23 #[.agg #[.string s1, .int .i64 v1, .string r1], .agg #[.string s2, .int .i64 v2, .string r2]] w (RetPost (.int .i64 (cmpn b1 b2)) w) := by
  have hs : b1 = true → b2 = true → (s1.toList == s2.toList) = true := by
    intro e1 e2
    rw [e1] at h1; rw [e2] at h2
    rw [eq_of_beq h1, eq_of_beq h2]; rfl
  have hd : b1 = false ∨ b2 = false → (b1 || b2) = true → (s1.toList == s2.toList) = false := by
    intro e1 e2
    rw [beq_eq_false_iff_ne]
    intro e
    rw [e, h2] at h1
    subst h1
    cases b2 <;> simp at e1 e2
  rcases b1 with _ | _ <;> rcases b2 with _ | _
  · cases h
  · have h3 := hd (.inl rfl) rfl
    clear hs hd h
    go_enter Tryz.func23, Tryz.ntmps23
    go_wp2
    go_ret
    exact ⟨rfl, (((Below.refl w.heap.size w).alloc (Nat.le_refl _) _).alloc (by simp) _)⟩
  · have h3 := hd (.inr rfl) rfl
    clear hs hd h
    go_enter Tryz.func23, Tryz.ntmps23
    go_wp2
    go_ret
    exact ⟨rfl, (((Below.refl w.heap.size w).alloc (Nat.le_refl _) _).alloc (by simp) _)⟩
  · have h3 := hs rfl rfl
    clear hs hd h
    go_enter Tryz.func23, Tryz.ntmps23
    go_wp2
    go_ret
    exact ⟨rfl, (((Below.refl w.heap.size w).alloc (Nat.le_refl _) _).alloc (by simp) _)⟩

set_option maxHeartbeats 1000000 in
theorem refCompare_val (s1 r1 s2 r2 : ByteArray) (v1 v2 n : Int) (bt : Bool) (h1 : (s1.toList == [110, 111, 110, 101]) = false) (h2 : (s2.toList == [110, 111, 110, 101]) = false) (ht : (s1.toList == [116, 105, 109, 101]) = bt) (hn : cmpv bt v1 v2 = n) (w : World) :
    Calls Tryz.prog 23 #[.agg #[.string s1, .int .i64 v1, .string r1], .agg #[.string s2, .int .i64 v2, .string r2]] w (RetPost (.int .i64 n) w) := by
  have cases3 : (v1 < v2 ∧ n = if bt then -1 else 1) ∨ (v1 = v2 ∧ n = 0) ∨ (v2 < v1 ∧ n = if bt then 1 else -1) := by
    rw [← hn]
    unfold cmpv
    rcases (show v1 < v2 ∨ v1 = v2 ∨ v2 < v1 by omega) with q | q | q
    · exact .inl ⟨q, by rw [if_neg (by omega)]; cases bt <;> simp [q]⟩
    · exact .inr (.inl ⟨q, by rw [if_pos q]⟩)
    · exact .inr (.inr ⟨q, by rw [if_neg (by omega)]; have : ¬ v1 < v2 := (by omega); cases bt <;> simp [this]⟩)
  clear hn
  rcases cases3 with ⟨q, rfl⟩ | ⟨q, rfl⟩ | ⟨q, rfl⟩ <;> rcases bt with _ | _
  all_goals
    go_enter Tryz.func23, Tryz.ntmps23
    go_wp2_with fail
    go_quiet (fail)
    go_wp2
    go_ret
    exact ⟨rfl, below_drewN (((Below.refl w.heap.size w).alloc (Nat.le_refl _) _).alloc (by simp) _) _⟩

set_option maxHeartbeats 400000 in
theorem refWind_any (n : Int) (w : World) (h1 : -9999 ≤ n) (h2 : n ≤ 9999) : Calls Tryz.prog 27 #[.int .i64 n] w (RetPost (.int .i64 (n.tdiv 10 + if 10 * n.tdiv 10 < n then 1 else 0)) w) := by
  have hq : -9999 ≤ n.tdiv 10 ∧ n.tdiv 10 ≤ 9999 := by
    rcases Int.lt_or_le n 0 with h | h
    · have e : n.tdiv 10 = -((-n) / 10) := by rw [← Int.neg_neg n, Int.neg_tdiv, Int.tdiv_eq_ediv_of_nonneg (by omega)]; simp
      omega
    · rw [Int.tdiv_eq_ediv_of_nonneg h]; omega
  obtain ⟨q, hqe⟩ : ∃ q, n.tdiv 10 = q := ⟨_, rfl⟩
  rw [hqe] at hq ⊢
  obtain ⟨hq1, hq2⟩ := hq
  by_cases h : 10 * q < n
  · rw [if_pos h]
    have h' : q * 10 < n := by omega
    go_enter Tryz.func27, Tryz.ntmps27
    go_wp2
    go_ret
    exact ⟨rfl, Below.refl _ _⟩
  · rw [if_neg h]
    have h' : ¬ q * 10 < n := by omega
    go_enter Tryz.func27, Tryz.ntmps27
    go_wp2
    go_ret
    exact ⟨by simp, Below.refl _ _⟩

set_option maxHeartbeats 400000 in
theorem when_yes (e : Int) (w : World) : Calls Tryz.prog 15 #[.bool true, .int .i64 e] w fun x w' => x = .returned (.int .i64 e) ∧ w = w' := by
  go_enter Tryz.func15, Tryz.ntmps15
  go_wp2
  go_ret
  exact ⟨rfl, rfl⟩
set_option maxHeartbeats 400000 in
theorem when_no (e : Int) (w : World) : Calls Tryz.prog 15 #[.bool false, .int .i64 e] w fun x w' => x = .returned (.int .i64 0) ∧ w = w' := by
  go_enter Tryz.func15, Tryz.ntmps15
  go_wp2
  go_ret
  exact ⟨rfl, rfl⟩
set_option maxHeartbeats 400000 in
theorem integer_bad (b : Int) (h : (b != 0) = true) (w : World) : Calls Tryz.prog 22 #[.int .i64 0, .int .i64 b, .int .i64 b, .int .i64 0] w fun x w' => x = .returned (.bool true) ∧ w = w' := by
  have hb : (b == b) = true := by simp
  go_enter Tryz.func22, Tryz.ntmps22
  go_wp2
  go_ret
  exact ⟨rfl, rfl⟩
set_option maxHeartbeats 400000 in
theorem integer_ok (c : Int) (w : World) : Calls Tryz.prog 22 #[.int .i64 c, .int .i64 0, .int .i64 0, .int .i64 c] w fun x w' => x = .returned (.bool true) ∧ w = w' := by
  have hb : (c == c) = true := by simp
  go_enter Tryz.func22, Tryz.ntmps22
  go_wp2
  go_ret
  exact ⟨rfl, rfl⟩

set_option maxHeartbeats 400000 in
theorem lawFirst_zero (g : Nat) (w : World) (h1 : w.cell? ⟨g, 0, none⟩ = some (.int .i64 0)) (h2 : w.cell? ⟨g, 1, none⟩ = some (.int .i64 0)) :
    Calls Tryz.prog 14 #[.slice (some ⟨g, 0, none⟩) 2 2] w (RetPost (.int .i64 0) w) := by
  go_enter Tryz.func14, Tryz.ntmps14
  go_wp2
  go_loop [3] (fun i => ∃ k : Nat, k ≤ 2 ∧ i = .int .i64 k) (fun i => 2 - (intOf i).toNat)
  case atStart => exact ⟨0, by omega, rfl⟩
  case round =>
    obtain ⟨k, hk, rfl⟩ := hrel
    rcases (show k = 0 ∨ k = 1 ∨ k = 2 by omega) with rfl | rfl | rfl
    · go_wp2
      exact ⟨⟨1, by omega, by go_num⟩, by simp [intOf]⟩
    · go_wp2
      exact ⟨⟨2, by omega, by go_num⟩, by simp [intOf]⟩
    · go_wp2
      go_ret
      exact ⟨rfl, Below.refl _ _⟩
set_option maxHeartbeats 400000 in
theorem lawFirst_second (y : Int) (hy : y ≠ 0) (g : Nat) (w : World) (h1 : w.cell? ⟨g, 0, none⟩ = some (.int .i64 0)) (h2 : w.cell? ⟨g, 1, none⟩ = some (.int .i64 y)) :
    Calls Tryz.prog 14 #[.slice (some ⟨g, 0, none⟩) 2 2] w (RetPost (.int .i64 y) w) := by
  have hb : (y != 0) = true := by rw [bne_iff_ne]; exact hy
  go_enter Tryz.func14, Tryz.ntmps14
  go_wp2
  go_loop [3] (fun i => ∃ k : Nat, k ≤ 1 ∧ i = .int .i64 k) (fun i => 2 - (intOf i).toNat)
  case atStart => exact ⟨0, by omega, rfl⟩
  case round =>
    obtain ⟨k, hk, rfl⟩ := hrel
    rcases (show k = 0 ∨ k = 1 by omega) with rfl | rfl
    · go_wp2
      exact ⟨⟨1, by omega, by go_num⟩, by simp [intOf]⟩
    · go_wp2
      go_ret
      exact ⟨rfl, Below.refl _ _⟩
set_option maxHeartbeats 400000 in
theorem lawFirst_first (x : Int) (hx : x ≠ 0) (g : Nat) (w : World) (h1 : w.cell? ⟨g, 0, none⟩ = some (.int .i64 x)) :
    Calls Tryz.prog 14 #[.slice (some ⟨g, 0, none⟩) 2 2] w (RetPost (.int .i64 x) w) := by
  have hb : (x != 0) = true := by rw [bne_iff_ne]; exact hx
  go_enter Tryz.func14, Tryz.ntmps14
  go_wp2
  go_loop [3] (fun i => i = .int .i64 0) (fun i => 2 - (intOf i).toNat)
  case atStart => rfl
  case round =>
    obtain rfl := hrel
    go_wp2
    go_ret
    exact ⟨rfl, Below.refl _ _⟩
theorem lawFirst_any (x y : Int) (g : Nat) (w : World) (h1 : w.cell? ⟨g, 0, none⟩ = some (.int .i64 x)) (h2 : w.cell? ⟨g, 1, none⟩ = some (.int .i64 y)) :
    Calls Tryz.prog 14 #[.slice (some ⟨g, 0, none⟩) 2 2] w (RetPost (.int .i64 (fst2 x y)) w) := by
  unfold fst2
  by_cases hx : x = 0
  · subst hx
    rw [if_pos rfl]
    by_cases hy : y = 0
    · subst hy; exact lawFirst_zero g w h1 h2
    · exact lawFirst_second y hy g w h1 h2
  · rw [if_neg hx]; exact lawFirst_first x hx g w h1
end Go.Mk
