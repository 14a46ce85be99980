/-
  Proved: what classOf, fits and Wind return. No condition but the range of an int.
-/
import Derived.Test.YtclkcooomikiiaaGreatDoorFn
set_option linter.unusedVariables false
set_option linter.unusedSimpArgs false
open Go Go.Proofs Go.RowKit
set_option maxRecDepth 100000
namespace Go.Mk
/-- The class of a name: the kind of its marks, its unit, and whether there is one. -/
def cls (n : ByteArray) : (ByteArray × Int) × Bool :=
  if n.toList == [104, 117, 110, 100, 114, 101, 100, 116, 104, 115] then ((sTime, 100), true)
  else if n.toList == [116, 101, 110, 116, 104, 115] then ((sTime, 1000), true)
  else if n.toList == [99, 101, 110, 116, 105, 109, 101, 116, 114, 101, 115] then ((sLength, 10), true)
  else if n.toList == [101, 120, 97, 99, 116] then ((⟨#[]⟩, 1), true)
  else ((⟨#[]⟩, 0), false)

set_option maxHeartbeats 400000 in
theorem classOf_is (n k : ByteArray) (st : Int) (b : Bool) (h : cls n = ((k, st), b)) (w : World) : Calls Tryz.prog 61 #[.string n] w (RetPost (.tuple #[.agg #[.string k, .int .i64 st], .bool b]) w) := by
  unfold cls at h
  split at h
  · cases h
    go_enter Tryz.func61, Tryz.ntmps61
    go_wp2
    exact bodyPost_ret (v := .tuple #[.agg #[.string sTime, .int .i64 100], .bool true]) (by simp [results, Tryz.results61, go_sem, sTime]) rfl ⟨rfl, (Below.refl _ _).alloc (Nat.le_refl _) _⟩
  · rename_i h1
    have h1 := eq_false_of_ne_true h1
    split at h
    · cases h
      go_enter Tryz.func61, Tryz.ntmps61
      go_wp2
      exact bodyPost_ret (v := .tuple #[.agg #[.string sTime, .int .i64 1000], .bool true]) (by simp [results, Tryz.results61, go_sem, sTime]) rfl ⟨rfl, (Below.refl _ _).alloc (Nat.le_refl _) _⟩
    · rename_i h2
      have h2 := eq_false_of_ne_true h2
      split at h
      · cases h
        go_enter Tryz.func61, Tryz.ntmps61
        go_wp2
        exact bodyPost_ret (v := .tuple #[.agg #[.string sLength, .int .i64 10], .bool true]) (by simp [results, Tryz.results61, go_sem, sLength]) rfl ⟨rfl, (Below.refl _ _).alloc (Nat.le_refl _) _⟩
      · rename_i h3
        have h3 := eq_false_of_ne_true h3
        split at h
        · cases h
          go_enter Tryz.func61, Tryz.ntmps61
          go_wp2
          exact bodyPost_ret (v := .tuple #[.agg #[.string ⟨#[]⟩, .int .i64 1], .bool true]) (by simp [results, Tryz.results61, go_sem]) rfl ⟨rfl, (Below.refl _ _).alloc (Nat.le_refl _) _⟩
        · rename_i h4
          have h4 := eq_false_of_ne_true h4
          cases h
          go_enter Tryz.func61, Tryz.ntmps61
          go_wp2
          exact bodyPost_ret (v := .tuple #[.agg #[.string ⟨#[]⟩, .int .i64 0], .bool false]) (by simp [results, Tryz.results61, go_sem]) rfl ⟨rfl, (Below.refl _ _).alloc (Nat.le_refl _) _⟩

/-- Whether a class is one for the marks of a kind. -/
def fitsB (k s : ByteArray) : Bool := (s.toList == [110, 111, 110, 101]) || k.toList.isEmpty || (k.toList == s.toList)
set_option maxHeartbeats 400000 in
theorem fits_any (k s : ByteArray) (st : Int) (w : World) : Calls Tryz.prog 62 #[.agg #[.string k, .int .i64 st], .string s] w (RetPost (.bool (fitsB k s)) w) := by
  unfold fitsB
  cases h1 : (s.toList == [110, 111, 110, 101]) with
  | true =>
    go_enter Tryz.func62, Tryz.ntmps62
    go_wp2
    go_ret
    exact ⟨by simp, (Below.refl _ _).alloc (Nat.le_refl _) _⟩
  | false =>
    cases h2 : k.toList.isEmpty with
    | true =>
      go_enter Tryz.func62, Tryz.ntmps62
      go_wp2
      go_ret
      exact ⟨by simp, (Below.refl _ _).alloc (Nat.le_refl _) _⟩
    | false =>
      go_enter Tryz.func62, Tryz.ntmps62
      go_wp2
      all_goals
        go_ret
        exact ⟨by simp, (Below.refl _ _).alloc (Nat.le_refl _) _⟩

/-- Hundredths in tenths, rounded upwards. -/
def windUp (n : Int) : Int := if n > 0 ∧ n % 10 ≠ 0 then n / 10 + 1 else if n > 0 then n / 10 else -((-n) / 10)
set_option maxHeartbeats 400000 in
theorem wind_bad (n : Int) (w : World) (h : n < -9999 ∨ 9999 < n) : Calls Tryz.prog 22 #[.int .i64 n] w (RetPost (.tuple #[.int .i64 0, .int .i64 3]) w) := by
  go_enter Tryz.func22, Tryz.ntmps22
  rcases h with h | h
  · go_wp2
    go_ret2
    exact ⟨rfl, Below.refl _ _⟩
  · have h' : ¬ n < -9999 := by omega
    go_wp2
    go_ret2
    exact ⟨rfl, Below.refl _ _⟩
set_option maxHeartbeats 400000 in
theorem wind_ok (n : Int) (w : World) (h1 : -9999 ≤ n) (h2 : n ≤ 9999) : Calls Tryz.prog 22 #[.int .i64 n] w (RetPost (.tuple #[.int .i64 (n.tdiv 10 + if 10 * n.tdiv 10 < n then 1 else 0), .int .i64 0]) w) := by
  have hq : -9999 ≤ n.tdiv 10 ∧ n.tdiv 10 ≤ 9999 := by
    rcases Int.lt_or_le n 0 with h | h
    · have e : n.tdiv 10 = -((-n) / 10) := by rw [← Int.neg_neg n, Int.neg_tdiv, Int.tdiv_eq_ediv_of_nonneg (by omega)]; simp
      omega
    · rw [Int.tdiv_eq_ediv_of_nonneg h]; omega
  obtain ⟨q, hqe⟩ : ∃ q, n.tdiv 10 = q := ⟨_, rfl⟩
  rw [hqe] at hq ⊢
  obtain ⟨hq1, hq2⟩ := hq
  by_cases h : 10 * q < n
  · rw [if_pos h]
    have h' : q * 10 < n := by omega
    go_enter Tryz.func22, Tryz.ntmps22
    go_wp2
    go_ret2
    exact ⟨rfl, Below.refl _ _⟩
  · rw [if_neg h]
    have h' : ¬ q * 10 < n := by omega
    go_enter Tryz.func22, Tryz.ntmps22
    go_wp2
    go_ret2
    exact ⟨by simp, Below.refl _ _⟩
end Go.Mk
