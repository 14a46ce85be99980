/-
  Proved: the law TrackHands returns true for every relay and all eight places and times, and leaves all that was there. Conditions: the tables that awake and the rational numbers read lie where the program lays them; the legs lie where the slice says; the numbers are below 256.
-/
import Derived.Test.YtickjnahdeikfaaGreatDoorVq
set_option linter.unusedVariables false
set_option linter.unusedSimpArgs false
open Go Go.Proofs Go.RowKit
set_option maxRecDepth 100000
namespace Go.Mk
theorem getD8 {a0 a1 a2 a3 a4 a5 a6 a7 : Nat} (h : a0 < 256 ∧ a1 < 256 ∧ a2 < 256 ∧ a3 < 256 ∧ a4 < 256 ∧ a5 < 256 ∧ a6 < 256 ∧ a7 < 256) : ∀ j, [a0, a1, a2, a3, a4, a5, a6, a7].getD j 0 < 256 := by
  obtain ⟨h0, h1, h2, h3, h4, h5, h6, h7⟩ := h
  intro j
  match j with
  | 0 => exact h0
  | 1 => exact h1
  | 2 => exact h2
  | 3 => exact h3
  | 4 => exact h4
  | 5 => exact h5
  | 6 => exact h6
  | 7 => exact h7
  | k + 8 => simp [List.getD]
theorem hands_any (G : List Int) (n cap : Nat) (A : Option Addr) (z b : Int) (P T : Nat → Nat) (w : World)
    (hG : IntsZ w A n G) (hn : (n : Int) ≤ 9223372036854775807) (hc : n ≤ cap) (hP : ∀ j, P j < 256) (hT : ∀ j, T j < 256) (ht : Tabs w) (hGt : Gt w) :
    Calls Tryz.prog 5 #[.agg #[.slice A n cap, .int .i64 z, .int .i64 b], .agg #[.int .u8 (P 0 : Int), .int .u8 (P 1 : Int), .int .u8 (P 2 : Int), .int .u8 (P 3 : Int), .int .u8 (P 4 : Int), .int .u8 (P 5 : Int), .int .u8 (P 6 : Int), .int .u8 (P 7 : Int)], .agg #[.int .u8 (T 0 : Int), .int .u8 (T 1 : Int), .int .u8 (T 2 : Int), .int .u8 (T 3 : Int), .int .u8 (T 4 : Int), .int .u8 (T 5 : Int), .int .u8 (T 6 : Int), .int .u8 (T 7 : Int)]] w (Yes w) := by
  by_cases h1 : n ≤ 11
  · by_cases h3 : relW G z b = 0
    · exact hands_main G n cap A z b P T w hG hn hc hP hT ht hGt h1 h3
    · exact hands_ex2 G n cap A z b P T w hG hn hc hP hT ht hGt h1 h3
  · exact hands_ex1 G n cap A z b P T w hG hn hc hP hT ht hGt (by omega)
theorem hands8_any (G : List Int) (n cap : Nat) (A : Option Addr) (z b : Int) (p0 p1 p2 p3 p4 p5 p6 p7 q0 q1 q2 q3 q4 q5 q6 q7 : Nat) (w : World)
    (hG : IntsZ w A n G) (hn : (n : Int) ≤ 9223372036854775807) (hc : n ≤ cap) (hP : p0 < 256 ∧ p1 < 256 ∧ p2 < 256 ∧ p3 < 256 ∧ p4 < 256 ∧ p5 < 256 ∧ p6 < 256 ∧ p7 < 256) (hT : q0 < 256 ∧ q1 < 256 ∧ q2 < 256 ∧ q3 < 256 ∧ q4 < 256 ∧ q5 < 256 ∧ q6 < 256 ∧ q7 < 256) (ht : Tabs w) (hGt : Gt w) :
    Calls Tryz.prog 5 #[.agg #[.slice A n cap, .int .i64 z, .int .i64 b], .agg #[.int .u8 (p0 : Int), .int .u8 (p1 : Int), .int .u8 (p2 : Int), .int .u8 (p3 : Int), .int .u8 (p4 : Int), .int .u8 (p5 : Int), .int .u8 (p6 : Int), .int .u8 (p7 : Int)], .agg #[.int .u8 (q0 : Int), .int .u8 (q1 : Int), .int .u8 (q2 : Int), .int .u8 (q3 : Int), .int .u8 (q4 : Int), .int .u8 (q5 : Int), .int .u8 (q6 : Int), .int .u8 (q7 : Int)]] w (Yes w) :=
  hands_any G n cap A z b (fun j => [p0, p1, p2, p3, p4, p5, p6, p7].getD j 0) (fun j => [q0, q1, q2, q3, q4, q5, q6, q7].getD j 0) w hG hn hc (getD8 hP) (getD8 hT) ht hGt
end Go.Mk
