/-
  Proved: the law MarkRanks returns true and leaves all that was there, for any list of marks. Conditions: the tables that awake reads lie where the program lays them; the list lies where the slice says, its texts no longer than an int says.
-/
import Derived.Test.YtapglbjojpkblaaGreatDoorLw
import Derived.Test.YtapglbjojpkblaaGreatDoorMq
set_option linter.unusedVariables false
set_option linter.unusedSimpArgs false
open Go Go.Proofs Go.RowKit
set_option maxRecDepth 100000
namespace Go.Mk
/-- The numbers of a list lie in the cells of a slice. -/
def IntsAt (w : World) (A : Option Addr) (n : Nat) (L : List Nat) : Prop :=
  L.length = n ∧ (0 < n → ∃ g, A = some ⟨g, 0, none⟩ ∧ g < w.heap.size ∧ ∀ (j : Nat) (x : Nat), L[j]? = some x → w.cell? ⟨g, j, none⟩ = some (.int .i64 (x : Int)))
theorem IntsAt.below {w w' : World} {A : Option Addr} {n : Nat} {L : List Nat} (h : IntsAt w A n L) (hb : Below w.heap.size w w') : IntsAt w' A n L := by
  refine ⟨h.1, fun hn => ?_⟩
  obtain ⟨g, e, hlt, hc⟩ := h.2 hn
  exact ⟨g, e, Nat.lt_of_lt_of_le hlt hb.size, fun j x hx => (hb.cell (p := ⟨g, j, none⟩) hlt).trans (hc j x hx)⟩
theorem IntsAt.of_row {w : World} {g : Nat} {L : List Nat} (h : Row w g L) (n : Nat) (hn : L.length = n) : IntsAt w (some ⟨g, 0, none⟩) n L :=
  ⟨hn, fun _ => ⟨g, rfl, h.1, fun j x hx => (h.2 j x hx).1⟩⟩
theorem IntsAt.of_own {w : World} {base e n : Nat} {v : Value} {L : List Nat} (h : w.ownsRow base e 1 v n (L.map fun x => Value.int .i64 ((x : Nat) : Int))) : ∃ A c, v = .slice A n c ∧ IntsAt w A n L := by
  have hl : L.length = n := by have := h.1; simpa using this
  rcases h.2 with ⟨a, b⟩ | ⟨g, cap, cur, a, b, c, d, e1, f, hx⟩
  · subst b
    exact ⟨none, 0, a, hl, fun hn => absurd hn (by omega)⟩
  · refine ⟨_, cap, a, hl, fun _ => ⟨g, rfl, ?_, fun j x hj => ?_⟩⟩
    · rcases Nat.lt_or_ge g w.heap.size with hq | hq
      · exact hq
      · rw [Array.getElem?_eq_none hq] at c; cases c
    · have h1 : (L.map fun x => Value.int .i64 ((x : Nat) : Int))[j]? = some (.int .i64 (x : Int)) := by simp [hj]
      rw [← hx] at h1
      have hj2 : j < n := by rw [← hl]; exact (List.getElem?_eq_some_iff.1 hj).1
      have h2 : cur[j]? = some (.int .i64 (x : Int)) := by
        rw [List.getElem?_take] at h1
        rw [if_pos (by omega)] at h1
        simpa using h1
      simp [World.cell?, c, h2]

set_option maxHeartbeats 1000000 in
theorem same_any (L : List Nat) (A1 A2 : Option Addr) (n c1 c2 : Nat) (w : World) (hn : n ≤ 300) (h1 : IntsAt w A1 n L) (h2 : IntsAt w A2 n L) :
    Calls Tryz.prog 31 #[.slice A1 n c1, .slice A2 n c2] w (RetPost (.bool true) w) := by
  have hn0 : (n : Int) ≤ 300 := by omega
  have H1 := Lib.hid h1
  have H2 := Lib.hid h2
  clear h1 h2 hn
  go_enter Tryz.func31, Tryz.ntmps31
  go_wp2
  go_loopw [5] (fun i wr => ∃ k : Nat, k ≤ n ∧ i = .int .i64 k ∧ Below w.heap.size w wr) (fun i _ => n - (intOf i).toNat)
  case atStart => exact ⟨0, by omega, rfl, Below.refl _ _⟩
  case round =>
    obtain ⟨k, hk, rfl, hb⟩ := hrel
    by_cases hlt : k < n
    · have g1 := H1.out.below hb
      have g2 := H2.out.below hb
      obtain ⟨p1, rfl, _, q1⟩ := g1.2 (by omega)
      obtain ⟨p2, rfl, _, q2⟩ := g2.2 (by omega)
      have hkl : k < L.length := by rw [g1.1]; exact hlt
      have c1' := q1 k L[k] (List.getElem?_eq_getElem hkl)
      have c2' := q2 k L[k] (List.getElem?_eq_getElem hkl)
      obtain ⟨x, hx⟩ : ∃ x, L[k] = x := ⟨_, rfl⟩
      rw [hx] at c1' c2'
      have hki : (k : Int) < (n : Int) := by omega
      have hk0 : (0 : Int) ≤ (k : Int) := by omega
      have hkt : ((k : Int)).toNat = k := by omega
      clear q1 q2 g1 g2 hx hkl H1 H2
      go_wp2_with fail
      go_quiet (fail)
      go_wp2
      exact ⟨⟨k + 1, by omega, by go_num, below_drewN hb _⟩, by simp [intOf]; omega⟩
    · go_wp2
      go_ret
      exact ⟨rfl, hb⟩

set_option maxHeartbeats 400000 in
theorem list_bad (b : Int) (h : (b != 0) = true) (w : World) : Calls Tryz.prog 14 #[.slice none 0 0, .int .i64 b, .int .i64 b, .slice none 0 0] w (RetPost (.bool true) w) := by
  have hb : (b == b) = true := by simp
  go_enter Tryz.func14, Tryz.ntmps14
  go_wp2
  go_ret
  exact ⟨rfl, Below.refl _ _⟩
set_option maxHeartbeats 400000 in
theorem list_ok (L : List Nat) (A1 A2 : Option Addr) (n c1 c2 : Nat) (w : World) (hn : n ≤ 300) (h1 : IntsAt w A1 n L) (h2 : IntsAt w A2 n L) :
    Calls Tryz.prog 14 #[.slice A1 n c1, .int .i64 0, .int .i64 0, .slice A2 n c2] w (RetPost (.bool true) w) := by
  have hs := same_any L A1 A2 n c1 c2 w hn h1 h2
  clear h1 h2
  go_enter Tryz.func14, Tryz.ntmps14
  go_wp2_with fail
  refine hs.mono ?_
  rintro e w2 ⟨rfl, hb2⟩
  go_wp2
  go_ret
  exact ⟨rfl, hb2⟩
end Go.Mk
