/-
  Proved: the law FieldImproves returns true and leaves all that was there. Conditions: the tables that awake reads lie where the program lays them; the rows lie where the slice says, and are no more than an int says, their names and their trials neither.
-/
import Derived.Test.YthgkaojplomapaaGreatDoorFvi
import Derived.Test.YthgkaojplomapaaGreatDoorXaw
set_option linter.unusedVariables false
set_option linter.unusedSimpArgs false
open Go Go.Proofs Go.RowKit
set_option maxRecDepth 100000
namespace Go.Mk
theorem u8_range {z : Int} (h : (Lit.int .u8 z).wf = true) : 0 ≤ z ∧ z ≤ 255 := by
  simp [Lit.wf] at h
  have e1 : IntKind.u8.min = 0 := rfl
  have e2 : IntKind.u8.max = 255 := rfl
  omega
set_option maxHeartbeats 8000000 in
theorem imp6_exit (L : List RowR) (n cap : Nat) (A : Option Addr) (pk b : Int) (w : World) (hZ : Rows w A n L) (hn : (n : Int) ≤ 9223372036854775807) (hs : ∀ r ∈ L, r.s.size ≤ maxLen ∧ (r.n : Int) ≤ 9223372036854775807 ∧ (r.A = none → r.c = 0) ∧ r.T.length = r.n)
    (ht : Tabs w) (hx : shR L = true → 8 < n ∨ n = 0 ∨ rowsE L ≠ 0) :
    Calls Tryz.prog 4 #[.slice A n cap, .int .u8 pk, .int .u8 b] w (Yes w) := by
  have hS := l6shortRows_any L n cap A w hZ hn (fun r hr => ⟨(hs r hr).1, (hs r hr).2.1⟩)
  have HAW : Hid (∀ w', Below w.heap.size w w' → Calls Tryz.prog 7 #[] w' (RetPost (.bool true) w')) := Lib.hid fun w' hb => aw w' (ht.grow hb)
  cases h1 : shR L with
  | false =>
    rw [h1] at hS
    clear hx hs hZ hn ht h1
    go_enter Tryz.func4, Tryz.ntmps4
    go_wp2_with fail
    refine hS.mono ?_
    rintro e w2 ⟨rfl, hb2⟩
    have HB2 := Lib.hid hb2
    clear hb2 hS
    go_wp2_with fail
    refine (HAW.out _ HB2.out).mono ?_
    rintro e w9 ⟨rfl, hb9⟩
    have hfin := bstep HB2.out hb9
    clear hb9
    go_wp2
    go_ret
    exact ⟨rfl, hfin⟩
  | true =>
    rw [h1] at hS
    obtain ⟨h35, hsr⟩ := shR_true h1
    have hx := hx h1
    rw [hZ.1] at h35
    by_cases h8 : 8 < n
    · have hn8 : decide ((8 : Int) < (n : Int)) = true := by simp; omega
      clear hx hs hZ hn ht h1 hsr h35 h8
      go_enter Tryz.func4, Tryz.ntmps4
      go_wp2_with fail
      refine hS.mono ?_
      rintro e w2 ⟨rfl, hb2⟩
      have HB2 := Lib.hid hb2
      clear hb2 hS
      go_wp2_with fail
      refine (HAW.out _ HB2.out).mono ?_
      rintro e w9 ⟨rfl, hb9⟩
      have hfin := bstep HB2.out hb9
      clear hb9
      go_wp2
      go_ret
      exact ⟨rfl, hfin⟩
    · have hn8 : decide ((8 : Int) < (n : Int)) = false := by simp; omega
      by_cases h0 : n = 0
      · have hn0 : ((n : Int) == 0) = true := by simp; omega
        clear hx hs hZ hn ht h1 hsr h35 h8 h0
        go_enter Tryz.func4, Tryz.ntmps4
        go_wp2_with fail
        refine hS.mono ?_
        rintro e w2 ⟨rfl, hb2⟩
        have HB2 := Lib.hid hb2
        clear hb2 hS
        go_wp2_with fail
        refine (HAW.out _ HB2.out).mono ?_
        rintro e w9 ⟨rfl, hb9⟩
        have hfin := bstep HB2.out hb9
        clear hb9
        go_wp2
        go_ret
        exact ⟨rfl, hfin⟩
      · have hn0 : ((n : Int) == 0) = false := by simp; omega
        obtain ⟨y, hy⟩ : ∃ y, rowsE L = y := ⟨_, rfl⟩
        have hyn : (y != 0) = true := by
          rw [bne_iff_ne, ← hy]
          rcases hx with q | q | q
          · omega
          · omega
          · exact q
        have HRC : Hid (∀ w', Below w.heap.size w w' → Calls Tryz.prog 22 #[.slice A n cap] w' (RetPost (.int .i64 y) w')) := Lib.hid fun w' hb => by
          rw [← hy]
          exact r6CheckRows_any L n cap A w' (hZ.below hb) (by omega) (fun r hr => ⟨(hs r hr).1, by have := (hsr r hr).2; omega⟩)
        clear hx hs hZ hn ht h1 hsr h35 h8 h0 hy
        go_enter Tryz.func4, Tryz.ntmps4
        go_wp2_with fail
        refine hS.mono ?_
        rintro e w2 ⟨rfl, hb2⟩
        have HB2 := Lib.hid hb2
        clear hb2 hS
        go_wp2_with fail
        refine (HRC.out _ HB2.out).mono ?_
        rintro e w3 ⟨rfl, hb3⟩
        have HB3 := Lib.hid (bstep HB2.out hb3)
        clear hb3
        go_wp2_with fail
        refine (HAW.out _ HB3.out).mono ?_
        rintro e w9 ⟨rfl, hb9⟩
        have hfin := bstep HB3.out hb9
        clear hb9
        go_wp2
        go_ret
        exact ⟨rfl, hfin⟩
theorem imp6_any (L : List RowR) (n cap : Nat) (A : Option Addr) (pk b : Int) (w : World) (hZ : Rows w A n L) (hn : (n : Int) ≤ 9223372036854775807) (hs : ∀ r ∈ L, r.s.size ≤ maxLen ∧ (r.n : Int) ≤ 9223372036854775807 ∧ (r.A = none → r.c = 0) ∧ r.T.length = r.n)
    (ht : Tabs w) (hp : (Lit.int .u8 pk).wf = true) (hb : (Lit.int .u8 b).wf = true) :
    Calls Tryz.prog 4 #[.slice A n cap, .int .u8 pk, .int .u8 b] w (Yes w) := by
  by_cases hx : shR L = true → 8 < n ∨ n = 0 ∨ rowsE L ≠ 0
  · exact imp6_exit L n cap A pk b w hZ hn hs ht hx
  · have h1 : shR L = true := Classical.byContradiction fun q => hx fun q2 => absurd q2 q
    have h2 : ¬ (8 < n ∨ n = 0 ∨ rowsE L ≠ 0) := fun q => hx fun _ => q
    have h3 : rowsE L = 0 := Classical.byContradiction fun q => h2 (.inr (.inr q))
    obtain ⟨p1, p2⟩ : (0 : Int) ≤ pk ∧ pk ≤ 255 := u8_range hp
    obtain ⟨b1, b2⟩ : (0 : Int) ≤ b ∧ b ≤ 255 := u8_range hb
    obtain ⟨p, rfl⟩ := Int.eq_ofNat_of_zero_le p1
    obtain ⟨c, rfl⟩ := Int.eq_ofNat_of_zero_le b1
    exact imp6_main L n cap A p c w hZ hs (fun w' hb => aw w' (ht.grow hb)) (by omega) (by omega) h1 (by omega) (by omega) h3
end Go.Mk
