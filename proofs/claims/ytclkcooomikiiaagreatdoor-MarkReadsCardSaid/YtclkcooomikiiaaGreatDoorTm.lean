/-
  Proved: mark.parseInteger returns the reference's number of a text and true, or 0 and false. No condition.
-/
import Derived.Test.YtclkcooomikiiaaGreatDoorTl
import Derived.Test.YtclkcooomikiiaaGreatDoorTx
import Derived.Test.YtclkcooomikiiaaGreatDoorRf
import Derived.Shelf.Strconv.Atoi
import Derived.Lib.SmallJoins
import Derived.BigRegion
import Derived.BigQuiet
import Derived.Deep.QuietTactic
set_option linter.unusedVariables false
set_option linter.unusedSimpArgs false
open Go Go.Proofs Go.RowKit
set_option maxRecDepth 100000
namespace Go.Mk
theorem Atoi_ok (s : ByteArray) (n : Int) (hl : s.size ≤ 18) (h : Lib.atoi s.data.toList = some n) (w : World) : Calls Tryz.prog 180 #[.string s] w (RetPost (.tuple #[.int .i64 n, .nilIface]) w) := by
  refine (Any.strconv_Atoi Tryz.atoi s n hl h w).mono ?_
  rintro e w' ⟨rfl, t, rfl⟩
  exact ⟨rfl, Go.Joins.below_bytesWorld _ _ _ _ (Nat.le_refl _)⟩
set_option maxHeartbeats 1000000 in
theorem parseInteger_any (s : ByteArray) (hz : s.size ≤ maxLen) (w : World) : Calls Tryz.prog 125 #[.string s] w (RetPost (.tuple #[.int .i64 (if front s < 0 then 0 else front s), .bool (decide (0 ≤ front s))]) w) := by
  have hI := isInteger_any s hz w
  rcases front_is s with ⟨h1, h2, r, h3, h4⟩ | ⟨h1, h2⟩
  · rw [h1] at hI
    rw [h3, if_neg (by omega), decide_eq_true (by omega)]
    have hA := fun w => Atoi_ok s r (by omega) h4 w
    have h9 : (s.size : Int) ≤ 9 := by omega
    clear h1 h2 h3 h4
    go_enter Tryz.func125, Tryz.ntmps125
    go_wp2_with fail
    refine hI.mono ?_
    rintro e w2 ⟨rfl, rfl⟩
    go_wp2_with fail
    refine (hA _).mono ?_
    rintro e w2 ⟨rfl, hb⟩
    go_wp2
    go_region
    go_wp2
    go_ret2
    exact ⟨rfl, hb.drew⟩
  · rw [h2, if_pos (by decide), decide_eq_false (by decide)]
    cases hi : isInt s with
    | false =>
      rw [hi] at hI
      clear h1 h2
      go_enter Tryz.func125, Tryz.ntmps125
      go_wp2_with fail
      refine hI.mono ?_
      rintro e w2 ⟨rfl, rfl⟩
      go_wp2
      go_ret2
      exact ⟨rfl, Below.refl _ _⟩
    | true =>
      have h9 : 9 < (s.size : Int) := by
        rcases h1 with h | h
        · rw [hi] at h; cases h
        · omega
      rw [hi] at hI
      clear h1 h2
      go_enter Tryz.func125, Tryz.ntmps125
      go_wp2_with fail
      refine hI.mono ?_
      rintro e w2 ⟨rfl, rfl⟩
      go_wp2
      go_ret2
      exact ⟨rfl, Below.refl _ _⟩
end Go.Mk
