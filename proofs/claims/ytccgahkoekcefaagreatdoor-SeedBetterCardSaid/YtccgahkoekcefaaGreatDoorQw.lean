/-
  Proved: the errors of entrants and of a drawn order for every length, as plain functions; what is short; rows of integers of the call's own read again. Conditions: what each of them says.
-/
import Derived.Test.YtccgahkoekcefaaGreatDoorQn
import Derived.Test.YtccgahkoekcefaaGreatDoorQp
import Derived.Test.YtccgahkoekcefaaGreatDoorHz
set_option linter.unusedVariables false
set_option linter.unusedSimpArgs false
open Go Go.Proofs Go.RowKit Go.Sort
set_option maxRecDepth 100000
namespace Go.Mk
theorem r4CheckEntrants_all (L : List Ent) (n cap : Nat) (A : Option Addr) (B : Nat) (w : World) (hZ : Ents w B A n L) (hn : n ≤ 1000) (hs : ∀ x ∈ L, x.ok) :
    Calls Tryz.prog 11 #[.slice A n cap] w (RetPost (.int .i64 (chkEnts L)) w) := by
  by_cases h : n ≤ 160
  · exact r4CheckEntrants_any L n cap A B w hZ h hs
  · rw [show chkEnts L = 5 by unfold chkEnts; rw [if_pos (by rw [hZ.1]; omega)]]
    exact r4CheckEntrants_many n cap A w (by omega) (by omega)
theorem refCheckDraw_all (key : Int) (n : Nat) (w : World) : Calls Tryz.prog 15 #[.int .i64 key, .int .i64 n] w (RetPost (.int .i64 (drwE key n)) w) := by
  by_cases h : key < 1 ∨ 2147483646 < key ∨ 256 < n
  · rw [show drwE key n = 3 by unfold drwE; rw [if_pos h]]
    exact refCheckDraw_bad key n w (by omega)
  · rw [show drwE key n = 0 by unfold drwE; rw [if_neg h]]
    obtain ⟨k, rfl⟩ : ∃ k : Nat, key = k := ⟨key.toNat, by omega⟩
    exact refCheckDraw_ok k n w (by omega) (by omega) (by omega)
theorem drw_ok {key : Int} {n : Nat} (h : drwE key n = 0) : 1 ≤ key ∧ key ≤ 2147483646 ∧ n ≤ 256 := by
  unfold drwE at h
  split at h
  · omega
  · omega
theorem fst0 (x : Int) : fstN [0, x] = x := by
  by_cases h : x = 0 <;> simp [fstN, h]
theorem drw3 {key : Int} {n : Nat} (h : drwE key n ≠ 0) : drwE key n = 3 := by
  unfold drwE at h ⊢
  split
  · rfl
  · rename_i q; rw [if_neg q] at h; exact absurd rfl h
theorem rng_ok {n lo hi : Int} (h : rngE n lo hi = 0) : lo ≤ n ∧ n ≤ hi := by
  unfold rngE at h
  split at h
  · omega
  · omega
def shortE (L : List Ent) (m : Nat) : Bool := decide (L.length ≤ 164 ∧ (L.length ≤ m ∨ 160 < L.length)) && L.all shE
theorem short_ents (L : List Ent) (n cap m : Nat) (A : Option Addr) (B : Nat) (w : World) (hZ : Ents w B A n L) (hs : ∀ x ∈ L, x.ok ∧ x.kind.size ≤ maxLen ∧ x.reason.size ≤ maxLen) (hm : (n : Int) ≤ 9223372036854775807) :
    Calls Tryz.prog 10 #[.slice A n cap, .int .i64 (m : Nat)] w (RetPost (.bool (shortE L m)) w) := by
  have hl := hZ.1
  unfold shortE
  by_cases h1 : 164 < n
  · rw [decide_eq_false (by omega), Bool.false_and]
    exact r4Short_long n cap m A w (by omega) hm
  · by_cases h2 : m < n ∧ n ≤ 160
    · rw [decide_eq_false (by omega), Bool.false_and]
      exact r4Short_more n cap m A w (by omega) (by omega)
    · rw [decide_eq_true (by omega), Bool.true_and]
      exact r4Short_any L n cap m A B w hZ hs (by omega) (by omega)
theorem short_len {L : List Ent} {m : Nat} (h : shortE L m = true) : L.length ≤ 164 ∧ (L.length ≤ m ∨ 160 < L.length) := by
  unfold shortE at h
  rw [Bool.and_eq_true] at h
  exact of_decide_eq_true h.1
theorem RowZ.own {w : World} {B g n cap : Nat} {L : List Int} (h : RowZ w B g n cap L) : OwnZ w B (.slice (some ⟨g, 0, none⟩) n cap) L := by
  unfold OwnZ
  rw [h.1]
  exact h.2
theorem RowZ.ints {w : World} {B g n cap : Nat} {L : List Int} (h : RowZ w B g n cap L) : IntsZ w (some ⟨g, 0, none⟩) n L := by
  obtain ⟨A, c, e, hI⟩ := IntsZ.of_own h.own
  cases e
  rw [h.1] at hI
  exact hI
theorem OwnZ.ints {w : World} {B n c : Nat} {a : Option Addr} {L : List Int} (h : OwnZ w B (.slice a n c) L) (hl : L.length = n) : IntsZ w a n L := by
  obtain ⟨A, c', e, hI⟩ := IntsZ.of_own h
  cases e
  rw [hl] at hI
  exact hI
end Go.Mk
