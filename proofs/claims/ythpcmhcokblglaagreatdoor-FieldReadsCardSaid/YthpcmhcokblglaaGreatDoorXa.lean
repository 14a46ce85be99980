/-
  Proved: plain facts on names, and on the teams of a relay: the first error of names; the error of a team that may differ from the first one; the error of all teams. No condition.
-/
import Derived.Test.YthpcmhcokblglaaGreatDoorXi
set_option linter.unusedVariables false
set_option linter.unusedSimpArgs false
open Go Go.Proofs Go.RowKit
namespace Go.Mk
/-- The error of a name. -/
def nmE (s : ByteArray) : Int := if isNm s then 0 else 8
/-- Is a text one of a list? -/
def isIn (P : List ByteArray) (s : ByteArray) : Bool := P.any fun t => decide (t = s)
theorem isIn_snoc (P : List ByteArray) (t s : ByteArray) : isIn (P ++ [t]) s = (isIn P s || decide (t = s)) := by simp [isIn]
theorem isIn_mem {P : List ByteArray} {s : ByteArray} : isIn P s = true ↔ s ∈ P := by
  unfold isIn
  rw [List.any_eq_true]
  constructor
  · rintro ⟨t, ht, h⟩
    rw [of_decide_eq_true h] at ht
    exact ht
  · intro h
    exact ⟨s, h, decide_eq_true rfl⟩
/-- The error of a further name. -/
def twE (P : List ByteArray) (s : ByteArray) : Int := fstN [nmE s, if isIn P s then 9 else 0]
/-- The first error of names, behind those that have been there. -/
def nmsE : List ByteArray → List ByteArray → Int
  | _, [] => 0
  | P, s :: l => if twE P s = 0 then nmsE (P ++ [s]) l else twE P s
theorem nmsE_drop {L : List ByteArray} {k : Nat} {s : ByteArray} (h : L[k]? = some s) : nmsE (L.take k) (L.drop k) = if twE (L.take k) s = 0 then nmsE (L.take (k + 1)) (L.drop (k + 1)) else twE (L.take k) s := by
  obtain ⟨hk, e⟩ := List.getElem?_eq_some_iff.1 h
  rw [List.drop_eq_getElem_cons hk, e, nmsE, List.take_add_one, h]
  rfl
/-- The error of a team that may differ from the first one, and the substitutes behind it. -/
def chgE (F R : List ByteArray) : List ByteArray → List ByteArray → Int × List ByteArray
  | P, [] => (if 2 < P.length then 18 else 0, P)
  | P, s :: l => if isIn F s then chgE F R P l else if isIn R s then chgE F R (if isIn P s then P else P ++ [s]) l else (10, P)
theorem chgE_drop {F R P L : List ByteArray} {k : Nat} {s : ByteArray} (h : L[k]? = some s) : chgE F R P (L.drop k) = if isIn F s then chgE F R P (L.drop (k + 1)) else if isIn R s then chgE F R (if isIn P s then P else P ++ [s]) (L.drop (k + 1)) else (10, P) := by
  obtain ⟨hk, e⟩ := List.getElem?_eq_some_iff.1 h
  rw [List.drop_eq_getElem_cons hk, e, chgE]
/-- The error of a team of a relay with an error, and so many legs. -/
def teamE (rel : Int) (n : Nat) (t : List ByteArray) : Int := fstN [rel, if t.length = n then 0 else 2, nmsE [] t]
/-- The first error of teams, and its team, behind some teams and their substitutes. -/
def tmsE (rel : Int) (n : Nat) (F R : List ByteArray) : Nat → List ByteArray → List (List ByteArray) → Nat × Int
  | _, _, [] => (0, 0)
  | i, P, t :: l => if teamE rel n t = 0 then (if (chgE F R P t).1 = 0 then tmsE rel n F R (i + 1) (chgE F R P t).2 l else (i, (chgE F R P t).1)) else (i, teamE rel n t)
theorem tmsE_drop {rel : Int} {n : Nat} {F R P : List ByteArray} {L : List (List ByteArray)} {k : Nat} {t : List ByteArray} (i : Nat) (h : L[k]? = some t) : tmsE rel n F R i P (L.drop k) = if teamE rel n t = 0 then (if (chgE F R P t).1 = 0 then tmsE rel n F R (i + 1) (chgE F R P t).2 (L.drop (k + 1)) else (i, (chgE F R P t).1)) else (i, teamE rel n t) := by
  obtain ⟨hk, e⟩ := List.getElem?_eq_some_iff.1 h
  rw [List.drop_eq_getElem_cons hk, e, tmsE]
/-- The error of all teams of a relay with an error, and so many legs. -/
def teamsE (rel : Int) (n : Nat) (T : List (List ByteArray)) (R : List ByteArray) : Nat × Int :=
  if rel ≠ 0 then (0, rel) else if T.length = 0 then (0, 12) else if 8 < T.length then (0, 5) else if 16 < R.length then (0, 5) else if nmsE [] R ≠ 0 then (0, nmsE [] R) else tmsE rel n (T.headD []) R 0 [] T
theorem isIn_nodup {P : List ByteArray} {s : ByteArray} (h : P.Nodup) : (if isIn P s then P else P ++ [s]).Nodup := by
  cases hb : isIn P s with
  | true => exact h
  | false =>
    rw [if_neg (by simp)]
    refine List.nodup_append.2 ⟨h, by simp, ?_⟩
    intro a ha b hb' e
    simp at hb'
    subst hb' e
    rw [isIn_mem.2 ha] at hb
    cases hb
theorem isIn_put (P : List ByteArray) (s t : ByteArray) : isIn (if isIn P s then P else P ++ [s]) t = (isIn P t || decide (s = t)) := by
  cases hb : isIn P s with
  | true =>
    rw [if_pos rfl]
    by_cases h : s = t
    · subst h; rw [hb]; simp
    · rw [decide_eq_false h, Bool.or_false]
  | false => rw [if_neg (by simp), isIn_snoc]
/-- The names of lists, each once, in the order in which they come, behind some. -/
def dst : List ByteArray → List ByteArray → List ByteArray
  | P, [] => P
  | P, s :: l => dst (if isIn P s then P else P ++ [s]) l
theorem dst_append (P l m : List ByteArray) : dst P (l ++ m) = dst (dst P l) m := by
  induction l generalizing P with
  | nil => rfl
  | cons s l ih => rw [List.cons_append, dst, ih, dst]
theorem dst_nodup {P : List ByteArray} (l : List ByteArray) (h : P.Nodup) : (dst P l).Nodup := by
  induction l generalizing P with
  | nil => exact h
  | cons s l ih => exact ih (isIn_nodup h)
theorem dst_drop {P L : List ByteArray} {k : Nat} {s : ByteArray} (h : L[k]? = some s) : dst P (L.drop k) = dst (if isIn P s then P else P ++ [s]) (L.drop (k + 1)) := by
  obtain ⟨hk, e⟩ := List.getElem?_eq_some_iff.1 h
  rw [List.drop_eq_getElem_cons hk, e, dst]
end Go.Mk
