/-
  Proved: plain facts on sorting in place by insertion and by merging neighbours, for a strict order of integers. No condition beside those named.
  Proved: a row of places of package field of the caller's own: its cells, an element stored, two exchanged. No condition beside those named.
  Proved: slices.insertionSortCmpFunc of places of package field sorts a range in place, where the comparison answers as a strict order does for a later and an earlier one. Conditions: the places lie in a row of the caller's own; the comparison leaves what was there.
-/
import Derived.Test.YthgkaojplomapaaGreatDoorFea
set_option linter.unusedVariables false
set_option linter.unusedSimpArgs false
open Go Go.Proofs Go.RowKit
set_option maxRecDepth 100000
section
namespace Go.Mk
structure PermIn (a b : Nat) (L L' : List Int) : Prop where
 len : L'.length = L.length
 out : ∀ i, i < a ∨ b ≤ i → ga L' i = ga L i
 perm : L'.Perm L
theorem PermIn.refl (a b : Nat) (L : List Int) : PermIn a b L L := ⟨rfl, fun _ _ => rfl, List.Perm.refl _⟩
theorem PermIn.trans {a b : Nat} {L M N : List Int} (h : PermIn a b L M) (k : PermIn a b M N) : PermIn a b L N := ⟨k.len.trans h.len, fun i hi => (k.out i hi).trans (h.out i hi), k.perm.trans h.perm⟩
theorem PermIn.wide {a b a' b' : Nat} {L M : List Int} (h : PermIn a b L M) (ha : a' ≤ a) (hb : b ≤ b') : PermIn a' b' L M := ⟨h.len, fun i hi => h.out i (by omega), h.perm⟩
theorem PermIn.swp {a b i j : Nat} {L : List Int} (hij : i < j) (ha : a ≤ i) (hb : j < b) (hl : j < L.length) : PermIn a b L (swp L i j) :=
 ⟨swp_len L i j, fun k hk => by rw [ga_swp (by omega) hl, if_neg (by omega), if_neg (by omega)], swp_perm hij hl⟩
theorem PermIn.from_ {a b : Nat} {L L' : List Int} (h : PermIn a b L L') (hn : L.Nodup) {i : Nat} (h1 : a ≤ i) (h2 : i < b) (hl : i < L.length) : ∃ j, a ≤ j ∧ j < b ∧ j < L.length ∧ ga L' i = ga L j := by
 have hn' : L'.Nodup := h.perm.nodup_iff.2 hn
 have hi' : i < L'.length := by rw [h.len]; exact hl
 have hm : ga L' i ∈ L := h.perm.mem_iff.1 (List.mem_of_getElem? (ga_at hi'))
 obtain ⟨j, hj⟩ := List.mem_iff_getElem?.1 hm
 have hjl := (List.getElem?_eq_some_iff.1 hj).1
 have hj2 : ga L j = ga L' i := by rw [ga_at hjl] at hj; exact Option.some.inj hj
 by_cases hin : a ≤ j ∧ j < b
 ·exact ⟨j, hin.1, hin.2, hjl, hj2.symm⟩
 ·exfalso
  have e := h.out j (by omega)
  have hjl' : j < L'.length := by rw [h.len]; exact hjl
  have e2 : L'[j]? = L'[i]? := by rw [ga_at hjl', ga_at hi', e, hj2]
  have := (List.getElem?_inj hjl' hn').1 e2
  omega
def Srt (lt : Int → Int → Prop) (L : List Int) (a b : Nat) : Prop := ∀ i j, a ≤ i → i < j → j < b → lt (ga L i) (ga L j)
theorem Srt.same {lt : Int → Int → Prop} {L M : List Int} {a b : Nat} (h : Srt lt L a b) (he : ∀ i, a ≤ i → i < b → ga M i = ga L i) : Srt lt M a b := fun i j h1 h2 h3 => by
 rw [he i h1 (by omega), he j (by omega) h3]; exact h i j h1 h2 h3
structure Ord (lt : Int → Int → Prop) : Prop where
 trans : ∀ {x y z}, lt x y → lt y z → lt x z
 irr : ∀ {x}, ¬ lt x x
 tri : ∀ {x y}, x ≠ y → lt x y ∨ lt y x
structure Ins (lt : Int → Int → Prop) (a i j : Nat) (L0 L : List Int) : Prop where
 perm : PermIn a (i + 1) L0 L
 v : ga L j = ga L0 i
 rest : ∀ p q, a ≤ p → p < q → q < i + 1 → p ≠ j → q ≠ j → lt (ga L p) (ga L q)
 up : ∀ q, j < q → q < i + 1 → lt (ga L0 i) (ga L q)
theorem Ins.start {lt : Int → Int → Prop} {a i : Nat} {L0 : List Int} (h : Srt lt L0 a i) : Ins lt a i i L0 L0 :=
 ⟨PermIn.refl _ _ _, rfl, fun p q h1 h2 h3 h4 h5 => h p q h1 h2 (by omega), fun q h1 h2 => by omega⟩
theorem Ins.step {lt : Int → Int → Prop} {a i j : Nat} {L0 L : List Int} (h : Ins lt a i j L0 L) (hj : a < j) (hji : j ≤ i) (hl : i < L0.length) (ht : lt (ga L j) (ga L (j - 1))) : Ins lt a i (j - 1) L0 (swp L (j - 1) j) := by
 have hlen := h.perm.len
 have e := fun k => ga_swp (L := L) (i := j - 1) (j := j) (by omega) (by omega) k
 refine ⟨h.perm.trans (PermIn.swp (by omega) (by omega) (by omega) (by omega)), ?_, fun p q h1 h2 h3 h4 h5 => ?_, fun q h1 h2 => ?_⟩
 ·rw [e, if_neg (by omega), if_pos rfl, h.v]
 ·rw [e, e]
  by_cases hq : q = j
  ·subst hq
   rw [if_neg (by omega), if_neg (by omega), if_pos rfl]
   exact h.rest p (q - 1) h1 (by omega) (by omega) (by omega) (by omega)
  ·rw [if_neg hq, if_neg h5]
   by_cases hp : p = j
   ·subst hp
    rw [if_pos rfl]
    exact h.rest (p - 1) q (by omega) (by omega) h3 (by omega) (by omega)
   ·rw [if_neg hp, if_neg h4]
    exact h.rest p q h1 h2 h3 hp hq
 ·rw [e]
  by_cases hq : q = j
  ·rw [if_pos hq, ← h.v]; exact ht
  ·rw [if_neg hq, if_neg (by omega)]
   exact h.up q (by omega) h2
theorem Ins.done {lt : Int → Int → Prop} (ho : Ord lt) {a i j : Nat} {L0 L : List Int} (h : Ins lt a i j L0 L) (hn : L0.Nodup) (haj : a ≤ j) (hji : j ≤ i) (hl : i < L0.length) (ht : a < j → ¬ lt (ga L j) (ga L (j - 1))) : Srt lt L a (i + 1) := by
 have hlen := h.perm.len
 have hn' : L.Nodup := h.perm.perm.nodup_iff.2 hn
 have low : ∀ p, a ≤ p → p < j → lt (ga L p) (ga L j) := fun p h1 h2 => by
  have h3 : lt (ga L (j - 1)) (ga L j) := by
   refine (ho.tri (fun q => ?_)).resolve_right (ht (by omega))
   have e2 : L[j - 1]? = L[j]? := by rw [ga_at (by omega), ga_at (by omega), q]
   have := (List.getElem?_inj (show j - 1 < L.length by omega) hn').1 e2
   omega
  by_cases e : p = j - 1
  ·rw [e]; exact h3
  ·exact ho.trans (h.rest p (j - 1) h1 (by omega) (by omega) (by omega) (by omega)) h3
 intro p q h1 h2 h3
 by_cases hq : q = j
 ·rw [hq]; exact low p h1 (by omega)
 ·by_cases hp : p = j
  ·rw [hp, h.v]; exact h.up q (by omega) h3
  ·exact h.rest p q h1 h2 h3 hp hq
theorem Ins.test {lt : Int → Int → Prop} {cm : Int → Int → Int} {a i j : Nat} {L M0 M : List Int} (h : Ins lt a i j M0 M) (hp : PermIn a i L M0) (hn : L.Nodup) (haj : a < j) (hji : j ≤ i) (hl : i < L.length)
  (hT : ∀ p q, a ≤ p → p < q → q ≤ i → (cm (ga L q) (ga L p) < 0 ↔ lt (ga L q) (ga L p))) : (cm (ga M j) (ga M (j - 1)) < 0 ↔ lt (ga M j) (ga M (j - 1))) ∧ ga M j ∈ L ∧ ga M (j - 1) ∈ L := by
 have hn0 : M0.Nodup := hp.perm.nodup_iff.2 hn
 have hnM : M.Nodup := h.perm.perm.nodup_iff.2 hn0
 have l0 := hp.len
 have l1 := h.perm.len
 obtain ⟨k, k1, k2, k3, k4⟩ := h.perm.from_ hn0 (i := j - 1) (by omega) (by omega) (by omega)
 have hk : k ≠ i := fun e => by
  rw [e, ← h.v] at k4
  have e2 : M[j - 1]? = M[j]? := by rw [ga_at (by omega), ga_at (by omega), k4]
  have := (List.getElem?_inj (show j - 1 < M.length by omega) hnM).1 e2
  omega
 obtain ⟨k', m1, m2, m3, m4⟩ := hp.from_ hn (i := k) k1 (by omega) (by omega)
 have hv : ga M j = ga L i := by rw [h.v, hp.out i (by omega)]
 rw [hv, k4, m4]
 exact ⟨hT k' i m1 m2 (Nat.le_refl _), List.mem_of_getElem? (ga_at hl), List.mem_of_getElem? (ga_at m3)⟩
structure SwR (a b i : Nat) (L M : List Int) : Prop where
 len : M.length = L.length
 perm : M.Perm L
 at_ : ∀ k, ga M k = if a ≤ k ∧ k < a + i then ga L (b + (k - a)) else if b ≤ k ∧ k < b + i then ga L (a + (k - b)) else ga L k
theorem SwR.zero (a b : Nat) (L : List Int) : SwR a b 0 L L := ⟨rfl, List.Perm.refl _, fun k => by rw [if_neg (by omega), if_neg (by omega)]⟩
theorem SwR.step {a b i m : Nat} {L M : List Int} (h : SwR a b i L M) (hi : i < m) (hab : a + m ≤ b) (hb : b + m ≤ L.length) : SwR a b (i + 1) L (swp M (a + i) (b + i)) := by
 have hl := h.len
 refine ⟨by rw [swp_len, hl], (swp_perm (by omega) (by omega)).trans h.perm, fun k => ?_⟩
 rw [ga_swp (by omega) (by omega), h.at_ (a + i), h.at_ (b + i), h.at_ k]
 by_cases h1 : k = b + i
 ·subst h1
  rw [if_pos rfl, if_neg (by omega), if_neg (by omega), if_neg (by omega), if_pos (by omega)]
  congr 1; omega
 ·rw [if_neg h1]
  by_cases h2 : k = a + i
  ·subst h2
   rw [if_pos rfl, if_neg (by omega), if_neg (by omega), if_pos (by omega)]
   congr 1; omega
  ·rw [if_neg h2]
   by_cases h3 : a ≤ k ∧ k < a + i
   ·rw [if_pos h3, if_pos (by omega)]
   ·have h5 : ¬ (a ≤ k ∧ k < a + (i + 1)) := by omega
    by_cases h4 : b ≤ k ∧ k < b + i
    ·rw [if_neg h3, if_pos h4, if_neg h5, if_pos (show b ≤ k ∧ k < b + (i + 1) by omega)]
    ·rw [if_neg h3, if_neg h4, if_neg h5, if_neg (show ¬ (b ≤ k ∧ k < b + (i + 1)) by omega)]
theorem SwR.permIn {a b m : Nat} {L M : List Int} (h : SwR a b m L M) (hab : a + m ≤ b) : PermIn a (b + m) L M := ⟨h.len, fun k hk => by rw [h.at_, if_neg (by omega), if_neg (by omega)], h.perm⟩
structure RotR (a m b : Nat) (L M : List Int) : Prop where
 perm : PermIn a b L M
 lo : ∀ k, k < b - m → ga M (a + k) = ga L (m + k)
 hi : ∀ k, k < m - a → ga M (a + (b - m) + k) = ga L (a + k)
def rotT (a m b : Nat) (L : List Int) (k : Nat) : Int := if k < a + (b - m) then ga L (m + (k - a)) else ga L (a + (k - (a + (b - m))))
structure RotI (a m b i j : Nat) (L M : List Int) : Prop where
 perm : PermIn a b L M
 outer : ∀ k, a ≤ k → k < b → (k < m - i ∨ m + j ≤ k) → ga M k = rotT a m b L k
 left : ∀ k, k < j → rotT a m b L (m - i + k) = ga M (m + k)
 right : ∀ k, k < i → rotT a m b L (m - i + j + k) = ga M (m - i + k)
theorem RotI.start {a m b : Nat} {L : List Int} (h1 : a ≤ m) (h2 : m ≤ b) : RotI a m b (m - a) (b - m) L L := by
 refine ⟨PermIn.refl _ _ _, fun k h3 h4 h5 => by omega, fun k hk => ?_, fun k hk => ?_⟩
 ·unfold rotT
  rw [if_pos (by omega)]; congr 1; omega
 ·unfold rotT
  rw [if_neg (by omega)]; congr 1; omega
theorem RotI.more {a m b i j : Nat} {L M M' : List Int} (h : RotI a m b i j L M) (h1 : a + i ≤ m) (h2 : m + j ≤ b) (hij : j < i) (hs : SwR (m - i) m j M M') : RotI a m b (i - j) j L M' := by
 refine ⟨h.perm.trans ((hs.permIn (by omega)).wide (by omega) (by omega)), fun k h3 h4 h5 => ?_, fun k hk => ?_, fun k hk => ?_⟩
 ·rw [hs.at_]
  by_cases c1 : m - i ≤ k ∧ k < m - i + j
  ·rw [if_pos c1, ← h.left (k - (m - i)) (by omega)]; congr 1; omega
  ·rw [if_neg c1, if_neg (by omega)]
   exact h.outer k h3 h4 (by omega)
 ·rw [hs.at_, if_neg (by omega), if_pos (by omega), show m - i + (m + k - m) = m - i + k by omega, ← h.right k (by omega)]
  congr 1; omega
 ·rw [hs.at_, if_neg (by omega), if_neg (by omega), show m - (i - j) + k = m - i + (j + k) by omega, ← h.right (j + k) (by omega)]
  congr 1; omega
theorem RotI.less {a m b i j : Nat} {L M M' : List Int} (h : RotI a m b i j L M) (h1 : a + i ≤ m) (h2 : m + j ≤ b) (hij : i < j) (hs : SwR (m - i) (m + j - i) i M M') : RotI a m b i (j - i) L M' := by
 refine ⟨h.perm.trans ((hs.permIn (by omega)).wide (by omega) (by omega)), fun k h3 h4 h5 => ?_, fun k hk => ?_, fun k hk => ?_⟩
 ·rw [hs.at_]
  by_cases c1 : m + j - i ≤ k ∧ k < m + j - i + i
  ·rw [if_neg (by omega), if_pos c1, ← h.right (k - (m + j - i)) (by omega)]; congr 1; omega
  ·rw [if_neg (by omega), if_neg c1]
   exact h.outer k h3 h4 (by omega)
 ·rw [hs.at_, if_neg (by omega), if_neg (by omega), h.left k (by omega)]
 ·rw [hs.at_, if_pos (by omega), show m + j - i + (m - i + k - (m - i)) = m + (j - i + k) by omega, ← h.left (j - i + k) (by omega)]
  congr 1; omega
theorem RotI.done {a m b i : Nat} {L M M' : List Int} (h : RotI a m b i i L M) (h1 : a + i ≤ m) (h2 : m + i ≤ b) (hs : SwR (m - i) m i M M') : RotR a m b L M' := by
 have key : ∀ k, a ≤ k → k < b → ga M' k = rotT a m b L k := fun k h3 h4 => by
  rw [hs.at_]
  by_cases c1 : m - i ≤ k ∧ k < m - i + i
  ·rw [if_pos c1, ← h.left (k - (m - i)) (by omega)]; congr 1; omega
  ·rw [if_neg c1]
   by_cases c2 : m ≤ k ∧ k < m + i
   ·rw [if_pos c2, ← h.right (k - m) (by omega)]; congr 1; omega
   ·rw [if_neg c2]
    exact h.outer k h3 h4 (by omega)
 refine ⟨h.perm.trans ((hs.permIn (by omega)).wide (by omega) (by omega)), fun k hk => ?_, fun k hk => ?_⟩
 ·rw [key _ (by omega) (by omega)]
  unfold rotT
  rw [if_pos (by omega)]; congr 1; omega
 ·rw [key _ (by omega) (by omega)]
  unfold rotT
  rw [if_neg (by omega)]; congr 1; omega
def Bel (lt : Int → Int → Prop) (L : List Int) (a m b : Nat) : Prop := ∀ p q, a ≤ p → p < m → m ≤ q → q < b → lt (ga L p) (ga L q)
theorem RotR.refl {s m e : Nat} (h1 : s ≤ m) (h2 : m ≤ e) (L : List Int) (h : s = m ∨ e = m) : RotR s m e L L := by
 refine ⟨PermIn.refl _ _ _, fun k hk => ?_, fun k hk => ?_⟩
 ·rcases h with h | h
  ·subst h; rfl
  ·omega
 ·rcases h with h | h
  ·omega
  ·subst h; congr 1; omega
def Tst (cm : Int → Int → Int) (lt : Int → Int → Prop) (L : List Int) (a m b : Nat) : Prop := ∀ p q, a ≤ p → p < m → m ≤ q → q < b → (cm (ga L q) (ga L p) < 0 ↔ lt (ga L q) (ga L p))
structure Halves (cm : Int → Int → Int) (lt : Int → Int → Prop) (a m b s e : Nat) (M : List Int) : Prop where
 s1 : Srt lt M a s
 s2 : Srt lt M s (s + (e - m))
 s3 : Srt lt M (s + (e - m)) e
 s4 : Srt lt M e b
 bel : Bel lt M a (s + (e - m)) b
 t1 : Tst cm lt M a s (s + (e - m))
 t2 : Tst cm lt M (s + (e - m)) e b
structure Srch (lt : Int → Int → Prop) (L : List Int) (n lo hi s r : Nat) : Prop where
 lo_ : lo ≤ s
 mid_ : s ≤ r
 hi_ : r ≤ hi
 not_ : lo < s → ¬ lt (ga L (n - s)) (ga L (s - 1))
 yes_ : r < hi → lt (ga L (n - 1 - r)) (ga L r)
theorem Srch.start {lt : Int → Int → Prop} {L : List Int} {n lo hi : Nat} (h : lo ≤ hi) : Srch lt L n lo hi lo hi := ⟨Nat.le_refl _, h, Nat.le_refl _, fun q => absurd q (by omega), fun q => absurd q (by omega)⟩
theorem Srch.up {lt : Int → Int → Prop} {L : List Int} {n lo hi s r c : Nat} (h : Srch lt L n lo hi s r) (h1 : s ≤ c) (h2 : c < r) (ht : ¬ lt (ga L (n - 1 - c)) (ga L c)) : Srch lt L n lo hi (c + 1) r :=
 ⟨by have := h.lo_; omega, by omega, h.hi_, fun _ => by rw [show n - (c + 1) = n - 1 - c by omega, Nat.add_sub_cancel]; exact ht, h.yes_⟩
def loS (a m b : Nat) : Nat := if (a + b) / 2 < m then (a + b) / 2 + m - b else a
def hiS (a m b : Nat) : Nat := if (a + b) / 2 < m then (a + b) / 2 else m
theorem srch_lohi {a m b : Nat} (h1 : a < m) (h2 : m < b) : loS a m b ≤ hiS a m b ∧ a ≤ loS a m b ∧ hiS a m b ≤ m ∧ hiS a m b ≤ (a + b) / 2 ∧ (a + b) / 2 + m - b ≤ loS a m b := by
 unfold loS hiS
 split <;> omega
theorem Srch.done {lt : Int → Int → Prop} (ho : Ord lt) {L : List Int} {a m b s : Nat} (hn : L.Nodup) (hb : b ≤ L.length) (h1 : a < m) (h2 : m < b) (h : Srch lt L ((a + b) / 2 + m) (loS a m b) (hiS a m b) s s) :
  a ≤ s ∧ s ≤ m ∧ m ≤ (a + b) / 2 + m - s ∧ (a + b) / 2 + m - s ≤ b ∧ s + ((a + b) / 2 + m - s - m) = (a + b) / 2 ∧
  (a < s → (a + b) / 2 + m - s < b → lt (ga L (s - 1)) (ga L ((a + b) / 2 + m - s))) ∧ (s < m → m < (a + b) / 2 + m - s → lt (ga L ((a + b) / 2 + m - s - 1)) (ga L s)) := by
 obtain ⟨k1, k2, k3, k4, k5⟩ := srch_lohi h1 h2
 have l1 := h.lo_
 have l2 := h.hi_
 refine ⟨by omega, by omega, by omega, by omega, by omega, fun q1 q2 => ?_, fun q1 q2 => ?_⟩
 ·have hlo : loS a m b < s := by
   unfold loS at k5 l1 ⊢
   split at l1 <;> rename_i hc
   ·rw [if_pos hc] at k5 ⊢; omega
   ·rw [if_neg hc]; omega
  refine (ho.tri (fun q => ?_)).resolve_right (h.not_ hlo)
  have e2 : L[s - 1]? = L[(a + b) / 2 + m - s]? := by rw [ga_at (by omega), ga_at (by omega), q]
  have := (List.getElem?_inj (show s - 1 < L.length by omega) hn).1 e2
  omega
 ·have hhi : s < hiS a m b := by
   unfold hiS at k3 k4 l2 ⊢
   split at l2 <;> rename_i hc
   ·rw [if_pos hc]; omega
   ·rw [if_neg hc]; omega
  have := h.yes_ hhi
  rwa [show (a + b) / 2 + m - 1 - s = (a + b) / 2 + m - s - 1 by omega] at this
structure ShU (a b k : Nat) (L M : List Int) : Prop where
 perm : PermIn a b L M
 at_ : ∀ p, ga M p = if a ≤ p ∧ p < k then ga L (p + 1) else if p = k then ga L a else ga L p
theorem ShU.start (a b : Nat) (L : List Int) : ShU a b a L L := ⟨PermIn.refl _ _ _, fun p => by
 rw [if_neg (by omega)]
 by_cases h : p = a
 ·rw [if_pos h, h]
 ·rw [if_neg h]⟩
theorem ShU.step {a b k : Nat} {L M : List Int} (h : ShU a b k L M) (hk : a ≤ k) (hb : k + 1 < b) (hl : b ≤ L.length) : ShU a b (k + 1) L (swp M k (k + 1)) := by
 have hlen := h.perm.len
 refine ⟨h.perm.trans (PermIn.swp (by omega) hk hb (by omega)), fun p => ?_⟩
 rw [ga_swp (by omega) (by omega), h.at_ k, h.at_ (k + 1), h.at_ p]
 have c0 : ¬ (a ≤ k ∧ k < k) := by omega
 have c1 : ¬ (a ≤ k + 1 ∧ k + 1 < k) := by omega
 have c2 : ¬ k + 1 = k := by omega
 by_cases h1 : p = k + 1
 ·rw [if_pos h1, if_neg c0, if_pos rfl, if_neg (show ¬ (a ≤ p ∧ p < k + 1) by omega), if_pos h1]
 ·rw [if_neg h1]
  by_cases h2 : p = k
  ·rw [if_pos h2, if_neg c1, if_neg c2, if_pos (show a ≤ p ∧ p < k + 1 by omega), h2]
  ·rw [if_neg h2]
   by_cases h3 : a ≤ p ∧ p < k
   ·rw [if_pos h3, if_pos (show a ≤ p ∧ p < k + 1 by omega)]
   ·rw [if_neg h3, if_neg h2, if_neg (show ¬ (a ≤ p ∧ p < k + 1) by omega), if_neg h1]
theorem ShU.srt {lt : Int → Int → Prop} {a b i : Nat} {L M : List Int} (h : ShU a b (i - 1) L M) (hs : Srt lt L (a + 1) b) (hai : a + 1 ≤ i) (hib : i ≤ b)
  (h1 : ∀ q, a + 1 ≤ q → q < i → lt (ga L q) (ga L a)) (h2 : ∀ q, i ≤ q → q < b → lt (ga L a) (ga L q)) : Srt lt M a b := fun p q hp hpq hq => by
 rw [h.at_ p, h.at_ q]
 by_cases c1 : a ≤ p ∧ p < i - 1
 ·rw [if_pos c1]
  by_cases c2 : a ≤ q ∧ q < i - 1
  ·rw [if_pos c2]; exact hs _ _ (by omega) (by omega) (by omega)
  ·rw [if_neg c2]
   by_cases c3 : q = i - 1
   ·rw [if_pos c3]; exact h1 _ (by omega) (by omega)
   ·rw [if_neg c3]; exact hs _ _ (by omega) (by omega) hq
 ·rw [if_neg c1, if_neg (show ¬ (a ≤ q ∧ q < i - 1) by omega)]
  by_cases c3 : p = i - 1
  ·rw [if_pos c3, if_neg (show ¬ q = i - 1 by omega)]; exact h2 _ (by omega) hq
  ·rw [if_neg c3, if_neg (show ¬ q = i - 1 by omega)]; exact hs _ _ (by omega) hpq hq
structure ShD (a m k : Nat) (L M : List Int) : Prop where
 perm : PermIn a (m + 1) L M
 at_ : ∀ p, ga M p = if k < p ∧ p ≤ m then ga L (p - 1) else if p = k then ga L m else ga L p
theorem ShD.start (a m : Nat) (L : List Int) : ShD a m m L L := ⟨PermIn.refl _ _ _, fun p => by
 rw [if_neg (by omega)]
 by_cases h : p = m
 ·rw [if_pos h, h]
 ·rw [if_neg h]⟩
theorem ShD.step {a m k : Nat} {L M : List Int} (h : ShD a m k L M) (hk : a < k) (hm : k ≤ m) (hl : m < L.length) : ShD a m (k - 1) L (swp M (k - 1) k) := by
 have hlen := h.perm.len
 refine ⟨h.perm.trans (PermIn.swp (by omega) (by omega) (by omega) (by omega)), fun p => ?_⟩
 rw [ga_swp (by omega) (by omega), h.at_ (k - 1), h.at_ k, h.at_ p]
 have c0 : ¬ (k < k - 1 ∧ k - 1 ≤ m) := by omega
 have c1 : ¬ (k < k ∧ k ≤ m) := by omega
 have c2 : ¬ k - 1 = k := by omega
 by_cases h1 : p = k
 ·rw [if_pos h1, if_neg c0, if_neg c2, if_pos (show k - 1 < p ∧ p ≤ m by omega), h1]
 ·rw [if_neg h1]
  by_cases h2 : p = k - 1
  ·rw [if_pos h2, if_neg c1, if_pos rfl, if_neg (show ¬ (k - 1 < p ∧ p ≤ m) by omega), if_pos h2]
  ·rw [if_neg h2]
   by_cases h3 : k < p ∧ p ≤ m
   ·rw [if_pos h3, if_pos (show k - 1 < p ∧ p ≤ m by omega)]
   ·rw [if_neg h3, if_neg h1, if_neg (show ¬ (k - 1 < p ∧ p ≤ m) by omega), if_neg h2]
theorem ShD.srt {lt : Int → Int → Prop} {a m i : Nat} {L M : List Int} (h : ShD a m i L M) (hs : Srt lt L a m) (hai : a ≤ i) (him : i ≤ m)
  (h1 : ∀ q, a ≤ q → q < i → lt (ga L q) (ga L m)) (h2 : ∀ q, i ≤ q → q < m → lt (ga L m) (ga L q)) : Srt lt M a (m + 1) := fun p q hp hpq hq => by
 rw [h.at_ p, h.at_ q]
 by_cases c1 : i < p ∧ p ≤ m
 ·rw [if_pos c1, if_pos (show i < q ∧ q ≤ m by omega)]; exact hs _ _ (by omega) (by omega) (by omega)
 ·rw [if_neg c1]
  by_cases c2 : p = i
  ·rw [if_pos c2, if_pos (show i < q ∧ q ≤ m by omega)]; exact h2 _ (by omega) (by omega)
  ·rw [if_neg c2]
   by_cases c3 : i < q ∧ q ≤ m
   ·rw [if_pos c3]; exact hs _ _ hp (by omega) (by omega)
   ·rw [if_neg c3]
    by_cases c4 : q = i
    ·rw [if_pos c4]; exact h1 _ hp (by omega)
    ·rw [if_neg c4]; exact hs _ _ hp hpq (by omega)
structure Bin (lt : Int → Int → Prop) (L : List Int) (x : Int) (a b i j : Nat) : Prop where
 lo_ : a ≤ i
 mid_ : i ≤ j
 hi_ : j ≤ b
 low : ∀ q, a ≤ q → q < i → lt (ga L q) x
 up : ∀ q, j ≤ q → q < b → lt x (ga L q)
theorem Bin.start {lt : Int → Int → Prop} {L : List Int} {x : Int} {a b : Nat} (h : a ≤ b) : Bin lt L x a b a b := ⟨Nat.le_refl _, h, Nat.le_refl _, fun q h1 h2 => by omega, fun q h1 h2 => by omega⟩
theorem Bin.right {lt : Int → Int → Prop} (ho : Ord lt) {L : List Int} {x : Int} {a b i j c : Nat} (h : Bin lt L x a b i j) (hs : Srt lt L a b) (h1 : i ≤ c) (h2 : c < j) (ht : lt (ga L c) x) : Bin lt L x a b (c + 1) j :=
 ⟨by have := h.lo_; omega, by omega, h.hi_, fun q q1 q2 => by
  by_cases e : q = c
  ·rw [e]; exact ht
  ·exact ho.trans (hs q c q1 (by omega) (by have := h.hi_; omega)) ht, h.up⟩
theorem Bin.left {lt : Int → Int → Prop} (ho : Ord lt) {L : List Int} {x : Int} {a b i j c : Nat} (h : Bin lt L x a b i j) (hs : Srt lt L a b) (h1 : i ≤ c) (h2 : c < j) (ht : lt x (ga L c)) : Bin lt L x a b i c :=
 ⟨h.lo_, h1, by have := h.hi_; omega, h.low, fun q q1 q2 => by
  by_cases e : q = c
  ·rw [e]; exact ht
  ·exact ho.trans ht (hs c q (by have := h.lo_; omega) (by omega) q2)⟩
structure InsB (lt : Int → Int → Prop) (L M : List Int) (c : Nat) : Prop where
 perm : PermIn 0 c L M
 srt : ∀ p q, p < q → q < c → p / 20 = q / 20 → lt (ga M p) (ga M q)
 frm : ∀ p, p < c → ∃ q, q < c ∧ q / 20 = p / 20 ∧ ga M p = ga L q
theorem InsB.start {lt : Int → Int → Prop} (L : List Int) : InsB lt L L 0 := ⟨PermIn.refl _ _ _, fun _ _ _ h => by omega, fun _ h => by omega⟩
theorem InsB.step {lt : Int → Int → Prop} {L M M' : List Int} {c b : Nat} (h : InsB lt L M c) (hn : L.Nodup) (k : Nat) (hc : c = 20 * k) (hcb : c ≤ b) (hb : b ≤ c + 20) (hl : b ≤ L.length) (hp : PermIn c b M M') (hs : Srt lt M' c b) : InsB lt L M' b := by
 have hnM : M.Nodup := h.perm.perm.nodup_iff.2 hn
 have hlM := h.perm.len
 refine ⟨(h.perm.wide (Nat.le_refl _) hcb).trans (hp.wide (Nat.zero_le _) (Nat.le_refl _)), fun p q h1 h2 h3 => ?_, fun p h1 => ?_⟩
 ·by_cases hq : q < c
  ·rw [hp.out p (by omega), hp.out q (by omega)]; exact h.srt p q h1 hq h3
  ·exact hs p q (by omega) h1 h2
 ·by_cases hq : p < c
  ·obtain ⟨q, q1, q2, q3⟩ := h.frm p hq
   exact ⟨q, by omega, q2, by rw [hp.out p (by omega)]; exact q3⟩
  ·obtain ⟨j, j1, j2, j3, j4⟩ := hp.from_ hnM (i := p) (by omega) h1 (by omega)
   exact ⟨j, j2, by omega, by rw [j4, h.perm.out j (by omega)]⟩
theorem InsB.ask {lt : Int → Int → Prop} {cm : Int → Int → Int} {L M : List Int} {c n : Nat} (h : InsB lt L M c) (hT : ∀ p q, p < q → q < n → (cm (ga L q) (ga L p) < 0 ↔ lt (ga L q) (ga L p))) :
  ∀ p q, c ≤ p → p < q → q < n → (cm (ga M q) (ga M p) < 0 ↔ lt (ga M q) (ga M p)) := fun p q h1 h2 h3 => by
 rw [h.perm.out p (by omega), h.perm.out q (by omega)]
 exact hT p q h2 h3
theorem InsB.all {lt : Int → Int → Prop} {L M : List Int} {n : Nat} (h : InsB lt L M n) (hn : n ≤ 20) : Srt lt M 0 n := fun p q _ h2 h3 => h.srt p q h2 h3 (by omega)
theorem InsB.lo {lt : Int → Int → Prop} {L M : List Int} {n : Nat} (h : InsB lt L M n) (hn : 20 ≤ n) : Srt lt M 0 20 := fun p q _ h2 h3 => h.srt p q h2 (by omega) (by omega)
theorem InsB.hi {lt : Int → Int → Prop} {L M : List Int} {n : Nat} (h : InsB lt L M n) (hn : n ≤ 40) : Srt lt M 20 n := fun p q h1 h2 h3 => h.srt p q h2 h3 (by omega)
theorem pw_of_srt {lt : Int → Int → Prop} {L : List Int} (h : Srt lt L 0 L.length) : L.Pairwise lt := by
 rw [List.pairwise_iff_getElem]
 intro i j hi hj hij
 have := h i j (Nat.zero_le _) hij hj
 have e1 := ga_at hi
 have e2 := ga_at hj
 rw [List.getElem?_eq_getElem hi] at e1
 rw [List.getElem?_eq_getElem hj] at e2
 rw [Option.some.inj e1, Option.some.inj e2]
 exact this
theorem pw_unique {lt : Int → Int → Prop} (ho : Ord lt) : ∀ {L M : List Int}, L.Perm M → L.Pairwise lt → M.Pairwise lt → L = M
 | [], M, hp, _, _ => (List.Perm.nil_eq hp)
 | x :: L, [], hp, _, _ => by simpa using hp.length_eq
 | x :: L, y :: M, hp, h1, h2 => by
  rw [List.pairwise_cons] at h1 h2
  have e : x = y := by
   by_cases e : x = y
   ·exact e
   ·exfalso
    have a1 : x ∈ M := by
     have : x ∈ y :: M := hp.mem_iff.1 (List.mem_cons_self)
     rcases List.mem_cons.1 this with q | q
     ·exact absurd q e
     ·exact q
    have a2 : y ∈ L := by
     have : y ∈ x :: L := hp.mem_iff.2 (List.mem_cons_self)
     rcases List.mem_cons.1 this with q | q
     ·exact absurd q.symm e
     ·exact q
    exact ho.irr (ho.trans (h1.1 y a2) (h2.1 x a1))
  subst e
  rw [pw_unique ho (List.Perm.cons_inv hp) h1.2 h2.2]
end Go.Mk
end
section
namespace Go.Mk
structure Plc where
 nm : ByteArray
 rk : Int
 kd : ByteArray
 vl : Int
 rs : ByteArray
def Plc.cells (p : Plc) : List Value := [.string p.nm, .int .i64 p.rk, .string p.kd, .int .i64 p.vl, .string p.rs]
def Plc.val (p : Plc) : Value := .agg #[.string p.nm, .int .i64 p.rk, .string p.kd, .int .i64 p.vl, .string p.rs]
theorem plc_at : ∀ (L : List Plc) (i : Nat) (p : Plc) (c : Nat), L[i]? = some p → c < 5 → (L.flatMap Plc.cells)[i * 5 + c]? = p.cells[c]?
 | [], i, p, c, h, _ => by simp at h
 | x :: L, 0, p, c, h, hc => by
  obtain rfl : x = p := by simpa using h
  rw [List.flatMap_cons, List.getElem?_append_left (by simp [Plc.cells]; omega)]
  simp
 | x :: L, i + 1, p, c, h, hc => by
  rw [List.flatMap_cons, List.getElem?_append_right (by simp [Plc.cells]; omega), show (i + 1) * 5 + c - x.cells.length = i * 5 + c by simp [Plc.cells]; omega]
  exact plc_at L i p c (by simpa using h) hc
theorem plc_set : ∀ (L : List Plc) (i : Nat) (p : Plc), i < L.length → (((((L.flatMap Plc.cells).set (i * 5) (.string p.nm)).set (i * 5 + 1) (.int .i64 p.rk)).set (i * 5 + 2) (.string p.kd)).set (i * 5 + 3) (.int .i64 p.vl)).set (i * 5 + 4) (.string p.rs) = (L.set i p).flatMap Plc.cells
 | [], i, p, h => by simp at h
 | x :: L, 0, p, h => by simp [Plc.cells]
 | x :: L, i + 1, p, h => by
  rw [List.flatMap_cons, List.set_cons_succ, List.flatMap_cons, ← plc_set L i p (by simpa using h)]
  simp [Plc.cells, show (i + 1) * 5 = i * 5 + 1 + 1 + 1 + 1 + 1 by omega]
def set5 (w : World) (g o : Nat) (p : Plc) : World := ((((w.setCell ⟨g, o, none⟩ (.string p.nm)).setCell ⟨g, o + 1, none⟩ (.int .i64 p.rk)).setCell ⟨g, o + 2, none⟩ (.string p.kd)).setCell ⟨g, o + 3, none⟩ (.int .i64 p.vl)).setCell ⟨g, o + 4, none⟩ (.string p.rs)
def Cel5 (w : World) (g o : Nat) (p : Plc) : Prop := w.cell? ⟨g, o, none⟩ = some (.string p.nm) ∧ w.cell? ⟨g, o + 1, none⟩ = some (.int .i64 p.rk) ∧ w.cell? ⟨g, o + 2, none⟩ = some (.string p.kd) ∧ w.cell? ⟨g, o + 3, none⟩ = some (.int .i64 p.vl) ∧ w.cell? ⟨g, o + 4, none⟩ = some (.string p.rs)
def RowP (F : Int → Plc) (w : World) (B g n cap : Nat) (L : List Int) : Prop := L.length = n ∧ w.ownsRow B 61 5 (.slice (some ⟨g, 0, none⟩) n cap) n ((L.map F).flatMap Plc.cells)
theorem RowP.cell {F : Int → Plc} {w : World} {B g n cap : Nat} {L : List Int} (h : RowP F w B g n cap L) {i : Nat} (hi : i < n) : Cel5 w g (i * 5) (F (ga L i)) := by
 have hp : (L.map F)[i]? = some (F (ga L i)) := by rw [List.getElem?_map, ga_at (by rw [h.1]; exact hi)]; rfl
 refine ⟨?_, ?_, ?_, ?_, ?_⟩
 ·rw [World.ownsRow.cellAt h.2 (i * 5) (by omega)]; exact (plc_at _ i _ 0 hp (by decide)).trans rfl
 ·rw [World.ownsRow.cellAt h.2 (i * 5 + 1) (by omega)]; exact (plc_at _ i _ 1 hp (by decide)).trans rfl
 ·rw [World.ownsRow.cellAt h.2 (i * 5 + 2) (by omega)]; exact (plc_at _ i _ 2 hp (by decide)).trans rfl
 ·rw [World.ownsRow.cellAt h.2 (i * 5 + 3) (by omega)]; exact (plc_at _ i _ 3 hp (by decide)).trans rfl
 ·rw [World.ownsRow.cellAt h.2 (i * 5 + 4) (by omega)]; exact (plc_at _ i _ 4 hp (by decide)).trans rfl
theorem RowP.froz {F : Int → Plc} {w : World} {B g n cap : Nat} {L : List Int} (h : RowP F w B g n cap L) (i : Nat) : w.frozen? ⟨g, i, none⟩ = false := World.ownsRow.frozenAt h.2 i
theorem RowP.below {F : Int → Plc} {w w' : World} {B g n cap : Nat} {L : List Int} (h : RowP F w B g n cap L) (hb : Below w.heap.size w w') : RowP F w' B g n cap L := ⟨h.1, ownN h.2 hb⟩
theorem RowP.lt {F : Int → Plc} {w : World} {B g n cap : Nat} {L : List Int} (h : RowP F w B g n cap L) : B ≤ g ∧ g < w.heap.size := World.ownsRow.lt h.2 g rfl
theorem RowP.set {F : Int → Plc} {w : World} {B g n cap : Nat} {L : List Int} (h : RowP F w B g n cap L) (i : Nat) (x : Int) (hi : i < n) : RowP F (set5 w g (i * 5) (F x)) B g n cap (L.set i x) := by
 refine ⟨by rw [List.length_set]; exact h.1, ?_⟩
 have o1 := (World.ownsRow.stored h.2 (i * 5) (.string (F x).nm)).1
 have o2 := (World.ownsRow.stored o1 (i * 5 + 1) (.int .i64 (F x).rk)).1
 have o3 := (World.ownsRow.stored o2 (i * 5 + 2) (.string (F x).kd)).1
 have o4 := (World.ownsRow.stored o3 (i * 5 + 3) (.int .i64 (F x).vl)).1
 have o5 := (World.ownsRow.stored o4 (i * 5 + 4) (.string (F x).rs)).1
 rw [plc_set _ i (F x) (by rw [List.length_map, h.1]; exact hi)] at o5
 rw [List.map_set]
 exact o5
theorem RowP.swapD {F : Int → Plc} {w : World} {B g n cap : Nat} {L : List Int} (h : RowP F w B g n cap L) {i j : Nat} (hij : i < j) (hj : j < n) : RowP F (set5 (set5 w g (j * 5) (F (ga L i))) g (i * 5) (F (ga L j))) B g n cap (swp L i j) := by
 have := (h.set j (ga L i) hj).set i (ga L j) (by omega)
 unfold swp
 rw [List.set_comm _ _ (by omega : i ≠ j)]
 exact this
theorem grown5 {w a : World} {g : Nat} (h : w.grownBy a (some g)) (o : Nat) (p : Plc) : w.grownBy (set5 a g o p) (some g) :=
 (((((h.trans (grown_set _ g o _)).trans (grown_set _ g (o + 1) _)).trans (grown_set _ g (o + 2) _)).trans (grown_set _ g (o + 3) _)).trans (grown_set _ g (o + 4) _))
def cmpP (bx : Nat) : Value := .func (.func 107) #[] #[.pointer (some ⟨bx, 0, none⟩)]
def CmpP (F : Int → Plc) (w : World) (g bx : Nat) (cm : Int → Int → Int) (L : List Int) : Prop :=
 ∀ w' : World, w.grownBy w' (some g) → ∀ x y : Int, x ∈ L → y ∈ L → Calls Tryz.prog 107 #[(F x).val, (F y).val, .pointer (some ⟨bx, 0, none⟩)] w' (RetPost (.int .i64 (cm x y)) w')
def SortP (F : Int → Plc) (w : World) (B g n cap : Nat) (lt : Int → Int → Prop) (L : List Int) (a b : Nat) (e : Ending) (w' : World) : Prop :=
 ∃ M, e = .returned (.tuple #[]) ∧ PermIn a b L M ∧ Srt lt M a b ∧ RowP F w' B g n cap M ∧ w.grownBy w' (some g)
def RowPostP (F : Int → Plc) (w : World) (B g n cap : Nat) (R : List Int → Prop) (e : Ending) (w' : World) : Prop := ∃ M, e = .returned (.tuple #[]) ∧ R M ∧ RowP F w' B g n cap M ∧ w.grownBy w' (some g)
end Go.Mk
end
section
open Go Go.Proofs Go.RowKit Go.Sort
namespace Go.Mk
set_option maxHeartbeats 4000000 in
theorem insertP_any (F : Int → Plc) {lt : Int → Int → Prop} (ho : Ord lt) (cm : Int → Int → Int) (L : List Int) (B g n cap bx a b : Nat) (w : World) (hr : RowP F w B g n cap L) (hn : L.Nodup) (hb : b ≤ n) (hn1 : n ≤ 100000) (ha : a ≤ 100000) (hC : CmpP F w g bx cm L)
  (hT : ∀ p q, a ≤ p → p < q → q < b → (cm (ga L q) (ga L p) < 0 ↔ lt (ga L q) (ga L p))) :
  Calls Tryz.prog 258 #[.slice (some ⟨g, 0, none⟩) n cap, .int .i64 (a : Nat), .int .i64 (b : Nat), cmpP bx] w (SortP F w B g n cap lt L a b) := by
 have hni : (n : Int) ≤ 100000 := by omega
 have hai : (a : Int) ≤ 100000 := by omega
 have hbi : (b : Int) ≤ (n : Int) := by omega
 have HC := Lib.hid hC
 have HT := Lib.hid hT
 have HL := Lib.hid hr.1
 have HN := Lib.hid hn
 have HR := Lib.hid hr
 unfold cmpP SortP
 clear hC hT hn hr
 go_enter Tryz.func258, Tryz.ntmps258
 go_wp2
 go_loopw [8] (fun i wr => ∃ (k : Nat) (M : List Int), i = .int .i64 k ∧ a + 1 ≤ k ∧ k ≤ 100001 ∧ Hid ((k = a + 1 ∧ M = L) ∨ (k ≤ b ∧ PermIn a k L M ∧ Srt lt M a k)) ∧ RowP F wr B g n cap M ∧ w.grownBy wr (some g)) (fun i _ => 100002 - (RowKit.intOf i).toNat)
 case atStart => exact ⟨a + 1, L, by go_num, by omega, by omega, Lib.hid (.inl ⟨rfl, rfl⟩), HR.out, World.grownBy.refl _ _⟩
 case round =>
  obtain ⟨k, M, rfl, hk1, hk2, HI, hrow, hg⟩ := hrel
  by_cases hlt : k < b
  ·have hki : (k : Int) < (b : Int) := by omega
   have hpk : PermIn a k L M ∧ Srt lt M a k := by
    rcases HI.out with ⟨rfl, rfl⟩ | ⟨_, h1, h2⟩
    ·exact ⟨PermIn.refl _ _ _, fun i j h1 h2 h3 => by omega⟩
    ·exact ⟨h1, h2⟩
   have HPK := Lib.hid hpk
   obtain ⟨wy, rfl⟩ : ∃ wy : World, wy = wr := ⟨_, rfl⟩
   have HR2 := Lib.hid hrow
   have HG := Lib.hid hg
   clear hpk HI hrow hg
   go_wp2
   go_loopw [9] (fun i wr => ∃ (j : Nat) (M' : List Int), i = .int .i64 j ∧ a ≤ j ∧ j ≤ k ∧ Hid (Ins lt a k j M M') ∧ RowP F wr B g n cap M' ∧ w.grownBy wr (some g)) (fun i _ => (RowKit.intOf i).toNat)
   case atStart => exact ⟨k, M, rfl, by omega, by omega, Lib.hid (Ins.start HPK.out.2), HR2.out, HG.out⟩
   case round =>
    obtain ⟨j, M', rfl, hj1, hj2, HI, hrow, hg⟩ := hrel
    have hln : L.length = n := HL.out
    have hlM : M.length = n := HPK.out.1.len.trans hln
    by_cases haj : a < j
    ·have hai2 : (a : Int) < (j : Int) := by omega
     have c1 := hrow.cell (i := j) (by omega)
     have c2 := hrow.cell (i := j - 1) (by omega)
     have hj0 : (0 : Int) ≤ (j : Int) := by omega
     have hjn : (j : Int) < (n : Int) := by omega
     have hjt : ((j : Int)).toNat = j := by omega
     have hk0 : (0 : Int) ≤ (j : Int) - 1 := by omega
     have hk1 : (j : Int) - 1 < (n : Int) := by omega
     have hkt : ((j : Int) - 1).toNat = j - 1 := by omega
     have hj1i : (1 : Int) ≤ (j : Int) := by omega
     have hw1 : IntKind.i64.wrap ((j : Int) - 1) = (j : Int) - 1 := wrapQ _ (by omega)
     obtain ⟨t1, t2, t3⟩ := Ins.test (cm := cm) HI.out HPK.out.1 HN.out haj hj2 (by omega) (fun p q h1 h2 h3 => HT.out p q h1 h2 (by omega))
     have hK : ∀ w', Below wr.heap.size wr w' → Calls Tryz.prog 107 #[(F (ga M' j)).val, (F (ga M' (j - 1))).val, .pointer (some ⟨bx, 0, none⟩)] w' (RetPost (.int .i64 (cm (ga M' j) (ga M' (j - 1)))) w') := fun w' hb' => HC.out w' (gb_below hg hb') _ _ t2 t3
     obtain ⟨x, hx⟩ : ∃ x, ga M' j = x := ⟨_, rfl⟩
     obtain ⟨y, hy⟩ : ∃ y, ga M' (j - 1) = y := ⟨_, rfl⟩
     rw [hx] at c1
     rw [hy] at c2
     rw [hx, hy] at hK t1
     obtain ⟨p1, hp1⟩ : ∃ p, F x = p := ⟨_, rfl⟩
     obtain ⟨p2, hp2⟩ : ∃ p, F y = p := ⟨_, rfl⟩
     rw [hp1] at c1
     rw [hp2] at c2
     rw [hp1, hp2] at hK
     have HP := Lib.hid (And.intro hp1 hp2)
     obtain ⟨n1, r1, k1, v1, s1⟩ := p1
     obtain ⟨n2, r2, k2, v2, s2⟩ := p2
     obtain ⟨c10, c11, c12, c13, c14⟩ := c1
     obtain ⟨c20, c21, c22, c23, c24⟩ := c2
     unfold Plc.val at hK
     dsimp only at c10 c11 c12 c13 c14 c20 c21 c22 c23 c24 hK
     clear hp1 hp2
     have HX := Lib.hid (And.intro hx hy)
     have HRW := Lib.hid hrow
     have HGG := Lib.hid hg
     clear hx hy t2 t3 hrow hg
     obtain ⟨s, hs⟩ : ∃ s, cm x y = s := ⟨_, rfl⟩
     rw [hs] at hK t1
     clear hs
     by_cases hlt0 : s < 0
     ·have hl := t1.1 hlt0
      have HST := Lib.hid (Ins.step HI.out haj hj2 (by omega) (by rw [HX.out.1, HX.out.2]; exact hl))
      clear hl t1
      go_wp2_with fail
      refine wp_region_held_drew (S := fun w' => (w'.cell? ⟨g, j * 5, none⟩ = some (.string n1) ∧ w'.cell? ⟨g, j * 5 + 1, none⟩ = some (.int .i64 r1) ∧ w'.cell? ⟨g, j * 5 + 2, none⟩ = some (.string k1) ∧ w'.cell? ⟨g, j * 5 + 3, none⟩ = some (.int .i64 v1) ∧ w'.cell? ⟨g, j * 5 + 4, none⟩ = some (.string s1)) ∧ w'.cell? ⟨g, (j - 1) * 5, none⟩ = some (.string n2) ∧ w'.cell? ⟨g, (j - 1) * 5 + 1, none⟩ = some (.int .i64 r2) ∧ w'.cell? ⟨g, (j - 1) * 5 + 2, none⟩ = some (.string k2) ∧ w'.cell? ⟨g, (j - 1) * 5 + 3, none⟩ = some (.int .i64 v2) ∧ w'.cell? ⟨g, (j - 1) * 5 + 4, none⟩ = some (.string s2)) (by kernel_rfl) ?_ (fun hHeld => ?_)
      ·exact ⟨⟨c10, c11, c12, c13, c14⟩, c20, c21, c22, c23, c24⟩
      refine zU 0 ?_ rfl ?_ ?_
      rotate_left
      ·rintro w ⟨⟨x1, x2, x3, x4, x5⟩, x6, x7, x8, x9, x10⟩
       go_simp
       try with_reducible rfl
      try simp only [Act.put, zA1, zA2, zA3, zA4, zA5, zA6]
      refine zU 1 ?_ rfl ?_ ?_
      rotate_left
      ·rintro w ⟨⟨x1, x2, x3, x4, x5⟩, x6, x7, x8, x9, x10⟩
       go_simp
       try with_reducible rfl
      try simp only [Act.put, zA1, zA2, zA3, zA4, zA5, zA6]
      refine zU 2 ?_ rfl ?_ ?_
      rotate_left
      ·rintro w ⟨⟨x1, x2, x3, x4, x5⟩, x6, x7, x8, x9, x10⟩
       go_simp
       try with_reducible rfl
      try simp only [Act.put, zA1, zA2, zA3, zA4, zA5, zA6]
      refine zU 3 ?_ rfl ?_ ?_
      rotate_left
      ·rintro w ⟨⟨x1, x2, x3, x4, x5⟩, x6, x7, x8, x9, x10⟩
       go_simp
       try with_reducible rfl
      try simp only [Act.put, zA1, zA2, zA3, zA4, zA5, zA6]
      refine zU 4 ?_ rfl ?_ ?_
      rotate_left
      ·rintro w ⟨⟨x1, x2, x3, x4, x5⟩, x6, x7, x8, x9, x10⟩
       go_simp
       try with_reducible rfl
      try simp only [Act.put, zA1, zA2, zA3, zA4, zA5, zA6]
      refine zU 5 ?_ rfl ?_ ?_
      rotate_left
      ·rintro w ⟨⟨x1, x2, x3, x4, x5⟩, x6, x7, x8, x9, x10⟩
       go_simp
       try with_reducible rfl
      try simp only [Act.put, zA1, zA2, zA3, zA4, zA5, zA6]
      refine zU 6 ?_ rfl ?_ ?_
      rotate_left
      ·rintro w ⟨⟨x1, x2, x3, x4, x5⟩, x6, x7, x8, x9, x10⟩
       go_simp
       try with_reducible rfl
      try simp only [Act.put, zA1, zA2, zA3, zA4, zA5, zA6]
      refine zU 7 ?_ rfl ?_ ?_
      rotate_left
      ·rintro w ⟨⟨x1, x2, x3, x4, x5⟩, x6, x7, x8, x9, x10⟩
       go_simp
       try with_reducible rfl
      try simp only [Act.put, zA1, zA2, zA3, zA4, zA5, zA6]
      refine zU 8 ?_ rfl ?_ ?_
      rotate_left
      ·rintro w ⟨⟨x1, x2, x3, x4, x5⟩, x6, x7, x8, x9, x10⟩
       go_simp
       try with_reducible rfl
      try simp only [Act.put, zA1, zA2, zA3, zA4, zA5, zA6]
      refine zU 9 ?_ rfl ?_ ?_
      rotate_left
      ·rintro w ⟨⟨x1, x2, x3, x4, x5⟩, x6, x7, x8, x9, x10⟩
       go_simp
       try with_reducible rfl
      try simp only [Act.put, zA1, zA2, zA3, zA4, zA5, zA6]
      refine zU 10 ?_ rfl ?_ ?_
      rotate_left
      ·rintro w ⟨⟨x1, x2, x3, x4, x5⟩, x6, x7, x8, x9, x10⟩
       go_simp
       try with_reducible rfl
      try simp only [Act.put, zA1, zA2, zA3, zA4, zA5, zA6]
      refine zU 11 ?_ rfl ?_ ?_
      rotate_left
      ·rintro w ⟨⟨x1, x2, x3, x4, x5⟩, x6, x7, x8, x9, x10⟩
       go_simp
       try simp only [hw1, hkt, if_pos hj1i]
       try with_reducible rfl
      try simp only [Act.put, zA1, zA2, zA3, zA4, zA5, zA6]
      refine zU 12 ?_ rfl ?_ ?_
      rotate_left
      ·rintro w ⟨⟨x1, x2, x3, x4, x5⟩, x6, x7, x8, x9, x10⟩
       go_simp
       try simp only [hw1, hkt, if_pos hj1i]
       try with_reducible rfl
      try simp only [Act.put, zA1, zA2, zA3, zA4, zA5, zA6]
      refine zU 13 ?_ rfl ?_ ?_
      rotate_left
      ·rintro w ⟨⟨x1, x2, x3, x4, x5⟩, x6, x7, x8, x9, x10⟩
       go_simp
       try simp only [hw1, hkt, if_pos hj1i]
       try with_reducible rfl
      try simp only [Act.put, zA1, zA2, zA3, zA4, zA5, zA6]
      refine wpAnyH_ready (rs := [14]) (by kernel_rfl) (by simp) ?_
      refine AllReadyH.cons (o := _) rfl (fun K hKK => ?_) AllReadyH.nil
      go_simp
      go_at_call 107
      refine (hK _ (Below.refl _ _).drew).mono ?_
      rintro e w5 ⟨rfl, hb5⟩
      have hr5 := (HRW.out.below (Below.refl _ _).drew).below hb5
      have d1 := hr5.cell (i := j) (by omega)
      have d2 := hr5.cell (i := j - 1) (by omega)
      rw [HX.out.1, HP.out.1] at d1
      rw [HX.out.2, HP.out.2] at d2
      have hg5 := gb_below HGG.out (bstep (Below.refl _ _).drew hb5)
      go_wp2_with fail
      refine hKK.out _ _ ?_ (fun hHeld => ?_)
      ·exact ⟨d1, d2⟩
      clear hKK K
      try simp only [Act.put, zA1, zA2, zA3, zA4, zA5, zA6]
      refine wpAnyH_ready (rs := [15]) (by kernel_rfl) (by simp) ?_
      refine AllReadyH.cons (o := _) rfl (fun K hKK => ?_) AllReadyH.nil
      go_simp
      refine hKK.out _ _ ?_ (fun hHeld => ?_)
      ·exact hHeld
      clear hKK K
      try simp only [Act.put, zA1, zA2, zA3, zA4, zA5, zA6]
      refine wpAnyH_ready (rs := [16]) (by kernel_rfl) (by simp) ?_
      refine AllReadyH.cons (o := _) rfl (fun K hKK => ?_) AllReadyH.nil
      go_simp
      refine hKK.out _ _ ?_ (fun hHeld => ?_)
      ·exact hHeld
      clear hKK K
      try simp only [Act.put, zA1, zA2, zA3, zA4, zA5, zA6]
      refine wpAnyH_done (by kernel_rfl) ?_ _
      have HR5 := Lib.hid hr5
      have HG5 := Lib.hid hg5
      have fz := hr5.froz
      have h1 := hr5.swapD (i := j - 1) (j := j) (by omega) (by omega)
      rw [HX.out.1, HX.out.2, HP.out.1, HP.out.2] at h1
      have gx := grown5 (grown5 (World.grownBy.refl w5 (some g)) (j * 5) ⟨n2, r2, k2, v2, s2⟩) ((j - 1) * 5) ⟨n1, r1, k1, v1, s1⟩
      unfold set5 at h1 gx
      dsimp only at h1 gx
      have H1 := Lib.hid h1
      have GX := Lib.hid gx
      obtain ⟨d10, d11, d12, d13, d14⟩ := d1
      obtain ⟨d20, d21, d22, d23, d24⟩ := d2
      have z10 := fz (j * 5)
      have z20 := fz ((j - 1) * 5)
      have z11 := fz (j * 5 + 1)
      have z21 := fz ((j - 1) * 5 + 1)
      have z12 := fz (j * 5 + 2)
      have z22 := fz ((j - 1) * 5 + 2)
      have z13 := fz (j * 5 + 3)
      have z23 := fz ((j - 1) * 5 + 3)
      have z14 := fz (j * 5 + 4)
      have z24 := fz ((j - 1) * 5 + 4)
      have i0 : ¬ j * 5 = (j - 1) * 5 := by omega
      have i1 : ¬ j * 5 = j * 5 + 1 := by omega
      have i2 : ¬ (j - 1) * 5 = (j - 1) * 5 + 1 := by omega
      have i3 : ¬ j * 5 = (j - 1) * 5 + 1 := by omega
      have i4 : ¬ j * 5 = j * 5 + 2 := by omega
      have i5 : ¬ (j - 1) * 5 = (j - 1) * 5 + 2 := by omega
      have i6 : ¬ j * 5 = (j - 1) * 5 + 2 := by omega
      have i7 : ¬ j * 5 = j * 5 + 3 := by omega
      have i8 : ¬ (j - 1) * 5 = (j - 1) * 5 + 3 := by omega
      have i9 : ¬ j * 5 = (j - 1) * 5 + 3 := by omega
      have i10 : ¬ j * 5 = j * 5 + 4 := by omega
      have i11 : ¬ (j - 1) * 5 = (j - 1) * 5 + 4 := by omega
      have i12 : ¬ j * 5 = (j - 1) * 5 + 4 := by omega
      have i13 : ¬ j * 5 + 1 = (j - 1) * 5 := by omega
      have i14 : ¬ j * 5 + 1 = (j - 1) * 5 + 1 := by omega
      have i15 : ¬ j * 5 + 1 = j * 5 + 2 := by omega
      have i16 : ¬ (j - 1) * 5 + 1 = (j - 1) * 5 + 2 := by omega
      have i17 : ¬ j * 5 + 1 = (j - 1) * 5 + 2 := by omega
      have i18 : ¬ j * 5 + 1 = j * 5 + 3 := by omega
      have i19 : ¬ (j - 1) * 5 + 1 = (j - 1) * 5 + 3 := by omega
      have i20 : ¬ j * 5 + 1 = (j - 1) * 5 + 3 := by omega
      have i21 : ¬ j * 5 + 1 = j * 5 + 4 := by omega
      have i22 : ¬ (j - 1) * 5 + 1 = (j - 1) * 5 + 4 := by omega
      have i23 : ¬ j * 5 + 1 = (j - 1) * 5 + 4 := by omega
      have i24 : ¬ j * 5 + 2 = (j - 1) * 5 := by omega
      have i25 : ¬ j * 5 + 2 = (j - 1) * 5 + 1 := by omega
      have i26 : ¬ j * 5 + 2 = (j - 1) * 5 + 2 := by omega
      have i27 : ¬ j * 5 + 2 = j * 5 + 3 := by omega
      have i28 : ¬ (j - 1) * 5 + 2 = (j - 1) * 5 + 3 := by omega
      have i29 : ¬ j * 5 + 2 = (j - 1) * 5 + 3 := by omega
      have i30 : ¬ j * 5 + 2 = j * 5 + 4 := by omega
      have i31 : ¬ (j - 1) * 5 + 2 = (j - 1) * 5 + 4 := by omega
      have i32 : ¬ j * 5 + 2 = (j - 1) * 5 + 4 := by omega
      have i33 : ¬ j * 5 + 3 = (j - 1) * 5 := by omega
      have i34 : ¬ j * 5 + 3 = (j - 1) * 5 + 1 := by omega
      have i35 : ¬ j * 5 + 3 = (j - 1) * 5 + 2 := by omega
      have i36 : ¬ j * 5 + 3 = (j - 1) * 5 + 3 := by omega
      have i37 : ¬ j * 5 + 3 = j * 5 + 4 := by omega
      have i38 : ¬ (j - 1) * 5 + 3 = (j - 1) * 5 + 4 := by omega
      have i39 : ¬ j * 5 + 3 = (j - 1) * 5 + 4 := by omega
      have i40 : ¬ j * 5 + 4 = (j - 1) * 5 := by omega
      have i41 : ¬ j * 5 + 4 = (j - 1) * 5 + 1 := by omega
      have i42 : ¬ j * 5 + 4 = (j - 1) * 5 + 2 := by omega
      have i43 : ¬ j * 5 + 4 = (j - 1) * 5 + 3 := by omega
      have i44 : ¬ j * 5 + 4 = (j - 1) * 5 + 4 := by omega
      clear fz
      clear c10 c11 c12 c13 c14 c20 c21 c22 c23 c24 hK hb5 hr5 hg5 hHeld h1 gx
      go_wp2
      go_region
      go_wp2
      go_roundw
      case rel =>
       exact ⟨j - 1, _, by go_num, by omega, by omega, HST, H1.out.below (Below.refl _ _).drew, gb_below (HG5.out.trans GX.out) (Below.refl _ _).drew⟩
      case measure => simp [RowKit.intOf]; omega
     ·have hl : ¬ lt x y := fun q => hlt0 (t1.2 q)
      have hdone := Ins.done ho HI.out (HPK.out.1.perm.nodup_iff.2 HN.out) hj1 hj2 (by omega) (fun _ => by rw [HX.out.1, HX.out.2]; exact hl)
      have HD := Lib.hid (And.intro ((HPK.out.1.wide (Nat.le_refl _) (Nat.le_succ k)).trans HI.out.perm) hdone)
      clear hl t1 hdone
      go_wp2_with fail
      refine wp_region_held_drew (S := fun w' => (w'.cell? ⟨g, j * 5, none⟩ = some (.string n1) ∧ w'.cell? ⟨g, j * 5 + 1, none⟩ = some (.int .i64 r1) ∧ w'.cell? ⟨g, j * 5 + 2, none⟩ = some (.string k1) ∧ w'.cell? ⟨g, j * 5 + 3, none⟩ = some (.int .i64 v1) ∧ w'.cell? ⟨g, j * 5 + 4, none⟩ = some (.string s1)) ∧ w'.cell? ⟨g, (j - 1) * 5, none⟩ = some (.string n2) ∧ w'.cell? ⟨g, (j - 1) * 5 + 1, none⟩ = some (.int .i64 r2) ∧ w'.cell? ⟨g, (j - 1) * 5 + 2, none⟩ = some (.string k2) ∧ w'.cell? ⟨g, (j - 1) * 5 + 3, none⟩ = some (.int .i64 v2) ∧ w'.cell? ⟨g, (j - 1) * 5 + 4, none⟩ = some (.string s2)) (by kernel_rfl) ?_ (fun hHeld => ?_)
      ·exact ⟨⟨c10, c11, c12, c13, c14⟩, c20, c21, c22, c23, c24⟩
      refine zU 0 ?_ rfl ?_ ?_
      rotate_left
      ·rintro w ⟨⟨x1, x2, x3, x4, x5⟩, x6, x7, x8, x9, x10⟩
       go_simp
       try with_reducible rfl
      try simp only [Act.put, zA1, zA2, zA3, zA4, zA5, zA6]
      refine zU 1 ?_ rfl ?_ ?_
      rotate_left
      ·rintro w ⟨⟨x1, x2, x3, x4, x5⟩, x6, x7, x8, x9, x10⟩
       go_simp
       try with_reducible rfl
      try simp only [Act.put, zA1, zA2, zA3, zA4, zA5, zA6]
      refine zU 2 ?_ rfl ?_ ?_
      rotate_left
      ·rintro w ⟨⟨x1, x2, x3, x4, x5⟩, x6, x7, x8, x9, x10⟩
       go_simp
       try with_reducible rfl
      try simp only [Act.put, zA1, zA2, zA3, zA4, zA5, zA6]
      refine zU 3 ?_ rfl ?_ ?_
      rotate_left
      ·rintro w ⟨⟨x1, x2, x3, x4, x5⟩, x6, x7, x8, x9, x10⟩
       go_simp
       try with_reducible rfl
      try simp only [Act.put, zA1, zA2, zA3, zA4, zA5, zA6]
      refine zU 4 ?_ rfl ?_ ?_
      rotate_left
      ·rintro w ⟨⟨x1, x2, x3, x4, x5⟩, x6, x7, x8, x9, x10⟩
       go_simp
       try with_reducible rfl
      try simp only [Act.put, zA1, zA2, zA3, zA4, zA5, zA6]
      refine zU 5 ?_ rfl ?_ ?_
      rotate_left
      ·rintro w ⟨⟨x1, x2, x3, x4, x5⟩, x6, x7, x8, x9, x10⟩
       go_simp
       try with_reducible rfl
      try simp only [Act.put, zA1, zA2, zA3, zA4, zA5, zA6]
      refine zU 6 ?_ rfl ?_ ?_
      rotate_left
      ·rintro w ⟨⟨x1, x2, x3, x4, x5⟩, x6, x7, x8, x9, x10⟩
       go_simp
       try with_reducible rfl
      try simp only [Act.put, zA1, zA2, zA3, zA4, zA5, zA6]
      refine zU 7 ?_ rfl ?_ ?_
      rotate_left
      ·rintro w ⟨⟨x1, x2, x3, x4, x5⟩, x6, x7, x8, x9, x10⟩
       go_simp
       try with_reducible rfl
      try simp only [Act.put, zA1, zA2, zA3, zA4, zA5, zA6]
      refine zU 8 ?_ rfl ?_ ?_
      rotate_left
      ·rintro w ⟨⟨x1, x2, x3, x4, x5⟩, x6, x7, x8, x9, x10⟩
       go_simp
       try with_reducible rfl
      try simp only [Act.put, zA1, zA2, zA3, zA4, zA5, zA6]
      refine zU 9 ?_ rfl ?_ ?_
      rotate_left
      ·rintro w ⟨⟨x1, x2, x3, x4, x5⟩, x6, x7, x8, x9, x10⟩
       go_simp
       try with_reducible rfl
      try simp only [Act.put, zA1, zA2, zA3, zA4, zA5, zA6]
      refine zU 10 ?_ rfl ?_ ?_
      rotate_left
      ·rintro w ⟨⟨x1, x2, x3, x4, x5⟩, x6, x7, x8, x9, x10⟩
       go_simp
       try with_reducible rfl
      try simp only [Act.put, zA1, zA2, zA3, zA4, zA5, zA6]
      refine zU 11 ?_ rfl ?_ ?_
      rotate_left
      ·rintro w ⟨⟨x1, x2, x3, x4, x5⟩, x6, x7, x8, x9, x10⟩
       go_simp
       try simp only [hw1, hkt, if_pos hj1i]
       try with_reducible rfl
      try simp only [Act.put, zA1, zA2, zA3, zA4, zA5, zA6]
      refine zU 12 ?_ rfl ?_ ?_
      rotate_left
      ·rintro w ⟨⟨x1, x2, x3, x4, x5⟩, x6, x7, x8, x9, x10⟩
       go_simp
       try simp only [hw1, hkt, if_pos hj1i]
       try with_reducible rfl
      try simp only [Act.put, zA1, zA2, zA3, zA4, zA5, zA6]
      refine zU 13 ?_ rfl ?_ ?_
      rotate_left
      ·rintro w ⟨⟨x1, x2, x3, x4, x5⟩, x6, x7, x8, x9, x10⟩
       go_simp
       try simp only [hw1, hkt, if_pos hj1i]
       try with_reducible rfl
      try simp only [Act.put, zA1, zA2, zA3, zA4, zA5, zA6]
      refine wpAnyH_ready (rs := [14]) (by kernel_rfl) (by simp) ?_
      refine AllReadyH.cons (o := _) rfl (fun K hKK => ?_) AllReadyH.nil
      go_simp
      go_at_call 107
      refine (hK _ (Below.refl _ _).drew).mono ?_
      rintro e w5 ⟨rfl, hb5⟩
      have hr5 := (HRW.out.below (Below.refl _ _).drew).below hb5
      have d1 := hr5.cell (i := j) (by omega)
      have d2 := hr5.cell (i := j - 1) (by omega)
      rw [HX.out.1, HP.out.1] at d1
      rw [HX.out.2, HP.out.2] at d2
      have hg5 := gb_below HGG.out (bstep (Below.refl _ _).drew hb5)
      go_wp2_with fail
      refine hKK.out _ _ ?_ (fun hHeld => ?_)
      ·exact ⟨d1, d2⟩
      clear hKK K
      try simp only [Act.put, zA1, zA2, zA3, zA4, zA5, zA6]
      refine wpAnyH_ready (rs := [15]) (by kernel_rfl) (by simp) ?_
      refine AllReadyH.cons (o := _) rfl (fun K hKK => ?_) AllReadyH.nil
      go_simp
      refine hKK.out _ _ ?_ (fun hHeld => ?_)
      ·exact hHeld
      clear hKK K
      try simp only [Act.put, zA1, zA2, zA3, zA4, zA5, zA6]
      refine wpAnyH_ready (rs := [16]) (by kernel_rfl) (by simp) ?_
      refine AllReadyH.cons (o := _) rfl (fun K hKK => ?_) AllReadyH.nil
      go_simp
      refine hKK.out _ _ ?_ (fun hHeld => ?_)
      ·exact hHeld
      clear hKK K
      try simp only [Act.put, zA1, zA2, zA3, zA4, zA5, zA6]
      refine wpAnyH_done (by kernel_rfl) ?_ _
      have HR5 := Lib.hid hr5
      have HG5 := Lib.hid hg5
      clear c10 c11 c12 c13 c14 c20 c21 c22 c23 c24 hK hb5 hr5 hg5 hHeld
      go_wp2
      go_roundw
      case rel => exact ⟨k + 1, M', by go_num, by omega, by omega, Lib.hid (.inr ⟨by omega, HD.out.1, HD.out.2⟩), HR5.out, HG5.out⟩
      case measure => simp [RowKit.intOf]; omega
    ·have hna : ¬ (a : Int) < (j : Int) := by omega
     have hdone := Ins.done ho HI.out (HPK.out.1.perm.nodup_iff.2 HN.out) hj1 hj2 (by omega) (fun q => absurd q haj)
     have HD := Lib.hid (And.intro ((HPK.out.1.wide (Nat.le_refl _) (Nat.le_succ k)).trans HI.out.perm) hdone)
     have HRW := Lib.hid hrow
     have HGG := Lib.hid hg
     clear hdone hrow hg
     go_wp2_with fail
     go_quiet (fail)
     go_wp2
     go_roundw
     case rel => exact ⟨k + 1, M', by go_num, by omega, by omega, Lib.hid (.inr ⟨by omega, HD.out.1, HD.out.2⟩), HRW.out.below (below_drewN (Below.refl _ _) _), gb_below HGG.out (below_drewN (Below.refl _ _) _)⟩
     case measure => simp [RowKit.intOf]; omega
  ·have hki : ¬ (k : Int) < (b : Int) := by omega
   have hfin : PermIn a b L M ∧ Srt lt M a b := by
    rcases HI.out with ⟨h1, rfl⟩ | ⟨h1, h2, h3⟩
    ·exact ⟨PermIn.refl _ _ _, fun i j h1 h2 h3 => by omega⟩
    ·have : k = b := by omega
     subst this
     exact ⟨h2, h3⟩
   have HF := Lib.hid hfin
   have HRW := Lib.hid hrow
   have HGG := Lib.hid hg
   clear hfin HI hrow hg
   go_wp2
   go_end0
   exact ⟨rfl, M, HF.out.1, HF.out.2, HRW.out, HGG.out⟩
end Go.Mk
end
