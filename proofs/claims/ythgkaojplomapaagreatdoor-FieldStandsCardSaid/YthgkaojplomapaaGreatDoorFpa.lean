/-
  Proved: plain facts on sorting in place by insertion and by merging neighbours, for a strict order of
  Proved: a row of places of package field of the caller's own: its cells, an element stored, two exchanged. No
  Proved: slices.insertionSortCmpFunc of places of package field sorts a range in place, where the comparison
  Proved: slices.swapRangeCmpFunc of places exchanges two ranges that lie apart, and slices.rotateCmpFunc two
  Proved: slices.symMergeCmpFunc of places merges two sorted neighbours in place, where the first range has one
  Proved: slices.symMergeCmpFunc of places merges two sorted neighbours in place, where the second range has
-/
import Derived.Test.YthgkaojplomapaaGreatDoorFea
set_option maxHeartbeats 32000000
set_option linter.unusedVariables false
set_option linter.unusedSimpArgs false
open Go Go.Proofs Go.RowKit
set_option maxRecDepth 100000
section
namespace Go.Mk
structure PermIn (a b : Nat) (L L' : List Int) : Prop where
 len : L'.length = L.length
 out : ∀ i, i < a ∨ b ≤ i → ga L' i = ga L i
 perm : L'.Perm L
theorem PermIn.refl (a b : Nat) (L : List Int) : PermIn a b L L := ⟨rfl, fun _ _ => rfl, List.Perm.refl _⟩
theorem PermIn.trans {a b : Nat} {L M N : List Int} (h : PermIn a b L M) (k : PermIn a b M N) : PermIn a b L N := ⟨k.len.trans h.len, fun i hi => (k.out i hi).trans (h.out i hi), k.perm.trans h.perm⟩
theorem PermIn.wide {a b a' b' : Nat} {L M : List Int} (h : PermIn a b L M) (ha : a' ≤ a) (hb : b ≤ b') : PermIn a' b' L M := ⟨h.len, fun i hi => h.out i (by omega), h.perm⟩
theorem PermIn.swp {a b i j : Nat} {L : List Int} (hij : i < j) (ha : a ≤ i) (hb : j < b) (hl : j < L.length) : PermIn a b L (swp L i j) :=
 ⟨swp_len L i j, fun k hk => by rw [ga_swp (by omega) hl, if_neg (by omega), if_neg (by omega)], swp_perm hij hl⟩
theorem PermIn.from_ {a b : Nat} {L L' : List Int} (h : PermIn a b L L') (hn : L.Nodup) {i : Nat} (h1 : a ≤ i) (h2 : i < b) (hl : i < L.length) : ∃ j, a ≤ j ∧ j < b ∧ j < L.length ∧ ga L' i = ga L j := by
 have hn' : L'.Nodup := h.perm.nodup_iff.2 hn
 have hi' : i < L'.length := by rw [h.len]; exact hl
 have hm : ga L' i ∈ L := h.perm.mem_iff.1 (List.mem_of_getElem? (ga_at hi'))
 obtain ⟨j, hj⟩ := List.mem_iff_getElem?.1 hm
 have hjl := (List.getElem?_eq_some_iff.1 hj).1
 have hj2 : ga L j = ga L' i := by rw [ga_at hjl] at hj; exact Option.some.inj hj
 by_cases hin : a ≤ j ∧ j < b
 ·exact ⟨j, hin.1, hin.2, hjl, hj2.symm⟩
 ·exfalso
  have e := h.out j (by omega)
  have hjl' : j < L'.length := by rw [h.len]; exact hjl
  have e2 : L'[j]? = L'[i]? := by rw [ga_at hjl', ga_at hi', e, hj2]
  have := (List.getElem?_inj hjl' hn').1 e2
  omega
def Srt (lt : Int → Int → Prop) (L : List Int) (a b : Nat) : Prop := ∀ i j, a ≤ i → i < j → j < b → lt (ga L i) (ga L j)
theorem Srt.sub {lt : Int → Int → Prop} {L : List Int} {a b a' b' : Nat} (h : Srt lt L a b) (ha : a ≤ a') (hb : b' ≤ b) : Srt lt L a' b' := fun i j h1 h2 h3 => h i j (by omega) h2 (by omega)
theorem Srt.same {lt : Int → Int → Prop} {L M : List Int} {a b : Nat} (h : Srt lt L a b) (he : ∀ i, a ≤ i → i < b → ga M i = ga L i) : Srt lt M a b := fun i j h1 h2 h3 => by
 rw [he i h1 (by omega), he j (by omega) h3]; exact h i j h1 h2 h3
structure Ord (lt : Int → Int → Prop) : Prop where
 trans : ∀ {x y z}, lt x y → lt y z → lt x z
 irr : ∀ {x}, ¬ lt x x
 tri : ∀ {x y}, x ≠ y → lt x y ∨ lt y x
structure Ins (lt : Int → Int → Prop) (a i j : Nat) (L0 L : List Int) : Prop where
 perm : PermIn a (i + 1) L0 L
 v : ga L j = ga L0 i
 rest : ∀ p q, a ≤ p → p < q → q < i + 1 → p ≠ j → q ≠ j → lt (ga L p) (ga L q)
 up : ∀ q, j < q → q < i + 1 → lt (ga L0 i) (ga L q)
theorem Ins.start {lt : Int → Int → Prop} {a i : Nat} {L0 : List Int} (h : Srt lt L0 a i) : Ins lt a i i L0 L0 :=
 ⟨PermIn.refl _ _ _, rfl, fun p q h1 h2 h3 h4 h5 => h p q h1 h2 (by omega), fun q h1 h2 => by omega⟩
theorem Ins.step {lt : Int → Int → Prop} {a i j : Nat} {L0 L : List Int} (h : Ins lt a i j L0 L) (hj : a < j) (hji : j ≤ i) (hl : i < L0.length) (ht : lt (ga L j) (ga L (j - 1))) : Ins lt a i (j - 1) L0 (swp L (j - 1) j) := by
 have hlen := h.perm.len
 have e := fun k => ga_swp (L := L) (i := j - 1) (j := j) (by omega) (by omega) k
 refine ⟨h.perm.trans (PermIn.swp (by omega) (by omega) (by omega) (by omega)), ?_, fun p q h1 h2 h3 h4 h5 => ?_, fun q h1 h2 => ?_⟩
 ·rw [e, if_neg (by omega), if_pos rfl, h.v]
 ·rw [e, e]
  by_cases hq : q = j
  ·subst hq
   rw [if_neg (by omega), if_neg (by omega), if_pos rfl]
   exact h.rest p (q - 1) h1 (by omega) (by omega) (by omega) (by omega)
  ·rw [if_neg hq, if_neg h5]
   by_cases hp : p = j
   ·subst hp
    rw [if_pos rfl]
    exact h.rest (p - 1) q (by omega) (by omega) h3 (by omega) (by omega)
   ·rw [if_neg hp, if_neg h4]
    exact h.rest p q h1 h2 h3 hp hq
 ·rw [e]
  by_cases hq : q = j
  ·rw [if_pos hq, ← h.v]; exact ht
  ·rw [if_neg hq, if_neg (by omega)]
   exact h.up q (by omega) h2
theorem Ins.done {lt : Int → Int → Prop} (ho : Ord lt) {a i j : Nat} {L0 L : List Int} (h : Ins lt a i j L0 L) (hn : L0.Nodup) (haj : a ≤ j) (hji : j ≤ i) (hl : i < L0.length) (ht : a < j → ¬ lt (ga L j) (ga L (j - 1))) : Srt lt L a (i + 1) := by
 have hlen := h.perm.len
 have hn' : L.Nodup := h.perm.perm.nodup_iff.2 hn
 have low : ∀ p, a ≤ p → p < j → lt (ga L p) (ga L j) := fun p h1 h2 => by
  have h3 : lt (ga L (j - 1)) (ga L j) := by
   refine (ho.tri (fun q => ?_)).resolve_right (ht (by omega))
   have e2 : L[j - 1]? = L[j]? := by rw [ga_at (by omega), ga_at (by omega), q]
   have := (List.getElem?_inj (show j - 1 < L.length by omega) hn').1 e2
   omega
  by_cases e : p = j - 1
  ·rw [e]; exact h3
  ·exact ho.trans (h.rest p (j - 1) h1 (by omega) (by omega) (by omega) (by omega)) h3
 intro p q h1 h2 h3
 by_cases hq : q = j
 ·rw [hq]; exact low p h1 (by omega)
 ·by_cases hp : p = j
  ·rw [hp, h.v]; exact h.up q (by omega) h3
  ·exact h.rest p q h1 h2 h3 hp hq
theorem Ins.test {lt : Int → Int → Prop} {cm : Int → Int → Int} {a i j : Nat} {L M0 M : List Int} (h : Ins lt a i j M0 M) (hp : PermIn a i L M0) (hn : L.Nodup) (haj : a < j) (hji : j ≤ i) (hl : i < L.length)
  (hT : ∀ p q, a ≤ p → p < q → q ≤ i → (cm (ga L q) (ga L p) < 0 ↔ lt (ga L q) (ga L p))) : (cm (ga M j) (ga M (j - 1)) < 0 ↔ lt (ga M j) (ga M (j - 1))) ∧ ga M j ∈ L ∧ ga M (j - 1) ∈ L := by
 have hn0 : M0.Nodup := hp.perm.nodup_iff.2 hn
 have hnM : M.Nodup := h.perm.perm.nodup_iff.2 hn0
 have l0 := hp.len
 have l1 := h.perm.len
 obtain ⟨k, k1, k2, k3, k4⟩ := h.perm.from_ hn0 (i := j - 1) (by omega) (by omega) (by omega)
 have hk : k ≠ i := fun e => by
  rw [e, ← h.v] at k4
  have e2 : M[j - 1]? = M[j]? := by rw [ga_at (by omega), ga_at (by omega), k4]
  have := (List.getElem?_inj (show j - 1 < M.length by omega) hnM).1 e2
  omega
 obtain ⟨k', m1, m2, m3, m4⟩ := hp.from_ hn (i := k) k1 (by omega) (by omega)
 have hv : ga M j = ga L i := by rw [h.v, hp.out i (by omega)]
 rw [hv, k4, m4]
 exact ⟨hT k' i m1 m2 (Nat.le_refl _), List.mem_of_getElem? (ga_at hl), List.mem_of_getElem? (ga_at m3)⟩
structure SwR (a b i : Nat) (L M : List Int) : Prop where
 len : M.length = L.length
 perm : M.Perm L
 at_ : ∀ k, ga M k = if a ≤ k ∧ k < a + i then ga L (b + (k - a)) else if b ≤ k ∧ k < b + i then ga L (a + (k - b)) else ga L k
theorem SwR.zero (a b : Nat) (L : List Int) : SwR a b 0 L L := ⟨rfl, List.Perm.refl _, fun k => by rw [if_neg (by omega), if_neg (by omega)]⟩
theorem SwR.step {a b i m : Nat} {L M : List Int} (h : SwR a b i L M) (hi : i < m) (hab : a + m ≤ b) (hb : b + m ≤ L.length) : SwR a b (i + 1) L (swp M (a + i) (b + i)) := by
 have hl := h.len
 refine ⟨by rw [swp_len, hl], (swp_perm (by omega) (by omega)).trans h.perm, fun k => ?_⟩
 rw [ga_swp (by omega) (by omega), h.at_ (a + i), h.at_ (b + i), h.at_ k]
 by_cases h1 : k = b + i
 ·subst h1
  rw [if_pos rfl, if_neg (by omega), if_neg (by omega), if_neg (by omega), if_pos (by omega)]
  congr 1; omega
 ·rw [if_neg h1]
  by_cases h2 : k = a + i
  ·subst h2
   rw [if_pos rfl, if_neg (by omega), if_neg (by omega), if_pos (by omega)]
   congr 1; omega
  ·rw [if_neg h2]
   by_cases h3 : a ≤ k ∧ k < a + i
   ·rw [if_pos h3, if_pos (by omega)]
   ·have h5 : ¬ (a ≤ k ∧ k < a + (i + 1)) := by omega
    by_cases h4 : b ≤ k ∧ k < b + i
    ·rw [if_neg h3, if_pos h4, if_neg h5, if_pos (show b ≤ k ∧ k < b + (i + 1) by omega)]
    ·rw [if_neg h3, if_neg h4, if_neg h5, if_neg (show ¬ (b ≤ k ∧ k < b + (i + 1)) by omega)]
theorem SwR.permIn {a b m : Nat} {L M : List Int} (h : SwR a b m L M) (hab : a + m ≤ b) : PermIn a (b + m) L M := ⟨h.len, fun k hk => by rw [h.at_, if_neg (by omega), if_neg (by omega)], h.perm⟩
structure RotR (a m b : Nat) (L M : List Int) : Prop where
 perm : PermIn a b L M
 lo : ∀ k, k < b - m → ga M (a + k) = ga L (m + k)
 hi : ∀ k, k < m - a → ga M (a + (b - m) + k) = ga L (a + k)
def rotT (a m b : Nat) (L : List Int) (k : Nat) : Int := if k < a + (b - m) then ga L (m + (k - a)) else ga L (a + (k - (a + (b - m))))
structure RotI (a m b i j : Nat) (L M : List Int) : Prop where
 perm : PermIn a b L M
 outer : ∀ k, a ≤ k → k < b → (k < m - i ∨ m + j ≤ k) → ga M k = rotT a m b L k
 left : ∀ k, k < j → rotT a m b L (m - i + k) = ga M (m + k)
 right : ∀ k, k < i → rotT a m b L (m - i + j + k) = ga M (m - i + k)
theorem RotI.start {a m b : Nat} {L : List Int} (h1 : a ≤ m) (h2 : m ≤ b) : RotI a m b (m - a) (b - m) L L := by
 refine ⟨PermIn.refl _ _ _, fun k h3 h4 h5 => by omega, fun k hk => ?_, fun k hk => ?_⟩
 ·unfold rotT
  rw [if_pos (by omega)]; congr 1; omega
 ·unfold rotT
  rw [if_neg (by omega)]; congr 1; omega
theorem RotI.more {a m b i j : Nat} {L M M' : List Int} (h : RotI a m b i j L M) (h1 : a + i ≤ m) (h2 : m + j ≤ b) (hij : j < i) (hs : SwR (m - i) m j M M') : RotI a m b (i - j) j L M' := by
 refine ⟨h.perm.trans ((hs.permIn (by omega)).wide (by omega) (by omega)), fun k h3 h4 h5 => ?_, fun k hk => ?_, fun k hk => ?_⟩
 ·rw [hs.at_]
  by_cases c1 : m - i ≤ k ∧ k < m - i + j
  ·rw [if_pos c1, ← h.left (k - (m - i)) (by omega)]; congr 1; omega
  ·rw [if_neg c1, if_neg (by omega)]
   exact h.outer k h3 h4 (by omega)
 ·rw [hs.at_, if_neg (by omega), if_pos (by omega), show m - i + (m + k - m) = m - i + k by omega, ← h.right k (by omega)]
  congr 1; omega
 ·rw [hs.at_, if_neg (by omega), if_neg (by omega), show m - (i - j) + k = m - i + (j + k) by omega, ← h.right (j + k) (by omega)]
  congr 1; omega
theorem RotI.less {a m b i j : Nat} {L M M' : List Int} (h : RotI a m b i j L M) (h1 : a + i ≤ m) (h2 : m + j ≤ b) (hij : i < j) (hs : SwR (m - i) (m + j - i) i M M') : RotI a m b i (j - i) L M' := by
 refine ⟨h.perm.trans ((hs.permIn (by omega)).wide (by omega) (by omega)), fun k h3 h4 h5 => ?_, fun k hk => ?_, fun k hk => ?_⟩
 ·rw [hs.at_]
  by_cases c1 : m + j - i ≤ k ∧ k < m + j - i + i
  ·rw [if_neg (by omega), if_pos c1, ← h.right (k - (m + j - i)) (by omega)]; congr 1; omega
  ·rw [if_neg (by omega), if_neg c1]
   exact h.outer k h3 h4 (by omega)
 ·rw [hs.at_, if_neg (by omega), if_neg (by omega), h.left k (by omega)]
 ·rw [hs.at_, if_pos (by omega), show m + j - i + (m - i + k - (m - i)) = m + (j - i + k) by omega, ← h.left (j - i + k) (by omega)]
  congr 1; omega
theorem RotI.done {a m b i : Nat} {L M M' : List Int} (h : RotI a m b i i L M) (h1 : a + i ≤ m) (h2 : m + i ≤ b) (hs : SwR (m - i) m i M M') : RotR a m b L M' := by
 have key : ∀ k, a ≤ k → k < b → ga M' k = rotT a m b L k := fun k h3 h4 => by
  rw [hs.at_]
  by_cases c1 : m - i ≤ k ∧ k < m - i + i
  ·rw [if_pos c1, ← h.left (k - (m - i)) (by omega)]; congr 1; omega
  ·rw [if_neg c1]
   by_cases c2 : m ≤ k ∧ k < m + i
   ·rw [if_pos c2, ← h.right (k - m) (by omega)]; congr 1; omega
   ·rw [if_neg c2]
    exact h.outer k h3 h4 (by omega)
 refine ⟨h.perm.trans ((hs.permIn (by omega)).wide (by omega) (by omega)), fun k hk => ?_, fun k hk => ?_⟩
 ·rw [key _ (by omega) (by omega)]
  unfold rotT
  rw [if_pos (by omega)]; congr 1; omega
 ·rw [key _ (by omega) (by omega)]
  unfold rotT
  rw [if_neg (by omega)]; congr 1; omega
def Bel (lt : Int → Int → Prop) (L : List Int) (a m b : Nat) : Prop := ∀ p q, a ≤ p → p < m → m ≤ q → q < b → lt (ga L p) (ga L q)
theorem Srt.join {lt : Int → Int → Prop} {L : List Int} {a m b : Nat} (h1 : Srt lt L a m) (h2 : Srt lt L m b) (h : Bel lt L a m b) : Srt lt L a b := fun p q hp hpq hq => by
 by_cases c1 : q < m
 ·exact h1 p q hp hpq c1
 ·by_cases c2 : p < m
  ·exact h p q hp c2 (by omega) hq
  ·exact h2 p q (by omega) hpq hq
theorem Bel.permL {lt : Int → Int → Prop} {L M : List Int} {a m b : Nat} (h : Bel lt L a m b) (hn : L.Nodup) (hp : PermIn a m L M) (hb : b ≤ L.length) (hm : m ≤ b) : Bel lt M a m b := fun p q h1 h2 h3 h4 => by
 obtain ⟨k, k1, k2, k3, k4⟩ := hp.from_ hn (i := p) h1 h2 (by omega)
 rw [k4, hp.out q (by omega)]
 exact h k q k1 k2 h3 h4
theorem Bel.permR {lt : Int → Int → Prop} {L M : List Int} {a m b : Nat} (h : Bel lt L a m b) (hn : L.Nodup) (hp : PermIn m b L M) (hb : b ≤ L.length) : Bel lt M a m b := fun p q h1 h2 h3 h4 => by
 obtain ⟨k, k1, k2, k3, k4⟩ := hp.from_ hn (i := q) h3 h4 (by omega)
 rw [k4, hp.out p (by omega)]
 exact h p k h1 h2 k1 k2
theorem RotR.refl {s m e : Nat} (h1 : s ≤ m) (h2 : m ≤ e) (L : List Int) (h : s = m ∨ e = m) : RotR s m e L L := by
 refine ⟨PermIn.refl _ _ _, fun k hk => ?_, fun k hk => ?_⟩
 ·rcases h with h | h
  ·subst h; rfl
  ·omega
 ·rcases h with h | h
  ·omega
  ·subst h; congr 1; omega
def Tst (cm : Int → Int → Int) (lt : Int → Int → Prop) (L : List Int) (a m b : Nat) : Prop := ∀ p q, a ≤ p → p < m → m ≤ q → q < b → (cm (ga L q) (ga L p) < 0 ↔ lt (ga L q) (ga L p))
structure Halves (cm : Int → Int → Int) (lt : Int → Int → Prop) (a m b s e : Nat) (M : List Int) : Prop where
 s1 : Srt lt M a s
 s2 : Srt lt M s (s + (e - m))
 s3 : Srt lt M (s + (e - m)) e
 s4 : Srt lt M e b
 bel : Bel lt M a (s + (e - m)) b
 t1 : Tst cm lt M a s (s + (e - m))
 t2 : Tst cm lt M (s + (e - m)) e b
theorem halves_of {cm : Int → Int → Int} {lt : Int → Int → Prop} (ho : Ord lt) {L M : List Int} {a m b s e : Nat} (h1 : Srt lt L a m) (h2 : Srt lt L m b) (hT : Tst cm lt L a m b) (has : a ≤ s) (hsm : s ≤ m) (hme : m ≤ e) (heb : e ≤ b)
  (hA : a < s → e < b → lt (ga L (s - 1)) (ga L e)) (hB : s < m → m < e → lt (ga L (e - 1)) (ga L s)) (hr : RotR s m e L M) : Halves cm lt a m b s e M := by
 have lo : ∀ k, s ≤ k → k < s + (e - m) → ga M k = ga L (m + (k - s)) := fun k q1 q2 => by
  have := hr.lo (k - s) (by omega)
  rwa [show s + (k - s) = k by omega] at this
 have hi : ∀ k, s + (e - m) ≤ k → k < e → ga M k = ga L (s + (k - (s + (e - m)))) := fun k q1 q2 => by
  have := hr.hi (k - (s + (e - m))) (by omega)
  rwa [show s + (e - m) + (k - (s + (e - m))) = k by omega] at this
 have o1 : ∀ k, k < s → ga M k = ga L k := fun k q => hr.perm.out k (by omega)
 have o2 : ∀ k, e ≤ k → ga M k = ga L k := fun k q => hr.perm.out k (by omega)
 have le : ∀ {x y z : Int}, (x = y ∨ lt x y) → lt y z → lt x z := fun h k => by
  rcases h with h | h
  ·rw [h]; exact k
  ·exact ho.trans h k
 have ge : ∀ {x y z : Int}, lt x y → (y = z ∨ lt y z) → lt x z := fun h k => by
  rcases k with k | k
  ·rw [← k]; exact h
  ·exact ho.trans h k
 refine ⟨fun p q q1 q2 q3 => ?_, fun p q q1 q2 q3 => ?_, fun p q q1 q2 q3 => ?_, fun p q q1 q2 q3 => ?_, fun p q q1 q2 q3 q4 => ?_, fun p q q1 q2 q3 q4 => ?_, fun p q q1 q2 q3 q4 => ?_⟩
 ·rw [o1 p (by omega), o1 q q3]; exact h1 p q q1 q2 (by omega)
 ·rw [lo p q1 (by omega), lo q (by omega) q3]; exact h2 _ _ (by omega) (by omega) (by omega)
 ·rw [hi p q1 (by omega), hi q (by omega) q3]; exact h1 _ _ (by omega) (by omega) (by omega)
 ·rw [o2 p q1, o2 q (by omega)]; exact h2 p q (by omega) q2 q3
 ·by_cases c1 : p < s
  ·rw [o1 p c1]
   by_cases c2 : q < e
   ·rw [hi q q3 c2]; exact h1 _ _ q1 (by omega) (by omega)
   ·rw [o2 q (by omega)]
    have hab := hA (by omega) (by omega)
    refine le (y := ga L (s - 1)) ?_ (ge hab ?_)
    ·by_cases c3 : p = s - 1
     ·exact .inl (by rw [c3])
     ·exact .inr (h1 p (s - 1) q1 (by omega) (by omega))
    ·by_cases c3 : q = e
     ·exact .inl (by rw [c3])
     ·exact .inr (h2 e q (by omega) (by omega) q4)
  ·rw [lo p (by omega) q2]
   by_cases c2 : q < e
   ·rw [hi q q3 c2]
    have hba := hB (by omega) (by omega)
    refine le (y := ga L (e - 1)) ?_ (ge hba ?_)
    ·by_cases c3 : m + (p - s) = e - 1
     ·exact .inl (by rw [c3])
     ·exact .inr (h2 _ (e - 1) (by omega) (by omega) (by omega))
    ·by_cases c3 : s + (q - (s + (e - m))) = s
     ·exact .inl (by rw [c3])
     ·exact .inr (h1 s _ has (by omega) (by omega))
   ·rw [o2 q (by omega)]; exact h2 _ _ (by omega) (by omega) q4
 ·rw [o1 p q2, lo q q3 q4]; exact hT _ _ q1 (by omega) (by omega) (by omega)
 ·rw [hi p q1 q2, o2 q q3]; exact hT _ _ (by omega) (by omega) (by omega) q4
theorem halves_done {lt : Int → Int → Prop} {a mid b : Nat} {M M1 M2 : List Int} (hn : M.Nodup) (hb : b ≤ M.length) (ham : a ≤ mid) (hmb : mid ≤ b) (hbel : Bel lt M a mid b)
  (p1 : PermIn a mid M M1) (s1 : Srt lt M1 a mid) (p2 : PermIn mid b M1 M2) (s2 : Srt lt M2 mid b) : Srt lt M2 a b := by
 have hn1 : M1.Nodup := p1.perm.nodup_iff.2 hn
 have hb1 : b ≤ M1.length := by rw [p1.len]; exact hb
 refine Srt.join (s1.same (fun i h1 h2 => p2.out i (by omega))) s2 ?_
 exact (hbel.permL hn p1 hb hmb).permR hn1 p2 hb1
structure Srch (lt : Int → Int → Prop) (L : List Int) (n lo hi s r : Nat) : Prop where
 lo_ : lo ≤ s
 mid_ : s ≤ r
 hi_ : r ≤ hi
 not_ : lo < s → ¬ lt (ga L (n - s)) (ga L (s - 1))
 yes_ : r < hi → lt (ga L (n - 1 - r)) (ga L r)
theorem Srch.start {lt : Int → Int → Prop} {L : List Int} {n lo hi : Nat} (h : lo ≤ hi) : Srch lt L n lo hi lo hi := ⟨Nat.le_refl _, h, Nat.le_refl _, fun q => absurd q (by omega), fun q => absurd q (by omega)⟩
theorem Srch.up {lt : Int → Int → Prop} {L : List Int} {n lo hi s r c : Nat} (h : Srch lt L n lo hi s r) (h1 : s ≤ c) (h2 : c < r) (ht : ¬ lt (ga L (n - 1 - c)) (ga L c)) : Srch lt L n lo hi (c + 1) r :=
 ⟨by have := h.lo_; omega, by omega, h.hi_, fun _ => by rw [show n - (c + 1) = n - 1 - c by omega, Nat.add_sub_cancel]; exact ht, h.yes_⟩
theorem Srch.down {lt : Int → Int → Prop} {L : List Int} {n lo hi s r c : Nat} (h : Srch lt L n lo hi s r) (h1 : s ≤ c) (h2 : c < r) (ht : lt (ga L (n - 1 - c)) (ga L c)) : Srch lt L n lo hi s c :=
 ⟨h.lo_, h1, by have := h.hi_; omega, h.not_, fun _ => ht⟩
def loS (a m b : Nat) : Nat := if (a + b) / 2 < m then (a + b) / 2 + m - b else a
def hiS (a m b : Nat) : Nat := if (a + b) / 2 < m then (a + b) / 2 else m
theorem srch_range {a m b c : Nat} (h1 : a < m) (h2 : m < b) (hc1 : loS a m b ≤ c) (hc2 : c < hiS a m b) : a ≤ c ∧ c < m ∧ m ≤ (a + b) / 2 + m - 1 - c ∧ (a + b) / 2 + m - 1 - c < b := by
 unfold loS at hc1
 unfold hiS at hc2
 split at hc1 <;> rename_i h
 ·rw [if_pos h] at hc2; omega
 ·rw [if_neg h] at hc2; omega
theorem srch_lohi {a m b : Nat} (h1 : a < m) (h2 : m < b) : loS a m b ≤ hiS a m b ∧ a ≤ loS a m b ∧ hiS a m b ≤ m ∧ hiS a m b ≤ (a + b) / 2 ∧ (a + b) / 2 + m - b ≤ loS a m b := by
 unfold loS hiS
 split <;> omega
theorem Srch.done {lt : Int → Int → Prop} (ho : Ord lt) {L : List Int} {a m b s : Nat} (hn : L.Nodup) (hb : b ≤ L.length) (h1 : a < m) (h2 : m < b) (h : Srch lt L ((a + b) / 2 + m) (loS a m b) (hiS a m b) s s) :
  a ≤ s ∧ s ≤ m ∧ m ≤ (a + b) / 2 + m - s ∧ (a + b) / 2 + m - s ≤ b ∧ s + ((a + b) / 2 + m - s - m) = (a + b) / 2 ∧
  (a < s → (a + b) / 2 + m - s < b → lt (ga L (s - 1)) (ga L ((a + b) / 2 + m - s))) ∧ (s < m → m < (a + b) / 2 + m - s → lt (ga L ((a + b) / 2 + m - s - 1)) (ga L s)) := by
 obtain ⟨k1, k2, k3, k4, k5⟩ := srch_lohi h1 h2
 have l1 := h.lo_
 have l2 := h.hi_
 refine ⟨by omega, by omega, by omega, by omega, by omega, fun q1 q2 => ?_, fun q1 q2 => ?_⟩
 ·have hlo : loS a m b < s := by
   unfold loS at k5 l1 ⊢
   split at l1 <;> rename_i hc
   ·rw [if_pos hc] at k5 ⊢; omega
   ·rw [if_neg hc]; omega
  refine (ho.tri (fun q => ?_)).resolve_right (h.not_ hlo)
  have e2 : L[s - 1]? = L[(a + b) / 2 + m - s]? := by rw [ga_at (by omega), ga_at (by omega), q]
  have := (List.getElem?_inj (show s - 1 < L.length by omega) hn).1 e2
  omega
 ·have hhi : s < hiS a m b := by
   unfold hiS at k3 k4 l2 ⊢
   split at l2 <;> rename_i hc
   ·rw [if_pos hc]; omega
   ·rw [if_neg hc]; omega
  have := h.yes_ hhi
  rwa [show (a + b) / 2 + m - 1 - s = (a + b) / 2 + m - s - 1 by omega] at this
structure ShU (a b k : Nat) (L M : List Int) : Prop where
 perm : PermIn a b L M
 at_ : ∀ p, ga M p = if a ≤ p ∧ p < k then ga L (p + 1) else if p = k then ga L a else ga L p
theorem ShU.start (a b : Nat) (L : List Int) : ShU a b a L L := ⟨PermIn.refl _ _ _, fun p => by
 rw [if_neg (by omega)]
 by_cases h : p = a
 ·rw [if_pos h, h]
 ·rw [if_neg h]⟩
theorem ShU.step {a b k : Nat} {L M : List Int} (h : ShU a b k L M) (hk : a ≤ k) (hb : k + 1 < b) (hl : b ≤ L.length) : ShU a b (k + 1) L (swp M k (k + 1)) := by
 have hlen := h.perm.len
 refine ⟨h.perm.trans (PermIn.swp (by omega) hk hb (by omega)), fun p => ?_⟩
 rw [ga_swp (by omega) (by omega), h.at_ k, h.at_ (k + 1), h.at_ p]
 have c0 : ¬ (a ≤ k ∧ k < k) := by omega
 have c1 : ¬ (a ≤ k + 1 ∧ k + 1 < k) := by omega
 have c2 : ¬ k + 1 = k := by omega
 by_cases h1 : p = k + 1
 ·rw [if_pos h1, if_neg c0, if_pos rfl, if_neg (show ¬ (a ≤ p ∧ p < k + 1) by omega), if_pos h1]
 ·rw [if_neg h1]
  by_cases h2 : p = k
  ·rw [if_pos h2, if_neg c1, if_neg c2, if_pos (show a ≤ p ∧ p < k + 1 by omega), h2]
  ·rw [if_neg h2]
   by_cases h3 : a ≤ p ∧ p < k
   ·rw [if_pos h3, if_pos (show a ≤ p ∧ p < k + 1 by omega)]
   ·rw [if_neg h3, if_neg h2, if_neg (show ¬ (a ≤ p ∧ p < k + 1) by omega), if_neg h1]
theorem ShU.srt {lt : Int → Int → Prop} {a b i : Nat} {L M : List Int} (h : ShU a b (i - 1) L M) (hs : Srt lt L (a + 1) b) (hai : a + 1 ≤ i) (hib : i ≤ b)
  (h1 : ∀ q, a + 1 ≤ q → q < i → lt (ga L q) (ga L a)) (h2 : ∀ q, i ≤ q → q < b → lt (ga L a) (ga L q)) : Srt lt M a b := fun p q hp hpq hq => by
 rw [h.at_ p, h.at_ q]
 by_cases c1 : a ≤ p ∧ p < i - 1
 ·rw [if_pos c1]
  by_cases c2 : a ≤ q ∧ q < i - 1
  ·rw [if_pos c2]; exact hs _ _ (by omega) (by omega) (by omega)
  ·rw [if_neg c2]
   by_cases c3 : q = i - 1
   ·rw [if_pos c3]; exact h1 _ (by omega) (by omega)
   ·rw [if_neg c3]; exact hs _ _ (by omega) (by omega) hq
 ·rw [if_neg c1, if_neg (show ¬ (a ≤ q ∧ q < i - 1) by omega)]
  by_cases c3 : p = i - 1
  ·rw [if_pos c3, if_neg (show ¬ q = i - 1 by omega)]; exact h2 _ (by omega) hq
  ·rw [if_neg c3, if_neg (show ¬ q = i - 1 by omega)]; exact hs _ _ (by omega) hpq hq
structure ShD (a m k : Nat) (L M : List Int) : Prop where
 perm : PermIn a (m + 1) L M
 at_ : ∀ p, ga M p = if k < p ∧ p ≤ m then ga L (p - 1) else if p = k then ga L m else ga L p
theorem ShD.start (a m : Nat) (L : List Int) : ShD a m m L L := ⟨PermIn.refl _ _ _, fun p => by
 rw [if_neg (by omega)]
 by_cases h : p = m
 ·rw [if_pos h, h]
 ·rw [if_neg h]⟩
theorem ShD.step {a m k : Nat} {L M : List Int} (h : ShD a m k L M) (hk : a < k) (hm : k ≤ m) (hl : m < L.length) : ShD a m (k - 1) L (swp M (k - 1) k) := by
 have hlen := h.perm.len
 refine ⟨h.perm.trans (PermIn.swp (by omega) (by omega) (by omega) (by omega)), fun p => ?_⟩
 rw [ga_swp (by omega) (by omega), h.at_ (k - 1), h.at_ k, h.at_ p]
 have c0 : ¬ (k < k - 1 ∧ k - 1 ≤ m) := by omega
 have c1 : ¬ (k < k ∧ k ≤ m) := by omega
 have c2 : ¬ k - 1 = k := by omega
 by_cases h1 : p = k
 ·rw [if_pos h1, if_neg c0, if_neg c2, if_pos (show k - 1 < p ∧ p ≤ m by omega), h1]
 ·rw [if_neg h1]
  by_cases h2 : p = k - 1
  ·rw [if_pos h2, if_neg c1, if_pos rfl, if_neg (show ¬ (k - 1 < p ∧ p ≤ m) by omega), if_pos h2]
  ·rw [if_neg h2]
   by_cases h3 : k < p ∧ p ≤ m
   ·rw [if_pos h3, if_pos (show k - 1 < p ∧ p ≤ m by omega)]
   ·rw [if_neg h3, if_neg h1, if_neg (show ¬ (k - 1 < p ∧ p ≤ m) by omega), if_neg h2]
theorem ShD.srt {lt : Int → Int → Prop} {a m i : Nat} {L M : List Int} (h : ShD a m i L M) (hs : Srt lt L a m) (hai : a ≤ i) (him : i ≤ m)
  (h1 : ∀ q, a ≤ q → q < i → lt (ga L q) (ga L m)) (h2 : ∀ q, i ≤ q → q < m → lt (ga L m) (ga L q)) : Srt lt M a (m + 1) := fun p q hp hpq hq => by
 rw [h.at_ p, h.at_ q]
 by_cases c1 : i < p ∧ p ≤ m
 ·rw [if_pos c1, if_pos (show i < q ∧ q ≤ m by omega)]; exact hs _ _ (by omega) (by omega) (by omega)
 ·rw [if_neg c1]
  by_cases c2 : p = i
  ·rw [if_pos c2, if_pos (show i < q ∧ q ≤ m by omega)]; exact h2 _ (by omega) (by omega)
  ·rw [if_neg c2]
   by_cases c3 : i < q ∧ q ≤ m
   ·rw [if_pos c3]; exact hs _ _ hp (by omega) (by omega)
   ·rw [if_neg c3]
    by_cases c4 : q = i
    ·rw [if_pos c4]; exact h1 _ hp (by omega)
    ·rw [if_neg c4]; exact hs _ _ hp hpq (by omega)
structure Bin (lt : Int → Int → Prop) (L : List Int) (x : Int) (a b i j : Nat) : Prop where
 lo_ : a ≤ i
 mid_ : i ≤ j
 hi_ : j ≤ b
 low : ∀ q, a ≤ q → q < i → lt (ga L q) x
 up : ∀ q, j ≤ q → q < b → lt x (ga L q)
theorem Bin.start {lt : Int → Int → Prop} {L : List Int} {x : Int} {a b : Nat} (h : a ≤ b) : Bin lt L x a b a b := ⟨Nat.le_refl _, h, Nat.le_refl _, fun q h1 h2 => by omega, fun q h1 h2 => by omega⟩
theorem Bin.right {lt : Int → Int → Prop} (ho : Ord lt) {L : List Int} {x : Int} {a b i j c : Nat} (h : Bin lt L x a b i j) (hs : Srt lt L a b) (h1 : i ≤ c) (h2 : c < j) (ht : lt (ga L c) x) : Bin lt L x a b (c + 1) j :=
 ⟨by have := h.lo_; omega, by omega, h.hi_, fun q q1 q2 => by
  by_cases e : q = c
  ·rw [e]; exact ht
  ·exact ho.trans (hs q c q1 (by omega) (by have := h.hi_; omega)) ht, h.up⟩
theorem Bin.left {lt : Int → Int → Prop} (ho : Ord lt) {L : List Int} {x : Int} {a b i j c : Nat} (h : Bin lt L x a b i j) (hs : Srt lt L a b) (h1 : i ≤ c) (h2 : c < j) (ht : lt x (ga L c)) : Bin lt L x a b i c :=
 ⟨h.lo_, h1, by have := h.hi_; omega, h.low, fun q q1 q2 => by
  by_cases e : q = c
  ·rw [e]; exact ht
  ·exact ho.trans ht (hs c q (by have := h.lo_; omega) (by omega) q2)⟩
structure InsB (lt : Int → Int → Prop) (L M : List Int) (c : Nat) : Prop where
 perm : PermIn 0 c L M
 srt : ∀ p q, p < q → q < c → p / 20 = q / 20 → lt (ga M p) (ga M q)
 frm : ∀ p, p < c → ∃ q, q < c ∧ q / 20 = p / 20 ∧ ga M p = ga L q
theorem InsB.start {lt : Int → Int → Prop} (L : List Int) : InsB lt L L 0 := ⟨PermIn.refl _ _ _, fun _ _ _ h => by omega, fun _ h => by omega⟩
theorem InsB.step {lt : Int → Int → Prop} {L M M' : List Int} {c b : Nat} (h : InsB lt L M c) (hn : L.Nodup) (k : Nat) (hc : c = 20 * k) (hcb : c ≤ b) (hb : b ≤ c + 20) (hl : b ≤ L.length) (hp : PermIn c b M M') (hs : Srt lt M' c b) : InsB lt L M' b := by
 have hnM : M.Nodup := h.perm.perm.nodup_iff.2 hn
 have hlM := h.perm.len
 refine ⟨(h.perm.wide (Nat.le_refl _) hcb).trans (hp.wide (Nat.zero_le _) (Nat.le_refl _)), fun p q h1 h2 h3 => ?_, fun p h1 => ?_⟩
 ·by_cases hq : q < c
  ·rw [hp.out p (by omega), hp.out q (by omega)]; exact h.srt p q h1 hq h3
  ·exact hs p q (by omega) h1 h2
 ·by_cases hq : p < c
  ·obtain ⟨q, q1, q2, q3⟩ := h.frm p hq
   exact ⟨q, by omega, q2, by rw [hp.out p (by omega)]; exact q3⟩
  ·obtain ⟨j, j1, j2, j3, j4⟩ := hp.from_ hnM (i := p) (by omega) h1 (by omega)
   exact ⟨j, j2, by omega, by rw [j4, h.perm.out j (by omega)]⟩
theorem InsB.ask {lt : Int → Int → Prop} {cm : Int → Int → Int} {L M : List Int} {c n : Nat} (h : InsB lt L M c) (hT : ∀ p q, p < q → q < n → (cm (ga L q) (ga L p) < 0 ↔ lt (ga L q) (ga L p))) :
  ∀ p q, c ≤ p → p < q → q < n → (cm (ga M q) (ga M p) < 0 ↔ lt (ga M q) (ga M p)) := fun p q h1 h2 h3 => by
 rw [h.perm.out p (by omega), h.perm.out q (by omega)]
 exact hT p q h2 h3
theorem InsB.tst {lt : Int → Int → Prop} {cm : Int → Int → Int} {L M : List Int} {n : Nat} (h : InsB lt L M n) (hn : n ≤ 40) (hT : ∀ p q, p < q → q < n → (cm (ga L q) (ga L p) < 0 ↔ lt (ga L q) (ga L p))) : Tst cm lt M 0 20 n := fun p q h1 h2 h3 h4 => by
 obtain ⟨p', a1, a2, a3⟩ := h.frm p (by omega)
 obtain ⟨q', b1, b2, b3⟩ := h.frm q h4
 rw [a3, b3]
 exact hT p' q' (by omega) b1
theorem InsB.all {lt : Int → Int → Prop} {L M : List Int} {n : Nat} (h : InsB lt L M n) (hn : n ≤ 20) : Srt lt M 0 n := fun p q _ h2 h3 => h.srt p q h2 h3 (by omega)
theorem InsB.lo {lt : Int → Int → Prop} {L M : List Int} {n : Nat} (h : InsB lt L M n) (hn : 20 ≤ n) : Srt lt M 0 20 := fun p q _ h2 h3 => h.srt p q h2 (by omega) (by omega)
theorem InsB.hi {lt : Int → Int → Prop} {L M : List Int} {n : Nat} (h : InsB lt L M n) (hn : n ≤ 40) : Srt lt M 20 n := fun p q h1 h2 h3 => h.srt p q h2 h3 (by omega)
theorem pw_of_srt {lt : Int → Int → Prop} {L : List Int} (h : Srt lt L 0 L.length) : L.Pairwise lt := by
 rw [List.pairwise_iff_getElem]
 intro i j hi hj hij
 have := h i j (Nat.zero_le _) hij hj
 have e1 := ga_at hi
 have e2 := ga_at hj
 rw [List.getElem?_eq_getElem hi] at e1
 rw [List.getElem?_eq_getElem hj] at e2
 rw [Option.some.inj e1, Option.some.inj e2]
 exact this
theorem pw_unique {lt : Int → Int → Prop} (ho : Ord lt) : ∀ {L M : List Int}, L.Perm M → L.Pairwise lt → M.Pairwise lt → L = M
 | [], M, hp, _, _ => (List.Perm.nil_eq hp)
 | x :: L, [], hp, _, _ => by simpa using hp.length_eq
 | x :: L, y :: M, hp, h1, h2 => by
  rw [List.pairwise_cons] at h1 h2
  have e : x = y := by
   by_cases e : x = y
   ·exact e
   ·exfalso
    have a1 : x ∈ M := by
     have : x ∈ y :: M := hp.mem_iff.1 (List.mem_cons_self)
     rcases List.mem_cons.1 this with q | q
     ·exact absurd q e
     ·exact q
    have a2 : y ∈ L := by
     have : y ∈ x :: L := hp.mem_iff.2 (List.mem_cons_self)
     rcases List.mem_cons.1 this with q | q
     ·exact absurd q.symm e
     ·exact q
    exact ho.irr (ho.trans (h1.1 y a2) (h2.1 x a1))
  subst e
  rw [pw_unique ho (List.Perm.cons_inv hp) h1.2 h2.2]
end Go.Mk
end
section
namespace Go.Mk
structure Plc where
 nm : ByteArray
 rk : Int
 kd : ByteArray
 vl : Int
 rs : ByteArray
def Plc.cells (p : Plc) : List Value := [.string p.nm, .int .i64 p.rk, .string p.kd, .int .i64 p.vl, .string p.rs]
def Plc.val (p : Plc) : Value := .agg #[.string p.nm, .int .i64 p.rk, .string p.kd, .int .i64 p.vl, .string p.rs]
theorem plc_at : ∀ (L : List Plc) (i : Nat) (p : Plc) (c : Nat), L[i]? = some p → c < 5 → (L.flatMap Plc.cells)[i * 5 + c]? = p.cells[c]?
 | [], i, p, c, h, _ => by simp at h
 | x :: L, 0, p, c, h, hc => by
  obtain rfl : x = p := by simpa using h
  rw [List.flatMap_cons, List.getElem?_append_left (by simp [Plc.cells]; omega)]
  simp
 | x :: L, i + 1, p, c, h, hc => by
  rw [List.flatMap_cons, List.getElem?_append_right (by simp [Plc.cells]; omega), show (i + 1) * 5 + c - x.cells.length = i * 5 + c by simp [Plc.cells]; omega]
  exact plc_at L i p c (by simpa using h) hc
theorem plc_set : ∀ (L : List Plc) (i : Nat) (p : Plc), i < L.length → (((((L.flatMap Plc.cells).set (i * 5) (.string p.nm)).set (i * 5 + 1) (.int .i64 p.rk)).set (i * 5 + 2) (.string p.kd)).set (i * 5 + 3) (.int .i64 p.vl)).set (i * 5 + 4) (.string p.rs) = (L.set i p).flatMap Plc.cells
 | [], i, p, h => by simp at h
 | x :: L, 0, p, h => by simp [Plc.cells]
 | x :: L, i + 1, p, h => by
  rw [List.flatMap_cons, List.set_cons_succ, List.flatMap_cons, ← plc_set L i p (by simpa using h)]
  simp [Plc.cells, show (i + 1) * 5 = i * 5 + 1 + 1 + 1 + 1 + 1 by omega]
def set5 (w : World) (g o : Nat) (p : Plc) : World := ((((w.setCell ⟨g, o, none⟩ (.string p.nm)).setCell ⟨g, o + 1, none⟩ (.int .i64 p.rk)).setCell ⟨g, o + 2, none⟩ (.string p.kd)).setCell ⟨g, o + 3, none⟩ (.int .i64 p.vl)).setCell ⟨g, o + 4, none⟩ (.string p.rs)
def Cel5 (w : World) (g o : Nat) (p : Plc) : Prop := w.cell? ⟨g, o, none⟩ = some (.string p.nm) ∧ w.cell? ⟨g, o + 1, none⟩ = some (.int .i64 p.rk) ∧ w.cell? ⟨g, o + 2, none⟩ = some (.string p.kd) ∧ w.cell? ⟨g, o + 3, none⟩ = some (.int .i64 p.vl) ∧ w.cell? ⟨g, o + 4, none⟩ = some (.string p.rs)
def RowP (F : Int → Plc) (w : World) (B g n cap : Nat) (L : List Int) : Prop := L.length = n ∧ w.ownsRow B 61 5 (.slice (some ⟨g, 0, none⟩) n cap) n ((L.map F).flatMap Plc.cells)
theorem RowP.cell {F : Int → Plc} {w : World} {B g n cap : Nat} {L : List Int} (h : RowP F w B g n cap L) {i : Nat} (hi : i < n) : Cel5 w g (i * 5) (F (ga L i)) := by
 have hp : (L.map F)[i]? = some (F (ga L i)) := by rw [List.getElem?_map, ga_at (by rw [h.1]; exact hi)]; rfl
 refine ⟨?_, ?_, ?_, ?_, ?_⟩
 ·rw [World.ownsRow.cellAt h.2 (i * 5) (by omega)]; exact (plc_at _ i _ 0 hp (by decide)).trans rfl
 ·rw [World.ownsRow.cellAt h.2 (i * 5 + 1) (by omega)]; exact (plc_at _ i _ 1 hp (by decide)).trans rfl
 ·rw [World.ownsRow.cellAt h.2 (i * 5 + 2) (by omega)]; exact (plc_at _ i _ 2 hp (by decide)).trans rfl
 ·rw [World.ownsRow.cellAt h.2 (i * 5 + 3) (by omega)]; exact (plc_at _ i _ 3 hp (by decide)).trans rfl
 ·rw [World.ownsRow.cellAt h.2 (i * 5 + 4) (by omega)]; exact (plc_at _ i _ 4 hp (by decide)).trans rfl
theorem RowP.froz {F : Int → Plc} {w : World} {B g n cap : Nat} {L : List Int} (h : RowP F w B g n cap L) (i : Nat) : w.frozen? ⟨g, i, none⟩ = false := World.ownsRow.frozenAt h.2 i
theorem RowP.below {F : Int → Plc} {w w' : World} {B g n cap : Nat} {L : List Int} (h : RowP F w B g n cap L) (hb : Below w.heap.size w w') : RowP F w' B g n cap L := ⟨h.1, ownN h.2 hb⟩
theorem RowP.lt {F : Int → Plc} {w : World} {B g n cap : Nat} {L : List Int} (h : RowP F w B g n cap L) : B ≤ g ∧ g < w.heap.size := World.ownsRow.lt h.2 g rfl
theorem RowP.set {F : Int → Plc} {w : World} {B g n cap : Nat} {L : List Int} (h : RowP F w B g n cap L) (i : Nat) (x : Int) (hi : i < n) : RowP F (set5 w g (i * 5) (F x)) B g n cap (L.set i x) := by
 refine ⟨by rw [List.length_set]; exact h.1, ?_⟩
 have o1 := (World.ownsRow.stored h.2 (i * 5) (.string (F x).nm)).1
 have o2 := (World.ownsRow.stored o1 (i * 5 + 1) (.int .i64 (F x).rk)).1
 have o3 := (World.ownsRow.stored o2 (i * 5 + 2) (.string (F x).kd)).1
 have o4 := (World.ownsRow.stored o3 (i * 5 + 3) (.int .i64 (F x).vl)).1
 have o5 := (World.ownsRow.stored o4 (i * 5 + 4) (.string (F x).rs)).1
 rw [plc_set _ i (F x) (by rw [List.length_map, h.1]; exact hi)] at o5
 rw [List.map_set]
 exact o5
theorem RowP.swapD {F : Int → Plc} {w : World} {B g n cap : Nat} {L : List Int} (h : RowP F w B g n cap L) {i j : Nat} (hij : i < j) (hj : j < n) : RowP F (set5 (set5 w g (j * 5) (F (ga L i))) g (i * 5) (F (ga L j))) B g n cap (swp L i j) := by
 have := (h.set j (ga L i) hj).set i (ga L j) (by omega)
 unfold swp
 rw [List.set_comm _ _ (by omega : i ≠ j)]
 exact this
theorem RowP.swapU {F : Int → Plc} {w : World} {B g n cap : Nat} {L : List Int} (h : RowP F w B g n cap L) (i j : Nat) (hi : i < n) (hj : j < n) : RowP F (set5 (set5 w g (i * 5) (F (ga L j))) g (j * 5) (F (ga L i))) B g n cap (swp L i j) := (h.set i (ga L j) hi).set j (ga L i) hj
theorem grown5 {w a : World} {g : Nat} (h : w.grownBy a (some g)) (o : Nat) (p : Plc) : w.grownBy (set5 a g o p) (some g) :=
 (((((h.trans (grown_set _ g o _)).trans (grown_set _ g (o + 1) _)).trans (grown_set _ g (o + 2) _)).trans (grown_set _ g (o + 3) _)).trans (grown_set _ g (o + 4) _))
def cmpP (bx : Nat) : Value := .func (.func 107) #[] #[.pointer (some ⟨bx, 0, none⟩)]
def CmpP (F : Int → Plc) (w : World) (g bx : Nat) (cm : Int → Int → Int) (L : List Int) : Prop :=
 ∀ w' : World, w.grownBy w' (some g) → ∀ x y : Int, x ∈ L → y ∈ L → Calls Tryz.prog 107 #[(F x).val, (F y).val, .pointer (some ⟨bx, 0, none⟩)] w' (RetPost (.int .i64 (cm x y)) w')
def SortP (F : Int → Plc) (w : World) (B g n cap : Nat) (lt : Int → Int → Prop) (L : List Int) (a b : Nat) (e : Ending) (w' : World) : Prop :=
 ∃ M, e = .returned (.tuple #[]) ∧ PermIn a b L M ∧ Srt lt M a b ∧ RowP F w' B g n cap M ∧ w.grownBy w' (some g)
def RowPostP (F : Int → Plc) (w : World) (B g n cap : Nat) (R : List Int → Prop) (e : Ending) (w' : World) : Prop := ∃ M, e = .returned (.tuple #[]) ∧ R M ∧ RowP F w' B g n cap M ∧ w.grownBy w' (some g)
end Go.Mk
end
section
open Go Go.Proofs Go.RowKit Go.Sort
namespace Go.Mk
theorem insertP_any (F : Int → Plc) {lt : Int → Int → Prop} (ho : Ord lt) (cm : Int → Int → Int) (L : List Int) (B g n cap bx a b : Nat) (w : World) (hr : RowP F w B g n cap L) (hn : L.Nodup) (hb : b ≤ n) (hn1 : n ≤ 100000) (ha : a ≤ 100000) (hC : CmpP F w g bx cm L)
  (hT : ∀ p q, a ≤ p → p < q → q < b → (cm (ga L q) (ga L p) < 0 ↔ lt (ga L q) (ga L p))) :
  Calls Tryz.prog 258 #[.slice (some ⟨g, 0, none⟩) n cap, .int .i64 (a : Nat), .int .i64 (b : Nat), cmpP bx] w (SortP F w B g n cap lt L a b) := by
 have hni : (n : Int) ≤ 100000 := by omega
 have hai : (a : Int) ≤ 100000 := by omega
 have hbi : (b : Int) ≤ (n : Int) := by omega
 have HC := Lib.hid hC
 have HT := Lib.hid hT
 have HL := Lib.hid hr.1
 have HN := Lib.hid hn
 have HR := Lib.hid hr
 unfold cmpP SortP
 clear hC hT hn hr
 go_enter Tryz.func258, Tryz.ntmps258
 go_wp2
 go_loopw [8] (fun i wr => ∃ (k : Nat) (M : List Int), i = .int .i64 k ∧ a + 1 ≤ k ∧ k ≤ 100001 ∧ Hid ((k = a + 1 ∧ M = L) ∨ (k ≤ b ∧ PermIn a k L M ∧ Srt lt M a k)) ∧ RowP F wr B g n cap M ∧ w.grownBy wr (some g)) (fun i _ => 100002 - (RowKit.intOf i).toNat)
 case atStart => exact ⟨a + 1, L, by go_num, by omega, by omega, Lib.hid (.inl ⟨rfl, rfl⟩), HR.out, World.grownBy.refl _ _⟩
 case round =>
  obtain ⟨k, M, rfl, hk1, hk2, HI, hrow, hg⟩ := hrel
  by_cases hlt : k < b
  ·have hki : (k : Int) < (b : Int) := by omega
   have hpk : PermIn a k L M ∧ Srt lt M a k := by
    rcases HI.out with ⟨rfl, rfl⟩ | ⟨_, h1, h2⟩
    ·exact ⟨PermIn.refl _ _ _, fun i j h1 h2 h3 => by omega⟩
    ·exact ⟨h1, h2⟩
   have HPK := Lib.hid hpk
   obtain ⟨wy, rfl⟩ : ∃ wy : World, wy = wr := ⟨_, rfl⟩
   have HR2 := Lib.hid hrow
   have HG := Lib.hid hg
   clear hpk HI hrow hg
   go_wp2
   go_loopw [9] (fun i wr => ∃ (j : Nat) (M' : List Int), i = .int .i64 j ∧ a ≤ j ∧ j ≤ k ∧ Hid (Ins lt a k j M M') ∧ RowP F wr B g n cap M' ∧ w.grownBy wr (some g)) (fun i _ => (RowKit.intOf i).toNat)
   case atStart => exact ⟨k, M, rfl, by omega, by omega, Lib.hid (Ins.start HPK.out.2), HR2.out, HG.out⟩
   case round =>
    obtain ⟨j, M', rfl, hj1, hj2, HI, hrow, hg⟩ := hrel
    have hln : L.length = n := HL.out
    have hlM : M.length = n := HPK.out.1.len.trans hln
    by_cases haj : a < j
    ·have hai2 : (a : Int) < (j : Int) := by omega
     have c1 := hrow.cell (i := j) (by omega)
     have c2 := hrow.cell (i := j - 1) (by omega)
     have hj0 : (0 : Int) ≤ (j : Int) := by omega
     have hjn : (j : Int) < (n : Int) := by omega
     have hjt : ((j : Int)).toNat = j := by omega
     have hk0 : (0 : Int) ≤ (j : Int) - 1 := by omega
     have hk1 : (j : Int) - 1 < (n : Int) := by omega
     have hkt : ((j : Int) - 1).toNat = j - 1 := by omega
     have hj1i : (1 : Int) ≤ (j : Int) := by omega
     have hw1 : IntKind.i64.wrap ((j : Int) - 1) = (j : Int) - 1 := wrapQ _ (by omega)
     obtain ⟨t1, t2, t3⟩ := Ins.test (cm := cm) HI.out HPK.out.1 HN.out haj hj2 (by omega) (fun p q h1 h2 h3 => HT.out p q h1 h2 (by omega))
     have hK : ∀ w', Below wr.heap.size wr w' → Calls Tryz.prog 107 #[(F (ga M' j)).val, (F (ga M' (j - 1))).val, .pointer (some ⟨bx, 0, none⟩)] w' (RetPost (.int .i64 (cm (ga M' j) (ga M' (j - 1)))) w') := fun w' hb' => HC.out w' (gb_below hg hb') _ _ t2 t3
     obtain ⟨x, hx⟩ : ∃ x, ga M' j = x := ⟨_, rfl⟩
     obtain ⟨y, hy⟩ : ∃ y, ga M' (j - 1) = y := ⟨_, rfl⟩
     rw [hx] at c1
     rw [hy] at c2
     rw [hx, hy] at hK t1
     obtain ⟨p1, hp1⟩ : ∃ p, F x = p := ⟨_, rfl⟩
     obtain ⟨p2, hp2⟩ : ∃ p, F y = p := ⟨_, rfl⟩
     rw [hp1] at c1
     rw [hp2] at c2
     rw [hp1, hp2] at hK
     have HP := Lib.hid (And.intro hp1 hp2)
     obtain ⟨n1, r1, k1, v1, s1⟩ := p1
     obtain ⟨n2, r2, k2, v2, s2⟩ := p2
     obtain ⟨c10, c11, c12, c13, c14⟩ := c1
     obtain ⟨c20, c21, c22, c23, c24⟩ := c2
     unfold Plc.val at hK
     dsimp only at c10 c11 c12 c13 c14 c20 c21 c22 c23 c24 hK
     clear hp1 hp2
     have HX := Lib.hid (And.intro hx hy)
     have HRW := Lib.hid hrow
     have HGG := Lib.hid hg
     clear hx hy t2 t3 hrow hg
     obtain ⟨s, hs⟩ : ∃ s, cm x y = s := ⟨_, rfl⟩
     rw [hs] at hK t1
     clear hs
     by_cases hlt0 : s < 0
     ·have hl := t1.1 hlt0
      have HST := Lib.hid (Ins.step HI.out haj hj2 (by omega) (by rw [HX.out.1, HX.out.2]; exact hl))
      clear hl t1
      go_wp2_with fail
      refine wp_region_held_drew (S := fun w' => (w'.cell? ⟨g, j * 5, none⟩ = some (.string n1) ∧ w'.cell? ⟨g, j * 5 + 1, none⟩ = some (.int .i64 r1) ∧ w'.cell? ⟨g, j * 5 + 2, none⟩ = some (.string k1) ∧ w'.cell? ⟨g, j * 5 + 3, none⟩ = some (.int .i64 v1) ∧ w'.cell? ⟨g, j * 5 + 4, none⟩ = some (.string s1)) ∧ w'.cell? ⟨g, (j - 1) * 5, none⟩ = some (.string n2) ∧ w'.cell? ⟨g, (j - 1) * 5 + 1, none⟩ = some (.int .i64 r2) ∧ w'.cell? ⟨g, (j - 1) * 5 + 2, none⟩ = some (.string k2) ∧ w'.cell? ⟨g, (j - 1) * 5 + 3, none⟩ = some (.int .i64 v2) ∧ w'.cell? ⟨g, (j - 1) * 5 + 4, none⟩ = some (.string s2)) (by kernel_rfl) ?_ (fun hHeld => ?_)
      ·exact ⟨⟨c10, c11, c12, c13, c14⟩, c20, c21, c22, c23, c24⟩
      refine zV 0 (h := zV 1 (h := zV 2 (h := zV 3 (h := zV 4 (h := zV 5 (h := zV 6 (h := zV 7 (h := zV 8 (h := zV 9 (h := zV 10 (h := ?_)))))))))))
      try simp only [zP, zQ, zA2, zA3]
      refine zU 11 ?_ rfl ?_ ?_
      rotate_left
      ·rintro w ⟨⟨x1, x2, x3, x4, x5⟩, x6, x7, x8, x9, x10⟩
       go_simp
       try simp only [hw1, hkt, if_pos hj1i]
       try with_reducible rfl
      try simp only [zP, zQ, zA2, zA3]
      refine zU 12 ?_ rfl ?_ ?_
      rotate_left
      ·rintro w ⟨⟨x1, x2, x3, x4, x5⟩, x6, x7, x8, x9, x10⟩
       go_simp
       try simp only [hw1, hkt, if_pos hj1i]
       try with_reducible rfl
      try simp only [zP, zQ, zA2, zA3]
      refine zU 13 ?_ rfl ?_ ?_
      rotate_left
      ·rintro w ⟨⟨x1, x2, x3, x4, x5⟩, x6, x7, x8, x9, x10⟩
       go_simp
       try simp only [hw1, hkt, if_pos hj1i]
       try with_reducible rfl
      try simp only [zP, zQ, zA2, zA3]
      refine zN 14 fun K hKK => ?_
      go_simp
      go_at_call 107
      refine (hK _ (Below.refl _ _).drew).mono ?_
      rintro e w5 ⟨rfl, hb5⟩
      have hr5 := (HRW.out.below (Below.refl _ _).drew).below hb5
      have d1 := hr5.cell (i := j) (by omega)
      have d2 := hr5.cell (i := j - 1) (by omega)
      rw [HX.out.1, HP.out.1] at d1
      rw [HX.out.2, HP.out.2] at d2
      have hg5 := gb_below HGG.out (bstep (Below.refl _ _).drew hb5)
      go_wp2_with fail
      refine hKK.out _ _ ?_ (fun hHeld => ?_)
      ·exact ⟨d1, d2⟩
      clear hKK K
      try simp only [zP, zQ, zA2, zA3]
      refine zN 15 fun K hKK => ?_
      go_simp
      refine hKK.out _ _ ?_ (fun hHeld => ?_)
      ·exact hHeld
      clear hKK K
      try simp only [zP, zQ, zA2, zA3]
      refine zN 16 fun K hKK => ?_
      go_simp
      refine hKK.out _ _ ?_ (fun hHeld => ?_)
      ·exact hHeld
      clear hKK K
      try simp only [zP, zQ, zA2, zA3]
      refine wpAnyH_done (by kernel_rfl) ?_ _
      have HR5 := Lib.hid hr5
      have HG5 := Lib.hid hg5
      have fz := hr5.froz
      have h1 := hr5.swapD (i := j - 1) (j := j) (by omega) (by omega)
      rw [HX.out.1, HX.out.2, HP.out.1, HP.out.2] at h1
      have gx := grown5 (grown5 (World.grownBy.refl w5 (some g)) (j * 5) ⟨n2, r2, k2, v2, s2⟩) ((j - 1) * 5) ⟨n1, r1, k1, v1, s1⟩
      unfold set5 at h1 gx
      dsimp only at h1 gx
      have H1 := Lib.hid h1
      have GX := Lib.hid gx
      obtain ⟨d10, d11, d12, d13, d14⟩ := d1
      obtain ⟨d20, d21, d22, d23, d24⟩ := d2
      have z10 := fz (j * 5)
      have z20 := fz ((j - 1) * 5)
      have z11 := fz (j * 5 + 1)
      have z21 := fz ((j - 1) * 5 + 1)
      have z12 := fz (j * 5 + 2)
      have z22 := fz ((j - 1) * 5 + 2)
      have z13 := fz (j * 5 + 3)
      have z23 := fz ((j - 1) * 5 + 3)
      have z14 := fz (j * 5 + 4)
      have z24 := fz ((j - 1) * 5 + 4)
      have i0 : ¬ j * 5 = (j - 1) * 5 := by omega
      have i1 : ¬ j * 5 = j * 5 + 1 := by omega
      have i2 : ¬ (j - 1) * 5 = (j - 1) * 5 + 1 := by omega
      have i3 : ¬ j * 5 = (j - 1) * 5 + 1 := by omega
      have i4 : ¬ j * 5 = j * 5 + 2 := by omega
      have i5 : ¬ (j - 1) * 5 = (j - 1) * 5 + 2 := by omega
      have i6 : ¬ j * 5 = (j - 1) * 5 + 2 := by omega
      have i7 : ¬ j * 5 = j * 5 + 3 := by omega
      have i8 : ¬ (j - 1) * 5 = (j - 1) * 5 + 3 := by omega
      have i9 : ¬ j * 5 = (j - 1) * 5 + 3 := by omega
      have i10 : ¬ j * 5 = j * 5 + 4 := by omega
      have i11 : ¬ (j - 1) * 5 = (j - 1) * 5 + 4 := by omega
      have i12 : ¬ j * 5 = (j - 1) * 5 + 4 := by omega
      have i13 : ¬ j * 5 + 1 = (j - 1) * 5 := by omega
      have i14 : ¬ j * 5 + 1 = (j - 1) * 5 + 1 := by omega
      have i15 : ¬ j * 5 + 1 = j * 5 + 2 := by omega
      have i16 : ¬ (j - 1) * 5 + 1 = (j - 1) * 5 + 2 := by omega
      have i17 : ¬ j * 5 + 1 = (j - 1) * 5 + 2 := by omega
      have i18 : ¬ j * 5 + 1 = j * 5 + 3 := by omega
      have i19 : ¬ (j - 1) * 5 + 1 = (j - 1) * 5 + 3 := by omega
      have i20 : ¬ j * 5 + 1 = (j - 1) * 5 + 3 := by omega
      have i21 : ¬ j * 5 + 1 = j * 5 + 4 := by omega
      have i22 : ¬ (j - 1) * 5 + 1 = (j - 1) * 5 + 4 := by omega
      have i23 : ¬ j * 5 + 1 = (j - 1) * 5 + 4 := by omega
      have i24 : ¬ j * 5 + 2 = (j - 1) * 5 := by omega
      have i25 : ¬ j * 5 + 2 = (j - 1) * 5 + 1 := by omega
      have i26 : ¬ j * 5 + 2 = (j - 1) * 5 + 2 := by omega
      have i27 : ¬ j * 5 + 2 = j * 5 + 3 := by omega
      have i28 : ¬ (j - 1) * 5 + 2 = (j - 1) * 5 + 3 := by omega
      have i29 : ¬ j * 5 + 2 = (j - 1) * 5 + 3 := by omega
      have i30 : ¬ j * 5 + 2 = j * 5 + 4 := by omega
      have i31 : ¬ (j - 1) * 5 + 2 = (j - 1) * 5 + 4 := by omega
      have i32 : ¬ j * 5 + 2 = (j - 1) * 5 + 4 := by omega
      have i33 : ¬ j * 5 + 3 = (j - 1) * 5 := by omega
      have i34 : ¬ j * 5 + 3 = (j - 1) * 5 + 1 := by omega
      have i35 : ¬ j * 5 + 3 = (j - 1) * 5 + 2 := by omega
      have i36 : ¬ j * 5 + 3 = (j - 1) * 5 + 3 := by omega
      have i37 : ¬ j * 5 + 3 = j * 5 + 4 := by omega
      have i38 : ¬ (j - 1) * 5 + 3 = (j - 1) * 5 + 4 := by omega
      have i39 : ¬ j * 5 + 3 = (j - 1) * 5 + 4 := by omega
      have i40 : ¬ j * 5 + 4 = (j - 1) * 5 := by omega
      have i41 : ¬ j * 5 + 4 = (j - 1) * 5 + 1 := by omega
      have i42 : ¬ j * 5 + 4 = (j - 1) * 5 + 2 := by omega
      have i43 : ¬ j * 5 + 4 = (j - 1) * 5 + 3 := by omega
      have i44 : ¬ j * 5 + 4 = (j - 1) * 5 + 4 := by omega
      clear fz
      clear c10 c11 c12 c13 c14 c20 c21 c22 c23 c24 hK hb5 hr5 hg5 hHeld h1 gx
      go_wp2
      go_region
      go_wp2
      go_roundw
      case rel =>
       exact ⟨j - 1, _, by go_num, by omega, by omega, HST, H1.out.below (Below.refl _ _).drew, gb_below (HG5.out.trans GX.out) (Below.refl _ _).drew⟩
      case measure => simp [RowKit.intOf]; omega
     ·have hl : ¬ lt x y := fun q => hlt0 (t1.2 q)
      have hdone := Ins.done ho HI.out (HPK.out.1.perm.nodup_iff.2 HN.out) hj1 hj2 (by omega) (fun _ => by rw [HX.out.1, HX.out.2]; exact hl)
      have HD := Lib.hid (And.intro ((HPK.out.1.wide (Nat.le_refl _) (Nat.le_succ k)).trans HI.out.perm) hdone)
      clear hl t1 hdone
      go_wp2_with fail
      refine wp_region_held_drew (S := fun w' => (w'.cell? ⟨g, j * 5, none⟩ = some (.string n1) ∧ w'.cell? ⟨g, j * 5 + 1, none⟩ = some (.int .i64 r1) ∧ w'.cell? ⟨g, j * 5 + 2, none⟩ = some (.string k1) ∧ w'.cell? ⟨g, j * 5 + 3, none⟩ = some (.int .i64 v1) ∧ w'.cell? ⟨g, j * 5 + 4, none⟩ = some (.string s1)) ∧ w'.cell? ⟨g, (j - 1) * 5, none⟩ = some (.string n2) ∧ w'.cell? ⟨g, (j - 1) * 5 + 1, none⟩ = some (.int .i64 r2) ∧ w'.cell? ⟨g, (j - 1) * 5 + 2, none⟩ = some (.string k2) ∧ w'.cell? ⟨g, (j - 1) * 5 + 3, none⟩ = some (.int .i64 v2) ∧ w'.cell? ⟨g, (j - 1) * 5 + 4, none⟩ = some (.string s2)) (by kernel_rfl) ?_ (fun hHeld => ?_)
      ·exact ⟨⟨c10, c11, c12, c13, c14⟩, c20, c21, c22, c23, c24⟩
      refine zV 0 (h := zV 1 (h := zV 2 (h := zV 3 (h := zV 4 (h := zV 5 (h := zV 6 (h := zV 7 (h := zV 8 (h := zV 9 (h := zV 10 (h := ?_)))))))))))
      try simp only [zP, zQ, zA2, zA3]
      refine zU 11 ?_ rfl ?_ ?_
      rotate_left
      ·rintro w ⟨⟨x1, x2, x3, x4, x5⟩, x6, x7, x8, x9, x10⟩
       go_simp
       try simp only [hw1, hkt, if_pos hj1i]
       try with_reducible rfl
      try simp only [zP, zQ, zA2, zA3]
      refine zU 12 ?_ rfl ?_ ?_
      rotate_left
      ·rintro w ⟨⟨x1, x2, x3, x4, x5⟩, x6, x7, x8, x9, x10⟩
       go_simp
       try simp only [hw1, hkt, if_pos hj1i]
       try with_reducible rfl
      try simp only [zP, zQ, zA2, zA3]
      refine zU 13 ?_ rfl ?_ ?_
      rotate_left
      ·rintro w ⟨⟨x1, x2, x3, x4, x5⟩, x6, x7, x8, x9, x10⟩
       go_simp
       try simp only [hw1, hkt, if_pos hj1i]
       try with_reducible rfl
      try simp only [zP, zQ, zA2, zA3]
      refine zN 14 fun K hKK => ?_
      go_simp
      go_at_call 107
      refine (hK _ (Below.refl _ _).drew).mono ?_
      rintro e w5 ⟨rfl, hb5⟩
      have hr5 := (HRW.out.below (Below.refl _ _).drew).below hb5
      have d1 := hr5.cell (i := j) (by omega)
      have d2 := hr5.cell (i := j - 1) (by omega)
      rw [HX.out.1, HP.out.1] at d1
      rw [HX.out.2, HP.out.2] at d2
      have hg5 := gb_below HGG.out (bstep (Below.refl _ _).drew hb5)
      go_wp2_with fail
      refine hKK.out _ _ ?_ (fun hHeld => ?_)
      ·exact ⟨d1, d2⟩
      clear hKK K
      try simp only [zP, zQ, zA2, zA3]
      refine zN 15 fun K hKK => ?_
      go_simp
      refine hKK.out _ _ ?_ (fun hHeld => ?_)
      ·exact hHeld
      clear hKK K
      try simp only [zP, zQ, zA2, zA3]
      refine zN 16 fun K hKK => ?_
      go_simp
      refine hKK.out _ _ ?_ (fun hHeld => ?_)
      ·exact hHeld
      clear hKK K
      try simp only [zP, zQ, zA2, zA3]
      refine wpAnyH_done (by kernel_rfl) ?_ _
      have HR5 := Lib.hid hr5
      have HG5 := Lib.hid hg5
      clear c10 c11 c12 c13 c14 c20 c21 c22 c23 c24 hK hb5 hr5 hg5 hHeld
      go_wp2
      go_roundw
      case rel => exact ⟨k + 1, M', by go_num, by omega, by omega, Lib.hid (.inr ⟨by omega, HD.out.1, HD.out.2⟩), HR5.out, HG5.out⟩
      case measure => simp [RowKit.intOf]; omega
    ·have hna : ¬ (a : Int) < (j : Int) := by omega
     have hdone := Ins.done ho HI.out (HPK.out.1.perm.nodup_iff.2 HN.out) hj1 hj2 (by omega) (fun q => absurd q haj)
     have HD := Lib.hid (And.intro ((HPK.out.1.wide (Nat.le_refl _) (Nat.le_succ k)).trans HI.out.perm) hdone)
     have HRW := Lib.hid hrow
     have HGG := Lib.hid hg
     clear hdone hrow hg
     go_wp2_with fail
     go_quiet (fail)
     go_wp2
     go_roundw
     case rel => exact ⟨k + 1, M', by go_num, by omega, by omega, Lib.hid (.inr ⟨by omega, HD.out.1, HD.out.2⟩), HRW.out.below (below_drewN (Below.refl _ _) _), gb_below HGG.out (below_drewN (Below.refl _ _) _)⟩
     case measure => simp [RowKit.intOf]; omega
  ·have hki : ¬ (k : Int) < (b : Int) := by omega
   have hfin : PermIn a b L M ∧ Srt lt M a b := by
    rcases HI.out with ⟨h1, rfl⟩ | ⟨h1, h2, h3⟩
    ·exact ⟨PermIn.refl _ _ _, fun i j h1 h2 h3 => by omega⟩
    ·have : k = b := by omega
     subst this
     exact ⟨h2, h3⟩
   have HF := Lib.hid hfin
   have HRW := Lib.hid hrow
   have HGG := Lib.hid hg
   clear hfin HI hrow hg
   go_wp2
   go_end0
   exact ⟨rfl, M, HF.out.1, HF.out.2, HRW.out, HGG.out⟩
end Go.Mk
end
section
open Go Go.Proofs Go.RowKit Go.Sort
namespace Go.Mk
theorem swapP_any (F : Int → Plc) (L : List Int) (B g n cap bx a b m : Nat) (w : World) (hr : RowP F w B g n cap L) (hab : a + m ≤ b) (hb : b + m ≤ n) (hn1 : n ≤ 100000) :
  Calls Tryz.prog 341 #[.slice (some ⟨g, 0, none⟩) n cap, .int .i64 (a : Nat), .int .i64 (b : Nat), .int .i64 (m : Nat), cmpP bx] w (RowPostP F w B g n cap (SwR a b m L)) := by
 have hni : (n : Int) ≤ 100000 := by omega
 have HL := Lib.hid hr.1
 have HR := Lib.hid hr
 unfold cmpP RowPostP
 clear hr
 go_enter Tryz.func341, Tryz.ntmps341
 go_wp2
 go_loopw [10] (fun i wr => ∃ (k : Nat) (M : List Int), i = .int .i64 k ∧ k ≤ m ∧ Hid (SwR a b k L M) ∧ RowP F wr B g n cap M ∧ w.grownBy wr (some g)) (fun i _ => m - (RowKit.intOf i).toNat)
 case atStart => exact ⟨0, L, rfl, by omega, Lib.hid (SwR.zero _ _ _), HR.out, World.grownBy.refl _ _⟩
 case round =>
  obtain ⟨k, M, rfl, hk, HS, hrow, hg⟩ := hrel
  by_cases hlt : k < m
  ·have hki : (k : Int) < (m : Int) := by omega
   have d1 := hrow.cell (i := a + k) (by omega)
   have d2 := hrow.cell (i := b + k) (by omega)
   have fz := hrow.froz
   obtain ⟨x, hx⟩ : ∃ x, ga M (a + k) = x := ⟨_, rfl⟩
   obtain ⟨y, hy⟩ : ∃ y, ga M (b + k) = y := ⟨_, rfl⟩
   rw [hx] at d1
   rw [hy] at d2
   have h1 := hrow.swapU (a + k) (b + k) (by omega) (by omega)
   rw [hx, hy] at h1
   obtain ⟨p1, hp1⟩ : ∃ p, F x = p := ⟨_, rfl⟩
   obtain ⟨p2, hp2⟩ : ∃ p, F y = p := ⟨_, rfl⟩
   rw [hp1] at d1 h1
   rw [hp2] at d2 h1
   obtain ⟨n1, r1, k1, v1, s1⟩ := p1
   obtain ⟨n2, r2, k2, v2, s2⟩ := p2
   have gx := grown5 (grown5 (World.grownBy.refl wr (some g)) ((a + k) * 5) ⟨n2, r2, k2, v2, s2⟩) ((b + k) * 5) ⟨n1, r1, k1, v1, s1⟩
   unfold set5 at h1 gx
   dsimp only at h1 gx
   have H1 := Lib.hid h1
   have GX := Lib.hid gx
   obtain ⟨d10, d11, d12, d13, d14⟩ := d1
   obtain ⟨d20, d21, d22, d23, d24⟩ := d2
   dsimp only at d10 d11 d12 d13 d14 d20 d21 d22 d23 d24
   have z10 := fz ((a + k) * 5)
   have z20 := fz ((b + k) * 5)
   have z11 := fz ((a + k) * 5 + 1)
   have z21 := fz ((b + k) * 5 + 1)
   have z12 := fz ((a + k) * 5 + 2)
   have z22 := fz ((b + k) * 5 + 2)
   have z13 := fz ((a + k) * 5 + 3)
   have z23 := fz ((b + k) * 5 + 3)
   have z14 := fz ((a + k) * 5 + 4)
   have z24 := fz ((b + k) * 5 + 4)
   have i0 : ¬ (a + k) * 5 = (b + k) * 5 := by omega
   have i1 : ¬ (a + k) * 5 = (a + k) * 5 + 1 := by omega
   have i2 : ¬ (b + k) * 5 = (b + k) * 5 + 1 := by omega
   have i3 : ¬ (a + k) * 5 = (b + k) * 5 + 1 := by omega
   have i4 : ¬ (a + k) * 5 = (a + k) * 5 + 2 := by omega
   have i5 : ¬ (b + k) * 5 = (b + k) * 5 + 2 := by omega
   have i6 : ¬ (a + k) * 5 = (b + k) * 5 + 2 := by omega
   have i7 : ¬ (a + k) * 5 = (a + k) * 5 + 3 := by omega
   have i8 : ¬ (b + k) * 5 = (b + k) * 5 + 3 := by omega
   have i9 : ¬ (a + k) * 5 = (b + k) * 5 + 3 := by omega
   have i10 : ¬ (a + k) * 5 = (a + k) * 5 + 4 := by omega
   have i11 : ¬ (b + k) * 5 = (b + k) * 5 + 4 := by omega
   have i12 : ¬ (a + k) * 5 = (b + k) * 5 + 4 := by omega
   have i13 : ¬ (a + k) * 5 + 1 = (b + k) * 5 := by omega
   have i14 : ¬ (a + k) * 5 + 1 = (b + k) * 5 + 1 := by omega
   have i15 : ¬ (a + k) * 5 + 1 = (a + k) * 5 + 2 := by omega
   have i16 : ¬ (b + k) * 5 + 1 = (b + k) * 5 + 2 := by omega
   have i17 : ¬ (a + k) * 5 + 1 = (b + k) * 5 + 2 := by omega
   have i18 : ¬ (a + k) * 5 + 1 = (a + k) * 5 + 3 := by omega
   have i19 : ¬ (b + k) * 5 + 1 = (b + k) * 5 + 3 := by omega
   have i20 : ¬ (a + k) * 5 + 1 = (b + k) * 5 + 3 := by omega
   have i21 : ¬ (a + k) * 5 + 1 = (a + k) * 5 + 4 := by omega
   have i22 : ¬ (b + k) * 5 + 1 = (b + k) * 5 + 4 := by omega
   have i23 : ¬ (a + k) * 5 + 1 = (b + k) * 5 + 4 := by omega
   have i24 : ¬ (a + k) * 5 + 2 = (b + k) * 5 := by omega
   have i25 : ¬ (a + k) * 5 + 2 = (b + k) * 5 + 1 := by omega
   have i26 : ¬ (a + k) * 5 + 2 = (b + k) * 5 + 2 := by omega
   have i27 : ¬ (a + k) * 5 + 2 = (a + k) * 5 + 3 := by omega
   have i28 : ¬ (b + k) * 5 + 2 = (b + k) * 5 + 3 := by omega
   have i29 : ¬ (a + k) * 5 + 2 = (b + k) * 5 + 3 := by omega
   have i30 : ¬ (a + k) * 5 + 2 = (a + k) * 5 + 4 := by omega
   have i31 : ¬ (b + k) * 5 + 2 = (b + k) * 5 + 4 := by omega
   have i32 : ¬ (a + k) * 5 + 2 = (b + k) * 5 + 4 := by omega
   have i33 : ¬ (a + k) * 5 + 3 = (b + k) * 5 := by omega
   have i34 : ¬ (a + k) * 5 + 3 = (b + k) * 5 + 1 := by omega
   have i35 : ¬ (a + k) * 5 + 3 = (b + k) * 5 + 2 := by omega
   have i36 : ¬ (a + k) * 5 + 3 = (b + k) * 5 + 3 := by omega
   have i37 : ¬ (a + k) * 5 + 3 = (a + k) * 5 + 4 := by omega
   have i38 : ¬ (b + k) * 5 + 3 = (b + k) * 5 + 4 := by omega
   have i39 : ¬ (a + k) * 5 + 3 = (b + k) * 5 + 4 := by omega
   have i40 : ¬ (a + k) * 5 + 4 = (b + k) * 5 := by omega
   have i41 : ¬ (a + k) * 5 + 4 = (b + k) * 5 + 1 := by omega
   have i42 : ¬ (a + k) * 5 + 4 = (b + k) * 5 + 2 := by omega
   have i43 : ¬ (a + k) * 5 + 4 = (b + k) * 5 + 3 := by omega
   have i44 : ¬ (a + k) * 5 + 4 = (b + k) * 5 + 4 := by omega
   clear fz gx hp1 hp2
   have HST := Lib.hid (HS.out.step hlt hab (by rw [HL.out]; exact hb))
   have HG := Lib.hid hg
   have ha0 : (0 : Int) ≤ (a : Int) + (k : Int) := by omega
   have ha1 : (a : Int) + (k : Int) < (n : Int) := by omega
   have ha2 : ((a : Int) + (k : Int)).toNat = a + k := by omega
   have hb0 : (0 : Int) ≤ (b : Int) + (k : Int) := by omega
   have hb1 : (b : Int) + (k : Int) < (n : Int) := by omega
   have hb2 : ((b : Int) + (k : Int)).toNat = b + k := by omega
   clear h1 hx hy hrow hg HS
   go_wp2
   go_region
   go_wp2
   go_roundw
   case rel => exact ⟨k + 1, _, by go_num, by omega, HST, H1.out.below (Below.refl _ _).drew, gb_below (HG.out.trans GX.out) (Below.refl _ _).drew⟩
   case measure => simp [RowKit.intOf]; omega
  ·obtain rfl : k = m := by omega
   have HRW := Lib.hid hrow
   have HGG := Lib.hid hg
   clear hrow hg
   go_wp2
   go_end0
   exact ⟨M, rfl, HS.out, HRW.out, HGG.out⟩
theorem rotateP_any (F : Int → Plc) (L : List Int) (B g n cap bx a m b : Nat) (w : World) (hr : RowP F w B g n cap L) (h1 : a < m) (h2 : m < b) (hb : b ≤ n) (hn1 : n ≤ 100000) :
  Calls Tryz.prog 305 #[.slice (some ⟨g, 0, none⟩) n cap, .int .i64 (a : Nat), .int .i64 (m : Nat), .int .i64 (b : Nat), cmpP bx] w (RowPostP F w B g n cap (RotR a m b L)) := by
 have hni : (n : Int) ≤ 100000 := by omega
 have HL := Lib.hid hr.1
 have HR := Lib.hid hr
 have hSW := fun (M : List Int) (a' b' m' : Nat) (w' : World) (h : RowP F w' B g n cap M) (h1 : a' + m' ≤ b') (h2 : b' + m' ≤ n) => swapP_any F M B g n cap bx a' b' m' w' h h1 h2 hn1
 have HSW := Lib.hid hSW
 unfold RowPostP
 unfold cmpP RowPostP at HSW
 unfold cmpP
 clear hr hSW
 have e1 : (m : Int) - (a : Int) = ((m - a : Nat) : Int) := by omega
 have e2 : (b : Int) - (m : Int) = ((b - m : Nat) : Int) := by omega
 go_enter Tryz.func305, Tryz.ntmps305
 go_wp2
 go_loopw [10, 11] (fun iv jv wr => ∃ (i j : Nat) (M : List Int), iv = .int .i64 i ∧ jv = .int .i64 j ∧ 0 < i ∧ 0 < j ∧ a + i ≤ m ∧ m + j ≤ b ∧ Hid (RotI a m b i j L M) ∧ RowP F wr B g n cap M ∧ w.grownBy wr (some g)) (fun iv jv _ => (RowKit.intOf iv).toNat + (RowKit.intOf jv).toNat)
 case atStart => exact ⟨m - a, b - m, L, by go_num, by go_num, by omega, by omega, by omega, by omega, Lib.hid (RotI.start (by omega) (by omega)), HR.out, World.grownBy.refl _ _⟩
 case round =>
  obtain ⟨i, j, M, rfl, rfl, hi0, hj0, hi1, hj1, HI, hrow, hg⟩ := hrel
  by_cases hne : i = j
  ·subst hne
   have hS := HSW.out M (m - i) m i _ hrow (by omega) (by omega)
   have e3 : (m : Int) - (i : Int) = ((m - i : Nat) : Int) := by omega
   have HG := Lib.hid hg
   clear hrow hg
   go_wp2_with fail
   with_reducible refine hS.mono ?_
   rintro e w5 ⟨M', rfl, hs5, hr5, hg5⟩
   have hd := HI.out.done hi1 hj1 hs5
   have HD := Lib.hid (And.intro hd (And.intro hr5 (HG.out.trans hg5)))
   clear hs5 hr5 hg5 hd hS
   go_wp2
   go_end0
   exact ⟨M', rfl, HD.out⟩
  ·have hnei : ¬ (i : Int) = (j : Int) := by omega
   have hneb : ((i : Int) == (j : Int)) = false := by simp; omega
   by_cases hgt : j < i
   ·have hgti : (j : Int) < (i : Int) := by omega
    have hS := HSW.out M (m - i) m j _ hrow (by omega) (by omega)
    have e3 : (m : Int) - (i : Int) = ((m - i : Nat) : Int) := by omega
    have HG := Lib.hid hg
    clear hrow hg
    go_wp2_with fail
    with_reducible refine hS.mono ?_
    rintro e w5 ⟨M', rfl, hs5, hr5, hg5⟩
    have hd := HI.out.more hi1 hj1 hgt hs5
    have HD := Lib.hid (And.intro hd (And.intro hr5 (HG.out.trans hg5)))
    clear hs5 hr5 hg5 hd hS
    go_wp2
    go_roundw
    case rel => exact ⟨i - j, j, M', by go_num, rfl, by omega, hj0, by omega, hj1, Lib.hid HD.out.1, HD.out.2.1, HD.out.2.2⟩
    case measure => simp [RowKit.intOf]; omega
   ·have hgti : ¬ (j : Int) < (i : Int) := by omega
    have hS := HSW.out M (m - i) (m + j - i) i _ hrow (by omega) (by omega)
    have e3 : (m : Int) - (i : Int) = ((m - i : Nat) : Int) := by omega
    have e4 : (m : Int) + (j : Int) - (i : Int) = ((m + j - i : Nat) : Int) := by omega
    have HG := Lib.hid hg
    clear hrow hg
    go_wp2_with fail
    with_reducible refine hS.mono ?_
    rintro e w5 ⟨M', rfl, hs5, hr5, hg5⟩
    have hd := HI.out.less hi1 hj1 (by omega) hs5
    have HD := Lib.hid (And.intro hd (And.intro hr5 (HG.out.trans hg5)))
    clear hs5 hr5 hg5 hd hS
    go_wp2
    go_roundw
    case rel => exact ⟨i, j - i, M', rfl, by go_num, hi0, by omega, hi1, by omega, Lib.hid HD.out.1, HD.out.2.1, HD.out.2.2⟩
    case measure => simp [RowKit.intOf]; omega
end Go.Mk
end
section
open Go Go.Proofs Go.RowKit Go.Sort
namespace Go.Mk
theorem symAP_any (F : Int → Plc) {lt : Int → Int → Prop} (ho : Ord lt) (cm : Int → Int → Int) (L : List Int) (B g n cap bx a m b : Nat) (w : World) (hr : RowP F w B g n cap L) (hn : L.Nodup) (hm : m = a + 1) (hab : a + 1 < b) (hb : b ≤ n) (hn1 : n ≤ 100000) (hC : CmpP F w g bx cm L)
  (hs : Srt lt L (a + 1) b) (hT : Tst cm lt L a (a + 1) b) :
  Calls Tryz.prog 259 #[.slice (some ⟨g, 0, none⟩) n cap, .int .i64 (a : Nat), .int .i64 (m : Nat), .int .i64 (b : Nat), cmpP bx] w (SortP F w B g n cap lt L a b) := by
 have hni : (n : Int) ≤ 100000 := by omega
 have hai : (a : Int) + 1 < (b : Int) := by omega
 have hbi : (b : Int) ≤ (n : Int) := by omega
 have ham : (m : Int) - (a : Int) = 1 := by omega
 have HMM := Lib.hid hm
 have HC := Lib.hid hC
 have HT := Lib.hid hT
 have HSR := Lib.hid hs
 have HL := Lib.hid hr.1
 have HN := Lib.hid hn
 have HR := Lib.hid hr
 unfold cmpP SortP
 clear hC hT hn hr hs hm
 go_enter Tryz.func259, Tryz.ntmps259
 go_wp2
 go_loopw [10, 11] (fun iv jv wr => ∃ (i j : Nat), iv = .int .i64 i ∧ jv = .int .i64 j ∧ Hid (Bin lt L (ga L a) (a + 1) b i j) ∧ a + 1 ≤ i ∧ i ≤ j ∧ j ≤ b ∧ RowP F wr B g n cap L ∧ w.grownBy wr (some g)) (fun iv jv _ => (RowKit.intOf jv).toNat - (RowKit.intOf iv).toNat)
 case atStart => exact ⟨a + 1, b, by rw [HMM.out], rfl, Lib.hid (Bin.start (by omega)), by omega, by omega, by omega, HR.out, World.grownBy.refl _ _⟩
 case round =>
  obtain ⟨i, j, rfl, rfl, HI, hi1, hij, hj1, hrow, hg⟩ := hrel
  by_cases hlt : i < j
  ·have hki : (i : Int) < (j : Int) := by omega
   obtain ⟨h, hh⟩ : ∃ h : Nat, ((i : Int) + (j : Int)) / 2 = (h : Int) := ⟨(i + j) / 2, by omega⟩
   have hih : i ≤ h := by omega
   have hhj : h < j := by omega
   have h0 : (0 : Int) ≤ (h : Int) := by omega
   have h1 : (h : Int) < (n : Int) := by omega
   have h2 : ((h : Int)).toNat = h := by omega
   have a0 : (0 : Int) ≤ (a : Int) := by omega
   have a1 : (a : Int) < (n : Int) := by omega
   have a2 : ((a : Int)).toNat = a := by omega
   have c1 := hrow.cell (i := h) (by omega)
   have c2 := hrow.cell (i := a) (by omega)
   have t1 := HT.out a h (by omega) (by omega) (by omega) (by omega)
   have hK : ∀ w', Below wr.heap.size wr w' → Calls Tryz.prog 107 #[(F (ga L h)).val, (F (ga L a)).val, .pointer (some ⟨bx, 0, none⟩)] w' (RetPost (.int .i64 (cm (ga L h) (ga L a))) w') := fun w' hb' => HC.out w' (gb_below hg hb') _ _ (List.mem_of_getElem? (ga_at (by rw [HL.out]; omega))) (List.mem_of_getElem? (ga_at (by rw [HL.out]; omega)))
   have hne : ga L h ≠ ga L a := fun q => by
    have e2 : L[h]? = L[a]? := by rw [ga_at (by rw [HL.out]; omega), ga_at (by rw [HL.out]; omega), q]
    have := (List.getElem?_inj (show h < L.length by rw [HL.out]; omega) HN.out).1 e2
    omega
   have hbR := fun q => HI.out.right ho HSR.out hih hhj q
   have hbL := fun q => HI.out.left ho HSR.out hih hhj q
   obtain ⟨x, hx⟩ : ∃ x, ga L h = x := ⟨_, rfl⟩
   obtain ⟨y, hy⟩ : ∃ y, ga L a = y := ⟨_, rfl⟩
   rw [hx] at c1 hK t1 hne hbR hbL
   rw [hy] at c2 hK t1 hne hbR hbL
   obtain ⟨p1, hp1⟩ : ∃ p, F x = p := ⟨_, rfl⟩
   obtain ⟨p2, hp2⟩ : ∃ p, F y = p := ⟨_, rfl⟩
   rw [hp1] at c1 hK
   rw [hp2] at c2 hK
   have HP := Lib.hid (And.intro hp1 hp2)
   obtain ⟨na1, rk1, kd1, vl1, rs1⟩ := p1
   obtain ⟨na2, rk2, kd2, vl2, rs2⟩ := p2
   obtain ⟨c10, c11, c12, c13, c14⟩ := c1
   obtain ⟨c20, c21, c22, c23, c24⟩ := c2
   unfold Plc.val at hK
   dsimp only at c10 c11 c12 c13 c14 c20 c21 c22 c23 c24 hK
   clear hp1 hp2
   have HX := Lib.hid (And.intro hx hy)
   have HRW := Lib.hid hrow
   have HGG := Lib.hid hg
   clear hx hy hrow hg
   obtain ⟨s, hsv⟩ : ∃ s, cm x y = s := ⟨_, rfl⟩
   rw [hsv] at hK t1
   clear hsv
   by_cases hlt0 : s < 0
   ·have HB := Lib.hid (hbR (t1.1 hlt0))
    clear hbR hbL t1 hne
    go_wp2
    refine wp_region_held_drew (S := fun w' => (w'.cell? ⟨g, h * 5, none⟩ = some (.string na1) ∧ w'.cell? ⟨g, h * 5 + 1, none⟩ = some (.int .i64 rk1) ∧ w'.cell? ⟨g, h * 5 + 2, none⟩ = some (.string kd1) ∧ w'.cell? ⟨g, h * 5 + 3, none⟩ = some (.int .i64 vl1) ∧ w'.cell? ⟨g, h * 5 + 4, none⟩ = some (.string rs1)) ∧ w'.cell? ⟨g, a * 5, none⟩ = some (.string na2) ∧ w'.cell? ⟨g, a * 5 + 1, none⟩ = some (.int .i64 rk2) ∧ w'.cell? ⟨g, a * 5 + 2, none⟩ = some (.string kd2) ∧ w'.cell? ⟨g, a * 5 + 3, none⟩ = some (.int .i64 vl2) ∧ w'.cell? ⟨g, a * 5 + 4, none⟩ = some (.string rs2)) (by kernel_rfl) ?_ (fun hHeld => ?_)
    ·exact ⟨⟨c10, c11, c12, c13, c14⟩, c20, c21, c22, c23, c24⟩
    refine zV 0 (h := zV 1 (h := zV 2 (h := zV 3 (h := zV 4 (h := zV 5 (h := zV 6 (h := zV 7 (h := zV 8 (h := ?_)))))))))
    try simp only [zP, zQ, zA2, zA3]
    refine zN 9 fun K hKK => ?_
    go_simp
    go_at_call 107
    refine (hK _ (Below.refl _ _).drew).mono ?_
    rintro e w5 ⟨rfl, hb5⟩
    have hr5 := (HRW.out.below (Below.refl _ _).drew).below hb5
    have d1 := hr5.cell (i := h) (by omega)
    have d2 := hr5.cell (i := a) (by omega)
    rw [HX.out.1, HP.out.1] at d1
    rw [HX.out.2, HP.out.2] at d2
    have hg5 := gb_below HGG.out (bstep (Below.refl _ _).drew hb5)
    go_wp2_with fail
    refine hKK.out _ _ ?_ (fun hHeld => ?_)
    ·exact ⟨d1, d2⟩
    clear hKK K
    try simp only [zP, zQ, zA2, zA3]
    refine zN 10 fun K hKK => ?_
    go_simp
    refine hKK.out _ _ ?_ (fun hHeld => ?_)
    ·exact hHeld
    clear hKK K
    try simp only [zP, zQ, zA2, zA3]
    refine wpAnyH_done (by kernel_rfl) ?_ _
    have HR5 := Lib.hid hr5
    have HG5 := Lib.hid hg5
    clear c10 c11 c12 c13 c14 c20 c21 c22 c23 c24 hK hb5 hr5 hg5 hHeld
    go_wp2
    go_roundw
    case rel => exact ⟨h + 1, j, by go_num, rfl, by rw [HX.out.2]; exact HB, by omega, by omega, hj1, HR5.out, HG5.out⟩
    case measure => simp [RowKit.intOf]; omega
   ·have HB := Lib.hid (hbL ((ho.tri hne).resolve_left (fun q => hlt0 (t1.2 q))))
    clear hbR hbL t1 hne
    go_wp2
    refine wp_region_held_drew (S := fun w' => (w'.cell? ⟨g, h * 5, none⟩ = some (.string na1) ∧ w'.cell? ⟨g, h * 5 + 1, none⟩ = some (.int .i64 rk1) ∧ w'.cell? ⟨g, h * 5 + 2, none⟩ = some (.string kd1) ∧ w'.cell? ⟨g, h * 5 + 3, none⟩ = some (.int .i64 vl1) ∧ w'.cell? ⟨g, h * 5 + 4, none⟩ = some (.string rs1)) ∧ w'.cell? ⟨g, a * 5, none⟩ = some (.string na2) ∧ w'.cell? ⟨g, a * 5 + 1, none⟩ = some (.int .i64 rk2) ∧ w'.cell? ⟨g, a * 5 + 2, none⟩ = some (.string kd2) ∧ w'.cell? ⟨g, a * 5 + 3, none⟩ = some (.int .i64 vl2) ∧ w'.cell? ⟨g, a * 5 + 4, none⟩ = some (.string rs2)) (by kernel_rfl) ?_ (fun hHeld => ?_)
    ·exact ⟨⟨c10, c11, c12, c13, c14⟩, c20, c21, c22, c23, c24⟩
    refine zV 0 (h := zV 1 (h := zV 2 (h := zV 3 (h := zV 4 (h := zV 5 (h := zV 6 (h := zV 7 (h := zV 8 (h := ?_)))))))))
    try simp only [zP, zQ, zA2, zA3]
    refine zN 9 fun K hKK => ?_
    go_simp
    go_at_call 107
    refine (hK _ (Below.refl _ _).drew).mono ?_
    rintro e w5 ⟨rfl, hb5⟩
    have hr5 := (HRW.out.below (Below.refl _ _).drew).below hb5
    have d1 := hr5.cell (i := h) (by omega)
    have d2 := hr5.cell (i := a) (by omega)
    rw [HX.out.1, HP.out.1] at d1
    rw [HX.out.2, HP.out.2] at d2
    have hg5 := gb_below HGG.out (bstep (Below.refl _ _).drew hb5)
    go_wp2_with fail
    refine hKK.out _ _ ?_ (fun hHeld => ?_)
    ·exact ⟨d1, d2⟩
    clear hKK K
    try simp only [zP, zQ, zA2, zA3]
    refine zN 10 fun K hKK => ?_
    go_simp
    refine hKK.out _ _ ?_ (fun hHeld => ?_)
    ·exact hHeld
    clear hKK K
    try simp only [zP, zQ, zA2, zA3]
    refine wpAnyH_done (by kernel_rfl) ?_ _
    have HR5 := Lib.hid hr5
    have HG5 := Lib.hid hg5
    clear c10 c11 c12 c13 c14 c20 c21 c22 c23 c24 hK hb5 hr5 hg5 hHeld
    go_wp2
    go_roundw
    case rel => exact ⟨i, h, rfl, by go_num, by rw [HX.out.2]; exact HB, hi1, by omega, by omega, HR5.out, HG5.out⟩
    case measure => simp [RowKit.intOf]; omega
  ·obtain rfl : i = j := by omega
   have HRW := Lib.hid hrow
   have HGG := Lib.hid hg
   have hk1 : (i : Int) - 1 = ((i - 1 : Nat) : Int) := by omega
   clear hrow hg
   go_wp2
   go_loopw [13] (fun kv wr => ∃ (k : Nat) (M : List Int), kv = .int .i64 k ∧ a ≤ k ∧ k ≤ i - 1 ∧ Hid (ShU a b k L M) ∧ RowP F wr B g n cap M ∧ w.grownBy wr (some g)) (fun kv _ => i - (RowKit.intOf kv).toNat)
   case atStart => exact ⟨a, L, rfl, by omega, by omega, Lib.hid (ShU.start _ _ _), HRW.out, HGG.out⟩
   case round =>
    obtain ⟨k, M, rfl, hk2, hk3, HS, hrow, hg⟩ := hrel
    by_cases hlt2 : k < i - 1
    ·have hki : (k : Int) < ((i - 1 : Nat) : Int) := by omega
     have d1 := hrow.cell (i := k) (by omega)
     have d2 := hrow.cell (i := k + 1) (by omega)
     have fz := hrow.froz
     obtain ⟨x, hx⟩ : ∃ x, ga M k = x := ⟨_, rfl⟩
     obtain ⟨y, hy⟩ : ∃ y, ga M (k + 1) = y := ⟨_, rfl⟩
     rw [hx] at d1
     rw [hy] at d2
     have h1 := hrow.swapU k (k + 1) (by omega) (by omega)
     rw [hx, hy] at h1
     obtain ⟨p1, hp1⟩ : ∃ p, F x = p := ⟨_, rfl⟩
     obtain ⟨p2, hp2⟩ : ∃ p, F y = p := ⟨_, rfl⟩
     rw [hp1] at d1 h1
     rw [hp2] at d2 h1
     obtain ⟨na1, rk1, kd1, vl1, rs1⟩ := p1
     obtain ⟨na2, rk2, kd2, vl2, rs2⟩ := p2
     have gx := grown5 (grown5 (World.grownBy.refl wr (some g)) (k * 5) ⟨na2, rk2, kd2, vl2, rs2⟩) ((k + 1) * 5) ⟨na1, rk1, kd1, vl1, rs1⟩
     unfold set5 at h1 gx
     dsimp only at h1 gx
     have H1 := Lib.hid h1
     have GX := Lib.hid gx
     obtain ⟨d10, d11, d12, d13, d14⟩ := d1
     obtain ⟨d20, d21, d22, d23, d24⟩ := d2
     dsimp only at d10 d11 d12 d13 d14 d20 d21 d22 d23 d24
     have z10 := fz (k * 5)
     have z20 := fz ((k + 1) * 5)
     have z11 := fz (k * 5 + 1)
     have z21 := fz ((k + 1) * 5 + 1)
     have z12 := fz (k * 5 + 2)
     have z22 := fz ((k + 1) * 5 + 2)
     have z13 := fz (k * 5 + 3)
     have z23 := fz ((k + 1) * 5 + 3)
     have z14 := fz (k * 5 + 4)
     have z24 := fz ((k + 1) * 5 + 4)
     have i0 : ¬ k * 5 = (k + 1) * 5 := by omega
     have i1 : ¬ k * 5 = k * 5 + 1 := by omega
     have i2 : ¬ (k + 1) * 5 = (k + 1) * 5 + 1 := by omega
     have i3 : ¬ k * 5 = (k + 1) * 5 + 1 := by omega
     have i4 : ¬ k * 5 = k * 5 + 2 := by omega
     have i5 : ¬ (k + 1) * 5 = (k + 1) * 5 + 2 := by omega
     have i6 : ¬ k * 5 = (k + 1) * 5 + 2 := by omega
     have i7 : ¬ k * 5 = k * 5 + 3 := by omega
     have i8 : ¬ (k + 1) * 5 = (k + 1) * 5 + 3 := by omega
     have i9 : ¬ k * 5 = (k + 1) * 5 + 3 := by omega
     have i10 : ¬ k * 5 = k * 5 + 4 := by omega
     have i11 : ¬ (k + 1) * 5 = (k + 1) * 5 + 4 := by omega
     have i12 : ¬ k * 5 = (k + 1) * 5 + 4 := by omega
     have i13 : ¬ k * 5 + 1 = (k + 1) * 5 := by omega
     have i14 : ¬ k * 5 + 1 = (k + 1) * 5 + 1 := by omega
     have i15 : ¬ k * 5 + 1 = k * 5 + 2 := by omega
     have i16 : ¬ (k + 1) * 5 + 1 = (k + 1) * 5 + 2 := by omega
     have i17 : ¬ k * 5 + 1 = (k + 1) * 5 + 2 := by omega
     have i18 : ¬ k * 5 + 1 = k * 5 + 3 := by omega
     have i19 : ¬ (k + 1) * 5 + 1 = (k + 1) * 5 + 3 := by omega
     have i20 : ¬ k * 5 + 1 = (k + 1) * 5 + 3 := by omega
     have i21 : ¬ k * 5 + 1 = k * 5 + 4 := by omega
     have i22 : ¬ (k + 1) * 5 + 1 = (k + 1) * 5 + 4 := by omega
     have i23 : ¬ k * 5 + 1 = (k + 1) * 5 + 4 := by omega
     have i24 : ¬ k * 5 + 2 = (k + 1) * 5 := by omega
     have i25 : ¬ k * 5 + 2 = (k + 1) * 5 + 1 := by omega
     have i26 : ¬ k * 5 + 2 = (k + 1) * 5 + 2 := by omega
     have i27 : ¬ k * 5 + 2 = k * 5 + 3 := by omega
     have i28 : ¬ (k + 1) * 5 + 2 = (k + 1) * 5 + 3 := by omega
     have i29 : ¬ k * 5 + 2 = (k + 1) * 5 + 3 := by omega
     have i30 : ¬ k * 5 + 2 = k * 5 + 4 := by omega
     have i31 : ¬ (k + 1) * 5 + 2 = (k + 1) * 5 + 4 := by omega
     have i32 : ¬ k * 5 + 2 = (k + 1) * 5 + 4 := by omega
     have i33 : ¬ k * 5 + 3 = (k + 1) * 5 := by omega
     have i34 : ¬ k * 5 + 3 = (k + 1) * 5 + 1 := by omega
     have i35 : ¬ k * 5 + 3 = (k + 1) * 5 + 2 := by omega
     have i36 : ¬ k * 5 + 3 = (k + 1) * 5 + 3 := by omega
     have i37 : ¬ k * 5 + 3 = k * 5 + 4 := by omega
     have i38 : ¬ (k + 1) * 5 + 3 = (k + 1) * 5 + 4 := by omega
     have i39 : ¬ k * 5 + 3 = (k + 1) * 5 + 4 := by omega
     have i40 : ¬ k * 5 + 4 = (k + 1) * 5 := by omega
     have i41 : ¬ k * 5 + 4 = (k + 1) * 5 + 1 := by omega
     have i42 : ¬ k * 5 + 4 = (k + 1) * 5 + 2 := by omega
     have i43 : ¬ k * 5 + 4 = (k + 1) * 5 + 3 := by omega
     have i44 : ¬ k * 5 + 4 = (k + 1) * 5 + 4 := by omega
     clear fz gx hp1 hp2
     have HST := Lib.hid (HS.out.step hk2 (by omega) (by rw [HL.out]; exact hb))
     have HG := Lib.hid hg
     have ha0 : (0 : Int) ≤ (k : Int) := by omega
     have ha1 : (k : Int) < (n : Int) := by omega
     have ha2 : ((k : Int)).toNat = k := by omega
     have hb0 : (0 : Int) ≤ (k : Int) + 1 := by omega
     have hb1 : (k : Int) + 1 < (n : Int) := by omega
     have hb2 : ((k : Int) + 1).toNat = k + 1 := by omega
     clear h1 hx hy hrow hg HS
     go_wp2
     go_region
     go_wp2
     go_roundw
     case rel => exact ⟨k + 1, _, by go_num, by omega, by omega, HST, H1.out.below (Below.refl _ _).drew, gb_below (HG.out.trans GX.out) (Below.refl _ _).drew⟩
     case measure => simp [RowKit.intOf]; omega
    ·obtain rfl : k = i - 1 := by omega
     have hfin := HS.out.srt HSR.out hi1 hj1 HI.out.low HI.out.up
     have HF := Lib.hid (And.intro HS.out.perm (And.intro hfin (And.intro hrow hg)))
     clear hfin hrow hg
     go_wp2
     refine bodyPost_ret (results_none rfl _ _ _) rfl ?_
     exact ⟨M, rfl, HF.out⟩
end Go.Mk
end
section
open Go Go.Proofs Go.RowKit Go.Sort
namespace Go.Mk
theorem symBP_any (F : Int → Plc) {lt : Int → Int → Prop} (ho : Ord lt) (cm : Int → Int → Int) (L : List Int) (B g n cap bx a m b : Nat) (w : World) (hr : RowP F w B g n cap L) (hn : L.Nodup) (hm : b = m + 1) (hab : a + 1 < m) (hb : b ≤ n) (hn1 : n ≤ 100000) (hC : CmpP F w g bx cm L)
  (hs : Srt lt L a m) (hT : Tst cm lt L a m b) :
  Calls Tryz.prog 259 #[.slice (some ⟨g, 0, none⟩) n cap, .int .i64 (a : Nat), .int .i64 (m : Nat), .int .i64 (b : Nat), cmpP bx] w (SortP F w B g n cap lt L a b) := by
 have hni : (n : Int) ≤ 100000 := by omega
 have hbi : (b : Int) ≤ (n : Int) := by omega
 have ham : (b : Int) - (m : Int) = 1 := by omega
 obtain ⟨D, hD⟩ : ∃ D : Int, (m : Int) - (a : Int) = D := ⟨_, rfl⟩
 have hD1 : (D == 1) = false := by simp; omega
 have hD2 : ¬ D = 1 := by omega
 have HMM := Lib.hid hm
 have HC := Lib.hid hC
 have HT := Lib.hid hT
 have HSR := Lib.hid hs
 have HL := Lib.hid hr.1
 have HN := Lib.hid hn
 have HR := Lib.hid hr
 unfold cmpP SortP
 clear hC hT hn hr hs hm
 go_enter Tryz.func259, Tryz.ntmps259
 go_wp2
 go_loopw [14, 15] (fun iv jv wr => ∃ (i j : Nat), iv = .int .i64 i ∧ jv = .int .i64 j ∧ Hid (Bin lt L (ga L m) a m i j) ∧ a ≤ i ∧ i ≤ j ∧ j ≤ m ∧ RowP F wr B g n cap L ∧ w.grownBy wr (some g)) (fun iv jv _ => (RowKit.intOf jv).toNat - (RowKit.intOf iv).toNat)
 case atStart => exact ⟨a, m, rfl, rfl, Lib.hid (Bin.start (by omega)), by omega, by omega, by omega, HR.out, World.grownBy.refl _ _⟩
 case round =>
  obtain ⟨i, j, rfl, rfl, HI, hi1, hij, hj1, hrow, hg⟩ := hrel
  by_cases hlt : i < j
  ·have hki : (i : Int) < (j : Int) := by omega
   obtain ⟨h, hh⟩ : ∃ h : Nat, ((i : Int) + (j : Int)) / 2 = (h : Int) := ⟨(i + j) / 2, by omega⟩
   have hih : i ≤ h := by omega
   have hhj : h < j := by omega
   have h0 : (0 : Int) ≤ (h : Int) := by omega
   have h1 : (h : Int) < (n : Int) := by omega
   have h2 : ((h : Int)).toNat = h := by omega
   have a0 : (0 : Int) ≤ (m : Int) := by omega
   have a1 : (m : Int) < (n : Int) := by omega
   have a2 : ((m : Int)).toNat = m := by omega
   have c1 := hrow.cell (i := h) (by omega)
   have c2 := hrow.cell (i := m) (by omega)
   have t1 := HT.out h m (by omega) (by omega) (by omega) (by omega)
   have hK : ∀ w', Below wr.heap.size wr w' → Calls Tryz.prog 107 #[(F (ga L m)).val, (F (ga L h)).val, .pointer (some ⟨bx, 0, none⟩)] w' (RetPost (.int .i64 (cm (ga L m) (ga L h))) w') := fun w' hb' => HC.out w' (gb_below hg hb') _ _ (List.mem_of_getElem? (ga_at (by rw [HL.out]; omega))) (List.mem_of_getElem? (ga_at (by rw [HL.out]; omega)))
   have hne : ga L h ≠ ga L m := fun q => by
    have e2 : L[h]? = L[m]? := by rw [ga_at (by rw [HL.out]; omega), ga_at (by rw [HL.out]; omega), q]
    have := (List.getElem?_inj (show h < L.length by rw [HL.out]; omega) HN.out).1 e2
    omega
   have hbR := fun q => HI.out.right ho HSR.out hih hhj q
   have hbL := fun q => HI.out.left ho HSR.out hih hhj q
   obtain ⟨x, hx⟩ : ∃ x, ga L h = x := ⟨_, rfl⟩
   obtain ⟨y, hy⟩ : ∃ y, ga L m = y := ⟨_, rfl⟩
   rw [hx] at c1 hK t1 hne hbR hbL
   rw [hy] at c2 hK t1 hne hbR hbL
   obtain ⟨p1, hp1⟩ : ∃ p, F x = p := ⟨_, rfl⟩
   obtain ⟨p2, hp2⟩ : ∃ p, F y = p := ⟨_, rfl⟩
   rw [hp1] at c1 hK
   rw [hp2] at c2 hK
   have HP := Lib.hid (And.intro hp1 hp2)
   obtain ⟨na1, rk1, kd1, vl1, rs1⟩ := p1
   obtain ⟨na2, rk2, kd2, vl2, rs2⟩ := p2
   obtain ⟨c10, c11, c12, c13, c14⟩ := c1
   obtain ⟨c20, c21, c22, c23, c24⟩ := c2
   unfold Plc.val at hK
   dsimp only at c10 c11 c12 c13 c14 c20 c21 c22 c23 c24 hK
   clear hp1 hp2
   have HX := Lib.hid (And.intro hx hy)
   have HRW := Lib.hid hrow
   have HGG := Lib.hid hg
   clear hx hy hrow hg
   obtain ⟨s, hsv⟩ : ∃ s, cm y x = s := ⟨_, rfl⟩
   rw [hsv] at hK t1
   clear hsv
   by_cases hlt0 : s < 0
   ·have HB := Lib.hid (hbL (t1.1 hlt0))
    clear hbR hbL t1 hne
    go_wp2
    refine wp_region_held_drew (S := fun w' => (w'.cell? ⟨g, h * 5, none⟩ = some (.string na1) ∧ w'.cell? ⟨g, h * 5 + 1, none⟩ = some (.int .i64 rk1) ∧ w'.cell? ⟨g, h * 5 + 2, none⟩ = some (.string kd1) ∧ w'.cell? ⟨g, h * 5 + 3, none⟩ = some (.int .i64 vl1) ∧ w'.cell? ⟨g, h * 5 + 4, none⟩ = some (.string rs1)) ∧ w'.cell? ⟨g, m * 5, none⟩ = some (.string na2) ∧ w'.cell? ⟨g, m * 5 + 1, none⟩ = some (.int .i64 rk2) ∧ w'.cell? ⟨g, m * 5 + 2, none⟩ = some (.string kd2) ∧ w'.cell? ⟨g, m * 5 + 3, none⟩ = some (.int .i64 vl2) ∧ w'.cell? ⟨g, m * 5 + 4, none⟩ = some (.string rs2)) (by kernel_rfl) ?_ (fun hHeld => ?_)
    ·exact ⟨⟨c10, c11, c12, c13, c14⟩, c20, c21, c22, c23, c24⟩
    refine zV 0 (h := zV 1 (h := zV 2 (h := zV 3 (h := zV 4 (h := zV 5 (h := zV 6 (h := zV 7 (h := zV 8 (h := ?_)))))))))
    try simp only [zP, zQ, zA2, zA3]
    refine zN 9 fun K hKK => ?_
    go_simp
    go_at_call 107
    refine (hK _ (Below.refl _ _).drew).mono ?_
    rintro e w5 ⟨rfl, hb5⟩
    have hr5 := (HRW.out.below (Below.refl _ _).drew).below hb5
    have d1 := hr5.cell (i := h) (by omega)
    have d2 := hr5.cell (i := m) (by omega)
    rw [HX.out.1, HP.out.1] at d1
    rw [HX.out.2, HP.out.2] at d2
    have hg5 := gb_below HGG.out (bstep (Below.refl _ _).drew hb5)
    go_wp2_with fail
    refine hKK.out _ _ ?_ (fun hHeld => ?_)
    ·exact ⟨d1, d2⟩
    clear hKK K
    try simp only [zP, zQ, zA2, zA3]
    refine zN 10 fun K hKK => ?_
    go_simp
    refine hKK.out _ _ ?_ (fun hHeld => ?_)
    ·exact hHeld
    clear hKK K
    try simp only [zP, zQ, zA2, zA3]
    refine zN 11 fun K hKK => ?_
    go_simp
    refine hKK.out _ _ ?_ (fun hHeld => ?_)
    ·exact hHeld
    clear hKK K
    try simp only [zP, zQ, zA2, zA3]
    refine wpAnyH_done (by kernel_rfl) ?_ _
    have HR5 := Lib.hid hr5
    have HG5 := Lib.hid hg5
    clear c10 c11 c12 c13 c14 c20 c21 c22 c23 c24 hK hb5 hr5 hg5 hHeld
    go_wp2
    go_roundw
    case rel => exact ⟨i, h, rfl, by go_num, by rw [HX.out.2]; exact HB, hi1, by omega, by omega, HR5.out, HG5.out⟩
    case measure => simp [RowKit.intOf]; omega
   ·have HB := Lib.hid (hbR ((ho.tri hne).resolve_right (fun q => hlt0 (t1.2 q))))
    clear hbR hbL t1 hne
    have hge : 0 ≤ s := by omega
    have hdf : decide (s < 0) = false := decide_eq_false hlt0
    go_wp2
    refine wp_region_held_drew (S := fun w' => (w'.cell? ⟨g, h * 5, none⟩ = some (.string na1) ∧ w'.cell? ⟨g, h * 5 + 1, none⟩ = some (.int .i64 rk1) ∧ w'.cell? ⟨g, h * 5 + 2, none⟩ = some (.string kd1) ∧ w'.cell? ⟨g, h * 5 + 3, none⟩ = some (.int .i64 vl1) ∧ w'.cell? ⟨g, h * 5 + 4, none⟩ = some (.string rs1)) ∧ w'.cell? ⟨g, m * 5, none⟩ = some (.string na2) ∧ w'.cell? ⟨g, m * 5 + 1, none⟩ = some (.int .i64 rk2) ∧ w'.cell? ⟨g, m * 5 + 2, none⟩ = some (.string kd2) ∧ w'.cell? ⟨g, m * 5 + 3, none⟩ = some (.int .i64 vl2) ∧ w'.cell? ⟨g, m * 5 + 4, none⟩ = some (.string rs2)) (by kernel_rfl) ?_ (fun hHeld => ?_)
    ·exact ⟨⟨c10, c11, c12, c13, c14⟩, c20, c21, c22, c23, c24⟩
    refine zV 0 (h := zV 1 (h := zV 2 (h := zV 3 (h := zV 4 (h := zV 5 (h := zV 6 (h := zV 7 (h := zV 8 (h := ?_)))))))))
    try simp only [zP, zQ, zA2, zA3]
    refine zN 9 fun K hKK => ?_
    go_simp
    go_at_call 107
    refine (hK _ (Below.refl _ _).drew).mono ?_
    rintro e w5 ⟨rfl, hb5⟩
    have hr5 := (HRW.out.below (Below.refl _ _).drew).below hb5
    have d1 := hr5.cell (i := h) (by omega)
    have d2 := hr5.cell (i := m) (by omega)
    rw [HX.out.1, HP.out.1] at d1
    rw [HX.out.2, HP.out.2] at d2
    have hg5 := gb_below HGG.out (bstep (Below.refl _ _).drew hb5)
    go_wp2_with fail
    refine hKK.out _ _ ?_ (fun hHeld => ?_)
    ·exact ⟨d1, d2⟩
    clear hKK K
    try simp only [zP, zQ, zA2, zA3]
    refine zN 10 fun K hKK => ?_
    go_simp
    refine hKK.out _ _ ?_ (fun hHeld => ?_)
    ·exact hHeld
    clear hKK K
    try simp only [zP, zQ, zA2, zA3]
    refine zN 11 fun K hKK => ?_
    go_simp
    refine hKK.out _ _ ?_ (fun hHeld => ?_)
    ·exact hHeld
    clear hKK K
    try simp only [zP, zQ, zA2, zA3]
    refine wpAnyH_done (by kernel_rfl) ?_ _
    have HR5 := Lib.hid hr5
    have HG5 := Lib.hid hg5
    clear c10 c11 c12 c13 c14 c20 c21 c22 c23 c24 hK hb5 hr5 hg5 hHeld
    go_wp2
    go_roundw
    case rel => exact ⟨h + 1, j, by go_num, rfl, by rw [HX.out.2]; exact HB, by omega, by omega, hj1, HR5.out, HG5.out⟩
    case measure => simp [RowKit.intOf]; omega
  ·obtain rfl : i = j := by omega
   have HRW := Lib.hid hrow
   have HGG := Lib.hid hg
   clear hrow hg
   go_wp2
   go_loopw [17] (fun kv wr => ∃ (k : Nat) (M : List Int), kv = .int .i64 k ∧ i ≤ k ∧ k ≤ m ∧ Hid (ShD a m k L M) ∧ RowP F wr B g n cap M ∧ w.grownBy wr (some g)) (fun kv _ => (RowKit.intOf kv).toNat)
   case atStart => exact ⟨m, L, rfl, by omega, by omega, Lib.hid (ShD.start _ _ _), HRW.out, HGG.out⟩
   case round =>
    obtain ⟨k, M, rfl, hk2, hk3, HS, hrow, hg⟩ := hrel
    by_cases hlt2 : i < k
    ·have hki : (i : Int) < (k : Int) := by omega
     have d1 := hrow.cell (i := k) (by omega)
     have d2 := hrow.cell (i := k - 1) (by omega)
     have fz := hrow.froz
     obtain ⟨x, hx⟩ : ∃ x, ga M k = x := ⟨_, rfl⟩
     obtain ⟨y, hy⟩ : ∃ y, ga M (k - 1) = y := ⟨_, rfl⟩
     rw [hx] at d1
     rw [hy] at d2
     have h1 := hrow.swapD (i := k - 1) (j := k) (by omega) (by omega)
     rw [hx, hy] at h1
     obtain ⟨p1, hp1⟩ : ∃ p, F x = p := ⟨_, rfl⟩
     obtain ⟨p2, hp2⟩ : ∃ p, F y = p := ⟨_, rfl⟩
     rw [hp1] at d1 h1
     rw [hp2] at d2 h1
     obtain ⟨na1, rk1, kd1, vl1, rs1⟩ := p1
     obtain ⟨na2, rk2, kd2, vl2, rs2⟩ := p2
     have gx := grown5 (grown5 (World.grownBy.refl wr (some g)) (k * 5) ⟨na2, rk2, kd2, vl2, rs2⟩) ((k - 1) * 5) ⟨na1, rk1, kd1, vl1, rs1⟩
     unfold set5 at h1 gx
     dsimp only at h1 gx
     have H1 := Lib.hid h1
     have GX := Lib.hid gx
     obtain ⟨d10, d11, d12, d13, d14⟩ := d1
     obtain ⟨d20, d21, d22, d23, d24⟩ := d2
     dsimp only at d10 d11 d12 d13 d14 d20 d21 d22 d23 d24
     have z10 := fz (k * 5)
     have z20 := fz ((k - 1) * 5)
     have z11 := fz (k * 5 + 1)
     have z21 := fz ((k - 1) * 5 + 1)
     have z12 := fz (k * 5 + 2)
     have z22 := fz ((k - 1) * 5 + 2)
     have z13 := fz (k * 5 + 3)
     have z23 := fz ((k - 1) * 5 + 3)
     have z14 := fz (k * 5 + 4)
     have z24 := fz ((k - 1) * 5 + 4)
     have i0 : ¬ k * 5 = (k - 1) * 5 := by omega
     have i1 : ¬ k * 5 = k * 5 + 1 := by omega
     have i2 : ¬ (k - 1) * 5 = (k - 1) * 5 + 1 := by omega
     have i3 : ¬ k * 5 = (k - 1) * 5 + 1 := by omega
     have i4 : ¬ k * 5 = k * 5 + 2 := by omega
     have i5 : ¬ (k - 1) * 5 = (k - 1) * 5 + 2 := by omega
     have i6 : ¬ k * 5 = (k - 1) * 5 + 2 := by omega
     have i7 : ¬ k * 5 = k * 5 + 3 := by omega
     have i8 : ¬ (k - 1) * 5 = (k - 1) * 5 + 3 := by omega
     have i9 : ¬ k * 5 = (k - 1) * 5 + 3 := by omega
     have i10 : ¬ k * 5 = k * 5 + 4 := by omega
     have i11 : ¬ (k - 1) * 5 = (k - 1) * 5 + 4 := by omega
     have i12 : ¬ k * 5 = (k - 1) * 5 + 4 := by omega
     have i13 : ¬ k * 5 + 1 = (k - 1) * 5 := by omega
     have i14 : ¬ k * 5 + 1 = (k - 1) * 5 + 1 := by omega
     have i15 : ¬ k * 5 + 1 = k * 5 + 2 := by omega
     have i16 : ¬ (k - 1) * 5 + 1 = (k - 1) * 5 + 2 := by omega
     have i17 : ¬ k * 5 + 1 = (k - 1) * 5 + 2 := by omega
     have i18 : ¬ k * 5 + 1 = k * 5 + 3 := by omega
     have i19 : ¬ (k - 1) * 5 + 1 = (k - 1) * 5 + 3 := by omega
     have i20 : ¬ k * 5 + 1 = (k - 1) * 5 + 3 := by omega
     have i21 : ¬ k * 5 + 1 = k * 5 + 4 := by omega
     have i22 : ¬ (k - 1) * 5 + 1 = (k - 1) * 5 + 4 := by omega
     have i23 : ¬ k * 5 + 1 = (k - 1) * 5 + 4 := by omega
     have i24 : ¬ k * 5 + 2 = (k - 1) * 5 := by omega
     have i25 : ¬ k * 5 + 2 = (k - 1) * 5 + 1 := by omega
     have i26 : ¬ k * 5 + 2 = (k - 1) * 5 + 2 := by omega
     have i27 : ¬ k * 5 + 2 = k * 5 + 3 := by omega
     have i28 : ¬ (k - 1) * 5 + 2 = (k - 1) * 5 + 3 := by omega
     have i29 : ¬ k * 5 + 2 = (k - 1) * 5 + 3 := by omega
     have i30 : ¬ k * 5 + 2 = k * 5 + 4 := by omega
     have i31 : ¬ (k - 1) * 5 + 2 = (k - 1) * 5 + 4 := by omega
     have i32 : ¬ k * 5 + 2 = (k - 1) * 5 + 4 := by omega
     have i33 : ¬ k * 5 + 3 = (k - 1) * 5 := by omega
     have i34 : ¬ k * 5 + 3 = (k - 1) * 5 + 1 := by omega
     have i35 : ¬ k * 5 + 3 = (k - 1) * 5 + 2 := by omega
     have i36 : ¬ k * 5 + 3 = (k - 1) * 5 + 3 := by omega
     have i37 : ¬ k * 5 + 3 = k * 5 + 4 := by omega
     have i38 : ¬ (k - 1) * 5 + 3 = (k - 1) * 5 + 4 := by omega
     have i39 : ¬ k * 5 + 3 = (k - 1) * 5 + 4 := by omega
     have i40 : ¬ k * 5 + 4 = (k - 1) * 5 := by omega
     have i41 : ¬ k * 5 + 4 = (k - 1) * 5 + 1 := by omega
     have i42 : ¬ k * 5 + 4 = (k - 1) * 5 + 2 := by omega
     have i43 : ¬ k * 5 + 4 = (k - 1) * 5 + 3 := by omega
     have i44 : ¬ k * 5 + 4 = (k - 1) * 5 + 4 := by omega
     clear fz gx hp1 hp2
     have HST := Lib.hid (HS.out.step (by omega) hk3 (by rw [HL.out]; omega))
     have HG := Lib.hid hg
     have ha0 : (0 : Int) ≤ (k : Int) := by omega
     have ha1 : (k : Int) < (n : Int) := by omega
     have ha2 : ((k : Int)).toNat = k := by omega
     have hb0 : (0 : Int) ≤ (k : Int) - 1 := by omega
     have hb1 : (k : Int) - 1 < (n : Int) := by omega
     have hb2 : ((k : Int) - 1).toNat = k - 1 := by omega
     clear h1 hx hy hrow hg HS
     go_wp2
     go_region
     go_wp2
     go_roundw
     case rel => exact ⟨k - 1, _, by go_num, by omega, by omega, HST, H1.out.below (Below.refl _ _).drew, gb_below (HG.out.trans GX.out) (Below.refl _ _).drew⟩
     case measure => simp [RowKit.intOf]; omega
    ·obtain rfl : k = i := by omega
     have hfin := HS.out.srt HSR.out hi1 hj1 HI.out.low HI.out.up
     have hpm := HS.out.perm
     rw [← HMM.out] at hfin hpm
     have HF := Lib.hid (And.intro hpm (And.intro hfin (And.intro hrow hg)))
     clear hfin hpm hrow hg
     go_wp2
     refine bodyPost_ret (results_none rfl _ _ _) rfl ?_
     exact ⟨M, rfl, HF.out⟩
end Go.Mk
end
