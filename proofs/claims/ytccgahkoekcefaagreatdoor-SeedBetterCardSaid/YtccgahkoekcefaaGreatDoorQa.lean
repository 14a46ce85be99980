/-
  Proved: plain facts on sorting in place: exchanges, ranges that are sorted, ranges whose elements are exchanged among each other; the steps of an insertion. No condition beside those named.
-/
import Derived.Test.YtccgahkoekcefaaGreatDoorEe
set_option linter.unusedVariables false
set_option linter.unusedSimpArgs false
open Go Go.Proofs Go.RowKit
set_option maxRecDepth 100000
namespace Go.Mk
def ga (L : List Int) (i : Nat) : Int := L.getD i 0
theorem ga_set {L : List Int} {i : Nat} (x : Int) (h : i < L.length) (k : Nat) : ga (L.set i x) k = if k = i then x else ga L k := by
  unfold ga
  rw [List.getD_eq_getElem?_getD, List.getD_eq_getElem?_getD]
  by_cases e : k = i
  · subst e; rw [if_pos rfl, List.getElem?_set_self h]; rfl
  · rw [if_neg e, List.getElem?_set_ne (fun q => e q.symm)]
theorem ga_at {L : List Int} {i : Nat} (h : i < L.length) : L[i]? = some (ga L i) := by
  unfold ga
  rw [List.getD_eq_getElem?_getD, List.getElem?_eq_getElem h]; rfl
def swp (L : List Int) (i j : Nat) : List Int := (L.set i (ga L j)).set j (ga L i)
theorem swp_len (L : List Int) (i j : Nat) : (swp L i j).length = L.length := by unfold swp; rw [List.length_set, List.length_set]
theorem ga_swp {L : List Int} {i j : Nat} (hi : i < L.length) (hj : j < L.length) (k : Nat) : ga (swp L i j) k = if k = j then ga L i else if k = i then ga L j else ga L k := by
  unfold swp
  rw [ga_set _ (by rw [List.length_set]; exact hj), ga_set _ hi]
theorem cons_set_perm : ∀ (L : List Int) (j : Nat) (x y : Int), L[j]? = some y → (y :: L.set j x).Perm (x :: L)
  | [], j, x, y, h => by simp at h
  | z :: L, 0, x, y, h => by
    simp at h
    subst h
    exact List.Perm.swap x z L
  | z :: L, j + 1, x, y, h => by
    rw [List.set_cons_succ]
    exact ((List.Perm.swap z y _).trans (List.Perm.cons z (cons_set_perm L j x y (by simpa using h)))).trans (List.Perm.swap x z L)
theorem set_set_perm : ∀ (L : List Int) (i j : Nat) (x y : Int), i < j → L[i]? = some x → L[j]? = some y → ((L.set i y).set j x).Perm L
  | [], i, j, x, y, _, h, _ => by simp at h
  | z :: L, 0, j, x, y, hij, h1, h2 => by
    obtain ⟨j', rfl⟩ : ∃ j', j = j' + 1 := ⟨j - 1, by omega⟩
    simp at h1
    subst h1
    rw [List.set_cons_zero, List.set_cons_succ]
    exact cons_set_perm L j' z y (by simpa using h2)
  | z :: L, i + 1, j, x, y, hij, h1, h2 => by
    obtain ⟨j', rfl⟩ : ∃ j', j = j' + 1 := ⟨j - 1, by omega⟩
    rw [List.set_cons_succ, List.set_cons_succ]
    exact List.Perm.cons z (set_set_perm L i j' x y (by omega) (by simpa using h1) (by simpa using h2))
theorem swp_perm {L : List Int} {i j : Nat} (hij : i < j) (hj : j < L.length) : (swp L i j).Perm L :=
  set_set_perm L i j _ _ hij (ga_at (by omega)) (ga_at hj)
structure PermIn (a b : Nat) (L L' : List Int) : Prop where
  len : L'.length = L.length
  out : ∀ i, i < a ∨ b ≤ i → ga L' i = ga L i
  perm : L'.Perm L
theorem PermIn.refl (a b : Nat) (L : List Int) : PermIn a b L L := ⟨rfl, fun _ _ => rfl, List.Perm.refl _⟩
theorem PermIn.trans {a b : Nat} {L M N : List Int} (h : PermIn a b L M) (k : PermIn a b M N) : PermIn a b L N := ⟨k.len.trans h.len, fun i hi => (k.out i hi).trans (h.out i hi), k.perm.trans h.perm⟩
theorem PermIn.wide {a b a' b' : Nat} {L M : List Int} (h : PermIn a b L M) (ha : a' ≤ a) (hb : b ≤ b') : PermIn a' b' L M := ⟨h.len, fun i hi => h.out i (by omega), h.perm⟩
theorem PermIn.swp {a b i j : Nat} {L : List Int} (hij : i < j) (ha : a ≤ i) (hb : j < b) (hl : j < L.length) : PermIn a b L (swp L i j) :=
  ⟨swp_len L i j, fun k hk => by rw [ga_swp (by omega) hl, if_neg (by omega), if_neg (by omega)], swp_perm hij hl⟩
theorem PermIn.from_ {a b : Nat} {L L' : List Int} (h : PermIn a b L L') (hn : L.Nodup) {i : Nat} (h1 : a ≤ i) (h2 : i < b) (hl : i < L.length) : ∃ j, a ≤ j ∧ j < b ∧ j < L.length ∧ ga L' i = ga L j := by
  have hn' : L'.Nodup := h.perm.nodup_iff.2 hn
  have hi' : i < L'.length := by rw [h.len]; exact hl
  have hm : ga L' i ∈ L := h.perm.mem_iff.1 (List.mem_of_getElem? (ga_at hi'))
  obtain ⟨j, hj⟩ := List.mem_iff_getElem?.1 hm
  have hjl := (List.getElem?_eq_some_iff.1 hj).1
  have hj2 : ga L j = ga L' i := by rw [ga_at hjl] at hj; exact Option.some.inj hj
  by_cases hin : a ≤ j ∧ j < b
  · exact ⟨j, hin.1, hin.2, hjl, hj2.symm⟩
  · exfalso
    have e := h.out j (by omega)
    have hjl' : j < L'.length := by rw [h.len]; exact hjl
    have e2 : L'[j]? = L'[i]? := by rw [ga_at hjl', ga_at hi', e, hj2]
    have := (List.getElem?_inj hjl' hn').1 e2
    omega
def Srt (lt : Int → Int → Prop) (L : List Int) (a b : Nat) : Prop := ∀ i j, a ≤ i → i < j → j < b → lt (ga L i) (ga L j)
theorem Srt.sub {lt : Int → Int → Prop} {L : List Int} {a b a' b' : Nat} (h : Srt lt L a b) (ha : a ≤ a') (hb : b' ≤ b) : Srt lt L a' b' := fun i j h1 h2 h3 => h i j (by omega) h2 (by omega)
theorem Srt.same {lt : Int → Int → Prop} {L M : List Int} {a b : Nat} (h : Srt lt L a b) (he : ∀ i, a ≤ i → i < b → ga M i = ga L i) : Srt lt M a b := fun i j h1 h2 h3 => by
  rw [he i h1 (by omega), he j (by omega) h3]; exact h i j h1 h2 h3
structure Ord (lt : Int → Int → Prop) : Prop where
  trans : ∀ {x y z}, lt x y → lt y z → lt x z
  irr : ∀ {x}, ¬ lt x x
  tri : ∀ {x y}, x ≠ y → lt x y ∨ lt y x
structure Ins (lt : Int → Int → Prop) (a i j : Nat) (L0 L : List Int) : Prop where
  perm : PermIn a (i + 1) L0 L
  v : ga L j = ga L0 i
  rest : ∀ p q, a ≤ p → p < q → q < i + 1 → p ≠ j → q ≠ j → lt (ga L p) (ga L q)
  up : ∀ q, j < q → q < i + 1 → lt (ga L0 i) (ga L q)
theorem Ins.start {lt : Int → Int → Prop} {a i : Nat} {L0 : List Int} (h : Srt lt L0 a i) : Ins lt a i i L0 L0 :=
  ⟨PermIn.refl _ _ _, rfl, fun p q h1 h2 h3 h4 h5 => h p q h1 h2 (by omega), fun q h1 h2 => by omega⟩
theorem Ins.step {lt : Int → Int → Prop} {a i j : Nat} {L0 L : List Int} (h : Ins lt a i j L0 L) (hj : a < j) (hji : j ≤ i) (hl : i < L0.length) (ht : lt (ga L j) (ga L (j - 1))) : Ins lt a i (j - 1) L0 (swp L (j - 1) j) := by
  have hlen := h.perm.len
  have e := fun k => ga_swp (L := L) (i := j - 1) (j := j) (by omega) (by omega) k
  refine ⟨h.perm.trans (PermIn.swp (by omega) (by omega) (by omega) (by omega)), ?_, fun p q h1 h2 h3 h4 h5 => ?_, fun q h1 h2 => ?_⟩
  · rw [e, if_neg (by omega), if_pos rfl, h.v]
  · rw [e, e]
    by_cases hq : q = j
    · subst hq
      rw [if_neg (by omega), if_neg (by omega), if_pos rfl]
      exact h.rest p (q - 1) h1 (by omega) (by omega) (by omega) (by omega)
    · rw [if_neg hq, if_neg h5]
      by_cases hp : p = j
      · subst hp
        rw [if_pos rfl]
        exact h.rest (p - 1) q (by omega) (by omega) h3 (by omega) (by omega)
      · rw [if_neg hp, if_neg h4]
        exact h.rest p q h1 h2 h3 hp hq
  · rw [e]
    by_cases hq : q = j
    · rw [if_pos hq, ← h.v]; exact ht
    · rw [if_neg hq, if_neg (by omega)]
      exact h.up q (by omega) h2
theorem Ins.done {lt : Int → Int → Prop} (ho : Ord lt) {a i j : Nat} {L0 L : List Int} (h : Ins lt a i j L0 L) (hn : L0.Nodup) (haj : a ≤ j) (hji : j ≤ i) (hl : i < L0.length) (ht : a < j → ¬ lt (ga L j) (ga L (j - 1))) : Srt lt L a (i + 1) := by
  have hlen := h.perm.len
  have hn' : L.Nodup := h.perm.perm.nodup_iff.2 hn
  have low : ∀ p, a ≤ p → p < j → lt (ga L p) (ga L j) := fun p h1 h2 => by
    have h3 : lt (ga L (j - 1)) (ga L j) := by
      refine (ho.tri (fun q => ?_)).resolve_right (ht (by omega))
      have e2 : L[j - 1]? = L[j]? := by rw [ga_at (by omega), ga_at (by omega), q]
      have := (List.getElem?_inj (show j - 1 < L.length by omega) hn').1 e2
      omega
    by_cases e : p = j - 1
    · rw [e]; exact h3
    · exact ho.trans (h.rest p (j - 1) h1 (by omega) (by omega) (by omega) (by omega)) h3
  intro p q h1 h2 h3
  by_cases hq : q = j
  · rw [hq]; exact low p h1 (by omega)
  · by_cases hp : p = j
    · rw [hp, h.v]; exact h.up q (by omega) h3
    · exact h.rest p q h1 h2 h3 hp hq
end Go.Mk
