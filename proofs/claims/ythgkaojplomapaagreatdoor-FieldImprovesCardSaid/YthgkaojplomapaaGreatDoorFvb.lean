/-
  Proved: plain facts on places in the order of their ranks: they are the places of the rows, each row's place is found by its name. Condition: the rows have no error.
  Proved: plain facts on the comparison of series: it is a linear order's, and a series into which a greater number is put is not less. No condition beside those named.
  Proved: plain facts on ranks: they don't hang on the order of the series; a better series has no worse rank, and nobody else's becomes better. No condition beside those named.
  Proved: plain facts on rows without an error: what they are; they can be exchanged among each other; the ranks of the places in terms of the series. No condition beside those named.
  Proved: plain facts on a row that is put in the place of another one: the rows stay without an error, and the ranks change as those of a better series. Conditions: the row keeps its name; its trials are right.
  Proved: plain facts on what FieldImproves asks of the places of a row: behind a trial that has become a mark, or a greater one, and with the rows turned round. Conditions: the rows have no error.
-/
import Derived.Test.YthgkaojplomapaaGreatDoorFrc
import Derived.Test.YthgkaojplomapaaGreatDoorFva
import Derived.Test.YthgkaojplomapaaGreatDoorFee
import Derived.Test.YthgkaojplomapaaGreatDoorFrb
section
set_option linter.unusedVariables false
set_option linter.unusedSimpArgs false
open Go Go.Proofs Go.RowKit
set_option maxRecDepth 100000
namespace Go.Mk
theorem plcBy_mem : ∀ {L : List Plc}, (L.map (·.nm)).Nodup → ∀ {p : Plc}, p ∈ L → plcBy L p.nm = some p
  | [], _, p, h => by cases h
  | q :: L, hd, p, h => by
    unfold plcBy
    rw [List.find?_cons]
    rw [List.map_cons, List.nodup_cons] at hd
    rcases List.mem_cons.1 h with rfl | h
    · simp
    · have hne : ¬ q.nm = p.nm := fun e => hd.1 (by rw [e]; exact List.mem_map_of_mem h)
      have := plcBy_mem hd.2 h
      unfold plcBy at this
      simp [hne, this]
theorem arr_perm {n : Nat} {L : List Plc} (hn : L.length = n) (hr : ∀ p ∈ L, 0 ≤ p.rk ∧ p.rk ≤ n) : (arrL n L).Perm L := by
  have h1 := byKey_perm (fun i => bhd n (plF L i)) n (n + 1) (fun x hx => by
    have h3 := toks_mem.1 hx
    have h4 : x.toNat < L.length := by omega
    have h5 : plF L x ∈ L := by unfold plF; rw [List.getD_eq_getElem?_getD, List.getElem?_eq_getElem h4]; exact List.getElem_mem h4
    have h6 := hr _ h5
    unfold bhd
    split <;> omega)
  have h2 := h1.map (plF L)
  rw [byKey_arr L n hn] at h2
  have h3 := plF_toks L
  rw [hn] at h3
  rw [h3] at h2
  exact h2
theorem rank_perm (L : List RowR) : (rankL L).Perm (plcsOf L) := by
  unfold rankL
  exact arr_perm (plcs_len L) (plcs_rk L)
theorem rwsE_nodup : ∀ (P : List ByteArray) (L : List RowR), rwsE P L = 0 → (∀ r ∈ L, r.s ∉ P) ∧ (L.map (·.s)).Nodup
  | P, [], _ => ⟨fun r h => (by cases h), List.nodup_nil⟩
  | P, r :: L, h => by
    rw [rwsE] at h
    by_cases h0 : rowE P r = 0
    · rw [if_pos h0] at h
      obtain ⟨h1, h2⟩ := rwsE_nodup (P ++ [r.s]) L h
      have h3 : r.s ∉ P := fun hm => by
        have hi : isIn P r.s = true := isIn_mem.2 hm
        unfold rowE twE at h0
        rw [hi] at h0
        by_cases hq : nmE r.s = 0
        · simp [fstN, hq] at h0
        · simp [fstN, hq] at h0
      refine ⟨fun q hq => ?_, ?_⟩
      · rcases List.mem_cons.1 hq with rfl | hq
        · exact h3
        · exact fun hm => h1 q hq (List.mem_append_left _ hm)
      · rw [List.map_cons, List.nodup_cons]
        refine ⟨fun hm => ?_, h2⟩
        obtain ⟨q, hq, e⟩ := List.mem_map.1 hm
        exact h1 q hq (List.mem_append_right _ (by rw [e]; exact List.mem_singleton.2 rfl))
    · rw [if_neg h0] at h
      exact absurd h h0
theorem placed_rank {L : List RowR} (h : rowsE L = 0) {i : Nat} {r : RowR} (hi : L[i]? = some r) : plcBy (rankL L) r.s = some (plcOf L L.length i r) := by
  have hnd : (L.map (·.s)).Nodup := by
    unfold rowsE at h
    split at h
    · simp at h
    · exact (rwsE_nodup [] L h).2
  have hnm : (plcsOf L).map (·.nm) = L.map (·.s) := by
    apply List.ext_getElem?
    intro j
    rw [List.getElem?_map, List.getElem?_map]
    cases hj : L[j]? with
    | none => rw [List.getElem?_eq_none (by rw [plcs_len]; exact List.getElem?_eq_none_iff.1 hj)]; rfl
    | some q => rw [plcs_at hj]; rfl
  have hp : ((rankL L).map (·.nm)).Nodup := by
    rw [((rank_perm L).map (·.nm)).nodup_iff, hnm]
    exact hnd
  have hm : plcOf L L.length i r ∈ rankL L := (rank_perm L).mem_iff.2 (List.mem_of_getElem? (plcs_at hi))
  exact plcBy_mem hp hm
end Go.Mk
end
section
set_option linter.unusedVariables false
set_option linter.unusedSimpArgs false
open Go Go.Proofs Go.RowKit
set_option maxRecDepth 100000
namespace Go.Mk
def leS : List Int → List Int → Prop
  | [], _ => True
  | _ :: _, [] => False
  | a :: l, b :: m => a < b ∨ (a = b ∧ leS l m)
theorem leS_refl : ∀ L : List Int, leS L L
  | [] => trivial
  | a :: l => .inr ⟨rfl, leS_refl l⟩
theorem leS_trans : ∀ {L M N : List Int}, leS L M → leS M N → leS L N
  | [], _, _, _, _ => trivial
  | _ :: _, [], _, h, _ => h.elim
  | _ :: _, _ :: _, [], _, h => h.elim
  | a :: l, b :: m, c :: n, h, k => by
    rcases h with h | ⟨rfl, h⟩
    · rcases k with k | ⟨rfl, _⟩
      · exact .inl (by omega)
      · exact .inl h
    · rcases k with k | ⟨rfl, k⟩
      · exact .inl k
      · exact .inr ⟨rfl, leS_trans h k⟩
theorem cmpL_pos : ∀ (L M : List Int), 0 < cmpL L M ↔ ¬ leS L M
  | [], [] => by simp [cmpL, leS]
  | [], _ :: _ => by simp [cmpL, leS]
  | _ :: _, [] => by simp [cmpL, leS]
  | a :: l, b :: m => by
    have ih := cmpL_pos l m
    rw [cmpL]
    unfold leS cmpZ
    by_cases h1 : a < b
    · simp [h1]
    · by_cases h2 : b < a
      · have h3 : ¬ a = b := by omega
        simp [h1, h2, h3]
      · have h3 : a = b := by omega
        subst h3
        simp [ih]
def insS (x : Int) : List Int → List Int
  | [] => [x]
  | q :: Q => if q < x then x :: q :: Q else q :: insS x Q
theorem insS_perm (x : Int) : ∀ Q : List Int, (insS x Q).Perm (x :: Q)
  | [] => List.Perm.refl _
  | q :: Q => by
    unfold insS
    split
    · exact List.Perm.refl _
    · exact ((insS_perm x Q).cons q).trans (List.Perm.swap _ _ _)
theorem insS_pw (x : Int) : ∀ {Q : List Int}, Q.Pairwise (fun a b => b ≤ a) → (insS x Q).Pairwise (fun a b => b ≤ a)
  | [], _ => List.pairwise_singleton _ _
  | q :: Q, h => by
    have h' := List.pairwise_cons.1 h
    unfold insS
    split
    · rename_i hq
      refine List.pairwise_cons.2 ⟨fun y hy => ?_, h⟩
      rcases List.mem_cons.1 hy with rfl | hy
      · omega
      · have := h'.1 y hy; omega
    · rename_i hq
      refine List.pairwise_cons.2 ⟨fun y hy => ?_, insS_pw x h'.2⟩
      rcases List.mem_cons.1 ((insS_perm x Q).mem_iff.1 hy) with rfl | hy
      · omega
      · exact h'.1 y hy
theorem leS_ins (x : Int) : ∀ Q : List Int, leS Q (insS x Q)
  | [] => trivial
  | q :: Q => by
    unfold insS
    split
    · rename_i h; exact .inl h
    · exact .inr ⟨rfl, leS_ins x Q⟩
theorem leS_ins2 {a b : Int} (h : a ≤ b) : ∀ Q : List Int, leS (insS a Q) (insS b Q)
  | [] => by
    unfold insS leS
    by_cases q : a < b
    · exact .inl q
    · exact .inr ⟨by omega, trivial⟩
  | q :: Q => by
    unfold insS
    by_cases h1 : q < a
    · rw [if_pos h1, if_pos (by omega)]
      by_cases h2 : a < b
      · exact .inl h2
      · exact .inr ⟨by omega, leS_refl _⟩
    · rw [if_neg h1]
      by_cases h2 : q < b
      · rw [if_pos h2]; exact .inl h2
      · rw [if_neg h2]; exact .inr ⟨rfl, leS_ins2 h Q⟩
theorem serD_uniq {T M : List Int} (hp : M.Perm (T.filter fun t => decide (0 ≤ t))) (hs : M.Pairwise fun a b => b ≤ a) : M = serD T := by
  refine serD_of hp ?_
  intro i j h1 h2 h3
  have := List.pairwise_iff_getElem.1 hs i j (by omega) h3 h2
  unfold ga
  rw [List.getD_eq_getElem?_getD, List.getD_eq_getElem?_getD, List.getElem?_eq_getElem h3, List.getElem?_eq_getElem (by omega : i < M.length)]
  exact this
theorem serD_pw (T : List Int) : (serD T).Pairwise fun a b => b ≤ a := by
  unfold serD
  have h := List.pairwise_mergeSort (le := fun a b : Int => decide (b ≤ a)) (fun a b c h1 h2 => by simp at *; omega) (fun a b => by simp; omega) (T.filter fun t => decide (0 ≤ t))
  exact h.imp (fun h => by simpa using h)
theorem serD_perm (T : List Int) : (serD T).Perm (T.filter fun t => decide (0 ≤ t)) := List.mergeSort_perm _ _
theorem serD_better {P Q : List Int} {a b : Int} (h : a ≤ b) (h0 : 0 ≤ b) : leS (serD (P ++ a :: Q)) (serD (P ++ b :: Q)) := by
  have e1 : insS b (serD (P ++ Q)) = serD (P ++ b :: Q) := by
    refine serD_uniq ?_ (insS_pw b (serD_pw _))
    refine (insS_perm b _).trans (((serD_perm (P ++ Q)).cons b).trans ?_)
    rw [List.filter_append, List.filter_append, List.filter_cons, if_pos (by simpa using h0)]
    exact List.perm_middle.symm
  rw [← e1]
  by_cases ha : 0 ≤ a
  · have e2 : insS a (serD (P ++ Q)) = serD (P ++ a :: Q) := by
      refine serD_uniq ?_ (insS_pw a (serD_pw _))
      refine (insS_perm a _).trans (((serD_perm (P ++ Q)).cons a).trans ?_)
      rw [List.filter_append, List.filter_append, List.filter_cons, if_pos (by simpa using ha)]
      exact List.perm_middle.symm
    rw [← e2]
    exact leS_ins2 h _
  · have e2 : serD (P ++ a :: Q) = serD (P ++ Q) := by
      unfold serD
      rw [List.filter_append, List.filter_append, List.filter_cons, if_neg (by simpa using ha)]
    rw [e2]
    exact leS_ins b _
end Go.Mk
end
section
set_option linter.unusedVariables false
set_option linter.unusedSimpArgs false
open Go Go.Proofs Go.RowKit
set_option maxRecDepth 100000
namespace Go.Mk
def rkL (S : List (List Int)) (l : List Int) : Nat := if l = [] then 0 else 1 + S.countP fun u => decide (0 < cmpL u l)
theorem cntB_countP (S : List (List Int)) (i : Nat) : ∀ m, m ≤ S.length → cntB (rkBt S) i m = (S.take m).countP fun u => decide (0 < cmpL u (S.getD i []))
  | 0, _ => rfl
  | m + 1, h => by
    have hm : S[m]? = some S[m] := List.getElem?_eq_getElem (by omega)
    rw [cntB, cntB_countP S i m (by omega), List.take_add_one, hm, Option.toList_some, List.countP_append, List.countP_singleton]
    unfold rkBt
    rw [show S.getD m [] = S[m] by rw [List.getD_eq_getElem?_getD, hm]; rfl]
theorem rk_eq (S : List (List Int)) (i : Nat) : rkB (rkR S) (rkBt S) S.length i = rkL S (S.getD i []) := by
  unfold rkB rkL
  rw [cntB_countP S i S.length (Nat.le_refl _), List.take_length]
  unfold rkR
  by_cases h : S.getD i [] = []
  · rw [h]; simp
  · rw [if_neg h, if_pos (by simpa using List.length_pos_iff.2 h)]
theorem rkL_perm {S S' : List (List Int)} (h : S.Perm S') (l : List Int) : rkL S l = rkL S' l := by
  unfold rkL
  rw [h.countP_eq]
theorem countP_le' {α : Type} (p q : α → Bool) : ∀ {L : List α}, (∀ x ∈ L, p x = true → q x = true) → L.countP p ≤ L.countP q
  | [], _ => Nat.le_refl _
  | x :: L, h => by
    have ih := countP_le' p q (L := L) (fun y hy => h y (List.mem_cons_of_mem _ hy))
    have h1 := h x List.mem_cons_self
    rw [List.countP_cons, List.countP_cons]
    cases hp : p x with
    | false => simp; omega
    | true => rw [h1 hp]; simp; omega
theorem rkL_better {P Q : List (List Int)} {a b : List Int} (h : leS a b) (hb : b ≠ []) : 1 ≤ rkL (P ++ b :: Q) b ∧ (a ≠ [] → rkL (P ++ b :: Q) b ≤ rkL (P ++ a :: Q) a) := by
  have hi : ∀ u : List Int, decide (0 < cmpL u b) = true → decide (0 < cmpL u a) = true := fun u hu => by
    rw [decide_eq_true_eq, cmpL_pos] at *
    exact fun q => hu (leS_trans q h)
  have hbb : decide (0 < cmpL b b) = false := by
    rw [decide_eq_false_iff_not, cmpL_pos]
    exact fun q => q (leS_refl b)
  unfold rkL
  rw [if_neg hb]
  refine ⟨by omega, fun ha => ?_⟩
  rw [if_neg ha, List.countP_append, List.countP_append, List.countP_cons, List.countP_cons, hbb]
  have h1 := countP_le' (fun u => decide (0 < cmpL u b)) (fun u => decide (0 < cmpL u a)) (L := P) (fun u _ => hi u)
  have h2 := countP_le' (fun u => decide (0 < cmpL u b)) (fun u => decide (0 < cmpL u a)) (L := Q) (fun u _ => hi u)
  simp only [Bool.false_eq_true, if_false]
  omega
theorem rkL_other {P Q : List (List Int)} {a b : List Int} (h : leS a b) (l : List Int) : rkL (P ++ a :: Q) l ≤ rkL (P ++ b :: Q) l ∧ (rkL (P ++ a :: Q) l = 0 → rkL (P ++ b :: Q) l = 0) := by
  unfold rkL
  by_cases hl : l = []
  · rw [if_pos hl, if_pos hl]; exact ⟨Nat.le_refl _, fun h => h⟩
  · rw [if_neg hl, if_neg hl]
    refine ⟨?_, fun h => by omega⟩
    rw [List.countP_append, List.countP_append, List.countP_cons, List.countP_cons]
    have hi : decide (0 < cmpL a l) = true → decide (0 < cmpL b l) = true := fun hu => by
      rw [decide_eq_true_eq, cmpL_pos] at *
      exact fun q => hu (leS_trans h q)
    cases ha : decide (0 < cmpL a l) with
    | false => simp
    | true => rw [hi ha]; exact Nat.le_refl _
theorem rkL_first {S : List (List Int)} {l : List Int} (hl : l ≠ []) (h : ∀ u ∈ S, leS u l) : rkL S l = 1 := by
  unfold rkL
  rw [if_neg hl]
  have : S.countP (fun u => decide (0 < cmpL u l)) = 0 := by
    rw [List.countP_eq_zero]
    intro u hu
    rw [decide_eq_true_eq, cmpL_pos]
    exact fun q => q (h u hu)
  omega
end Go.Mk
end
section
set_option linter.unusedVariables false
set_option linter.unusedSimpArgs false
open Go Go.Proofs Go.RowKit
set_option maxRecDepth 100000
namespace Go.Mk
theorem trsE_of : ∀ {T : List Int}, (∀ t ∈ T, -2 ≤ t ∧ t ≤ 999999) → trsE T = 0
  | [], _ => rfl
  | x :: T, h => by
    have hx := h x List.mem_cons_self
    have h0 : rngE x (-2) 999999 = 0 := by unfold rngE; rw [if_neg (by omega)]
    rw [trsE, if_pos h0]
    exact trsE_of fun t ht => h t (List.mem_cons_of_mem _ ht)
theorem rowE_iff (P : List ByteArray) (r : RowR) : rowE P r = 0 ↔ nmE r.s = 0 ∧ r.s ∉ P ∧ trialsE r = 0 := by
  unfold rowE twE
  by_cases h1 : nmE r.s = 0
  · by_cases h2 : r.s ∈ P
    · have hi : isIn P r.s = true := isIn_mem.2 h2
      simp [fstN, h1, h2, hi]
    · have hi : isIn P r.s = false := by
        cases q : isIn P r.s with
        | false => rfl
        | true => exact absurd (isIn_mem.1 q) h2
      by_cases h3 : trialsE r = 0
      · simp [fstN, h1, h2, h3, hi]
      · simp [fstN, h1, h2, h3, hi]
  · simp [fstN, h1]
theorem rwsE_iff : ∀ (P : List ByteArray) (L : List RowR), rwsE P L = 0 ↔ (∀ r ∈ L, nmE r.s = 0 ∧ r.s ∉ P ∧ trialsE r = 0) ∧ (L.map (·.s)).Nodup
  | P, [] => by simp [rwsE]
  | P, r :: L => by
    have ih := rwsE_iff (P ++ [r.s]) L
    rw [rwsE]
    by_cases h0 : rowE P r = 0
    · rw [if_pos h0, ih, List.map_cons, List.nodup_cons]
      have h1 := (rowE_iff P r).1 h0
      constructor
      · rintro ⟨h2, h3⟩
        refine ⟨fun q hq => ?_, fun hm => ?_, h3⟩
        · rcases List.mem_cons.1 hq with rfl | hq
          · exact h1
          · obtain ⟨a, b, c⟩ := h2 q hq
            exact ⟨a, fun hm => b (List.mem_append_left _ hm), c⟩
        · obtain ⟨q, hq, e⟩ := List.mem_map.1 hm
          exact (h2 q hq).2.1 (List.mem_append_right _ (by rw [e]; exact List.mem_singleton.2 rfl))
      · rintro ⟨h2, h3, h4⟩
        refine ⟨fun q hq => ?_, h4⟩
        obtain ⟨a, b, c⟩ := h2 q (List.mem_cons_of_mem _ hq)
        refine ⟨a, fun hm => ?_, c⟩
        rcases List.mem_append.1 hm with hm | hm
        · exact b hm
        · exact h3 (by rw [← List.mem_singleton.1 hm]; exact List.mem_map_of_mem hq)
    · rw [if_neg h0]
      constructor
      · intro h; exact absurd h h0
      · rintro ⟨h2, _⟩
        exact absurd ((rowE_iff P r).2 (h2 r List.mem_cons_self)) h0
theorem rowsE_iff (L : List RowR) : rowsE L = 0 ↔ L.length ≤ 32 ∧ (∀ r ∈ L, nmE r.s = 0 ∧ trialsE r = 0) ∧ (L.map (·.s)).Nodup := by
  unfold rowsE
  by_cases h : 32 < L.length
  · rw [if_pos h]
    constructor
    · intro q; simp at q
    · rintro ⟨q, _⟩; omega
  · rw [if_neg h, rwsE_iff]
    simp
    omega
theorem rowsE_perm {L M : List RowR} (h : L.Perm M) (h0 : rowsE L = 0) : rowsE M = 0 := by
  rw [rowsE_iff] at *
  obtain ⟨h1, h2, h3⟩ := h0
  exact ⟨by rw [← h.length_eq]; exact h1, fun r hr => h2 r (h.mem_iff.2 hr), ((h.map (·.s)).nodup_iff).1 h3⟩
theorem plc_rank {L : List RowR} {i : Nat} {r : RowR} (hi : L[i]? = some r) : (plcOf L L.length i r).rk = (rkL (sersOf L) (serD r.T) : Nat) := by
  unfold plcOf
  dsimp only
  have h1 : (sersOf L).length = L.length := by unfold sersOf; rw [List.length_map]
  have h2 : (sersOf L).getD i [] = serD r.T := by
    unfold sersOf
    rw [List.getD_eq_getElem?_getD, List.getElem?_map, hi]
    rfl
  rw [← h2, ← rk_eq, h1]
end Go.Mk
end
section
set_option linter.unusedVariables false
set_option linter.unusedSimpArgs false
open Go Go.Proofs Go.RowKit
set_option maxRecDepth 100000
namespace Go.Mk
theorem names_set {L : List RowR} {k : Nat} {r r' : RowR} (hk : L[k]? = some r) (hs : r'.s = r.s) : (L.set k r').map (·.s) = L.map (·.s) := by
  rw [List.map_set, hs]
  apply List.ext_getElem?
  intro j
  rw [List.getElem?_set]
  split
  · rename_i e
    subst e
    split
    · rw [List.getElem?_map, hk]; rfl
    · rename_i h
      rw [List.getElem?_eq_none (by omega)]
  · rfl
theorem rowsE_set {L : List RowR} {k : Nat} {r r' : RowR} (hk : L[k]? = some r) (hs : r'.s = r.s) (ht : trialsE r' = 0) (h : rowsE L = 0) : rowsE (L.set k r') = 0 := by
  have hn := names_set hk hs
  rw [rowsE_iff] at *
  obtain ⟨h1, h2, h3⟩ := h
  refine ⟨by rw [List.length_set]; exact h1, fun q hq => ?_, by rw [hn]; exact h3⟩
  rcases List.mem_or_eq_of_mem_set hq with hq | rfl
  · exact h2 q hq
  · exact ⟨by rw [hs]; exact (h2 r (List.mem_of_getElem? hk)).1, ht⟩
theorem sers_at {L : List RowR} {k : Nat} {r : RowR} (hk : L[k]? = some r) : sersOf L = sersOf (L.take k) ++ serD r.T :: sersOf (L.drop (k + 1)) := by
  obtain ⟨h, rfl⟩ := List.getElem?_eq_some_iff.1 hk
  unfold sersOf
  have e : L = L.take k ++ L[k] :: L.drop (k + 1) := by rw [← List.drop_eq_getElem_cons h, List.take_append_drop]
  have e2 := congrArg (List.map fun r : RowR => serD r.T) e
  rw [List.map_append, List.map_cons] at e2
  exact e2
theorem sers_set {L : List RowR} {k : Nat} {r r' : RowR} (hk : L[k]? = some r) : sersOf (L.set k r') = sersOf (L.take k) ++ serD r'.T :: sersOf (L.drop (k + 1)) := by
  obtain ⟨h, e⟩ := List.getElem?_eq_some_iff.1 hk
  rw [List.set_eq_take_append_cons_drop, if_pos h]
  unfold sersOf
  rw [List.map_append, List.map_cons]
theorem rank_better {L : List RowR} {k : Nat} {r r' : RowR} (hk : L[k]? = some r) (h : leS (serD r.T) (serD r'.T)) (hb : serD r'.T ≠ []) :
    1 ≤ rkL (sersOf (L.set k r')) (serD r'.T) ∧ (serD r.T ≠ [] → rkL (sersOf (L.set k r')) (serD r'.T) ≤ rkL (sersOf L) (serD r.T)) := by
  rw [sers_set hk, sers_at hk]
  exact rkL_better h hb
theorem rank_other {L : List RowR} {k : Nat} {r r' : RowR} (hk : L[k]? = some r) (h : leS (serD r.T) (serD r'.T)) (l : List Int) :
    rkL (sersOf L) l ≤ rkL (sersOf (L.set k r')) l ∧ (rkL (sersOf L) l = 0 → rkL (sersOf (L.set k r')) l = 0) := by
  rw [sers_set hk, sers_at hk]
  exact rkL_other h l
theorem rank_order {L M : List RowR} (h : L.Perm M) (l : List Int) : rkL (sersOf L) l = rkL (sersOf M) l := rkL_perm (h.map _) l
end Go.Mk
end
section
set_option linter.unusedVariables false
set_option linter.unusedSimpArgs false
open Go Go.Proofs Go.RowKit
set_option maxRecDepth 100000
namespace Go.Mk
def newT (T : List Int) (b : Nat) : List Int := if T.length = 0 then [(b : Int)] else T.set (b % T.length) (min 999999 (max 0 (T.getD (b % T.length) 0) + (b : Int)))
theorem serD_ne {T : List Int} {t : Int} (h : t ∈ T) (h0 : 0 ≤ t) : serD T ≠ [] := fun e => by
  have hm : t ∈ T.filter fun t => decide (0 ≤ t) := List.mem_filter.2 ⟨h, by simpa using h0⟩
  have := (serD_perm T).mem_iff.2 hm
  rw [e] at this
  cases this
theorem newT_ok {T : List Int} {b : Nat} (hT : ∀ t ∈ T, -2 ≤ t ∧ t ≤ 999999) (hb : b ≤ 255) :
    (∀ t ∈ newT T b, -2 ≤ t ∧ t ≤ 999999) ∧ leS (serD T) (serD (newT T b)) ∧ serD (newT T b) ≠ [] ∧ (newT T b).length = (if T.length = 0 then 1 else T.length) := by
  unfold newT
  by_cases h0 : T.length = 0
  · rw [if_pos h0, if_pos h0]
    obtain rfl := List.length_eq_zero_iff.1 h0
    refine ⟨fun t ht => ?_, ?_, serD_ne (List.mem_singleton.2 rfl) (by omega), rfl⟩
    · rw [List.mem_singleton.1 ht]; omega
    · rw [show serD [] = [] by simp [serD]]; exact trivial
  · rw [if_neg h0, if_neg h0]
    have hj : b % T.length < T.length := Nat.mod_lt _ (by omega)
    generalize b % T.length = j at hj ⊢
    have hg : T.getD j 0 = T[j] := by rw [List.getD_eq_getElem?_getD, List.getElem?_eq_getElem hj]; rfl
    rw [hg]
    have ha := hT T[j] (List.getElem_mem hj)
    have e1 : T = T.take j ++ T[j] :: T.drop (j + 1) := by rw [← List.drop_eq_getElem_cons hj, List.take_append_drop]
    have e2 : T.set j (min 999999 (max 0 T[j] + (b : Int))) = T.take j ++ min 999999 (max 0 T[j] + (b : Int)) :: T.drop (j + 1) := by rw [List.set_eq_take_append_cons_drop, if_pos hj]
    refine ⟨fun t ht => ?_, ?_, ?_, by rw [List.length_set]⟩
    · rcases List.mem_or_eq_of_mem_set ht with ht | rfl
      · exact hT t ht
      · omega
    · have := serD_better (P := T.take j) (Q := T.drop (j + 1)) (a := T[j]) (b := min 999999 (max 0 T[j] + (b : Int))) (by omega) (by omega)
      rw [← e1, ← e2] at this
      exact this
    · rw [e2]
      exact serD_ne (List.mem_append_right _ List.mem_cons_self) (by omega)
theorem rkL_zero {S : List (List Int)} {l : List Int} (h : 0 < rkL S l) : l ≠ [] := fun e => by unfold rkL at h; rw [if_pos e] at h; omega
structure Asked (p q s : Plc) (x r : ByteArray) : Prop where
  same : p.rk = s.rk ∧ p.kd = s.kd ∧ p.vl = s.vl ∧ p.rs = s.rs
  own : x = r → 1 ≤ q.rk ∧ (0 < p.rk → q.rk ≤ p.rk)
  other : x ≠ r → (0 < p.rk → p.rk ≤ q.rk) ∧ (p.rk = 0 → q.rk = 0)
theorem places_asked {L : List RowR} {k : Nat} {r r' : RowR} (h : rowsE L = 0) (hk : L[k]? = some r) (hs : r'.s = r.s) (ht : trialsE r' = 0) (hle : leS (serD r.T) (serD r'.T)) (hb : serD r'.T ≠ []) {i : Nat} {x : RowR} (hi : L[i]? = some x) :
    ∃ p q s : Plc, plcBy (rankL L) x.s = some p ∧ plcBy (rankL (L.set k r')) x.s = some q ∧ plcBy (rankL L.reverse) x.s = some s ∧ Asked p q s x.s r.s ∧ 0 ≤ p.rk := by
  have hB := rowsE_set hk hs ht h
  have hR := rowsE_perm (List.reverse_perm L).symm h
  have hil := (List.getElem?_eq_some_iff.1 hi).1
  have hkl := (List.getElem?_eq_some_iff.1 hk).1
  have hsr : L.reverse[L.length - 1 - i]? = some x := by
    rw [List.getElem?_reverse (by omega), show L.length - 1 - (L.length - 1 - i) = i by omega]
    exact hi
  have ek := plc_rank hi
  have es := plc_rank hsr
  have er : rkL (sersOf L.reverse) (serD x.T) = rkL (sersOf L) (serD x.T) := (rank_order (List.reverse_perm L).symm _).symm
  rw [er] at es
  have hmk : (plcOf L L.length i x).rk = (plcOf L.reverse L.reverse.length (L.length - 1 - i) x).rk ∧ (plcOf L L.length i x).kd = (plcOf L.reverse L.reverse.length (L.length - 1 - i) x).kd ∧ (plcOf L L.length i x).vl = (plcOf L.reverse L.reverse.length (L.length - 1 - i) x).vl ∧ (plcOf L L.length i x).rs = (plcOf L.reverse L.reverse.length (L.length - 1 - i) x).rs := ⟨ek.trans es.symm, rfl, rfl, rfl⟩
  by_cases hx : i = k
  · subst hx
    obtain rfl : r = x := by rw [hk] at hi; exact Option.some.inj hi
    have hb1 : (L.set i r')[i]? = some r' := by rw [List.getElem?_set_self hil]
    have hq := placed_rank hB hb1
    rw [hs] at hq
    have eq := plc_rank hb1
    obtain ⟨b1, b2⟩ := rank_better hk hle hb
    refine ⟨_, _, _, placed_rank h hi, hq, placed_rank hR hsr, ⟨hmk, fun _ => ?_, fun hne => absurd rfl hne⟩, by rw [ek]; exact Int.natCast_nonneg _⟩
    rw [ek, eq]
    refine ⟨by omega, fun hp => ?_⟩
    have := b2 (rkL_zero (by omega : 0 < rkL (sersOf L) (serD r.T)))
    omega
  · have hb1 : (L.set k r')[i]? = some x := by rw [List.getElem?_set_ne (Ne.symm hx)]; exact hi
    have hq := placed_rank hB hb1
    have eq := plc_rank hb1
    obtain ⟨b1, b2⟩ := rank_other (r' := r') hk hle (serD x.T)
    have hnd : (L.map (·.s)).Nodup := ((rowsE_iff L).1 h).2.2
    have hne : x.s ≠ r.s := fun e => by
      have h1 : (L.map (·.s))[i]? = some x.s := by rw [List.getElem?_map, hi]; rfl
      have h2 : (L.map (·.s))[k]? = some r.s := by rw [List.getElem?_map, hk]; rfl
      rw [e] at h1
      obtain ⟨l1, m1⟩ := List.getElem?_eq_some_iff.1 h1
      obtain ⟨l2, m2⟩ := List.getElem?_eq_some_iff.1 h2
      exact hx ((List.getElem_inj hnd).1 (m1.trans m2.symm))
    refine ⟨_, _, _, placed_rank h hi, hq, placed_rank hR hsr, ⟨hmk, fun e => absurd e hne, fun _ => ?_⟩, by rw [ek]; exact Int.natCast_nonneg _⟩
    rw [ek, eq]
    refine ⟨fun _ => by omega, fun h0 => ?_⟩
    have := b2 (by omega)
    omega
def grT (g : Int) (T : List Int) : Int := T.foldl max g
def grL (g : Int) (L : List RowR) : Int := L.foldl (fun g r => grT g r.T) g
theorem grT_ge : ∀ (T : List Int) (g : Int), g ≤ grT g T ∧ (∀ t ∈ T, t ≤ grT g T) ∧ (grT g T = g ∨ grT g T ∈ T)
  | [], g => ⟨Int.le_refl _, fun t h => (by cases h), .inl rfl⟩
  | x :: T, g => by
    obtain ⟨h1, h2, h3⟩ := grT_ge T (max g x)
    have e : grT g (x :: T) = grT (max g x) T := rfl
    rw [e]
    refine ⟨by omega, fun t ht => ?_, ?_⟩
    · rcases List.mem_cons.1 ht with rfl | ht
      · omega
      · exact h2 t ht
    · rcases h3 with h3 | h3
      · rw [h3]
        by_cases q : g ≤ x
        · right; rw [show max g x = x by omega]; exact List.mem_cons_self
        · left; omega
      · exact .inr (List.mem_cons_of_mem _ h3)
theorem grL_ge : ∀ (L : List RowR) (g : Int), g ≤ grL g L ∧ (∀ r ∈ L, ∀ t ∈ r.T, t ≤ grL g L) ∧ (grL g L = g ∨ ∃ r ∈ L, grL g L ∈ r.T)
  | [], g => ⟨Int.le_refl _, fun r h => (by cases h), .inl rfl⟩
  | x :: L, g => by
    obtain ⟨h1, h2, h3⟩ := grL_ge L (grT g x.T)
    obtain ⟨k1, k2, k3⟩ := grT_ge x.T g
    have e : grL g (x :: L) = grL (grT g x.T) L := rfl
    rw [e]
    refine ⟨by omega, fun r hr t ht => ?_, ?_⟩
    · rcases List.mem_cons.1 hr with rfl | hr
      · have := k2 t ht; omega
      · exact h2 r hr t ht
    · rcases h3 with h3 | ⟨r, hr, h3⟩
      · rw [h3]
        rcases k3 with k3 | k3
        · exact .inl k3
        · exact .inr ⟨x, List.mem_cons_self, k3⟩
      · exact .inr ⟨r, List.mem_cons_of_mem _ hr, h3⟩
theorem leS_total : ∀ L M : List Int, leS L M ∨ leS M L
  | [], _ => .inl trivial
  | _ :: _, [] => .inr trivial
  | a :: l, b :: m => by
    unfold leS
    rcases leS_total l m with h | h
    · by_cases q : a < b
      · exact .inl (.inl q)
      · by_cases q2 : b < a
        · exact .inr (.inl q2)
        · exact .inl (.inr ⟨by omega, h⟩)
    · by_cases q : a < b
      · exact .inl (.inl q)
      · by_cases q2 : b < a
        · exact .inr (.inl q2)
        · exact .inr (.inr ⟨by omega, h⟩)
theorem leS_most : ∀ (S : List (List Int)), S ≠ [] → ∃ l ∈ S, ∀ u ∈ S, leS u l
  | [], h => absurd rfl h
  | x :: S, _ => by
    by_cases h0 : S = []
    · subst h0
      exact ⟨x, List.mem_cons_self, fun u hu => by rw [List.mem_singleton.1 hu]; exact leS_refl _⟩
    · obtain ⟨l, hl, hm⟩ := leS_most S h0
      rcases leS_total l x with h | h
      · exact ⟨x, List.mem_cons_self, fun u hu => by
          rcases List.mem_cons.1 hu with rfl | hu
          · exact leS_refl _
          · exact leS_trans (hm u hu) h⟩
      · exact ⟨l, List.mem_cons_of_mem _ hl, fun u hu => by
          rcases List.mem_cons.1 hu with rfl | hu
          · exact h
          · exact hm u hu⟩
theorem first_place {L : List RowR} (h0 : 0 ≤ grL (-1) L) : ∃ p, (rankL L)[0]? = some p ∧ p.rk = 1 ∧ p.vl = grL (-1) L := by
  obtain ⟨g1, g2, g3⟩ := grL_ge L (-1)
  obtain ⟨y, hy, hgy⟩ : ∃ r ∈ L, grL (-1) L ∈ r.T := by
    rcases g3 with g3 | g3
    · omega
    · exact g3
  have hyne := serD_ne hgy h0
  have hSne : sersOf L ≠ [] := fun e => by
    have : serD y.T ∈ sersOf L := List.mem_map_of_mem hy
    rw [e] at this; cases this
  obtain ⟨l, hl, hm⟩ := leS_most (sersOf L) hSne
  have hlne : l ≠ [] := fun e => by
    have := hm (serD y.T) (List.mem_map_of_mem hy)
    rw [e] at this
    cases hc : serD y.T with
    | nil => exact hyne hc
    | cons a b => rw [hc] at this; exact this
  have hl1 := rkL_first hlne hm
  have hLpos : 0 < L.length := List.length_pos_of_mem hy
  -- a place with the rank 1
  obtain ⟨z, hz, rfl⟩ : ∃ z ∈ L, serD z.T = l := by
    obtain ⟨z, hz, e⟩ := List.mem_map.1 hl
    exact ⟨z, hz, e⟩
  obtain ⟨iz, hiz⟩ := List.mem_iff_getElem?.1 hz
  have hz1 := plc_rank hiz
  rw [hl1] at hz1
  have hpz : plcOf L L.length iz z ∈ plcsOf L := List.mem_of_getElem? (plcs_at hiz)
  obtain ⟨p, F, hF⟩ : ∃ p F, (plcsOf L).filter (fun p => decide (bhd L.length p = ((0 : Nat) : Int) + 1)) = p :: F := by
    cases hc : (plcsOf L).filter (fun p => decide (bhd L.length p = ((0 : Nat) : Int) + 1)) with
    | nil =>
      exfalso
      have : plcOf L L.length iz z ∈ (plcsOf L).filter (fun p => decide (bhd L.length p = ((0 : Nat) : Int) + 1)) := List.mem_filter.2 ⟨hpz, by
        rw [decide_eq_true_eq]; unfold bhd; rw [hz1]; simp⟩
      rw [hc] at this; cases this
    | cons p F => exact ⟨p, F, rfl⟩
  have hpm : p ∈ (plcsOf L).filter (fun p => decide (bhd L.length p = ((0 : Nat) : Int) + 1)) := by rw [hF]; exact List.mem_cons_self
  obtain ⟨hp1, hp2⟩ := List.mem_filter.1 hpm
  rw [decide_eq_true_eq] at hp2
  have hprk : p.rk = 1 := by
    unfold bhd at hp2
    split at hp2
    · omega
    · omega
  refine ⟨p, ?_, hprk, ?_⟩
  · unfold rankL arrL
    rw [List.range_succ_eq_map, List.flatMap_cons, hF]
    rfl
  · obtain ⟨j, hj⟩ := List.mem_iff_getElem?.1 hp1
    have hjl := (List.getElem?_eq_some_iff.1 hj).1
    rw [plcs_len] at hjl
    obtain ⟨x, hx⟩ : ∃ x, L[j]? = some x := ⟨_, List.getElem?_eq_getElem hjl⟩
    rw [plcs_at hx] at hj
    obtain rfl := Option.some.inj hj
    have hrx := plc_rank hx
    rw [hprk] at hrx
    have hxne := rkL_zero (S := sersOf L) (l := serD x.T) (by omega)
    have hall : ∀ u ∈ sersOf L, leS u (serD x.T) := by
      have hr1 : rkL (sersOf L) (serD x.T) = 1 := by omega
      unfold rkL at hr1
      rw [if_neg hxne] at hr1
      have hc : (sersOf L).countP (fun u => decide (0 < cmpL u (serD x.T))) = 0 := by omega
      rw [List.countP_eq_zero] at hc
      intro u hu
      have := hc u hu
      rw [decide_eq_true_eq, cmpL_pos] at this
      exact Classical.not_not.1 this
    have hv : (plcOf L L.length j x).vl = (mkOf x).2.1 := rfl
    rw [hv]
    unfold mkOf
    cases hc : serD x.T with
    | nil => exact absurd hc hxne
    | cons a b =>
      dsimp only
      have ha : a ∈ x.T := by
        have : a ∈ serD x.T := by rw [hc]; exact List.mem_cons_self
        exact (List.mem_filter.1 ((serD_perm x.T).mem_iff.1 this)).1
      have h1 := g2 x (List.mem_of_getElem? hx) a ha
      have h2 := hall (serD y.T) (List.mem_map_of_mem hy)
      rw [hc] at h2
      have hgm : grL (-1) L ∈ serD y.T := (serD_perm y.T).mem_iff.2 (List.mem_filter.2 ⟨hgy, by simpa using h0⟩)
      have hpw := serD_pw y.T
      cases hcy : serD y.T with
      | nil => exact absurd hcy hyne
      | cons c d =>
        rw [hcy] at h2 hgm hpw
        have hcg : grL (-1) L ≤ c := by
          rcases List.mem_cons.1 hgm with e | e
          · omega
          · exact (List.pairwise_cons.1 hpw).1 _ e
        rcases h2 with h2 | ⟨h2, _⟩
        · omega
        · omega
end Go.Mk
end
