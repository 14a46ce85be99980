/-
  Proved: the text of a card that meets the form is read as this card; a text that is read is the text of its card. Condition: none beyond the form.
-/
import Derived.Test.YthpcmhcokblglaaGreatDoorFcs
import Derived.Test.YthpcmhcokblglaaGreatDoorFcp
set_option linter.unusedVariables false
set_option linter.unusedSimpArgs false
open Go Go.Proofs Go.RowKit
namespace Go.Mk
/-- No byte of a name is a separator. -/
theorem charOk_free {k : Nat} {c : UInt8} (h : charOk k (c.toNat : Int) = true) : c ≠ 32 ∧ c ≠ 58 ∧ c ≠ 124 := by
  simp only [charOk, letterZ, Bool.or_eq_true, Bool.and_eq_true, decide_eq_true_eq, Bool.not_eq_true', decide_eq_false_iff_not] at h
  refine ⟨fun e => ?_, fun e => ?_, fun e => ?_⟩ <;> subst e
  · have : ((32 : UInt8).toNat : Int) = 32 := rfl
    omega
  · have : ((58 : UInt8).toNat : Int) = 58 := rfl
    omega
  · have : ((124 : UInt8).toNat : Int) = 124 := rfl
    omega
theorem chars_free (s : ByteArray) : ∀ (m k : Nat), s.size - k = m → charsOk s k = true → ∀ j (hj : j < s.size), k ≤ j → s[j] ≠ 32 ∧ s[j] ≠ 58 ∧ s[j] ≠ 124
  | 0, k, hm, h, j, hj, hk => by omega
  | m + 1, k, hm, h, j, hj, hk => by
    have hks : k < s.size := by omega
    rw [charsOk_at s k hks, Bool.and_eq_true] at h
    by_cases q : k = j
    · subst q; exact charOk_free h.1
    · exact chars_free s m (k + 1) (by omega) h.2 j hj (by omega)
theorem isNm_free {s : ByteArray} (h : isNm s = true) : bl s ≠ [] ∧ ∀ c ∈ bl s, c ≠ 32 ∧ c ≠ 58 ∧ c ≠ 124 := by
  unfold isNm at h
  simp only [Bool.and_eq_true, decide_eq_true_eq] at h
  refine ⟨fun e => ?_, fun c hc => ?_⟩
  · have := bl_len s
    rw [e] at this
    have h0 : (0 : Nat) = s.size := this
    omega
  · obtain ⟨j, hj, rfl⟩ := List.mem_iff_getElem.1 hc
    have hj' : j < s.size := by rw [← bl_len]; exact hj
    exact chars_free s _ 0 rfl h.2 j hj' (Nat.zero_le _)
theorem free_good {l : List UInt8} (h0 : l ≠ []) (h : ∀ c ∈ l, c ≠ 32 ∧ c ≠ 58 ∧ c ≠ 124) : goodW l = true := by
  unfold goodW hasSep
  rw [decide_eq_false h0, Bool.false_or, Bool.not_eq_true', Bool.eq_false_iff]
  intro q
  obtain ⟨c, hc, hq⟩ := List.any_eq_true.1 q
  obtain ⟨h1, h2, h3⟩ := h c hc
  simp [h1, h2, h3] at hq
theorem okAt_free {l : List UInt8} (h : ∀ k, k < l.length → okAt l k) : ∀ c ∈ l, c ≠ 32 ∧ c ≠ 58 ∧ c ≠ 124 := by
  intro c hc
  obtain ⟨k, hk, rfl⟩ := List.mem_iff_getElem.1 hc
  have e : l[k]? = some l[k] := List.getElem?_eq_getElem hk
  rcases h k hk with q | ⟨_, q | q⟩ <;> (rw [e] at q; rw [Option.some.inj q]; decide)
theorem ht_free {t : List UInt8} (h : htE t = 0) : t ≠ [] ∧ t.length ≤ 3 ∧ ∀ c ∈ t, c ≠ 32 ∧ c ≠ 58 ∧ c ≠ 124 := by
  obtain ⟨h1, h2, h3⟩ := (htE_zero t).1 h
  exact ⟨fun e => by rw [e] at h1; exact absurd h1 (by decide), h2, okAt_free h3⟩
theorem of_free {t : List UInt8} (h : ofE t = 0) : t ≠ [] ∧ t.length ≤ 3 ∧ ∀ c ∈ t, c ≠ 32 ∧ c ≠ 58 ∧ c ≠ 124 := by
  unfold ofE at h
  split at h
  · rename_i q
    rcases q with rfl | rfl <;> exact ⟨by decide, by decide, by decide⟩
  · cases h
/-- What the form says of the words. -/
theorem frm_words {s : ByteArray} {H O : List (List UInt8)} (h : frmE s H O = 0) : isNm s = true ∧ (∀ t ∈ H, htE t = 0) ∧ ∀ t ∈ O, ofE t = 0 := by
  unfold frmE at h
  generalize (if 24 < H.length ∨ 24 < O.length then (5 : Int) else 0) = e at h
  by_cases q : fstN [nmE s, e] = 0
  · rw [if_neg (fun z => z q)] at h
    have q' := q
    simp only [fstN] at q' h
    refine ⟨?_, ?_, ?_⟩
    · by_cases z : nmE s = 0
      · unfold nmE at z
        split at z
        · assumption
        · cases z
      · rw [if_neg z] at q'; exact absurd q' z
    · by_cases z : fstT htE H = 0
      · exact fstT_all htE z
      · rw [if_neg z] at h; exact absurd h z
    · by_cases z : fstT htE H = 0
      · rw [if_pos z] at h
        by_cases z2 : fstT ofE O = 0
        · exact fstT_all ofE z2
        · rw [if_neg z2] at h; exact absurd h z2
      · rw [if_neg z] at h; exact absurd h z
  · rw [if_pos q] at h; exact absurd h q
/-- The words behind the name. -/
def tailW (H O : List (List UInt8)) (rt : Bool) : List (List UInt8) := H ++ ((if O = [] then [] else [124] :: O) ++ if rt then [retL] else [])
theorem prL_tail (s : List UInt8) (H O : List (List UInt8)) (rt : Bool) : prL s H O rt = s ++ 58 :: jT (tailW H O rt) := by
  unfold prL tailW
  rw [jT_append, jT_append]
  congr 4
  · split
    · rfl
    · rw [jT_cons]; rfl
  · cases rt
    · rfl
    · rfl
theorem split_jT : ∀ (L : List (List UInt8)) (t : List UInt8), (∀ u ∈ L, (32 : UInt8) ∉ u) → splitGo 32 t (jT L) = t :: L
  | [], t, _ => rfl
  | u :: L, t, h => by
    rw [jT_cons, splitGo, if_pos rfl, splitGo_run 32 u _ _ (h u (List.mem_cons_self ..)), List.nil_append, split_jT L u (fun x hx => h x (List.mem_cons_of_mem _ hx))]
theorem jT_split : ∀ (l cur : List UInt8), ∃ h b, splitGo 32 cur l = h :: b ∧ cur ++ l = h ++ jT b
  | [], cur => ⟨cur, [], rfl, rfl⟩
  | x :: l, cur => by
    by_cases q : x = 32
    · obtain ⟨h, b, e, e2⟩ := jT_split l []
      refine ⟨cur, h :: b, by rw [splitGo, if_pos q, e], ?_⟩
      rw [jT_cons, ← e2, q]; rfl
    · obtain ⟨h, b, e, e2⟩ := jT_split l (cur ++ [x])
      exact ⟨h, b, by rw [splitGo, if_neg q, e], by rw [← e2, List.append_assoc]; rfl⟩
theorem cutC_at {s y : List UInt8} (h : (58 : UInt8) ∉ s) : cutC (s ++ 58 :: y) = some (s, y) := by
  induction s with
  | nil => rfl
  | cons a s ih =>
    have h1 : a ≠ 58 := fun e => h (by rw [e]; exact List.mem_cons_self ..)
    rw [List.cons_append, cutC, if_neg h1, ih (fun e => h (List.mem_cons_of_mem _ e))]; rfl
theorem drop_tail {H O : List (List UInt8)} {rt : Bool} (h1 : ∀ t ∈ H, t ≠ retL) (h2 : ∀ t ∈ O, t ≠ retL) : dropRet (tailW H O rt) = H ++ (if O = [] then [] else [124] :: O) ∧ decide ((tailW H O rt).getLast? = some retL) = rt := by
  unfold dropRet tailW
  cases rt with
  | true =>
    rw [if_pos rfl, ← List.append_assoc, List.getLast?_concat, if_pos rfl, List.dropLast_concat]
    exact ⟨rfl, rfl⟩
  | false =>
    have hn : ¬ (H ++ ((if O = [] then [] else [124] :: O) ++ if false = true then [retL] else [])).getLast? = some retL := by
      intro q
      have hm := List.mem_of_getLast? q
      rw [List.mem_append, List.mem_append] at hm
      rcases hm with m | m | m
      · exact h1 _ m rfl
      · split at m
        · cases m
        · rcases List.mem_cons.1 m with z | z
          · exact absurd z (by decide)
          · exact h2 _ z rfl
      · simp at m
    rw [if_neg hn, decide_eq_false hn]
    simp
/-- The text of a card is read as this card. -/
theorem read_print {s : ByteArray} {H O : List (List UInt8)} (rt : Bool) (h : frmE s H O = 0) (hl : (prL (bl s) H O rt).length ≤ 4096) : parV (prL (bl s) H O rt) = ((bl s, H, O, rt), 0) := by
  obtain ⟨hn, hH, hO⟩ := frm_words h
  obtain ⟨n0, nf⟩ := isNm_free hn
  have f1 : ∀ t ∈ H, t ≠ retL := fun t ht e => by have := (ht_free (hH t ht)).2.1; rw [e] at this; exact absurd this (by decide)
  have f2 : ∀ t ∈ O, t ≠ retL := fun t ht e => by have := (of_free (hO t ht)).2.1; rw [e] at this; exact absurd this (by decide)
  have g1 : ∀ t ∈ H, goodW t = true := fun t ht => free_good (ht_free (hH t ht)).1 (ht_free (hH t ht)).2.2
  have g2 : ∀ t ∈ O, goodW t = true := fun t ht => free_good (of_free (hO t ht)).1 (of_free (hO t ht)).2.2
  have b1 : ∀ t ∈ H, t ≠ [124] := fun t ht e => ((ht_free (hH t ht)).2.2 124 (by rw [e]; exact List.mem_cons_self ..)).2.2 rfl
  have hw : ∀ u ∈ tailW H O rt, (32 : UInt8) ∉ u := by
    intro u hu q
    unfold tailW at hu
    rw [List.mem_append, List.mem_append] at hu
    rcases hu with m | m | m
    · exact ((ht_free (hH u m)).2.2 32 q).1 rfl
    · split at m
      · cases m
      · rcases List.mem_cons.1 m with z | z
        · rw [z] at q; exact absurd q (by decide)
        · exact ((of_free (hO u z)).2.2 32 q).1 rfl
    · cases rt with
      | true =>
        have : u = retL := by simpa using m
        rw [this] at q; exact absurd q (by decide)
      | false => simp at m
  obtain ⟨d1, d2⟩ := drop_tail (rt := rt) f1 f2
  have hgn : goodW (bl s) = true := free_good n0 nf
  have hrd : readP (prL (bl s) H O rt) = some (bl s, H, O, rt) := by
    rw [prL_tail, readP_some (cutC_at (fun q => (nf 58 q).2.1 rfl)), show splitS (jT (tailW H O rt)) = [] :: tailW H O rt from split_jT _ [] hw]
    unfold readW
    dsimp only
    rw [if_pos rfl]
    unfold readB
    rw [d1, d2, hgn]
    by_cases ho : O = []
    · rw [if_pos ho, List.append_nil, barIx_none (fun q => b1 _ q rfl)]
      dsimp only
      rw [List.all_eq_true.2 g1, ho]; rfl
    · rw [if_neg ho, barIx_some (fun q => b1 _ q rfl)]
      dsimp only
      rw [if_neg ho, List.all_eq_true.2 g1, List.all_eq_true.2 g2]; rfl
  unfold parV
  rw [if_neg (by omega), hrd]
  dsimp only
  rw [mkB_bl, if_pos h]
/-- A text that is read is the text of its card. -/
theorem print_read {l : List UInt8} {c : CardP} (h : readP l = some c) : prL c.1 c.2.1 c.2.2.1 c.2.2.2 = l := by
  rw [prL_tail]
  unfold readP at h
  cases hc : cutC l with
  | none => rw [hc] at h; cases h
  | some p =>
    obtain ⟨x, y⟩ := p
    rw [hc] at h
    have he := (cutC_some hc).1
    have h' : readW x (splitS y) = some c := h
    obtain ⟨h0, b, e1, e2⟩ := jT_split y []
    rw [show splitS y = h0 :: b from e1] at h'
    unfold readW at h'
    dsimp only at h'
    by_cases hh : h0 = []
    · rw [if_pos hh] at h'
      rw [hh, List.nil_append, List.nil_append] at e2
      have hb : b = dropRet b ++ (if decide (b.getLast? = some retL) = true then [retL] else []) := by
        unfold dropRet
        by_cases q : b.getLast? = some retL
        · rw [if_pos q, decide_eq_true q, if_pos rfl]
          have hne : b ≠ [] := fun e => by rw [e] at q; cases q
          rw [List.getLast?_eq_some_getLast hne] at q
          rw [← Option.some.inj q]
          exact (List.dropLast_concat_getLast hne).symm
        · rw [if_neg q, decide_eq_false q]; simp
      unfold readB at h'
      have key : c.1 = x ∧ tailW c.2.1 c.2.2.1 c.2.2.2 = b := by
        cases hi : barIx (dropRet b) with
        | none =>
          rw [hi] at h'
          dsimp only at h'
          split at h'
          · obtain rfl := Option.some.inj h'
            refine ⟨rfl, ?_⟩
            unfold tailW
            rw [if_pos rfl, List.nil_append]
            exact hb.symm
          · cases h'
        | some p =>
          rw [hi] at h'
          dsimp only at h'
          split at h'
          · cases h'
          · rename_i hp
            split at h'
            · obtain rfl := Option.some.inj h'
              refine ⟨rfl, ?_⟩
              unfold tailW
              rw [if_neg hp, ← List.append_assoc, ← barIx_eq (L := dropRet b) (H := p.1) (O := p.2) hi]
              exact hb.symm
            · cases h'
      rw [key.1, key.2, ← e2]
      exact he.symm
    · rw [if_neg hh] at h'; cases h'
end Go.Mk
