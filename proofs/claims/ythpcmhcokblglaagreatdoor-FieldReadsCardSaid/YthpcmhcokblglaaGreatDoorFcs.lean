/-
  Proved: the reference's card of a text is the program's, and its error. Condition: none.
-/
import Derived.Test.YthpcmhcokblglaaGreatDoorFcr
set_option linter.unusedVariables false
set_option linter.unusedSimpArgs false
open Go Go.Proofs Go.RowKit
namespace Go.Mk
theorem splitGo_free (c : UInt8) : ∀ (l cur : List UInt8), c ∉ cur → ∀ t ∈ splitGo c cur l, c ∉ t
  | [], cur, h, t, ht => by
    rw [splitGo, List.mem_singleton] at ht
    rw [ht]; exact h
  | x :: l, cur, h, t, ht => by
    rw [splitGo] at ht
    by_cases q : x = c
    · rw [if_pos q, List.mem_cons] at ht
      rcases ht with rfl | ht
      · exact h
      · exact splitGo_free c l [] (by simp) t ht
    · rw [if_neg q] at ht
      refine splitGo_free c l (cur ++ [x]) ?_ t ht
      rw [List.mem_append, List.mem_singleton]
      rintro (r | r)
      · exact h r
      · exact q r.symm
theorem splitGo_sub (c : UInt8) : ∀ (l cur : List UInt8), ∀ t ∈ splitGo c cur l, ∀ x ∈ t, x ∈ cur ∨ x ∈ l
  | [], cur, t, ht, x, hx => by
    rw [splitGo, List.mem_singleton] at ht
    rw [ht] at hx; exact .inl hx
  | y :: l, cur, t, ht, x, hx => by
    rw [splitGo] at ht
    by_cases q : y = c
    · rw [if_pos q, List.mem_cons] at ht
      rcases ht with rfl | ht
      · exact .inl hx
      · rcases splitGo_sub c l [] t ht x hx with r | r
        · simp at r
        · exact .inr (List.mem_cons_of_mem _ r)
    · rw [if_neg q] at ht
      rcases splitGo_sub c l (cur ++ [y]) t ht x hx with r | r
      · rw [List.mem_append, List.mem_singleton] at r
        rcases r with r | r
        · exact .inl r
        · exact .inr (by rw [r]; exact List.mem_cons_self ..)
      · exact .inr (List.mem_cons_of_mem _ r)
theorem splitGo_one (c : UInt8) : ∀ (l cur : List UInt8), ∃ h b, splitGo c [] l = h :: b ∧ splitGo c cur l = (cur ++ h) :: b
  | [], cur => ⟨[], [], rfl, by rw [splitGo, List.append_nil]⟩
  | x :: l, cur => by
    by_cases q : x = c
    · exact ⟨[], splitGo c [] l, by rw [splitGo, if_pos q], by rw [splitGo, if_pos q, List.append_nil]⟩
    · obtain ⟨h, b, e1, e2⟩ := splitGo_one c l (cur ++ [x])
      obtain ⟨h', b', e3, e4⟩ := splitGo_one c l [x]
      rw [e1] at e3
      injection e3 with e5 e6
      refine ⟨x :: h, b, ?_, ?_⟩
      · rw [splitGo, if_neg q, List.nil_append, e4, e5, e6]; rfl
      · rw [splitGo, if_neg q, e2, List.append_assoc]; rfl
theorem splitGo_run (c : UInt8) : ∀ (x z cur : List UInt8), c ∉ x → splitGo c cur (x ++ z) = splitGo c (cur ++ x) z
  | [], z, cur, _ => by rw [List.nil_append, List.append_nil]
  | a :: x, z, cur, h => by
    have h1 : a ≠ c := fun e => h (by rw [e]; exact List.mem_cons_self ..)
    rw [List.cons_append, splitGo, if_neg h1, splitGo_run c x z _ (fun e => h (List.mem_cons_of_mem _ e)), List.append_assoc]; rfl
theorem splitGo_hit (c : UInt8) : ∀ (x z cur : List UInt8), c ∈ x → ∃ h b, splitGo c cur (x ++ z) = (cur ++ h) :: b ∧ ∀ t ∈ h, t ∈ x
  | [], z, cur, h => by simp at h
  | a :: x, z, cur, h => by
    by_cases q : a = c
    · exact ⟨[], _, by rw [List.cons_append, splitGo, if_pos q, List.append_nil], by simp⟩
    · obtain ⟨h1, b, e, hs⟩ := splitGo_hit c x z (cur ++ [a]) (by
        rcases List.mem_cons.1 h with r | r
        · exact absurd r.symm q
        · exact r)
      refine ⟨a :: h1, b, by rw [List.cons_append, splitGo, if_neg q, e, List.append_assoc]; rfl, fun t ht => ?_⟩
      rcases List.mem_cons.1 ht with r | r
      · rw [r]; exact List.mem_cons_self ..
      · exact List.mem_cons_of_mem _ (hs t r)
theorem plW_good {t : List UInt8} (h : (32 : UInt8) ∉ t) : plW t = goodW t := by
  unfold plW goodW hasSep
  cases t with
  | nil => rfl
  | cons a t =>
    have : ∀ l : List UInt8, (32 : UInt8) ∉ l → (l.all fun c => !(decide (c = 58) || decide (c = 124))) = !(l.any fun c => [32, 58, 124].contains c) := by
      intro l
      induction l with
      | nil => intro _; rfl
      | cons b l ih =>
        intro hb
        have h1 : b ≠ 32 := fun e => hb (by rw [e]; exact List.mem_cons_self ..)
        rw [List.all_cons, List.any_cons, ih (fun e => hb (List.mem_cons_of_mem _ e))]
        have : [32, 58, 124].contains b = (decide (b = 58) || decide (b = 124)) := by
          rw [Bool.eq_iff_iff]
          simp [h1]
        rw [this]
        cases (decide (b = 58) || decide (b = 124)) <;> simp
    rw [this _ h, decide_eq_false (p := a :: t = []) (by simp), decide_eq_true (p := 0 < (a :: t).length) (by simp), Bool.and_true, Bool.false_or]
theorem plW_bar : plW [124] = false := by decide
theorem goO_all : ∀ (l Hs Os : List (List UInt8)), goO Hs Os l = if l.all plW then some (Hs, Os ++ l) else none
  | [], Hs, Os => by rw [goO, List.append_nil]; rfl
  | t :: l, Hs, Os => by
    rw [goO]
    by_cases ht : t = [124]
    · rw [if_pos ht, ht, List.all_cons, plW_bar]; rfl
    · rw [if_neg ht, List.all_cons, goO_all l, List.append_assoc]
      cases plW t <;> rfl
theorem goH_ix : ∀ (l Hs : List (List UInt8)), goH Hs l = match barIx l with
    | none => if l.all plW then some (Hs ++ l, []) else none
    | some p => if p.2 = [] then none else if p.1.all plW && p.2.all plW then some (Hs ++ p.1, p.2) else none
  | [], Hs => by rw [goH, barIx, List.append_nil]; rfl
  | t :: l, Hs => by
    rw [goH, barIx]
    by_cases ht : t = [124]
    · rw [if_pos ht, if_pos ht]
      dsimp only
      by_cases hl : l = []
      · rw [if_pos hl, if_pos hl]
      · rw [if_neg hl, if_neg hl, goO_all, List.append_nil, List.nil_append]; rfl
    · rw [if_neg ht, if_neg ht, goH_ix l]
      cases hb : barIx l with
      | none =>
        dsimp only [Option.map]
        rw [List.all_cons, List.append_assoc]
        cases plW t <;> rfl
      | some p =>
        dsimp only [Option.map]
        rw [List.all_cons, List.append_assoc]
        cases plW t
        · simp
        · rfl
theorem lastB_mem {l : List UInt8} (h : lastB l = 58) : (58 : UInt8) ∈ l := by
  unfold lastB at h
  cases q : l.getLast? with
  | none => rw [q] at h; exact absurd h (by decide)
  | some c =>
    rw [q] at h
    obtain rfl : c = 58 := h
    exact List.mem_of_getLast? q
theorem all_good {L : List (List UInt8)} (h : ∀ t ∈ L, (32 : UInt8) ∉ t) : L.all plW = L.all goodW := by
  induction L with
  | nil => rfl
  | cons t L ih => rw [List.all_cons, List.all_cons, plW_good (h t (List.mem_cons_self ..)), ih (fun x hx => h x (List.mem_cons_of_mem _ hx))]
theorem refB (x : List UInt8) (b : List (List UInt8)) (hx : (32 : UInt8) ∉ x) (hb : ∀ t ∈ b, (32 : UInt8) ∉ t) :
    refW (x ++ [58]) b = match readB x b with | none => (noCard, 25) | some c => if frmE (mkB c.1) c.2.1 c.2.2.1 = 0 then (c, 0) else (noCard, frmE (mkB c.1) c.2.1 c.2.2.1) := by
  have hd : (x ++ [58]).dropLast = x := List.dropLast_concat
  have hla : lastB (x ++ [58]) = 58 := by unfold lastB; simp
  have hp := plW_good hx
  unfold refW readB
  rw [hd, hla, hp, goH_ix, List.nil_append]
  by_cases hg : goodW x = true
  · have hne : x ≠ [] := fun e => by rw [e] at hg; exact absurd hg (by decide)
    have hlen : 0 < x.length := List.length_pos_iff.2 hne
    rw [if_neg (by rw [hg, List.length_append]; simp; omega), hg]
    cases hi : barIx (dropRet b) with
    | none =>
      dsimp only
      rw [all_good (fun t ht => hb t (dropRet_sub ht))]
      cases (dropRet b).all goodW <;> rfl
    | some p =>
      dsimp only
      by_cases h2 : p.2 = []
      · rw [if_pos h2, if_pos h2]
      · have e := barIx_eq (H := p.1) (O := p.2) (L := dropRet b) (by rw [hi])
        have hs : ∀ t ∈ dropRet b, (32 : UInt8) ∉ t := fun t ht => hb t (dropRet_sub ht)
        rw [e] at hs
        rw [if_neg h2, if_neg h2, all_good (L := p.1) (fun t ht => hs t (List.mem_append_left _ ht)), all_good (L := p.2) (fun t ht => hs t (List.mem_append_right _ (List.mem_cons_of_mem _ ht)))]
        cases (p.1.all goodW && p.2.all goodW)
        · rfl
        · rw [List.nil_append]; rfl
  · have hg' : goodW x = false := by simpa using hg
    rw [if_pos (.inr (.inr hg')), hg']
    cases hi : barIx (dropRet b) with
    | none => rfl
    | some p =>
      dsimp only
      by_cases h2 : p.2 = []
      · rw [if_pos h2]
      · rw [if_neg h2]; rfl
theorem refV_parV (l : List UInt8) : refV l = parV l := by
  unfold parV
  by_cases hl : 4096 < l.length
  · unfold refV; rw [if_pos hl, if_pos hl]
  rw [if_neg hl]
  cases hc : cutC l with
  | none =>
    have hn := cutC_none hc
    rw [show readP l = none from by unfold readP; rw [hc]]
    unfold refV
    rw [if_neg hl]
    cases hs : splitS l with
    | nil => rfl
    | cons w0 b =>
      dsimp only
      unfold refW
      refine if_pos (.inr (.inl fun e => ?_))
      have := splitGo_sub 32 l [] w0 (by rw [show splitGo 32 [] l = w0 :: b from hs]; exact List.mem_cons_self ..) 58 (lastB_mem e)
      rcases this with r | r
      · simp at r
      · exact hn r
  | some p =>
    obtain ⟨x, y⟩ := p
    have ⟨hxy, h58⟩ := cutC_some hc
    rw [readP_some hc]
    by_cases h32 : (32 : UInt8) ∈ x
    · obtain ⟨h, b, e, hs⟩ := splitGo_hit 32 x (58 :: y) [] h32
      have hgx : goodW x = false := by
        unfold goodW hasSep
        rw [show (x.any fun c => [32, 58, 124].contains c) = true from List.any_eq_true.2 ⟨32, h32, by decide⟩, Bool.or_true]; rfl
      rw [refV_some hl (w0 := h) (b := b) (by rw [hxy]; exact e)]
      unfold refW
      rw [if_pos (.inr (.inl fun e => h58 (hs _ (lastB_mem e))))]
      have hr : readW x (splitS y) = none := by
        unfold readW
        cases splitS y with
        | nil => rfl
        | cons a b =>
          dsimp only
          by_cases ha : a = []
          · rw [if_pos ha]
            unfold readB
            rw [hgx]
            cases barIx (dropRet b) with
            | none => rfl
            | some p =>
              dsimp only
              by_cases h2 : p.2 = []
              · rw [if_pos h2]
              · rw [if_neg h2]; rfl
          · rw [if_neg ha]
      rw [hr]
    · obtain ⟨h, b, e1, e2⟩ := splitGo_one 32 y (x ++ [58])
      have hsp : splitS l = (x ++ [58] ++ h) :: b := by
        rw [hxy]
        show splitGo 32 [] (x ++ 58 :: y) = _
        rw [splitGo_run 32 x _ _ h32, splitGo, if_neg (by decide), List.nil_append, e2]
      rw [refV_some hl hsp, show splitS y = h :: b from e1]
      unfold readW
      dsimp only
      by_cases hh : h = []
      · rw [if_pos hh, hh, List.append_nil]
        refine refB x b h32 (fun t ht => ?_)
        exact splitGo_free 32 y [] (by simp) t (by rw [e1]; exact List.mem_cons_of_mem _ ht)
      · rw [if_neg hh]
        unfold refW
        refine if_pos (.inr (.inr ?_))
        rw [List.dropLast_append_of_ne_nil hh]
        have hz : ((x ++ [58] ++ h.dropLast).all fun c => !(decide (c = 58) || decide (c = 124))) = false := by
          rw [List.all_eq_false]
          exact ⟨58, by simp, by decide⟩
        unfold plW
        rw [hz]; rfl
end Go.Mk
