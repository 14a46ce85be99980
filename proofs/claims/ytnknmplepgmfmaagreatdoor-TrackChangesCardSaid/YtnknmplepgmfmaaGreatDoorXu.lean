/-
  Proved: plain facts on the teams that the law TrackChanges makes: which of them are permitted, and who their members are. No condition.
-/
import Derived.Test.YtnknmplepgmfmaaGreatDoorXo
set_option linter.unusedVariables false
set_option linter.unusedSimpArgs false
open Go Go.Proofs Go.RowKit Go.Maps Go.Sort Go.WideMaps
set_option maxRecDepth 100000
namespace Go.Mk
def NM : List ByteArray := [⟨#[97]⟩, ⟨#[98]⟩, ⟨#[99]⟩, ⟨#[100]⟩, ⟨#[101]⟩, ⟨#[102]⟩, ⟨#[103]⟩, ⟨#[104]⟩]
def s1 : ByteArray := ⟨#[115, 49]⟩
def s2 : ByteArray := ⟨#[115, 50]⟩
def s3 : ByteArray := ⟨#[115, 51]⟩
def whoB : ByteArray := ⟨#[119, 104, 111]⟩
def RS : List ByteArray := [s1, s2, s3]
theorem isNm1 (b : UInt8) (h : letterZ (b.toNat : Int) = true) : isNm ⟨#[b]⟩ = true := by
  unfold isNm
  rw [charsOk_at _ 0 (by show 0 < 1; omega), charsOk_end _ 1 (by show ¬ 1 < 1; omega)]
  change (decide (1 ≤ 1) && decide (1 ≤ 24) && ((letterZ (b.toNat : Int) || (!decide (0 = 0) && (decide ((b.toNat : Int) = 95) || (decide (48 ≤ (b.toNat : Int)) && decide ((b.toNat : Int) ≤ 57))))) && true)) = true
  rw [h]
  rfl
theorem isNm2 (b c : UInt8) (h : letterZ (b.toNat : Int) = true) (hc : charOk 1 (c.toNat : Int) = true) : isNm ⟨#[b, c]⟩ = true := by
  unfold isNm
  rw [charsOk_at _ 0 (by show 0 < 2; omega), charsOk_at _ 1 (by show 1 < 2; omega), charsOk_end _ 2 (by show ¬ 2 < 2; omega)]
  change (decide (1 ≤ 2) && decide (2 ≤ 24) && ((letterZ (b.toNat : Int) || (!decide (0 = 0) && (decide ((b.toNat : Int) = 95) || (decide (48 ≤ (b.toNat : Int)) && decide ((b.toNat : Int) ≤ 57))))) && (charOk 1 (c.toNat : Int) && true))) = true
  rw [h, hc]
  rfl
theorem isNm3 (b c d : UInt8) (h : letterZ (b.toNat : Int) = true) (hc : charOk 1 (c.toNat : Int) = true) (hd : charOk 2 (d.toNat : Int) = true) : isNm ⟨#[b, c, d]⟩ = true := by
  unfold isNm
  rw [charsOk_at _ 0 (by show 0 < 3; omega), charsOk_at _ 1 (by show 1 < 3; omega), charsOk_at _ 2 (by show 2 < 3; omega), charsOk_end _ 3 (by show ¬ 3 < 3; omega)]
  change (decide (1 ≤ 3) && decide (3 ≤ 24) && ((letterZ (b.toNat : Int) || (!decide (0 = 0) && (decide ((b.toNat : Int) = 95) || (decide (48 ≤ (b.toNat : Int)) && decide ((b.toNat : Int) ≤ 57))))) && (charOk 1 (c.toNat : Int) && (charOk 2 (d.toNat : Int) && true)))) = true
  rw [h, hc, hd]
  rfl
theorem nm_ok : ∀ x ∈ NM, isNm x = true := by
  intro x hx
  simp only [NM, List.mem_cons, List.mem_nil_iff, or_false] at hx
  rcases hx with rfl | rfl | rfl | rfl | rfl | rfl | rfl | rfl <;> exact isNm1 _ (by decide)
theorem s1_ok : isNm s1 = true := isNm2 _ _ (by decide) (by decide)
theorem s2_ok : isNm s2 = true := isNm2 _ _ (by decide) (by decide)
theorem s3_ok : isNm s3 = true := isNm2 _ _ (by decide) (by decide)
theorem who_ok : isNm whoB = true := isNm3 _ _ _ (by decide) (by decide) (by decide)
theorem ne12 : s1 ≠ s2 := by decide +kernel
theorem ne13 : s1 ≠ s3 := by decide +kernel
theorem ne23 : s2 ≠ s3 := by decide +kernel
theorem new1 : s1 ≠ whoB := by decide +kernel
theorem new2 : s2 ≠ whoB := by decide +kernel
theorem new3 : s3 ≠ whoB := by decide +kernel
theorem no2 : s2 ∉ [s1] := by simp [ne12.symm]
theorem no3 : s3 ∉ [s1, s2] := by simp [ne13.symm, ne23.symm]
theorem noW : whoB ∉ RS := by simp [RS, new1.symm, new2.symm, new3.symm]
theorem nm_nodup : (NM ++ [s1, s2, s3, whoB]).Nodup := by decide +kernel
theorem nms_zero : ∀ (l P : List ByteArray), (∀ x ∈ l, isNm x = true) → (P ++ l).Nodup → nmsE P l = 0
  | [], _, _, _ => rfl
  | s :: l, P, h, hn => by
    have h1 : twE P s = 0 := by
      have hs : s ∉ P := by
        intro q
        have := (List.nodup_append.1 hn).2.2 s q s (by simp)
        exact this rfl
      have hi : isIn P s = false := by
        cases hb : isIn P s
        · rfl
        · exact absurd (isIn_mem.1 hb) hs
      unfold twE nmE
      rw [h s (by simp), hi]
      rfl
    rw [nmsE, if_pos h1]
    refine nms_zero l (P ++ [s]) (fun x hx => h x (by simp [hx])) ?_
    rw [List.append_assoc]
    exact hn
/-- A team of so many, of different names. -/
def TM (n : Nat) (T : List ByteArray) : Prop := T.length = n ∧ T.Nodup ∧ ∀ x ∈ T, isNm x = true
theorem TM.zero {n : Nat} {T : List ByteArray} (h : TM n T) : teamE 0 n T = 0 := by
  unfold teamE
  rw [if_pos h.1, nms_zero T [] h.2.2 (by simpa using h.2.1)]
  rfl
theorem isIn_false {P : List ByteArray} {s : ByteArray} (h : s ∉ P) : isIn P s = false := by
  cases hb : isIn P s
  · rfl
  · exact absurd (isIn_mem.1 hb) h
theorem chgE_in {F R P : List ByteArray} : ∀ (T : List ByteArray), (∀ x ∈ T, x ∈ F) → chgE F R P T = (if 2 < P.length then 18 else 0, P)
  | [], _ => rfl
  | s :: T, h => by rw [chgE, if_pos (isIn_mem.2 (h s (by simp))), chgE_in T fun x hx => h x (by simp [hx])]
theorem chgE_mid {F R P : List ByteArray} {s : ByteArray} (hs : s ∉ F) (hr : s ∈ R) (b : List ByteArray) (hb : ∀ x ∈ b, x ∈ F) : ∀ (a : List ByteArray), (∀ x ∈ a, x ∈ F) → chgE F R P (a ++ s :: b) = (if 2 < (if isIn P s then P else P ++ [s]).length then 18 else 0, if isIn P s then P else P ++ [s])
  | [], _ => by
    rw [List.nil_append, chgE, isIn_false hs, if_neg (by simp), if_pos (isIn_mem.2 hr), chgE_in b hb]
  | t :: a, h => by
    rw [List.cons_append, chgE, if_pos (isIn_mem.2 (h t (by simp))), chgE_mid hs hr b hb a fun x hx => h x (by simp [hx])]
theorem chgE_unk {F R P : List ByteArray} {s : ByteArray} (hs : s ∉ F) (hr : s ∉ R) (b : List ByteArray) : ∀ (a : List ByteArray), (∀ x ∈ a, x ∈ F) → chgE F R P (a ++ s :: b) = (10, P)
  | [], _ => by
    rw [List.nil_append, chgE, isIn_false hs, if_neg (by simp), isIn_false hr, if_neg (by simp)]
  | t :: a, h => by
    rw [List.cons_append, chgE, if_pos (isIn_mem.2 (h t (by simp))), chgE_unk hs hr b a fun x hx => h x (by simp [hx])]
theorem tmsE_ok {n : Nat} {F R P P' t : List ByteArray} {l : List (List ByteArray)} {i : Nat} (h : TM n t) (hc : chgE F R P t = (0, P')) : tmsE 0 n F R i P (t :: l) = tmsE 0 n F R (i + 1) P' l := by
  rw [tmsE, if_pos h.zero, hc, if_pos rfl]
theorem tmsE_bad {n : Nat} {F R P P' t : List ByteArray} {l : List (List ByteArray)} {i : Nat} {e : Int} (h : TM n t) (hc : chgE F R P t = (e, P')) (he : e ≠ 0) : tmsE 0 n F R i P (t :: l) = (i, e) := by
  rw [tmsE, if_pos h.zero, hc, if_neg he]
theorem set_mid {U : List ByteArray} {i : Nat} {s : ByteArray} (h : i < U.length) : U.set i s = U.take i ++ s :: U.drop (i + 1) := by
  rw [List.set_eq_take_append_cons_drop, if_pos h]
theorem set_TM {n : Nat} {U : List ByteArray} {i : Nat} {s : ByteArray} (h : TM n U) (hi : i < n) (hs : s ∉ U) (ho : isNm s = true) : TM n (U.set i s) := by
  obtain ⟨h1, h2, h3⟩ := h
  refine ⟨by rw [List.length_set, h1], ?_, ?_⟩
  · rw [set_mid (by omega)]
    refine (List.perm_middle.nodup_iff).2 (List.nodup_cons.2 ⟨?_, ?_⟩)
    · intro q
      rcases List.mem_append.1 q with q | q
      · exact hs (List.mem_of_mem_take q)
      · exact hs (List.mem_of_mem_drop q)
    · have hsub : (U.take i ++ U.drop (i + 1)).Sublist (U.take i ++ U.drop i) := List.Sublist.append (List.Sublist.refl _) (by
        have : U.drop (i + 1) = (U.drop i).drop 1 := by rw [List.drop_drop, Nat.add_comm]
        rw [this]
        exact List.drop_sublist _ _)
      rw [List.take_append_drop] at hsub
      exact hsub.nodup h2
  · intro x hx
    rcases List.mem_or_eq_of_mem_set hx with q | q
    · exact h3 x q
    · rw [q]; exact ho
theorem dst_in {P : List ByteArray} : ∀ (l : List ByteArray), (∀ x ∈ l, x ∈ P) → dst P l = P
  | [], _ => rfl
  | s :: l, h => by rw [dst, if_pos (isIn_mem.2 (h s (by simp))), dst_in l fun x hx => h x (by simp [hx])]
theorem dst_new : ∀ (l P : List ByteArray), (P ++ l).Nodup → dst P l = P ++ l
  | [], P, _ => by rw [dst, List.append_nil]
  | s :: l, P, hn => by
    have hs : s ∉ P := fun q => (List.nodup_append.1 hn).2.2 s q s (by simp) rfl
    rw [dst, isIn_false hs, if_neg (by simp), dst_new l (P ++ [s]) (by rw [List.append_assoc]; exact hn), List.append_assoc]
    rfl
theorem dst_mid {P : List ByteArray} {s : ByteArray} (hs : s ∉ P) (b : List ByteArray) (hb : ∀ x ∈ b, x ∈ P) : ∀ (a : List ByteArray), (∀ x ∈ a, x ∈ P) → dst P (a ++ s :: b) = P ++ [s]
  | [], _ => by rw [List.nil_append, dst, isIn_false hs, if_neg (by simp), dst_in b fun x hx => by simp [hb x hx]]
  | t :: a, h => by rw [List.cons_append, dst, if_pos (isIn_mem.2 (h t (by simp))), dst_mid hs b hb a fun x hx => h x (by simp [hx])]
/-- The names of the first round. -/
def nmN (n : Nat) : List ByteArray := NM.take n
def turnN (n k : Nat) : List ByteArray := (nmN n).drop k ++ (nmN n).take k
section
variable {n k : Nat} (hn : n ≤ 8) (hk : k < n)
include hn hk
theorem nmN_TM : TM n (nmN n) := by
  have _ := hk
  have h0 : NM.Nodup := (List.nodup_append.1 nm_nodup).1
  refine ⟨by unfold nmN; rw [List.length_take]; show min n 8 = n; omega, (List.take_sublist _ _).nodup h0, fun x hx => nm_ok x (List.mem_of_mem_take hx)⟩
theorem turn_perm : (turnN n k).Perm (nmN n) := by
  have _ := And.intro hn hk
  unfold turnN
  refine List.perm_append_comm.trans ?_
  rw [List.take_append_drop]
theorem turn_TM : TM n (turnN n k) := by
  have h := turn_perm hn hk
  obtain ⟨h1, h2, h3⟩ := nmN_TM hn hk
  exact ⟨h.length_eq.trans h1, h.nodup_iff.2 h2, fun x hx => h3 x (h.mem_iff.1 hx)⟩
theorem turn_in {x : ByteArray} : x ∈ turnN n k ↔ x ∈ nmN n := (turn_perm hn hk).mem_iff
theorem not_in {s : ByteArray} (hs : s ∈ [s1, s2, s3, whoB]) : s ∉ nmN n := by
  have _ := And.intro hn hk
  exact fun q => (List.nodup_append.1 nm_nodup).2.2 s (List.mem_of_mem_take q) s hs rfl
theorem not_turn {s : ByteArray} (hs : s ∈ [s1, s2, s3, whoB]) : s ∉ turnN n k := fun q => not_in hn hk hs ((turn_in hn hk).1 q)
theorem one_TM {i : Nat} (hi : i < n) {s : ByteArray} (hs : s ∈ [s1, s2, s3, whoB]) (ho : isNm s = true) : TM n ((turnN n k).set i s) := set_TM (turn_TM hn hk) hi (not_turn hn hk hs) ho
theorem one_chg {i : Nat} (hi : i < n) {s : ByteArray} (hs : s ∈ [s1, s2, s3]) (P : List ByteArray) (hP : s ∉ P) : chgE (nmN n) RS P ((turnN n k).set i s) = (if 2 < P.length + 1 then 18 else 0, P ++ [s]) := by
  have hl := (turn_TM hn hk).1
  have hs4 : s ∈ [s1, s2, s3, whoB] := by simp at hs ⊢; rcases hs with h | h | h <;> simp [h]
  rw [set_mid (by omega), chgE_mid (not_in hn hk hs4) (show s ∈ RS from hs) _ (fun x hx => (turn_in hn hk).1 (List.mem_of_mem_drop hx)) _ (fun x hx => (turn_in hn hk).1 (List.mem_of_mem_take hx)), isIn_false hP]
  simp only [Bool.false_eq_true, if_false, List.length_append, List.length_cons, List.length_nil, Nat.zero_add]
theorem one_dst {i : Nat} (hi : i < n) {s : ByteArray} (P : List ByteArray) (hP : s ∉ P) (hN : ∀ x ∈ nmN n, x ∈ P) : dst P ((turnN n k).set i s) = P ++ [s] := by
  have hl := (turn_TM hn hk).1
  rw [set_mid (by omega), dst_mid hP _ (fun x hx => hN x ((turn_in hn hk).1 (List.mem_of_mem_drop hx))) _ (fun x hx => hN x ((turn_in hn hk).1 (List.mem_of_mem_take hx)))]
theorem same_chg (P : List ByteArray) (hP : P.length ≤ 2) : chgE (nmN n) RS P (turnN n k) = (0, P) := by
  rw [chgE_in _ fun x hx => (turn_in hn hk).1 hx, if_neg (by omega)]
theorem nm_chg (P : List ByteArray) (hP : P.length ≤ 2) : chgE (nmN n) RS P (nmN n) = (0, P) := by
  have _ := And.intro hn hk
  rw [chgE_in _ fun x hx => hx, if_neg (by omega)]
theorem rs_zero : nmsE [] RS = 0 := by
  have _ := And.intro hn hk
  exact nms_zero RS [] (by
    intro x hx
    simp only [RS, List.mem_cons, List.mem_nil_iff, or_false] at hx
    rcases hx with rfl | rfl | rfl
    · exact s1_ok
    · exact s2_ok
    · exact s3_ok) (by decide +kernel)
theorem teams_of {T : List ByteArray} {l : List (List ByteArray)} (hl : l.length ≤ 7) : teamsE 0 n (T :: l) RS = tmsE 0 n T RS 0 [] (T :: l) := by
  unfold teamsE
  rw [if_neg (by decide), if_neg (by simp), if_neg (by simp; omega), if_neg (by decide), if_neg (by rw [rs_zero hn hk]; decide)]
  rfl
theorem res1 {i j : Nat} (hi : i < n) (hj : j < n) : teamsE 0 n [nmN n, turnN n k, (turnN n k).set i s1, (turnN n k).set j s2, turnN n k] RS = (0, 0) := by
  rw [teams_of hn hk (by simp), tmsE_ok (nmN_TM hn hk) (nm_chg hn hk [] (by decide)), tmsE_ok (turn_TM hn hk) (same_chg hn hk [] (by decide)),
    tmsE_ok (one_TM hn hk hi (by simp) s1_ok) (P' := [s1]) (by rw [one_chg hn hk hi (by simp) [] (by simp)]; rfl),
    tmsE_ok (one_TM hn hk hj (by simp) s2_ok) (P' := [s1, s2]) (by rw [one_chg hn hk hj (by simp) [s1] no2]; rfl),
    tmsE_ok (turn_TM hn hk) (same_chg hn hk [s1, s2] (by decide))]
  rfl
theorem res2 {i j m : Nat} (hi : i < n) (hj : j < n) (hm : m < n) : teamsE 0 n [nmN n, (turnN n k).set i s1, (turnN n k).set j s2, (turnN n k).set m s3] RS = (3, 18) := by
  rw [teams_of hn hk (by simp), tmsE_ok (nmN_TM hn hk) (nm_chg hn hk [] (by decide)),
    tmsE_ok (one_TM hn hk hi (by simp) s1_ok) (P' := [s1]) (by rw [one_chg hn hk hi (by simp) [] (by simp)]; rfl),
    tmsE_ok (one_TM hn hk hj (by simp) s2_ok) (P' := [s1, s2]) (by rw [one_chg hn hk hj (by simp) [s1] no2]; rfl),
    tmsE_bad (one_TM hn hk hm (by simp) s3_ok) (e := 18) (P' := [s1, s2, s3]) (by rw [one_chg hn hk hm (by simp) [s1, s2] no3]; rfl) (by decide)]
theorem res3 {i : Nat} (hi : i < n) : teamsE 0 n [nmN n, turnN n k, (turnN n k).set i whoB] RS = (2, 10) := by
  have hl := (turn_TM hn hk).1
  rw [teams_of hn hk (by simp), tmsE_ok (nmN_TM hn hk) (nm_chg hn hk [] (by decide)), tmsE_ok (turn_TM hn hk) (same_chg hn hk [] (by decide)),
    tmsE_bad (one_TM hn hk hi (by simp) who_ok) (e := 10) (P' := []) (by
      rw [set_mid (by omega), chgE_unk (not_in hn hk (by simp)) noW _ _ fun x hx => (turn_in hn hk).1 (List.mem_of_mem_take hx)]) (by decide)]
theorem res4 {i j : Nat} (hi : i < n) (hj : j < n) : srtB (dst [] [nmN n, turnN n k, (turnN n k).set i s1, (turnN n k).set j s2, turnN n k].flatten) = nmN n ++ [s1, s2] := by
  have h1 : dst [] [nmN n, turnN n k, (turnN n k).set i s1, (turnN n k).set j s2, turnN n k].flatten = nmN n ++ [s1, s2] := by
    simp only [List.flatten_cons, List.flatten_nil, List.append_nil]
    rw [dst_append, dst_append, dst_append, dst_append, dst_new _ [] (by simpa using (nmN_TM hn hk).2.1), List.nil_append, dst_in (turnN n k) (fun x hx => (turn_in hn hk).1 hx),
      one_dst hn hk hi _ (not_in hn hk (by simp)) (fun x hx => hx), one_dst hn hk hj (nmN n ++ [s1]) (by
        intro q
        rcases List.mem_append.1 q with q | q
        · exact not_in hn hk (by simp) q
        · exact absurd q no2) (fun x hx => List.mem_append_left _ hx), dst_in (turnN n k) (fun x hx => by
          rw [List.append_assoc]
          exact List.mem_append_left _ ((turn_in hn hk).1 hx)), List.append_assoc]
    rfl
  rw [h1]
  refine srtB_unique ?_ (List.Perm.refl _)
  have h2 : SrtP (NM ++ [s1, s2]) := by unfold SrtP; decide +kernel
  have h3 : (nmN n ++ [s1, s2]).Sublist (NM ++ [s1, s2]) := List.Sublist.append (List.take_sublist _ _) (List.Sublist.refl _)
  exact List.Pairwise.sublist h3 h2
end
end Go.Mk
namespace Go.Mk
theorem rs_size : ∀ x ∈ RS, x.size ≤ 3 := by decide +kernel
theorem nm_size : ∀ x ∈ NM, x.size ≤ 3 := by decide +kernel
theorem sizes {n k i j : Nat} (hn : n ≤ 8) (hk : k < n) (hi : i < n) (hj : j < n) : ∀ l ∈ [nmN n, turnN n k, (turnN n k).set i s1, (turnN n k).set j s2, (turnN n k).set k s3, (turnN n k).set i whoB], l.length = n ∧ ∀ x ∈ l, x.size ≤ maxLen := by
  have q : maxLen = 9223372036854775807 := rfl
  have h0 : ∀ x ∈ nmN n, x.size ≤ 3 := fun x hx => nm_size x (List.mem_of_mem_take hx)
  have h1 : ∀ x ∈ turnN n k, x.size ≤ 3 := fun x hx => h0 x ((turn_in hn hk).1 hx)
  have h2 : ∀ (m : Nat) (s : ByteArray), s.size ≤ 3 → ∀ x ∈ (turnN n k).set m s, x.size ≤ 3 := fun m s hs x hx => by
    rcases List.mem_or_eq_of_mem_set hx with q | q
    · exact h1 x q
    · rw [q]; exact hs
  have hl := (turn_TM hn hk).1
  intro l hl'
  simp only [List.mem_cons, List.mem_nil_iff, or_false] at hl'
  rcases hl' with rfl | rfl | rfl | rfl | rfl | rfl
  · exact ⟨(nmN_TM hn hk).1, fun x hx => by have := h0 x hx; omega⟩
  · exact ⟨hl, fun x hx => by have := h1 x hx; omega⟩
  · exact ⟨by rw [List.length_set, hl], fun x hx => by have := h2 i s1 (by decide) x hx; omega⟩
  · exact ⟨by rw [List.length_set, hl], fun x hx => by have := h2 j s2 (by decide) x hx; omega⟩
  · exact ⟨by rw [List.length_set, hl], fun x hx => by have := h2 k s3 (by decide) x hx; omega⟩
  · exact ⟨by rw [List.length_set, hl], fun x hx => by have := h2 i whoB (by decide) x hx; omega⟩
end Go.Mk
