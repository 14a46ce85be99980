/-
  Proved: mark.Parse returns the reference's mark of a text, or its error. Conditions: the text has at most 60 bytes; the heap holds the program's tables.
-/
import Derived.Test.YtclkcooomikiiaaGreatDoorUl
import Derived.Test.YtclkcooomikiiaaGreatDoorFn
set_option linter.unusedVariables false
set_option linter.unusedSimpArgs false
open Go Go.Proofs Go.RowKit Go.Sort
set_option maxRecDepth 100000
namespace Go.Mk
set_option maxHeartbeats 1000000 in
theorem parseReason_any (s : ByteArray) (w : World) : Calls Tryz.prog 79 #[.string s] w (RetPost (ME.out ⟨sNone, 0, s, 0⟩) w) := by
  go_enter Tryz.func79, Tryz.ntmps79
  go_wp2
  exact bodyPost_ret (v := .tuple #[.agg #[.string ⟨#[110, 111, 110, 101]⟩, .int .i64 0, .string s], .int .i64 0]) (by simp [results, Tryz.results79, go_sem]) rfl ⟨rfl, (Below.refl w.heap.size w).alloc (Nat.le_refl _) _⟩
set_option maxHeartbeats 1000000 in
theorem Parse_long (s : ByteArray) (hz : (s.size : Int) ≤ 60) (h : (24 : Int) < s.size) (w : World) : Calls Tryz.prog 10 #[.string s] w (RetPost (ME.out (ME.bad 26)) w) := by
  go_enter Tryz.func10, Tryz.ntmps10
  go_wp2
  exact bodyPost_ret (v := .tuple #[.agg #[.string ⟨#[]⟩, .int .i64 0, .string ⟨#[]⟩], .int .i64 26]) (by simp [results, Tryz.results10, go_sem]) rfl ⟨rfl, (Below.refl w.heap.size w).alloc (Nat.le_refl _) _⟩
set_option maxHeartbeats 2000000 in
theorem Parse_at (s ms mr : ByteArray) (mv me : Int) (hz : s.size ≤ 60) (h24 : ¬ (24 : Int) < s.size) (lo hi : Int) (f2 f3 f4 f5 f6 : Nat) (w : World) (hG : Gd w)
    (hE : Entry (kindT s) (.agg #[.int .i64 lo, .int .i64 hi, .func (.func f2) #[] #[], .func (.func f3) #[] #[], .func (.func f4) #[] #[], .func (.func f5) #[] #[], .func (.func f6) #[] #[]]) true)
    (e6 : ∀ args w, (callFunc f6 args).run Tryz.prog w = .ok (.enter f6 args) w)
    (hc : ∀ W, Gd W → Calls Tryz.prog f6 #[.string s] W (RetPost (.tuple #[.agg #[.string ms, .int .i64 mv, .string mr], .int .i64 me]) W)) :
    Calls Tryz.prog 10 #[.string s] w (RetPost (ME.out (fin ⟨ms, mv, mr, me⟩)) w) := by
  have hfd := fun w => field6 (.int .i64 lo) (.int .i64 hi) (.func (.func f2) #[] #[]) (.func (.func f3) #[] #[]) (.func (.func f4) #[] #[]) (.func (.func f5) #[] #[]) (.func (.func f6) #[] #[]) w
  have hg := hG.size
  have HG : Hid (∀ W, Below w.heap.size w W → Gd W) := Lib.hid fun W hb => hG.below hb (Nat.le_refl _)
  have hKT := fun w => kindOfText_any s (by have : maxLen = 9223372036854775807 := rfl; omega) w
  generalize kindT s = kt at *
  have hz2 : (s.size : Int) ≤ 60 := by omega
  have HF : Hid (fin ⟨ms, mv, mr, me⟩ = if fst2 me (chk ms mv mr) = 0 then ⟨ms, mv, mr, 0⟩ else ME.bad (fst2 me (chk ms mv mr))) := Lib.hid (by
    unfold fin fst2
    by_cases h : me = 0
    · rw [if_pos h, if_pos h]; rfl
    · rw [if_neg h, if_neg h, if_neg h])
  obtain ⟨ck, hck⟩ : ∃ ck, chk ms mv mr = ck := ⟨_, rfl⟩
  have hcK : ∀ B W, Kinds W B → Calls Tryz.prog 27 #[.map (some B), .agg #[.string ms, .int .i64 mv, .string mr]] W (CkPost ck W) := fun B W hK => by rw [← hck]; exact checkMark_any ms mr mv B W hK
  rw [hck] at HF
  have hfst := fun g w h1 h2 => first_any me ck g w h1 h2
  generalize fst2 me ck = r at *
  obtain ⟨⟨os, ov, or_, oe⟩, ho⟩ : ∃ m, fin ⟨ms, mv, mr, me⟩ = m := ⟨_, rfl⟩
  rw [ho] at HF ⊢
  show Calls _ _ _ _ (RetPost (.tuple #[.agg #[.string os, .int .i64 ov, .string or_], .int .i64 oe]) w)
  clear hG hck ho hz
  go_enter Tryz.func10, Tryz.ntmps10
  go_wp2_with fail
  refine (kinds_any _ (by simp; omega)).mono ?_
  rintro e w1 ⟨B, rfl, hB, hK, hb1⟩
  have hB1 := (Below.refl (w.heap.size + 1) _).trans (hb1.mono (B' := w.heap.size + 1) (by simp))
  clear hb1 hB
  go_wp2_with fail
  refine (hKT _).mono ?_
  rintro e w2 ⟨rfl, hb2⟩
  have hK2 := hK.grow hb2
  replace hB1 := hB1.trans (hb2.mono (B' := w.heap.size + 1) (by have := hB1.size; simp at this; omega))
  have hbw2 : Below w.heap.size w w2 := ((Below.refl w.heap.size w).alloc (Nat.le_refl _) _).trans (hB1.mono (by omega))
  clear hKT hb2 hK
  go_wp2_with (first | (at_lookup; refine wpList_look _ rfl _ _ false rfl B kt _ _ rfl rfl hK2 hE ?_) | fail)
  refine (hc _ (HG.out _ hbw2)).mono ?_
  rintro e w3 ⟨rfl, hb3⟩
  have hK3 := (hK2.grow hb3).grow ((Below.refl w3.heap.size w3).alloc (Nat.le_refl _) (.cells #[.string ms, .int .i64 mv, .string mr] 23))
  have hsz2 : w.heap.size + 1 ≤ w2.heap.size := by have := hB1.size; simpa using this
  have hsz3 := hb3.size
  replace hB1 := (hB1.trans (hb3.mono (B' := w.heap.size + 1) hsz2)).alloc (by omega) (.cells #[.string ms, .int .i64 mv, .string mr] 23)
  clear hc hb3 hK2
  go_wp2_with fail
  refine (hcK B _ hK3).mono ?_
  rintro e w4 ⟨rfl, hb4⟩
  obtain ⟨m0, m1, m2⟩ : Box w4 w3.heap.size ms mv mr := (Box.new w3 ms mv mr).below hb4 (by simp)
  have hsz4 : w3.heap.size + 1 ≤ w4.heap.size := by have := hb4.size; simpa using this
  replace hB1 := hB1.trans (hb4.mono (B' := w.heap.size + 1) (by simp; omega))
  have HM : Hid (∀ W, Below (w3.heap.size + 1) w4 W → Box W w3.heap.size ms mv mr) := Lib.hid fun W hb => Box.below ⟨m0, m1, m2⟩ hb (by omega)
  clear hcK hb4 hK3
  go_wp2_with fail
  refine (hfst _ _ (by simp) (by simp)).mono ?_
  rintro e w5 ⟨rfl, hb5⟩
  have hb45 : Below (w3.heap.size + 1) w4 w5 := ((Below.refl _ w4).alloc (by omega) _).trans (hb5.mono (by simp; omega))
  obtain ⟨n0, n1, n2⟩ := HM.out _ hb45
  replace hB1 := hB1.trans (hb45.mono (B' := w.heap.size + 1) (by omega))
  obtain ⟨a0, a1, a2⟩ : Box w5 w.heap.size ⟨#[]⟩ 0 ⟨#[]⟩ := (Box.new w ⟨#[]⟩ 0 ⟨#[]⟩).below hB1 (by omega)
  have f0 : ∀ o, w5.frozen? ⟨w.heap.size, o, none⟩ = false := fun o => (hB1.frozen (p := ⟨w.heap.size, o, none⟩) (by show w.heap.size < _; omega)).trans (fz_new w _ rfl _ _ o)
  have hbw : Below w.heap.size w w5 := ((Below.refl w.heap.size w).alloc (Nat.le_refl _) _).trans (hB1.mono (by omega))
  clear hB1 hb45 hb5 hfst HM m0 m1 m2 hbw2
  by_cases hr : r = 0
  · have HF2 : Hid (os = ms ∧ ov = mv ∧ or_ = mr ∧ oe = 0) := Lib.hid (by have := HF.out; rw [if_pos hr] at this; injection this with e1 e2 e3 e4; exact ⟨e1, e2, e3, e4⟩)
    subst hr
    clear HF
    as_aux_lemma =>
      go_wp2
      obtain ⟨q0, q1, q2⟩ : Box _ w.heap.size ms mv mr := Box.put3 (w := w5) ⟨a0, a1, a2⟩
      exact bodyPost_ret (v := .tuple #[.agg #[.string ms, .int .i64 mv, .string mr], .int .i64 0]) (by simp [results, Tryz.results10, go_sem, q0, q1, q2]) rfl ⟨by rw [HF2.out.1, HF2.out.2.1, HF2.out.2.2.1, HF2.out.2.2.2], (((hbw.setCell (Nat.le_refl _) _).setCell (Nat.le_refl _) _).setCell (Nat.le_refl _) _)⟩
  · have hrb : (r != 0) = true := by rw [bne_iff_ne]; exact hr
    have HF2 : Hid (os = ⟨#[]⟩ ∧ ov = 0 ∧ or_ = ⟨#[]⟩ ∧ oe = r) := Lib.hid (by have := HF.out; rw [if_neg hr] at this; unfold ME.bad at this; injection this with e1 e2 e3 e4; exact ⟨e1, e2, e3, e4⟩)
    clear HF
    as_aux_lemma =>
      go_wp2
      obtain ⟨q0, q1, q2⟩ : Box _ w.heap.size ⟨#[]⟩ 0 ⟨#[]⟩ := Box.put3 (w := w5) ⟨a0, a1, a2⟩
      exact bodyPost_ret (v := .tuple #[.agg #[.string ⟨#[]⟩, .int .i64 0, .string ⟨#[]⟩], .int .i64 r]) (by simp [results, Tryz.results10, go_sem, q0, q1, q2]) rfl ⟨by rw [HF2.out.1, HF2.out.2.1, HF2.out.2.2.1, HF2.out.2.2.2], (((hbw.setCell (Nat.le_refl _) _).setCell (Nat.le_refl _) _).setCell (Nat.le_refl _) _)⟩
theorem chk_none (s : ByteArray) (h : isR s = true) : chk sNone 0 s = 0 := by
  unfold chk
  rw [if_pos rfl, h, if_pos rfl, if_neg (by omega)]
/-- The points of a text. -/
def pointM (a : Int) : ME := if a < 0 then ME.bad 25 else ⟨sPoints, a, ⟨#[]⟩, 0⟩
theorem parsePoints_ME (s : ByteArray) (hz : s.size ≤ maxLen) (w : World) : Calls Tryz.prog 76 #[.string s] w (RetPost (ME.out (pointM (front (trim1 s 112)))) w) := by
  have h := parsePoints_any s hz w
  unfold pointM
  by_cases hf : front (trim1 s 112) < 0
  · rw [if_pos hf] at h ⊢; exact h
  · rw [if_neg hf] at h ⊢; exact h
theorem fin_point (a : Int) : fin (pointM a) = if a < 0 then ME.bad 25 else ranged sPoints a ⟨#[]⟩ := by
  unfold pointM
  split
  · rfl
  · rfl
theorem Parse_ME (s : ByteArray) (m : ME) (hz : s.size ≤ 60) (h24 : ¬ (24 : Int) < s.size) (lo hi : Int) (f2 f3 f4 f5 f6 : Nat) (w : World) (hG : Gd w)
    (hE : Entry (kindT s) (.agg #[.int .i64 lo, .int .i64 hi, .func (.func f2) #[] #[], .func (.func f3) #[] #[], .func (.func f4) #[] #[], .func (.func f5) #[] #[], .func (.func f6) #[] #[]]) true)
    (e6 : ∀ args w, (callFunc f6 args).run Tryz.prog w = .ok (.enter f6 args) w)
    (hc : ∀ W, Gd W → Calls Tryz.prog f6 #[.string s] W (RetPost (ME.out m) W)) : Calls Tryz.prog 10 #[.string s] w (RetPost (ME.out (fin m)) w) := by
  obtain ⟨ms, mv, mr, me⟩ := m
  exact Parse_at s ms mr mv me hz h24 lo hi f2 f3 f4 f5 f6 w hG hE e6 hc
theorem Parse_any (s : ByteArray) (hz : s.size ≤ 60) (w : World) (hG : Gd w) : Calls Tryz.prog 10 #[.string s] w (RetPost (ME.out (refP s)) w) := by
  have hm : maxLen = 9223372036854775807 := rfl
  unfold refP
  by_cases h1 : 24 < s.size
  · rw [if_pos h1]; exact Parse_long s (by omega) (by omega) w
  rw [if_neg h1]
  cases h2 : isR s with
  | true =>
    rw [if_pos rfl]
    have hk : kindT s = sNone := by unfold kindT; rw [h2, if_pos rfl]
    have := Parse_ME s ⟨sNone, 0, s, 0⟩ hz (by omega) _ _ _ _ _ _ _ w hG (by rw [hk]; exact entryNone) (enters_of Tryz.func79 (by kernel_rfl) rfl) fun W _ => parseReason_any s W
    rwa [show fin ⟨sNone, 0, s, 0⟩ = ⟨sNone, 0, s, 0⟩ from by unfold fin ranged; rw [if_pos rfl, if_pos (chk_none s h2)]] at this
  | false =>
    rw [if_neg (by decide)]
    have e109 := endsIn_last s 109 (by decide)
    have e112 := endsIn_last s 112 (by decide)
    by_cases h0 : s.size = 0
    · rw [if_pos h0]
      have hs : s = ⟨#[]⟩ := by
        have : s.data.toList = [] := by rw [← List.length_eq_zero_iff, Array.length_toList]; exact h0
        exact ba_of_list this
      have hk : kindT s = sTime := by rw [hs]; decide
      have := Parse_ME s _ hz (by omega) _ _ _ _ _ _ _ w hG (by rw [hk]; exact entryTime) (enters_of Tryz.func70 (by kernel_rfl) rfl) fun W hW => parseTime_any s hz W hW
      rw [fin_time] at this
      rwa [show refTime s = ME.bad 25 from refTime_bad s (by rw [hs]; decide)] at this
    rw [if_neg h0]
    by_cases h3 : lastB s = 112
    · rw [if_pos h3]
      have hk : kindT s = sPoints := by
        unfold kindT
        rw [h2, if_neg (by decide), e109, h3, if_neg (by decide), e112, h3, if_pos (by decide)]
      have := Parse_ME s _ hz (by omega) _ _ _ _ _ _ _ w hG (by rw [hk]; exact entryPoints) (enters_of Tryz.func76 (by kernel_rfl) rfl) fun W _ => parsePoints_ME s (by omega) W
      rwa [fin_point, trim1_chop s 112 (by rw [e112, h3]; decide)] at this
    rw [if_neg h3]
    by_cases h4 : lastB s = 109
    · rw [if_pos h4]
      have hk : kindT s = sLength := by
        unfold kindT
        rw [h2, if_neg (by decide), e109, h4, if_pos (by decide)]
      have := Parse_ME s _ hz (by omega) _ _ _ _ _ _ _ w hG (by rw [hk]; exact entryLength) (enters_of Tryz.func74 (by kernel_rfl) rfl) fun W hW => parseLength_any s hz W hW
      rwa [fin_len, trim1_chop s 109 (by rw [e109, h4]; decide)] at this
    rw [if_neg h4]
    have hk : kindT s = sTime := by
      unfold kindT
      rw [h2, if_neg (by decide), e109, if_neg (by rw [decide_eq_true_eq]; exact h4), e112, if_neg (by rw [decide_eq_true_eq]; exact h3)]
    have := Parse_ME s _ hz (by omega) _ _ _ _ _ _ _ w hG (by rw [hk]; exact entryTime) (enters_of Tryz.func70 (by kernel_rfl) rfl) fun W hW => parseTime_any s hz W hW
    rwa [fin_time] at this
end Go.Mk
