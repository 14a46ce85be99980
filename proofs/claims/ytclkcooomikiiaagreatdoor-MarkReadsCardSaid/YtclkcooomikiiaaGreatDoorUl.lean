/-
  Proved: mark.parseTime returns the mark of a time, or the error of its text. Conditions: the text has at most 60 bytes; the heap holds the program's tables.
-/
import Derived.Test.YtclkcooomikiiaaGreatDoorUk
set_option linter.unusedVariables false
set_option linter.unusedSimpArgs false
open Go Go.Proofs Go.RowKit Go.Sort
set_option maxRecDepth 100000
namespace Go.Mk
/-- The seconds of numbers, none if one is too great. -/
def tg (n i : Nat) (t : Int) : List Int → Option Int
  | [] => some t
  | v :: l => if 59 < v ∧ ¬ ((n : Int) - i = 3) then none else tg n (i + 1) (60 * t + v) l
def tgEnd (r : Int) : Option Int → ME
  | none => ME.bad 3
  | some t => ⟨sTime, t * 10000 + r, ⟨#[]⟩, 0⟩
def timeM (F : List ByteArray) (r : Int) : ME := if r < 0 ∨ okF 0 F = false ∨ 3 < F.length then ME.bad 25 else tgEnd r (tg F.length 0 0 (valsFrom 0 F))
theorem timeGo_true (n : Nat) (L : List ByteArray) : ∀ (i : Nat) (t : Int), okF i L = true → ∃ t', timeGo n i t true L = some (t', true) := by
  induction L with
  | nil => intro i t _; exact ⟨t, rfl⟩
  | cons f l ih =>
    intro i t h
    rw [okF, Bool.and_eq_true, decide_eq_true_eq] at h
    rw [timeGo, if_neg (by omega), Bool.true_or]
    exact ih (i + 1) _ h.2
theorem timeGo_bad2 (n : Nat) (L : List ByteArray) : ∀ (i : Nat) (t : Int) (wd : Bool), okF i L = false → timeGo n i t wd L = none := by
  induction L with
  | nil => intro i t wd h; cases h
  | cons f l ih =>
    intro i t wd h
    rw [okF, Bool.and_eq_false_iff, decide_eq_false_iff_not] at h
    rw [timeGo]
    by_cases hf : fv i f < 0
    · rw [if_pos hf]
    · rw [if_neg hf]
      rcases h with h | h
      · omega
      · exact ih (i + 1) _ _ h
theorem tg_rel (n : Nat) (hn : n ≤ 3) (L : List ByteArray) : ∀ (i : Nat) (t : Int), okF i L = true → ∃ t' wd', timeGo n i t false L = some (t', wd') ∧ tg n i t (valsFrom i L) = if wd' then none else some t' := by
  induction L with
  | nil => intro i t _; exact ⟨t, false, rfl, rfl⟩
  | cons f l ih =>
    intro i t h
    rw [okF, Bool.and_eq_true, decide_eq_true_eq] at h
    rw [timeGo, if_neg (by omega), Bool.false_or, valsFrom, tg]
    by_cases hc : 59 < fv i f ∧ ¬ ((n : Int) - i = 3)
    · rw [if_pos hc, decide_eq_true hc.1, Bool.true_and, show (decide (0 < i) || decide (n < 3)) = true from by
        rw [Bool.or_eq_true, decide_eq_true_eq, decide_eq_true_eq]; omega]
      obtain ⟨t', ht⟩ := timeGo_true n l (i + 1) (60 * t + fv i f) h.2
      exact ⟨t', true, ht, rfl⟩
    · rw [if_neg hc, show (decide (59 < fv i f) && (decide (0 < i) || decide (n < 3))) = false from by
        rw [Bool.and_eq_false_iff, decide_eq_false_iff_not, Bool.or_eq_false_iff, decide_eq_false_iff_not, decide_eq_false_iff_not]; omega]
      exact ih (i + 1) _ h.2
theorem fin_timeM (F : List ByteArray) (r : Int) : fin (timeM F r) = timeOf F r := by
  unfold timeM timeOf
  by_cases h : 3 < F.length ∨ r < 0
  · rw [if_pos h, if_pos (by omega)]; rfl
  · rw [if_neg h]
    cases hk : okF 0 F with
    | false =>
      rw [if_pos (.inr (.inl rfl)), timeGo_bad2 _ _ _ _ _ hk]
      rfl
    | true =>
      rw [if_neg (by simp; omega)]
      obtain ⟨t', wd', h1, h2⟩ := tg_rel F.length (by omega) F 0 0 hk
      rw [h1, h2]
      cases wd' with
      | true => rfl
      | false =>
        show (fin ⟨sTime, t' * 10000 + r, ⟨#[]⟩, 0⟩) = ranged sTime (10000 * t' + r) ⟨#[]⟩
        rw [show t' * 10000 + r = 10000 * t' + r from by omega]
        rfl
theorem fin_time (t : ByteArray) : fin (timeM (split 58 (cutA t 46)) (scaled (cutB t 46) 1 4)) = refTime t := by
  rw [fin_timeM]
  rcases cut_cases t 46 with ⟨_, h2, h3, _, h5⟩ | ⟨y, _, h2, h3, _⟩
  · rw [h3, scaled_empty 1 4 (by decide), refTime_bad t (by rw [h5]; simp)]
    unfold timeOf
    rw [if_pos (.inr (by decide))]
  · by_cases hy : (46 : UInt8) ∈ y
    · rw [refTime_bad t (by have := split_one_three 46 (mkB y) (by rw [mkB_list]; exact hy); rw [h3, List.length_cons]; omega), h2, scaled_bad (mkB y) 1 4 (.inl (dig_no 46 (by decide) _ (by rw [mkB_list]; exact hy)))]
      unfold timeOf
      rw [if_pos (.inr (by decide))]
    · have e : split 46 (mkB y) = [mkB y] := by
        unfold split; rw [mkB_list, splitGo_none 46 _ [] hy, List.nil_append]; rfl
      rw [e] at h3
      rw [refTime_ok t _ _ h3, h2]
theorem fv_bound (i : Nat) (f : ByteArray) : fv i f ≤ 999999999 := by
  unfold fv
  have := (front_bound f).2
  have := (digits_bound f).2
  split
  · omega
  · split <;> omega
theorem vals_at (L : List ByteArray) : ∀ i, okF i L = true → ∀ (k : Nat) (v : Int), (valsFrom i L)[k]? = some v → 0 ≤ v ∧ v ≤ 999999999 := by
  induction L with
  | nil => intro i _ k v h; simp [valsFrom] at h
  | cons f l ih =>
    intro i h k v hv
    rw [okF, Bool.and_eq_true, decide_eq_true_eq] at h
    cases k with
    | zero => rw [valsFrom, List.getElem?_cons_zero] at hv; have := fv_bound i f; obtain rfl := Option.some.inj hv; exact ⟨h.1, this⟩
    | succ k => rw [valsFrom, List.getElem?_cons_succ] at hv; exact ih (i + 1) h.2 k v hv
/-- How the run over the numbers goes on. -/
theorem tg_bad {n k : Nat} {t v : Int} {V : List Int} (hv : V[k]? = some v) (h1 : 59 < v) (h2 : ¬ ((n : Int) - k = 3)) : tg n k t (V.drop k) = none := by
  have hk := (List.getElem?_eq_some_iff.1 hv)
  rw [List.drop_eq_getElem_cons hk.1, tg, hk.2, if_pos ⟨h1, h2⟩]
theorem tg_step {n k : Nat} {t v : Int} {V : List Int} (hv : V[k]? = some v) (h : ¬ (59 < v ∧ ¬ ((n : Int) - k = 3))) : tg n k t (V.drop k) = tg n (k + 1) (60 * t + v) (V.drop (k + 1)) := by
  have hk := (List.getElem?_eq_some_iff.1 hv)
  rw [List.drop_eq_getElem_cons hk.1, tg, hk.2, if_neg h]
theorem tg_end {n k : Nat} {t : Int} {V : List Int} (hk : V.length ≤ k) : tg n k t (V.drop k) = some t := by
  rw [List.drop_eq_nil_of_le hk, tg]
set_option maxHeartbeats 1000000 in
theorem parseTime_bad (s : ByteArray) (hz : s.size ≤ 60) (h : scaled (cutB s 46) 1 4 < 0 ∨ okF 0 (split 58 (cutA s 46)) = false ∨ 3 < (split 58 (cutA s 46)).length) (w : World) (hG : Gd w) : Calls Tryz.prog 70 #[.string s] w (RetPost (ME.out (ME.bad 25)) w) := by
  have hC := fun W (hb : Below w.heap.size w W) => Cut_any s 46 (by omega) W (hG.below hb (Nat.le_refl _))
  have hc1 := cutA_size s 46
  have hc2 := cutB_size s 46
  generalize cutA s 46 = x at *
  generalize cutB s 46 = y at *
  generalize cutF s 46 = cf at *
  have hm : maxLen = 9223372036854775807 := rfl
  have hD := fun w => parseDigits_any y 1 4 (by decide) (by decide) (by omega) w
  have hPF := fun W (hb : Below w.heap.size w W) => parseFields_any x (by omega) W (hG.below hb (Nat.le_refl _))
  have hb0 := (Below.refl w.heap.size w).alloc (Nat.le_refl _) (.cells #[.string ⟨#[]⟩, .int .i64 0, .string ⟨#[]⟩] 23)
  obtain ⟨hs1, hs2⟩ := scaled_bound y 1 4 (by decide)
  have hPF' : ∀ W, Below w.heap.size w W → Calls Tryz.prog 123 #[.string x] W fun e w' => ∃ v b, e = .returned (.tuple #[v, .bool b]) ∧ Below W.heap.size W w' ∧ (0 ≤ scaled y 1 4 → b = false) := fun W hb => (hPF W hb).mono fun e w' h' => by
    rcases h' with ⟨h1, v, h2, _, h4⟩ | ⟨h1, h2, h4⟩
    · refine ⟨v, _, h2, h4, fun h0 => decide_eq_false ?_⟩
      rcases h with h | h | h
      · omega
      · rw [h1] at h; cases h
      · omega
    · exact ⟨_, _, h2, h4, fun _ => rfl⟩
  clear hPF h
  have hPF := hPF'
  clear hPF'
  generalize scaled y 1 4 = r at *
  clear hz hc1 hc2 hm hG
  by_cases hr : r < 0
  · rw [if_pos hr, decide_eq_false (by omega)] at hD
    as_aux_lemma =>
      go_enter Tryz.func70, Tryz.ntmps70
      go_wp2_with fail
      refine (hC _ hb0).mono ?_
      rintro e w3 ⟨rfl, hb3⟩
      have hB1 := (Below.refl (w.heap.size + 1) _).trans (hb3.mono (B' := w.heap.size + 1) (by simp))
      clear hC hb3
      go_wp2_with fail
      refine (hD _).mono ?_
      rintro e w4 ⟨rfl, hb4⟩
      replace hB1 := hB1.trans (hb4.mono (B' := w.heap.size + 1) (by have := hB1.size; simp at this; omega))
      clear hD hb4
      have hbw4 : Below w.heap.size w w4 := hb0.trans (hB1.mono (by omega))
      go_wp2_with fail
      refine (hPF _ hbw4).mono ?_
      rintro e w5 ⟨v, b, rfl, hb5, _⟩
      replace hB1 := hB1.trans (hb5.mono (B' := w.heap.size + 1) (by have := hB1.size; simp at this; omega))
      clear hPF hb5 hbw4
      obtain ⟨a0, a1, a2⟩ : Box w5 w.heap.size ⟨#[]⟩ 0 ⟨#[]⟩ := (Box.new w ⟨#[]⟩ 0 ⟨#[]⟩).below hB1 (by omega)
      have f0 : ∀ o, w5.frozen? ⟨w.heap.size, o, none⟩ = false := fun o => (hB1.frozen (p := ⟨w.heap.size, o, none⟩) (by show w.heap.size < _; omega)).trans (fz_new w _ rfl _ _ o)
      have hbw : Below w.heap.size w w5 := hb0.trans (hB1.mono (by omega))
      clear hB1 hb0
      go_wp2
      obtain ⟨q0, q1, q2⟩ : Box _ w.heap.size ⟨#[]⟩ (0) ⟨#[]⟩ := Box.put3 (w := w5) ⟨a0, a1, a2⟩
      exact bodyPost_ret (v := .tuple #[.agg #[.string ⟨#[]⟩, .int .i64 (0), .string ⟨#[]⟩], .int .i64 25]) (by simp [results, Tryz.results70, go_sem, q0, q1, q2]) rfl ⟨rfl, (((hbw.setCell (Nat.le_refl _) _).setCell (Nat.le_refl _) _).setCell (Nat.le_refl _) _)⟩
  · rw [if_neg hr, decide_eq_true (by omega)] at hD
    as_aux_lemma =>
      go_enter Tryz.func70, Tryz.ntmps70
      go_wp2_with fail
      refine (hC _ hb0).mono ?_
      rintro e w3 ⟨rfl, hb3⟩
      have hB1 := (Below.refl (w.heap.size + 1) _).trans (hb3.mono (B' := w.heap.size + 1) (by simp))
      clear hC hb3
      go_wp2_with fail
      refine (hD _).mono ?_
      rintro e w4 ⟨rfl, hb4⟩
      replace hB1 := hB1.trans (hb4.mono (B' := w.heap.size + 1) (by have := hB1.size; simp at this; omega))
      clear hD hb4
      have hbw4 : Below w.heap.size w w4 := hb0.trans (hB1.mono (by omega))
      go_wp2_with fail
      refine (hPF _ hbw4).mono ?_
      rintro e w5 ⟨v, b, rfl, hb5, hbf⟩
      obtain rfl := hbf (by omega)
      replace hB1 := hB1.trans (hb5.mono (B' := w.heap.size + 1) (by have := hB1.size; simp at this; omega))
      clear hPF hb5 hbw4
      obtain ⟨a0, a1, a2⟩ : Box w5 w.heap.size ⟨#[]⟩ 0 ⟨#[]⟩ := (Box.new w ⟨#[]⟩ 0 ⟨#[]⟩).below hB1 (by omega)
      have f0 : ∀ o, w5.frozen? ⟨w.heap.size, o, none⟩ = false := fun o => (hB1.frozen (p := ⟨w.heap.size, o, none⟩) (by show w.heap.size < _; omega)).trans (fz_new w _ rfl _ _ o)
      have hbw : Below w.heap.size w w5 := hb0.trans (hB1.mono (by omega))
      clear hB1 hb0
      go_wp2
      obtain ⟨q0, q1, q2⟩ : Box _ w.heap.size ⟨#[]⟩ (0) ⟨#[]⟩ := Box.put3 (w := w5) ⟨a0, a1, a2⟩
      exact bodyPost_ret (v := .tuple #[.agg #[.string ⟨#[]⟩, .int .i64 (0), .string ⟨#[]⟩], .int .i64 25]) (by simp [results, Tryz.results70, go_sem, q0, q1, q2]) rfl ⟨rfl, (((hbw.setCell (Nat.le_refl _) _).setCell (Nat.le_refl _) _).setCell (Nat.le_refl _) _)⟩
set_option maxHeartbeats 2000000 in
theorem parseTime_go (s : ByteArray) (hz : s.size ≤ 60) (h : ¬ (scaled (cutB s 46) 1 4 < 0 ∨ okF 0 (split 58 (cutA s 46)) = false ∨ 3 < (split 58 (cutA s 46)).length)) (w : World) (hG : Gd w) (rv : Value)
    (hrv : ME.out (tgEnd (scaled (cutB s 46) 1 4) (tg (split 58 (cutA s 46)).length 0 0 (valsFrom 0 (split 58 (cutA s 46))))) = rv) : Calls Tryz.prog 70 #[.string s] w (RetPost rv w) := by
  have hC := fun W (hb : Below w.heap.size w W) => Cut_any s 46 (by omega) W (hG.below hb (Nat.le_refl _))
  have hc1 := cutA_size s 46
  have hc2 := cutB_size s 46
  generalize cutA s 46 = x at *
  generalize cutB s 46 = y at *
  generalize cutF s 46 = cf at *
  have hm : maxLen = 9223372036854775807 := rfl
  have hD := fun w => parseDigits_any y 1 4 (by decide) (by decide) (by omega) w
  have hPF := fun W (hb : Below w.heap.size w W) => parseFields_any x (by omega) W (hG.below hb (Nat.le_refl _))
  have hb0 := (Below.refl w.heap.size w).alloc (Nat.le_refl _) (.cells #[.string ⟨#[]⟩, .int .i64 0, .string ⟨#[]⟩] 23)
  obtain ⟨hs1, hs2⟩ := scaled_bound y 1 4 (by decide)
  have hok : okF 0 (split 58 x) = true := by
    cases h2 : okF 0 (split 58 x) with
    | true => rfl
    | false => exact absurd (.inr (.inl h2)) h
  have hva := vals_at _ 0 hok
  have hvl := valsFrom_length 0 (split 58 x)
  have hn3 : (split 58 x).length ≤ 3 := by omega
  have hr : ¬ scaled y 1 4 < 0 := fun e => h (.inl e)
  have hPF' : ∀ W, Below w.heap.size w W → Calls Tryz.prog 123 #[.string x] W fun e w' => ∃ a cap, e = .returned (.tuple #[.slice a (split 58 x).length cap, .bool true]) ∧ Below W.heap.size W w' ∧ (∀ (k : Nat) (v : Int), (valsFrom 0 (split 58 x))[k]? = some v → ∃ g, a = some ⟨g, 0, none⟩ ∧ w'.cell? ⟨g, k, none⟩ = some (.int .i64 v)) := fun W hb => (hPF W hb).mono fun e w' h' => by
    rcases h' with ⟨h1, v, h2, h3, h4⟩ | ⟨h1, h2, h4⟩
    · rw [decide_eq_true hn3] at h2
      rcases Joins.ownsRow_forms h3 with ⟨e1, e2⟩ | ⟨g, cap, e1⟩
      · refine ⟨none, 0, by rw [h2, e1, e2], h4, fun k v hv => ?_⟩
        have := (List.getElem?_eq_some_iff.1 hv).1
        omega
      · refine ⟨some ⟨g, 0, none⟩, cap, by rw [h2, e1], h4, fun k v hv => ⟨g, rfl, ?_⟩⟩
        subst e1
        have hk := (List.getElem?_eq_some_iff.1 hv).1
        rw [World.ownsRow.cellAt h3 k (by omega), List.getElem?_map, hv]
        rfl
    · rw [hok] at h1; cases h1
  clear hPF h hok
  have hPF := hPF'
  clear hPF'
  generalize scaled y 1 4 = r at *
  generalize valsFrom 0 (split 58 x) = V at *
  generalize (split 58 x).length = n at *
  have hni : (n : Int) ≤ 3 := by omega
  rw [if_neg hr, decide_eq_true (by omega)] at hD
  have HRV := Lib.hid hrv
  have HVA := Lib.hid hva
  have HVL := Lib.hid hvl
  have HT0 : Hid (tg n 0 0 (V.drop 0) = tg n 0 0 V) := Lib.hid rfl
  generalize tg n 0 0 V = R at *
  clear hz hc1 hc2 hm hG hrv hva hvl
  go_enter Tryz.func70, Tryz.ntmps70
  go_wp2_with fail
  refine (hC _ hb0).mono ?_
  rintro e w3 ⟨rfl, hb3⟩
  have hB1 := (Below.refl (w.heap.size + 1) _).trans (hb3.mono (B' := w.heap.size + 1) (by simp))
  clear hC hb3
  go_wp2_with fail
  refine (hD _).mono ?_
  rintro e w4 ⟨rfl, hb4⟩
  replace hB1 := hB1.trans (hb4.mono (B' := w.heap.size + 1) (by have := hB1.size; simp at this; omega))
  clear hD hb4
  have hbw4 : Below w.heap.size w w4 := hb0.trans (hB1.mono (by omega))
  go_wp2_with fail
  refine (hPF _ hbw4).mono ?_
  rintro e w5 ⟨a, cap, rfl, hb5, hcells⟩
  have HCE := Lib.hid hcells
  clear hcells
  replace hB1 := hB1.trans (hb5.mono (B' := w.heap.size + 1) (by have := hB1.size; simp at this; omega))
  clear hPF hb5 hbw4
  obtain ⟨a0, a1, a2⟩ : Box w5 w.heap.size ⟨#[]⟩ 0 ⟨#[]⟩ := (Box.new w ⟨#[]⟩ 0 ⟨#[]⟩).below hB1 (by omega)
  have f0 : ∀ o, w5.frozen? ⟨w.heap.size, o, none⟩ = false := fun o => (hB1.frozen (p := ⟨w.heap.size, o, none⟩) (by show w.heap.size < _; omega)).trans (fz_new w _ rfl _ _ o)
  have hbw : Below w.heap.size w w5 := hb0.trans (hB1.mono (by omega))
  clear hB1 hb0
  go_wp2
  go_loop [11, 40] (fun t i => ∃ (k : Nat) (tt : Int), i = .int .i64 k ∧ t = .int .i64 tt ∧ k ≤ n ∧ 0 ≤ tt ∧ Hid (tt ≤ bnd k) ∧ Hid (tg n k tt (V.drop k) = R)) (fun _ i => n - (intOf i).toNat)
  case atStart => exact ⟨0, 0, rfl, rfl, by omega, Int.le_refl _, Lib.hid (Int.le_refl _), HT0⟩
  case round =>
    obtain ⟨k, tt, rfl, rfl, hk, ht0, Ht1, HT⟩ := hrel
    have ht1 : tt ≤ 4000000000000 := Int.le_trans Ht1.out (bnd_le k (by omega))
    by_cases hlt : k < n
    · obtain ⟨v, hv⟩ : ∃ v, V[k]? = some v := ⟨_, List.getElem?_eq_getElem (by rw [HVL.out]; exact hlt)⟩
      obtain ⟨hv1, hv2⟩ := HVA.out k v hv
      obtain ⟨g, rfl, ek⟩ := HCE.out k v hv
      have HVK := Lib.hid hv
      have hlti : (k : Int) < n := by omega
      clear hv
      by_cases hbadc : 59 < v ∧ ¬ ((n : Int) - k = 3)
      · obtain ⟨h59, h3⟩ := hbadc
        have h3' : ((n : Int) - k == 3) = false := beq_eq_false_iff_ne.2 h3
        have HR : Hid (R = none) := Lib.hid (by have := HT.out; rw [tg_bad HVK.out h59 h3] at this; exact this.symm)
        clear HT h3
        as_aux_lemma =>
          go_wp2
          obtain ⟨q0, q1, q2⟩ : Box _ w.heap.size ⟨#[]⟩ (0) ⟨#[]⟩ := Box.put3 (w := w5) ⟨a0, a1, a2⟩
          exact bodyPost_ret (v := .tuple #[.agg #[.string ⟨#[]⟩, .int .i64 (0), .string ⟨#[]⟩], .int .i64 3]) (by simp [results, Tryz.results70, go_sem, q0, q1, q2]) rfl ⟨by rw [← HRV.out, HR.out]; rfl, (((hbw.setCell (Nat.le_refl _) _).setCell (Nat.le_refl _) _).setCell (Nat.le_refl _) _)⟩
      · have HTn : Hid (tg n (k + 1) (60 * tt + v) (V.drop (k + 1)) = R) := Lib.hid (by rw [← tg_step HVK.out hbadc]; exact HT.out)
        clear HT
        by_cases h59 : 59 < v
        · have h3 : (n : Int) - k = 3 := by omega
          have h3' : ((n : Int) - k == 3) = true := beq_iff_eq.2 h3
          clear hbadc h3
          as_aux_lemma =>
            go_wp2
            exact ⟨⟨k + 1, 60 * tt + v, by go_num, rfl, by omega, by omega, Lib.hid (by rw [bnd]; have := Ht1.out; omega), HTn⟩, by simp [intOf]; omega⟩
        · generalize hb3 : ((n : Int) - k == 3) = b3
          have Hb3 := Lib.hid hb3
          clear hbadc
          as_aux_lemma =>
            go_wp2
            exact ⟨⟨k + 1, 60 * tt + v, by go_num, rfl, by omega, by omega, Lib.hid (by rw [bnd]; have := Ht1.out; omega), HTn⟩, by simp [intOf]; omega⟩
    · have HR : Hid (R = some tt) := Lib.hid (by have := HT.out; rw [tg_end (by rw [HVL.out]; omega)] at this; exact this.symm)
      clear HT
      as_aux_lemma =>
        go_wp2
        obtain ⟨q0, q1, q2⟩ : Box _ w.heap.size ⟨#[116, 105, 109, 101]⟩ (tt * 10000 + r) ⟨#[]⟩ := Box.put3 (w := w5) ⟨a0, a1, a2⟩
        exact bodyPost_ret (v := .tuple #[.agg #[.string ⟨#[116, 105, 109, 101]⟩, .int .i64 (tt * 10000 + r), .string ⟨#[]⟩], .int .i64 0]) (by simp [results, Tryz.results70, go_sem, q0, q1, q2]) rfl ⟨by rw [← HRV.out, HR.out]; rfl, (((hbw.setCell (Nat.le_refl _) _).setCell (Nat.le_refl _) _).setCell (Nat.le_refl _) _)⟩
theorem parseTime_any (s : ByteArray) (hz : s.size ≤ 60) (w : World) (hG : Gd w) : Calls Tryz.prog 70 #[.string s] w (RetPost (ME.out (timeM (split 58 (cutA s 46)) (scaled (cutB s 46) 1 4))) w) := by
  unfold timeM
  by_cases h : scaled (cutB s 46) 1 4 < 0 ∨ okF 0 (split 58 (cutA s 46)) = false ∨ 3 < (split 58 (cutA s 46)).length
  · rw [if_pos h]; exact parseTime_bad s hz h w hG
  · rw [if_neg h]; exact parseTime_go s hz h w hG _ rfl
end Go.Mk
