/-
  Proved: the law MarkRounds returns true and leaves all that was there, for any two marks and any name. Conditions: the tables that awake reads lie where the program lays them; the texts are no longer than an int says.
-/
import Derived.Test.YtgcofpejbjfhaaaGreatDoorMr1
import Derived.Test.YtgcofpejbjfhaaaGreatDoorMr3
import Derived.Test.YtgcofpejbjfhaaaGreatDoorMr4
open Go Go.Proofs Go.RowKit
set_option maxRecDepth 100000
namespace Go.Mk
theorem up_props (v st : Int) (h : st = 1 ∨ st = 10 ∨ st = 100 ∨ st = 1000) (hv : 0 ≤ v) :
    (v + st - 1 - (v + st - 1) % st) % st = 0 ∧ v ≤ v + st - 1 - (v + st - 1) % st ∧ v + st - 1 - (v + st - 1) % st < v + st := by
  rcases h with rfl | rfl | rfl | rfl <;> omega
theorem down_props (v st : Int) (h : st = 1 ∨ st = 10 ∨ st = 100 ∨ st = 1000) (hv : 0 ≤ v) :
    (v - v % st) % st = 0 ∧ v - v % st ≤ v ∧ v < v - v % st + st ∧ 0 ≤ v - v % st := by
  rcases h with rfl | rfl | rfl | rfl <;> omega
theorem up_again (x st : Int) (h : st = 1 ∨ st = 10 ∨ st = 100 ∨ st = 1000) (hx : x % st = 0) : x + st - 1 - (x + st - 1) % st = x := by
  rcases h with rfl | rfl | rfl | rfl <;> omega
theorem up_mono (v w st : Int) (h : st = 1 ∨ st = 10 ∨ st = 100 ∨ st = 1000) (hv : v ≤ w) : v + st - 1 - (v + st - 1) % st ≤ w + st - 1 - (w + st - 1) % st := by
  rcases h with rfl | rfl | rfl | rfl <;> omega
theorem down_mono (v w st : Int) (h : st = 1 ∨ st = 10 ∨ st = 100 ∨ st = 1000) (hv : v ≤ w) : v - v % st ≤ w - w % st := by
  rcases h with rfl | rfl | rfl | rfl <;> omega
theorem cmpv_true (a b : Int) : (a < b ∧ cmpv true a b = -1) ∨ (a = b ∧ cmpv true a b = 0) ∨ (b < a ∧ cmpv true a b = 1) := by
  unfold cmpv
  rcases (show a < b ∨ a = b ∨ b < a by omega) with h | h | h
  · exact .inl ⟨h, by rw [if_neg (by omega), if_pos (by simp [h])]⟩
  · exact .inr (.inl ⟨h, by rw [if_pos h]⟩)
  · exact .inr (.inr ⟨h, by rw [if_neg (by omega), if_neg (by simp; omega)]⟩)
theorem cmpv_false (a b : Int) : (b < a ∧ cmpv false a b = -1) ∨ (a = b ∧ cmpv false a b = 0) ∨ (a < b ∧ cmpv false a b = 1) := by
  unfold cmpv
  rcases (show a < b ∨ a = b ∨ b < a by omega) with h | h | h
  · exact .inr (.inr ⟨h, by rw [if_neg (by omega), if_neg (by simp [h])]⟩)
  · exact .inr (.inl ⟨h, by rw [if_pos h]⟩)
  · exact .inl ⟨h, by rw [if_neg (by omega), if_pos (by simp; omega)]⟩
theorem tdiv_props (n : Int) : (0 ≤ n → 10 * n.tdiv 10 ≤ n ∧ n < 10 * n.tdiv 10 + 10) ∧ (n < 0 → n ≤ 10 * n.tdiv 10 ∧ 10 * n.tdiv 10 < n + 10) := by
  constructor
  · intro h
    rw [Int.tdiv_eq_ediv_of_nonneg h]; omega
  · intro h
    have e : n.tdiv 10 = -((-n) / 10) := by rw [← Int.neg_neg n, Int.neg_tdiv, Int.tdiv_eq_ediv_of_nonneg (by omega)]; simp
    omega
theorem wind_props (n : Int) : n ≤ 10 * (n.tdiv 10 + if 10 * n.tdiv 10 < n then 1 else 0) ∧ 10 * ((n.tdiv 10 + if 10 * n.tdiv 10 < n then 1 else 0) - 1) < n := by
  obtain ⟨h1, h2⟩ := tdiv_props n
  generalize n.tdiv 10 = q at *
  rcases Int.lt_or_le n 0 with h | h
  · obtain ⟨a, b⟩ := h2 h
    split <;> omega
  · obtain ⟨a, b⟩ := h1 h
    split <;> omega

theorem rndM_err (s : ByteArray) (v : Int) (r n : ByteArray) (hc : chk s v r = 0) : (rndM s v r n).2 = 0 ∨ (rndM s v r n).2 = 13 ∨ (rndM s v r n).2 = 4 := by
  unfold rndM
  rw [if_neg (by simp [hc])]
  repeat' split
  all_goals simp
/-- What a rounding without an error gives. -/
theorem rndM_ok (s : ByteArray) (v : Int) (r n : ByteArray) (hc : chk s v r = 0) (h : (rndM s v r n).2 = 0) :
    rndM s v r n = ((s, rnd s v (cls n).1.2, r), 0) ∧ (cls n).2 = true ∧ fitsB (cls n).1.1 s = true ∧ rnd s v (cls n).1.2 ≤ top s := by
  unfold rndM at h ⊢
  rw [if_neg (by simp [hc])] at h ⊢
  by_cases h1 : (cls n).2 = false
  · rw [if_pos h1] at h; simp at h
  · rw [if_neg h1] at h ⊢
    by_cases h2 : fitsB (cls n).1.1 s = false
    · rw [if_pos h2] at h; simp at h
    · rw [if_neg h2] at h ⊢
      by_cases h3 : top s < rnd s v (cls n).1.2
      · rw [if_pos h3] at h; simp at h
      · rw [if_neg h3]
        exact ⟨rfl, by simpa using h1, by simpa using h2, by omega⟩
theorem rndM_mk (s : ByteArray) (v : Int) (r n : ByteArray) (hc : chk s v r = 0) (h1 : (cls n).2 = true) (h2 : fitsB (cls n).1.1 s = true) (h3 : rnd s v (cls n).1.2 ≤ top s) : rndM s v r n = ((s, rnd s v (cls n).1.2, r), 0) := by
  unfold rndM
  rw [if_neg (by simp [hc]), if_neg (by simp [h1]), if_neg (by simp [h2]), if_neg (by omega)]

theorem fst2_zero {a b : Int} (h1 : a = 0) (h2 : b = 0) : fst2 a b = 0 := by subst h1; subst h2; rfl
theorem cmpM_same (s : ByteArray) (v1 : Int) (r1 : ByteArray) (v2 : Int) (r2 : ByteArray) (h1 : chk s v1 r1 = 0) (h2 : chk s v2 r2 = 0) : cmpM s v1 r1 s v2 r2 = (cmpv (decide (s = sTime)) v1 v2, 0) := by
  unfold cmpM
  rw [if_neg (by simp [fst2_zero h1 h2]), if_pos rfl]

theorem chk_time (v : Int) (r : ByteArray) (h : chk sTime v r = 0) : r.toList.isEmpty = true ∧ 1 ≤ v ∧ v ≤ 863999999 := by
  unfold chk at h
  rw [if_neg (by decide), if_pos rfl] at h
  repeat' split at h
  all_goals first | (simp at h; done) | (exact ⟨by assumption, by omega, by omega⟩)
theorem chk_time_mk (v : Int) (r : ByteArray) (h1 : r.toList.isEmpty = true) (h2 : 1 ≤ v) (h3 : v ≤ 863999999) : chk sTime v r = 0 := by
  unfold chk
  rw [if_neg (by decide), if_pos rfl, if_pos h1, if_neg (by omega)]
theorem chk_length (v : Int) (r : ByteArray) (h : chk sLength v r = 0) : r.toList.isEmpty = true ∧ 0 ≤ v ∧ v ≤ 999999 := by
  unfold chk at h
  rw [if_neg (by decide), if_neg (by decide), if_pos rfl] at h
  repeat' split at h
  all_goals first | (simp at h; done) | (exact ⟨by assumption, by omega, by omega⟩)
theorem chk_length_mk (v : Int) (r : ByteArray) (h1 : r.toList.isEmpty = true) (h2 : 0 ≤ v) (h3 : v ≤ 999999) : chk sLength v r = 0 := by
  unfold chk
  rw [if_neg (by decide), if_neg (by decide), if_pos rfl, if_pos h1, if_neg (by omega)]

theorem rounds_any (s1 r1 s2 r2 n : ByteArray) (v1 v2 : Int) (w : World) (ht : Tabs w) (z1 : s1.size ≤ maxLen) (z2 : r1.size ≤ maxLen) (z3 : s2.size ≤ maxLen) (z4 : r2.size ≤ maxLen) (z5 : n.size ≤ maxLen) :
    Calls Tryz.prog 6 #[.agg #[.string s1, .int .i64 v1, .string r1], .agg #[.string s2, .int .i64 v2, .string r2], .string n] w (Yes w) := by
  have hB1 := fun w => Brief_any s1 r1 v1 w z1 z2
  have hB2 := fun w => Brief_any s2 r2 v2 w z3 z4
  have hC1 := refCheckMark_any s1 r1 v1
  have hC2 := refCheckMark_any s2 r2 v2
  have ne_bne : ∀ {a : Int}, a ≠ 0 → (a != 0) = true := fun h => by rw [bne_iff_ne]; exact h
  cases x1 : brief s1 r1 with
  | false => rw [x1] at hB1; exact rounds_exit s1 r1 s2 r2 n v1 v2 w ht z5 _ _ _ _ hB1 hB2 hC1 hC2 (.inl rfl)
  | true =>
  cases x2 : brief s2 r2 with
  | false => rw [x1] at hB1; rw [x2] at hB2; exact rounds_exit s1 r1 s2 r2 n v1 v2 w ht z5 _ _ _ _ hB1 hB2 hC1 hC2 (.inr (.inl ⟨rfl, rfl⟩))
  | true =>
  rw [x1] at hB1
  rw [x2] at hB2
  by_cases h3 : 40 < (n.size : Int)
  · exact rounds_exit s1 r1 s2 r2 n v1 v2 w ht z5 _ _ _ _ hB1 hB2 hC1 hC2 (.inr (.inr (.inl ⟨rfl, rfl, h3⟩)))
  by_cases h4 : chk s1 v1 r1 = 0
  case neg => exact rounds_exit s1 r1 s2 r2 n v1 v2 w ht z5 _ _ _ _ hB1 hB2 hC1 hC2 (.inr (.inr (.inr (.inl ⟨rfl, rfl, h3, ne_bne h4⟩))))
  by_cases h5 : chk s2 v2 r2 = 0
  case neg => exact rounds_exit s1 r1 s2 r2 n v1 v2 w ht z5 _ _ _ _ hB1 hB2 hC1 hC2 (.inr (.inr (.inr (.inr (.inl ⟨rfl, rfl, h3, h4, ne_bne h5⟩)))))
  by_cases h6 : s1 = s2
  case neg => exact rounds_exit s1 r1 s2 r2 n v1 v2 w ht z5 _ _ _ _ hB1 hB2 hC1 hC2 (.inr (.inr (.inr (.inr (.inr (.inl ⟨rfl, rfl, h3, h4, h5, tl_ne h6⟩))))))
  subst h6
  have heq : (s1.toList == s1.toList) = true := by simp
  by_cases h7 : s1 = sNone
  · exact rounds_exit s1 r1 s1 r2 n v1 v2 w ht z5 _ _ _ _ hB1 hB2 hC1 hC2 (.inr (.inr (.inr (.inr (.inr (.inr (.inl ⟨rfl, rfl, h3, h4, h5, heq, by rw [none_beq]; simp [h7]⟩)))))))
  by_cases h8 : s1 = sPoints
  · exact rounds_exit s1 r1 s1 r2 n v1 v2 w ht z5 _ _ _ _ hB1 hB2 hC1 hC2 (.inr (.inr (.inr (.inr (.inr (.inr (.inr ⟨rfl, rfl, h3, h4, h5, heq, by rw [none_beq]; simp [h7], by rw [points_beq]; simp [h8]⟩)))))))
  have k7 : (s1.toList == [110, 111, 110, 101]) = false := by rw [none_beq]; simp [h7]
  have k8 : (s1.toList == [112, 111, 105, 110, 116, 115]) = false := by rw [points_beq]; simp [h8]
  rw [h4] at hC1
  rw [h5] at hC2
  have hn40 : n.size ≤ 40 := by omega
  have hR1 := fun w (hg : 15 ≤ w.heap.size) => Round_any s1 r1 n v1 w hg
  have hR2 := fun w (hg : 15 ≤ w.heap.size) => Round_any s1 r2 n v2 w hg
  have hS := Step_is n (cls n).1.1 (cls n).1.2 (cls n).2 rfl
  by_cases e1 : (rndM s1 v1 r1 n).2 = 0
  case neg => exact rounds_err s1 r1 r2 _ _ _ _ _ v1 v2 _ _ _ _ _ n w ht hn40 k7 k8 hB1 hB2 hC1 hC2 hR1 hR2 hS (rndM_err s1 v1 r1 n h4) (rndM_err s1 v2 r2 n h5) (.inl (ne_bne e1))
  by_cases e2 : (rndM s1 v2 r2 n).2 = 0
  case neg => exact rounds_err s1 r1 r2 _ _ _ _ _ v1 v2 _ _ _ _ _ n w ht hn40 k7 k8 hB1 hB2 hC1 hC2 hR1 hR2 hS (rndM_err s1 v1 r1 n h4) (rndM_err s1 v2 r2 n h5) (.inr ⟨e1, ne_bne e2⟩)
  obtain ⟨q1, c1, c2, t1⟩ := rndM_ok s1 v1 r1 n h4 e1
  obtain ⟨q2, _, _, t2⟩ := rndM_ok s1 v2 r2 n h5 e2
  rw [q1] at hR1
  rw [q2] at hR2
  have hst := cls_range n c1
  obtain ⟨st, hse⟩ : ∃ st, (cls n).1.2 = st := ⟨_, rfl⟩
  have hmod0 : 0 ≤ v1 % 19999 := Int.emod_nonneg _ (by decide)
  have hmod1 : v1 % 19999 < 19999 := Int.emod_lt_of_pos _ (by decide)
  obtain ⟨m, hm⟩ : ∃ m, v1 % 19999 = m := ⟨_, rfl⟩
  rw [hm] at hmod0 hmod1
  obtain ⟨w1, w2⟩ := wind_props (m - 9999)
  have hWd := fun w => wind_ok (m - 9999) w (by omega) (by omega)
  have hP2 := fun w (hg : 15 ≤ w.heap.size) => Compare_any s1 r1 s1 r2 v1 v2 w hg
  rw [cmpM_same s1 v1 r1 v2 r2 h4 h5] at hP2
  rcases chk_kind s1 v1 r1 h4 with h | h | h | h
  · exact absurd h h7
  · subst h
    obtain ⟨re1, a1, a2⟩ := chk_time v1 r1 h4
    obtain ⟨re2, b1, b2⟩ := chk_time v2 r2 h5
    have d0 : decide (sTime = sTime) = true := by decide
    have rx : ∀ v, rnd sTime v st = v + st - 1 - (v + st - 1) % st := fun v => by unfold rnd; rw [if_pos rfl]
    have tp : top sTime = 863999999 := by decide
    rw [hse] at q1 q2 hR1 hR2 hS hst t1 t2
    obtain ⟨p1, p2, p3⟩ := up_props v1 st hst (by omega)
    obtain ⟨p4, p5, p6⟩ := up_props v2 st hst (by omega)
    have pm1 := up_mono v1 v2 st hst
    have pm2 := up_mono v2 v1 st hst
    have pa := up_again (v1 + st - 1 - (v1 + st - 1) % st) st hst p1
    rw [rx] at hR1 hR2 t1 t2
    rw [tp] at t1 t2
    generalize v1 + st - 1 - (v1 + st - 1) % st = x at *
    generalize v2 + st - 1 - (v2 + st - 1) % st = y at *
    have hcx : chk sTime x r1 = 0 := chk_time_mk x r1 re1 (by omega) (by omega)
    have hcy : chk sTime y r2 = 0 := chk_time_mk y r2 re2 (by omega) (by omega)
    have hR3 := fun w (hg : 15 ≤ w.heap.size) => Round_any sTime r1 n x w hg
    rw [rndM_mk sTime x r1 n hcx c1 c2 (by rw [hse, rx, pa, tp]; exact t1), hse, rx, pa] at hR3
    have hP1 := fun w (hg : 15 ≤ w.heap.size) => Compare_any sTime r1 sTime r1 x v1 w hg
    rw [cmpM_same sTime x r1 v1 r1 hcx h4, d0] at hP1
    have hP3 := fun w (hg : 15 ≤ w.heap.size) => Compare_any sTime r1 sTime r2 x y w hg
    rw [cmpM_same sTime x r1 y r2 hcx hcy, d0] at hP3
    rw [d0] at hP2
    have hc0 : 0 ≤ cmpv true x v1 := by rcases cmpv_true x v1 with ⟨i, j⟩ | ⟨i, j⟩ | ⟨i, j⟩ <;> omega
    refine rounds_main_time sTime r1 r2 (cls n).1.1 v1 v2 x y st (cmpv true x v1) (cmpv true v1 v2) (cmpv true x y) m _ n w ht hn40 k7 k8 hB1 hB2 hC1 hC2 (by rw [length_beq]; decide) (by omega) (by omega) (by omega) (by omega) (by omega) (by omega) p1 p2 p3 hc0 ?_ hm hmod0 hmod1 w1 w2 hR1 hR2 hR3 hP1 hP2 hP3 hWd hS
    rcases cmpv_true v1 v2 with ⟨i, j⟩ | ⟨i, j⟩ | ⟨i, j⟩ <;> rcases cmpv_true x y with ⟨i', j'⟩ | ⟨i', j'⟩ | ⟨i', j'⟩ <;> omega
  · subst h
    obtain ⟨re1, a1, a2⟩ := chk_length v1 r1 h4
    obtain ⟨re2, b1, b2⟩ := chk_length v2 r2 h5
    have d0 : decide (sLength = sTime) = false := by decide
    have rx : ∀ v, rnd sLength v st = v - v % st := fun v => by unfold rnd; rw [if_neg (by decide)]
    have tp : top sLength = 999999 := by decide
    rw [hse] at q1 q2 hR1 hR2 hS hst t1 t2
    obtain ⟨p1, p2, p3, p0⟩ := down_props v1 st hst (by omega)
    obtain ⟨p4, p5, p6, p7⟩ := down_props v2 st hst (by omega)
    have pm1 := down_mono v1 v2 st hst
    have pm2 := down_mono v2 v1 st hst
    rw [rx] at hR1 hR2 t1 t2
    rw [tp] at t1 t2
    generalize v1 - v1 % st = x at *
    generalize v2 - v2 % st = y at *
    have pa : x - x % st = x := by omega
    have hcx : chk sLength x r1 = 0 := chk_length_mk x r1 re1 (by omega) (by omega)
    have hcy : chk sLength y r2 = 0 := chk_length_mk y r2 re2 (by omega) (by omega)
    have hR3 := fun w (hg : 15 ≤ w.heap.size) => Round_any sLength r1 n x w hg
    rw [rndM_mk sLength x r1 n hcx c1 c2 (by rw [hse, rx, pa, tp]; exact t1), hse, rx, pa] at hR3
    have hP1 := fun w (hg : 15 ≤ w.heap.size) => Compare_any sLength r1 sLength r1 x v1 w hg
    rw [cmpM_same sLength x r1 v1 r1 hcx h4, d0] at hP1
    have hP3 := fun w (hg : 15 ≤ w.heap.size) => Compare_any sLength r1 sLength r2 x y w hg
    rw [cmpM_same sLength x r1 y r2 hcx hcy, d0] at hP3
    rw [d0] at hP2
    have hc0 : 0 ≤ cmpv false x v1 := by rcases cmpv_false x v1 with ⟨i, j⟩ | ⟨i, j⟩ | ⟨i, j⟩ <;> omega
    refine rounds_main_length sLength r1 r2 (cls n).1.1 v1 v2 x y st (cmpv false x v1) (cmpv false v1 v2) (cmpv false x y) m _ n w ht hn40 k7 k8 hB1 hB2 hC1 hC2 (by rw [length_beq]; decide) (by omega) (by omega) (by omega) (by omega) (by omega) (by omega) p1 p2 p3 hc0 ?_ hm hmod0 hmod1 w1 w2 hR1 hR2 hR3 hP1 hP2 hP3 hWd hS
    rcases cmpv_false v1 v2 with ⟨i, j⟩ | ⟨i, j⟩ | ⟨i, j⟩ <;> rcases cmpv_false x y with ⟨i', j'⟩ | ⟨i', j'⟩ | ⟨i', j'⟩ <;> omega
  · exact absurd h h8
end Go.Mk
