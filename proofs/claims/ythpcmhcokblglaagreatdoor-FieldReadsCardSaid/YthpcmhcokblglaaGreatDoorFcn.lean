/-
  Proved: failures, last and shaped of the reference of chapter 6 as plain functions of a text. Conditions: the text is no longer than an int says.
-/
import Derived.Test.YthpcmhcokblglaaGreatDoorFcb
set_option linter.unusedVariables false
set_option linter.unusedSimpArgs false
open Go Go.Proofs Go.RowKit
set_option maxRecDepth 100000
namespace Go.Mk
/-- The failures in a text. -/
def cx : List UInt8 → Nat
  | [] => 0
  | c :: l => if c = 120 then cx l + 1 else cx l
/-- The last byte of a text, 0 if it is empty. -/
def lastB (l : List UInt8) : UInt8 := l.getLast?.getD 0
theorem cx_le (l : List UInt8) : cx l ≤ l.length := by
  induction l with
  | nil => exact Nat.le_refl _
  | cons c l ih => rw [cx]; split <;> simp <;> omega
theorem u8_ne {c d : UInt8} (h : c ≠ d) : ((c.toNat : Int) == (d.toNat : Int)) = false := by
  rw [beq_eq_false_iff_ne]
  intro q
  exact h (UInt8.toNat_inj.1 (by omega))
set_option maxHeartbeats 4000000 in
theorem r6failures_any (s : ByteArray) (w : World) (hz : s.size ≤ maxLen) : Calls Tryz.prog 60 #[.string s] w (RetSame (.int .i64 (cx (bl s))) w) := by
  have hml : maxLen = 9223372036854775807 := rfl
  have hsz : (s.size : Int) ≤ 9223372036854775807 := by omega
  obtain ⟨y, hy⟩ : ∃ y, cx (bl s) = y := ⟨_, rfl⟩
  rw [hy]
  have HY : Hid (0 + cx (s.data.toList.drop 0) = y) := Lib.hid (by rw [Nat.zero_add]; exact hy)
  clear hy hz
  go_enter Tryz.func60, Tryz.ntmps60
  go_wp2
  go_loop [3, 4] (fun nv i => ∃ k r : Nat, i = .int .i64 k ∧ nv = .int .i64 r ∧ k ≤ s.size ∧ r ≤ k ∧ Hid (r + cx (s.data.toList.drop k) = y)) (fun _ i => s.size - (intOf i).toNat)
  case atStart => exact ⟨0, 0, rfl, rfl, by omega, by omega, HY⟩
  case round =>
    obtain ⟨k, r, rfl, rfl, hk, hr, HK⟩ := hrel
    by_cases hlt : k < s.size
    · have hst := HK.out
      rw [dropAt s k hlt, cx] at hst
      have hki : (k : Int) < (s.size : Int) := by omega
      by_cases hx : s[k] = 120
      · rw [if_pos hx] at hst
        have HST : Hid (r + 1 + cx (s.data.toList.drop (k + 1)) = y) := Lib.hid (by omega)
        have hb : ((s[k].toNat : Int) == 120) = true := by rw [hx]; rfl
        have HR := Lib.hid hr
        clear hst hx HK
        go_wp2
        exact ⟨⟨k + 1, r + 1, by go_num, by go_num, by omega, by have := HR.out; omega, HST⟩, by simp [intOf]; omega⟩
      · rw [if_neg hx] at hst
        have HST : Hid (r + cx (s.data.toList.drop (k + 1)) = y) := Lib.hid hst
        have hb : ((s[k].toNat : Int) == 120) = false := u8_ne hx
        have HR := Lib.hid hr
        clear hst hx HK
        go_wp2
        exact ⟨⟨k + 1, r, by go_num, rfl, by omega, by have := HR.out; omega, HST⟩, by simp [intOf]; omega⟩
    · have h0 := HK.out
      rw [dropEnd s k (by omega), cx, Nat.add_zero] at h0
      subst h0
      go_wp2
      go_ret
      exact ⟨rfl, rfl⟩
theorem lastB_at {s : ByteArray} {m : Nat} (h : s.size = m + 1) (hm : m < s.size) : lastB (bl s) = s[m] := by
  unfold lastB
  have hl : (bl s).length = m + 1 := by rw [← h]; exact Array.length_toList
  rw [List.getLast?_eq_getElem?, hl, Nat.add_sub_cancel, List.getElem?_eq_getElem (by omega)]
  rfl
set_option maxHeartbeats 2000000 in
theorem r6last_any (s : ByteArray) (w : World) (hz : s.size ≤ maxLen) : Calls Tryz.prog 61 #[.string s] w (RetSame (.int .u8 ((lastB (bl s)).toNat : Int)) w) := by
  have hml : maxLen = 9223372036854775807 := rfl
  have hsz : (s.size : Int) ≤ 9223372036854775807 := by omega
  by_cases h0 : s.size = 0
  · have hb : ((s.size : Int) == 0) = true := by rw [beq_iff_eq]; omega
    have hl : lastB (bl s) = 0 := by
      have : bl s = [] := List.length_eq_zero_iff.1 (by rw [← h0]; exact Array.length_toList)
      rw [this]; rfl
    rw [hl]
    clear h0 hl
    go_enter Tryz.func61, Tryz.ntmps61
    go_wp2
    go_ret
    exact ⟨rfl, rfl⟩
  · have hb : ((s.size : Int) == 0) = false := by rw [beq_eq_false_iff_ne]; omega
    obtain ⟨m, hm⟩ : ∃ m, s.size = m + 1 := ⟨s.size - 1, by omega⟩
    have hms : m < s.size := by omega
    rw [lastB_at hm hms]
    have h1 : (s.size : Int) - 1 = (m : Int) := by omega
    have hw : IntKind.i64.wrap (m : Int) = (m : Int) := IntWalk.i64_in _ (by omega)
    have hm0 : (0 : Int) ≤ (m : Int) := by omega
    have hmt : ((m : Int)).toNat = m := by omega
    have hmi : (m : Int) < (s.size : Int) := by omega
    clear h0 hm
    go_enter Tryz.func61, Tryz.ntmps61
    go_wp2
    go_ret
    exact ⟨rfl, rfl⟩
/-- May a byte stand at a place of a text of a height? -/
def okAt (l : List UInt8) (k : Nat) : Prop := l[k]? = some 120 ∨ (k + 1 = l.length ∧ (l[k]? = some 111 ∨ l[k]? = some 45))
theorem okAt_all : ∀ l : List UInt8, (∀ k, k < l.length → okAt l k) ↔ (endL l = [] ∨ endL l = [111] ∨ endL l = [45])
  | [] => ⟨fun _ => .inl rfl, fun _ k hk => absurd hk (by simp)⟩
  | c :: l => by
    by_cases hc : c = 120
    · subst hc
      have he : endL (120 :: l) = endL l := by unfold endL; rw [nxL, if_pos rfl]; rfl
      rw [he, ← okAt_all l]
      constructor
      · intro h k hk
        have := h (k + 1) (by simpa using hk)
        unfold okAt at this ⊢
        simpa using this
      · intro h k hk
        cases k with
        | zero => exact .inl rfl
        | succ k =>
          have := h k (by simpa using hk)
          unfold okAt at this ⊢
          simpa using this
    · have he : endL (c :: l) = c :: l := by unfold endL; rw [nxL, if_neg hc]; rfl
      rw [he]
      constructor
      · intro h
        have h0 := h 0 (by simp)
        unfold okAt at h0
        rcases h0 with h0 | ⟨h1, h0⟩
        · simp at h0; exact absurd h0 hc
        · have : l = [] := List.length_eq_zero_iff.1 (by simpa using h1.symm)
          subst this
          rcases h0 with h0 | h0
          · simp at h0; subst h0; exact .inr (.inl rfl)
          · simp at h0; subst h0; exact .inr (.inr rfl)
      · rintro (h | h | h)
        · cases h
        · obtain ⟨rfl, rfl⟩ : c = 111 ∧ l = [] := by simpa using h
          intro k hk
          obtain rfl : k = 0 := by simpa using hk
          exact .inr ⟨rfl, .inl rfl⟩
        · obtain ⟨rfl, rfl⟩ : c = 45 ∧ l = [] := by simpa using h
          intro k hk
          obtain rfl : k = 0 := by simpa using hk
          exact .inr ⟨rfl, .inr rfl⟩
theorem htE_zero (l : List UInt8) : htE l = 0 ↔ (1 ≤ l.length ∧ l.length ≤ 3 ∧ ∀ k, k < l.length → okAt l k) := by
  unfold htE
  rw [okAt_all]
  constructor
  · intro h
    split at h
    · rename_i q; exact ⟨q.2.1, q.2.2, q.1⟩
    · cases h
  · rintro ⟨h1, h2, h3⟩
    rw [if_pos ⟨h3, h1, h2⟩]
set_option maxHeartbeats 8000000 in
theorem r6shaped_any (s : ByteArray) (w : World) (hz : s.size ≤ maxLen) : Calls Tryz.prog 59 #[.string s] w (RetSame (.bool (decide (htE (bl s) = 0))) w) := by
  have hml : maxLen = 9223372036854775807 := rfl
  have hsz : (s.size : Int) ≤ 9223372036854775807 := by omega
  have hlen : (bl s).length = s.size := Array.length_toList
  obtain ⟨y, hy⟩ : ∃ y, decide (htE (bl s) = 0) = y := ⟨_, rfl⟩
  rw [hy]
  by_cases h1 : s.size < 1
  · obtain rfl : false = y := by rw [← hy, decide_eq_false]; intro q; have := (htE_zero _).1 q; omega
    have hi : (s.size : Int) < 1 := by omega
    clear hy h1 hlen hz hml
    go_enter Tryz.func59, Tryz.ntmps59
    go_wp2
    go_ret
    exact ⟨rfl, rfl⟩
  · by_cases h3 : 3 < s.size
    · obtain rfl : false = y := by rw [← hy, decide_eq_false]; intro q; have := (htE_zero _).1 q; omega
      have hi : ¬ (s.size : Int) < 1 := by omega
      have hj : (3 : Int) < (s.size : Int) := by omega
      clear hy h1 h3 hlen hz hml
      go_enter Tryz.func59, Tryz.ntmps59
      go_wp2
      go_ret
      exact ⟨rfl, rfl⟩
    · have hi : ¬ (s.size : Int) < 1 := by omega
      have hj : ¬ (3 : Int) < (s.size : Int) := by omega
      have HG : Hid ((∀ k, k < s.size → okAt (bl s) k) → true = y) := Lib.hid fun q => by
        rw [← hy]
        exact (decide_eq_true ((htE_zero _).2 ⟨by omega, by omega, by rw [hlen]; exact q⟩)).symm
      have HB : Hid (∀ k, k < s.size → ¬ okAt (bl s) k → false = y) := Lib.hid fun k hk q => by
        rw [← hy]
        symm
        rw [decide_eq_false]
        intro h
        exact q (((htE_zero _).1 h).2.2 k (by rw [hlen]; exact hk))
      have HL := Lib.hid hlen
      clear hy h1 h3 hlen hz hml
      go_enter Tryz.func59, Tryz.ntmps59
      go_wp2
      go_loop [3] (fun i => ∃ k : Nat, i = .int .i64 k ∧ k ≤ s.size ∧ Hid (∀ j, j < k → okAt (bl s) j)) (fun i => s.size - (intOf i).toNat)
      case atStart => exact ⟨0, rfl, by omega, Lib.hid fun j hj => absurd hj (by omega)⟩
      case round =>
        obtain ⟨k, rfl, hk, HK⟩ := hrel
        by_cases hlt : k < s.size
        · have hki : (k : Int) < (s.size : Int) := by omega
          have hget : (bl s)[k]? = some s[k] := by
            rw [List.getElem?_eq_getElem (by rw [HL.out]; exact hlt)]; rfl
          have hnext : okAt (bl s) k → Hid (∀ j, j < k + 1 → okAt (bl s) j) := fun q => Lib.hid fun j hj => by
            rcases Nat.lt_or_ge j k with hj' | hj'
            · exact HK.out j hj'
            · obtain rfl : j = k := by omega
              exact q
          obtain ⟨c, hc⟩ : ∃ c, s[k] = c := ⟨_, rfl⟩
          rw [hc] at hget
          have hidx : ∀ h, (s[k]'h) = c := fun h => hc
          have hcase : (c = 120) ∨ (c ≠ 120 ∧ k + 1 = s.size ∧ c = 111) ∨ (c ≠ 120 ∧ k + 1 = s.size ∧ c ≠ 111 ∧ c = 45) ∨ (c ≠ 120 ∧ k + 1 = s.size ∧ c ≠ 111 ∧ c ≠ 45) ∨ (c ≠ 120 ∧ k + 1 ≠ s.size) := by
            by_cases q1 : c = 120
            · exact .inl q1
            · by_cases q2 : k + 1 = s.size
              · by_cases q3 : c = 111
                · exact .inr (.inl ⟨q1, q2, q3⟩)
                · by_cases q4 : c = 45
                  · exact .inr (.inr (.inl ⟨q1, q2, q3, q4⟩))
                  · exact .inr (.inr (.inr (.inl ⟨q1, q2, q3, q4⟩)))
              · exact .inr (.inr (.inr (.inr ⟨q1, q2⟩)))
          have e120 : ((c.toNat : Int) != 120) = !decide (c = 120) := by
            by_cases q : c = 120
            · subst q; rfl
            · rw [decide_eq_false q]; show (!((c.toNat : Int) == 120)) = _; rw [show (120 : Int) = ((120 : UInt8).toNat : Int) from rfl, u8_ne q]
          have e111 : ((c.toNat : Int) == 111) = decide (c = 111) := by
            by_cases q : c = 111
            · subst q; rfl
            · rw [decide_eq_false q]; exact u8_ne q
          have e45 : ((c.toNat : Int) == 45) = decide (c = 45) := by
            by_cases q : c = 45
            · subst q; rfl
            · rw [decide_eq_false q]; exact u8_ne q
          have elast : (((k : Int) + 1) == (s.size : Int)) = decide (k + 1 = s.size) := by
            by_cases q : k + 1 = s.size
            · rw [decide_eq_true q, beq_iff_eq]; omega
            · rw [decide_eq_false q, beq_eq_false_iff_ne]; omega
          have hkw : IntKind.i64.wrap ((k : Int) + 1) = (k : Int) + 1 := IntWalk.i64_in _ (by omega)
          rcases hcase with q | ⟨q1, q2, q3⟩ | ⟨q1, q2, q3, q4⟩ | ⟨q1, q2, q3, q4⟩ | ⟨q1, q2⟩
          · have HN := hnext (.inl (by rw [hget, q]))
            rw [decide_eq_true q] at e120
            have n1 : decide (c = 111) = false := decide_eq_false (by rw [q]; decide)
            have n2 : decide (c = 45) = false := decide_eq_false (by rw [q]; decide)
            rw [n1] at e111
            rw [n2] at e45
            clear hnext HK hget hc n1 n2 q
            cases hd : decide (k + 1 = s.size) <;> rw [hd] at elast <;> clear hd
            all_goals
              go_wp2
              exact ⟨⟨k + 1, by go_num, by omega, HN⟩, by simp [intOf]; omega⟩
          · have HN := hnext (.inr ⟨by rw [HL.out]; exact q2, .inl (by rw [hget, q3])⟩)
            rw [decide_eq_false q1] at e120
            rw [decide_eq_true q3] at e111
            rw [decide_eq_true q2] at elast
            clear hnext HK hget hc q1 q2 q3 e45
            go_wp2
            exact ⟨⟨k + 1, by go_num, by omega, HN⟩, by simp [intOf]; omega⟩
          · have HN := hnext (.inr ⟨by rw [HL.out]; exact q2, .inr (by rw [hget, q4])⟩)
            rw [decide_eq_false q1] at e120
            rw [decide_eq_false q3] at e111
            rw [decide_eq_true q4] at e45
            rw [decide_eq_true q2] at elast
            clear hnext HK hget hc q1 q2 q3 q4
            go_wp2
            exact ⟨⟨k + 1, by go_num, by omega, HN⟩, by simp [intOf]; omega⟩
          · have hf := HB.out k hlt (by
              rintro (h | ⟨_, h | h⟩) <;> rw [hget] at h <;> injection h with h
              · exact q1 h
              · exact q3 h
              · exact q4 h)
            subst hf
            rw [decide_eq_false q1] at e120
            rw [decide_eq_false q3] at e111
            rw [decide_eq_false q4] at e45
            rw [decide_eq_true q2] at elast
            clear hnext HK hget hc q1 q2 q3 q4 HG HB
            go_wp2
            go_ret
            exact ⟨rfl, rfl⟩
          · have hf := HB.out k hlt (by
              rintro (h | ⟨h, _⟩)
              · rw [hget] at h; injection h with h; exact q1 h
              · rw [HL.out] at h; exact q2 h)
            subst hf
            rw [decide_eq_false q1] at e120
            rw [decide_eq_false q2] at elast
            clear hnext HK hget hc q1 q2 HG HB
            go_wp2
            go_ret
            exact ⟨rfl, rfl⟩
        · have ht := HG.out (fun j hj => HK.out j (by omega))
          subst ht
          clear HG HB HK
          go_wp2
          go_ret
          exact ⟨rfl, rfl⟩
end Go.Mk
