/-
  Proved: failures, last and shaped of the reference of chapter 6 as plain functions of a
  Proved: CheckForm of the reference of chapter 6 returns the same plain function of a card as formError of
-/
import Derived.Test.YthgkaojplomapaaGreatDoorFcb
import Derived.Test.YthgkaojplomapaaGreatDoorFcc
set_option maxHeartbeats 32000000
set_option linter.unusedVariables false
set_option linter.unusedSimpArgs false
open Go Go.Proofs Go.RowKit
set_option maxRecDepth 100000
section
namespace Go.Mk
def cx : List UInt8 → Nat
 | [] => 0
 | c :: l => if c = 120 then cx l + 1 else cx l
def lastB (l : List UInt8) : UInt8 := l.getLast?.getD 0
theorem u8_ne {c d : UInt8} (h : c ≠ d) : ((c.toNat : Int) == (d.toNat : Int)) = false := by
 rw [beq_eq_false_iff_ne]
 intro q
 exact h (UInt8.toNat_inj.1 (by omega))
theorem r6failures_any (s : ByteArray) (w : World) (hz : s.size ≤ maxLen) : Calls Tryz.prog 112 #[.string s] w (RetSame (.int .i64 (cx (bl s))) w) := by
 have hml : maxLen = 9223372036854775807 := rfl
 have hsz : (s.size : Int) ≤ 9223372036854775807 := by omega
 obtain ⟨y, hy⟩ : ∃ y, cx (bl s) = y := ⟨_, rfl⟩
 rw [hy]
 have HY : Hid (0 + cx (s.data.toList.drop 0) = y) := Lib.hid (by rw [Nat.zero_add]; exact hy)
 clear hy hz
 go_enter Tryz.func112, Tryz.ntmps112
 go_wp2
 go_loop [3, 4] (fun nv i => ∃ k r : Nat, i = .int .i64 k ∧ nv = .int .i64 r ∧ k ≤ s.size ∧ r ≤ k ∧ Hid (r + cx (s.data.toList.drop k) = y)) (fun _ i => s.size - (intOf i).toNat)
 case atStart => exact ⟨0, 0, rfl, rfl, by omega, by omega, HY⟩
 case round =>
  obtain ⟨k, r, rfl, rfl, hk, hr, HK⟩ := hrel
  by_cases hlt : k < s.size
  ·have hst := HK.out
   rw [dropAt s k hlt, cx] at hst
   have hki : (k : Int) < (s.size : Int) := by omega
   by_cases hx : s[k] = 120
   ·rw [if_pos hx] at hst
    have HST : Hid (r + 1 + cx (s.data.toList.drop (k + 1)) = y) := Lib.hid (by omega)
    have hb : ((s[k].toNat : Int) == 120) = true := by rw [hx]; rfl
    have HR := Lib.hid hr
    clear hst hx HK
    go_wp2
    exact ⟨⟨k + 1, r + 1, by go_num, by go_num, by omega, by have := HR.out; omega, HST⟩, by simp [intOf]; omega⟩
   ·rw [if_neg hx] at hst
    have HST : Hid (r + cx (s.data.toList.drop (k + 1)) = y) := Lib.hid hst
    have hb : ((s[k].toNat : Int) == 120) = false := u8_ne hx
    have HR := Lib.hid hr
    clear hst hx HK
    go_wp2
    exact ⟨⟨k + 1, r, by go_num, rfl, by omega, by have := HR.out; omega, HST⟩, by simp [intOf]; omega⟩
  ·have h0 := HK.out
   rw [dropEnd s k (by omega), cx, Nat.add_zero] at h0
   subst h0
   go_wp2
   go_ret
   exact ⟨rfl, rfl⟩
theorem lastB_at {s : ByteArray} {m : Nat} (h : s.size = m + 1) (hm : m < s.size) : lastB (bl s) = s[m] := by
 unfold lastB
 have hl : (bl s).length = m + 1 := by rw [← h]; exact Array.length_toList
 rw [List.getLast?_eq_getElem?, hl, Nat.add_sub_cancel, List.getElem?_eq_getElem (by omega)]
 rfl
theorem r6last_any (s : ByteArray) (w : World) (hz : s.size ≤ maxLen) : Calls Tryz.prog 113 #[.string s] w (RetSame (.int .u8 ((lastB (bl s)).toNat : Int)) w) := by
 have hml : maxLen = 9223372036854775807 := rfl
 have hsz : (s.size : Int) ≤ 9223372036854775807 := by omega
 by_cases h0 : s.size = 0
 ·have hb : ((s.size : Int) == 0) = true := by rw [beq_iff_eq]; omega
  have hl : lastB (bl s) = 0 := by
   have : bl s = [] := List.length_eq_zero_iff.1 (by rw [← h0]; exact Array.length_toList)
   rw [this]; rfl
  rw [hl]
  clear h0 hl
  go_enter Tryz.func113, Tryz.ntmps113
  go_wp2
  go_ret
  exact ⟨rfl, rfl⟩
 ·have hb : ((s.size : Int) == 0) = false := by rw [beq_eq_false_iff_ne]; omega
  obtain ⟨m, hm⟩ : ∃ m, s.size = m + 1 := ⟨s.size - 1, by omega⟩
  have hms : m < s.size := by omega
  rw [lastB_at hm hms]
  have h1 : (s.size : Int) - 1 = (m : Int) := by omega
  have hw : IntKind.i64.wrap (m : Int) = (m : Int) := IntWalk.i64_in _ (by omega)
  have hm0 : (0 : Int) ≤ (m : Int) := by omega
  have hmt : ((m : Int)).toNat = m := by omega
  have hmi : (m : Int) < (s.size : Int) := by omega
  clear h0 hm
  go_enter Tryz.func113, Tryz.ntmps113
  go_wp2
  go_ret
  exact ⟨rfl, rfl⟩
def okAt (l : List UInt8) (k : Nat) : Prop := l[k]? = some 120 ∨ (k + 1 = l.length ∧ (l[k]? = some 111 ∨ l[k]? = some 45))
theorem okAt_all : ∀ l : List UInt8, (∀ k, k < l.length → okAt l k) ↔ (endL l = [] ∨ endL l = [111] ∨ endL l = [45])
 | [] => ⟨fun _ => .inl rfl, fun _ k hk => absurd hk (by simp)⟩
 | c :: l => by
  by_cases hc : c = 120
  ·subst hc
   have he : endL (120 :: l) = endL l := by unfold endL; rw [nxL, if_pos rfl]; rfl
   rw [he, ← okAt_all l]
   constructor
   ·intro h k hk
    have := h (k + 1) (by simpa using hk)
    unfold okAt at this ⊢
    simpa using this
   ·intro h k hk
    cases k with
    | zero => exact .inl rfl
    | succ k =>
     have := h k (by simpa using hk)
     unfold okAt at this ⊢
     simpa using this
  ·have he : endL (c :: l) = c :: l := by unfold endL; rw [nxL, if_neg hc]; rfl
   rw [he]
   constructor
   ·intro h
    have h0 := h 0 (by simp)
    unfold okAt at h0
    rcases h0 with h0 | ⟨h1, h0⟩
    ·simp at h0; exact absurd h0 hc
    ·have : l = [] := List.length_eq_zero_iff.1 (by simpa using h1.symm)
     subst this
     rcases h0 with h0 | h0
     ·simp at h0; subst h0; exact .inr (.inl rfl)
     ·simp at h0; subst h0; exact .inr (.inr rfl)
   ·rintro (h | h | h)
    ·cases h
    ·obtain ⟨rfl, rfl⟩ : c = 111 ∧ l = [] := by simpa using h
     intro k hk
     obtain rfl : k = 0 := by simpa using hk
     exact .inr ⟨rfl, .inl rfl⟩
    ·obtain ⟨rfl, rfl⟩ : c = 45 ∧ l = [] := by simpa using h
     intro k hk
     obtain rfl : k = 0 := by simpa using hk
     exact .inr ⟨rfl, .inr rfl⟩
theorem htE_zero (l : List UInt8) : htE l = 0 ↔ (1 ≤ l.length ∧ l.length ≤ 3 ∧ ∀ k, k < l.length → okAt l k) := by
 unfold htE
 rw [okAt_all]
 constructor
 ·intro h
  split at h
  ·rename_i q; exact ⟨q.2.1, q.2.2, q.1⟩
  ·cases h
 ·rintro ⟨h1, h2, h3⟩
  rw [if_pos ⟨h3, h1, h2⟩]
theorem r6shaped_any (s : ByteArray) (w : World) (hz : s.size ≤ maxLen) : Calls Tryz.prog 111 #[.string s] w (RetSame (.bool (decide (htE (bl s) = 0))) w) := by
 have hml : maxLen = 9223372036854775807 := rfl
 have hsz : (s.size : Int) ≤ 9223372036854775807 := by omega
 have hlen : (bl s).length = s.size := Array.length_toList
 obtain ⟨y, hy⟩ : ∃ y, decide (htE (bl s) = 0) = y := ⟨_, rfl⟩
 rw [hy]
 by_cases h1 : s.size < 1
 ·obtain rfl : false = y := by rw [← hy, decide_eq_false]; intro q; have := (htE_zero _).1 q; omega
  have hi : (s.size : Int) < 1 := by omega
  clear hy h1 hlen hz hml
  go_enter Tryz.func111, Tryz.ntmps111
  go_wp2
  go_ret
  exact ⟨rfl, rfl⟩
 ·by_cases h3 : 3 < s.size
  ·obtain rfl : false = y := by rw [← hy, decide_eq_false]; intro q; have := (htE_zero _).1 q; omega
   have hi : ¬ (s.size : Int) < 1 := by omega
   have hj : (3 : Int) < (s.size : Int) := by omega
   clear hy h1 h3 hlen hz hml
   go_enter Tryz.func111, Tryz.ntmps111
   go_wp2
   go_ret
   exact ⟨rfl, rfl⟩
  ·have hi : ¬ (s.size : Int) < 1 := by omega
   have hj : ¬ (3 : Int) < (s.size : Int) := by omega
   have HG : Hid ((∀ k, k < s.size → okAt (bl s) k) → true = y) := Lib.hid fun q => by
    rw [← hy]
    exact (decide_eq_true ((htE_zero _).2 ⟨by omega, by omega, by rw [hlen]; exact q⟩)).symm
   have HB : Hid (∀ k, k < s.size → ¬ okAt (bl s) k → false = y) := Lib.hid fun k hk q => by
    rw [← hy]
    symm
    rw [decide_eq_false]
    intro h
    exact q (((htE_zero _).1 h).2.2 k (by rw [hlen]; exact hk))
   have HL := Lib.hid hlen
   clear hy h1 h3 hlen hz hml
   go_enter Tryz.func111, Tryz.ntmps111
   go_wp2
   go_loop [3] (fun i => ∃ k : Nat, i = .int .i64 k ∧ k ≤ s.size ∧ Hid (∀ j, j < k → okAt (bl s) j)) (fun i => s.size - (intOf i).toNat)
   case atStart => exact ⟨0, rfl, by omega, Lib.hid fun j hj => absurd hj (by omega)⟩
   case round =>
    obtain ⟨k, rfl, hk, HK⟩ := hrel
    by_cases hlt : k < s.size
    ·have hki : (k : Int) < (s.size : Int) := by omega
     have hget : (bl s)[k]? = some s[k] := by
      rw [List.getElem?_eq_getElem (by rw [HL.out]; exact hlt)]; rfl
     have hnext : okAt (bl s) k → Hid (∀ j, j < k + 1 → okAt (bl s) j) := fun q => Lib.hid fun j hj => by
      rcases Nat.lt_or_ge j k with hj' | hj'
      ·exact HK.out j hj'
      ·obtain rfl : j = k := by omega
       exact q
     obtain ⟨c, hc⟩ : ∃ c, s[k] = c := ⟨_, rfl⟩
     rw [hc] at hget
     have hidx : ∀ h, (s[k]'h) = c := fun h => hc
     have hcase : (c = 120) ∨ (c ≠ 120 ∧ k + 1 = s.size ∧ c = 111) ∨ (c ≠ 120 ∧ k + 1 = s.size ∧ c ≠ 111 ∧ c = 45) ∨ (c ≠ 120 ∧ k + 1 = s.size ∧ c ≠ 111 ∧ c ≠ 45) ∨ (c ≠ 120 ∧ k + 1 ≠ s.size) := by
      by_cases q1 : c = 120
      ·exact .inl q1
      ·by_cases q2 : k + 1 = s.size
       ·by_cases q3 : c = 111
        ·exact .inr (.inl ⟨q1, q2, q3⟩)
        ·by_cases q4 : c = 45
         ·exact .inr (.inr (.inl ⟨q1, q2, q3, q4⟩))
         ·exact .inr (.inr (.inr (.inl ⟨q1, q2, q3, q4⟩)))
       ·exact .inr (.inr (.inr (.inr ⟨q1, q2⟩)))
     have e120 : ((c.toNat : Int) != 120) = !decide (c = 120) := by
      by_cases q : c = 120
      ·subst q; rfl
      ·rw [decide_eq_false q]; show (!((c.toNat : Int) == 120)) = _; rw [show (120 : Int) = ((120 : UInt8).toNat : Int) from rfl, u8_ne q]
     have e111 : ((c.toNat : Int) == 111) = decide (c = 111) := by
      by_cases q : c = 111
      ·subst q; rfl
      ·rw [decide_eq_false q]; exact u8_ne q
     have e45 : ((c.toNat : Int) == 45) = decide (c = 45) := by
      by_cases q : c = 45
      ·subst q; rfl
      ·rw [decide_eq_false q]; exact u8_ne q
     have elast : (((k : Int) + 1) == (s.size : Int)) = decide (k + 1 = s.size) := by
      by_cases q : k + 1 = s.size
      ·rw [decide_eq_true q, beq_iff_eq]; omega
      ·rw [decide_eq_false q, beq_eq_false_iff_ne]; omega
     have hkw : IntKind.i64.wrap ((k : Int) + 1) = (k : Int) + 1 := IntWalk.i64_in _ (by omega)
     rcases hcase with q | ⟨q1, q2, q3⟩ | ⟨q1, q2, q3, q4⟩ | ⟨q1, q2, q3, q4⟩ | ⟨q1, q2⟩
     ·have HN := hnext (.inl (by rw [hget, q]))
      rw [decide_eq_true q] at e120
      have n1 : decide (c = 111) = false := decide_eq_false (by rw [q]; decide)
      have n2 : decide (c = 45) = false := decide_eq_false (by rw [q]; decide)
      rw [n1] at e111
      rw [n2] at e45
      clear hnext HK hget hc n1 n2 q
      cases hd : decide (k + 1 = s.size) <;> rw [hd] at elast <;> clear hd
      all_goals
       go_wp2
       exact ⟨⟨k + 1, by go_num, by omega, HN⟩, by simp [intOf]; omega⟩
     ·have HN := hnext (.inr ⟨by rw [HL.out]; exact q2, .inl (by rw [hget, q3])⟩)
      rw [decide_eq_false q1] at e120
      rw [decide_eq_true q3] at e111
      rw [decide_eq_true q2] at elast
      clear hnext HK hget hc q1 q2 q3 e45
      go_wp2
      exact ⟨⟨k + 1, by go_num, by omega, HN⟩, by simp [intOf]; omega⟩
     ·have HN := hnext (.inr ⟨by rw [HL.out]; exact q2, .inr (by rw [hget, q4])⟩)
      rw [decide_eq_false q1] at e120
      rw [decide_eq_false q3] at e111
      rw [decide_eq_true q4] at e45
      rw [decide_eq_true q2] at elast
      clear hnext HK hget hc q1 q2 q3 q4
      go_wp2
      exact ⟨⟨k + 1, by go_num, by omega, HN⟩, by simp [intOf]; omega⟩
     ·have hf := HB.out k hlt (by
       rintro (h | ⟨_, h | h⟩) <;> rw [hget] at h <;> injection h with h
       ·exact q1 h
       ·exact q3 h
       ·exact q4 h)
      subst hf
      rw [decide_eq_false q1] at e120
      rw [decide_eq_false q3] at e111
      rw [decide_eq_false q4] at e45
      rw [decide_eq_true q2] at elast
      clear hnext HK hget hc q1 q2 q3 q4 HG HB
      go_wp2
      go_ret
      exact ⟨rfl, rfl⟩
     ·have hf := HB.out k hlt (by
       rintro (h | ⟨h, _⟩)
       ·rw [hget] at h; injection h with h; exact q1 h
       ·rw [HL.out] at h; exact q2 h)
      subst hf
      rw [decide_eq_false q1] at e120
      rw [decide_eq_false q2] at elast
      clear hnext HK hget hc q1 q2 HG HB
      go_wp2
      go_ret
      exact ⟨rfl, rfl⟩
    ·have ht := HG.out (fun j hj => HK.out j (by omega))
     subst ht
     clear HG HB HK
     go_wp2
     go_ret
     exact ⟨rfl, rfl⟩
end Go.Mk
end
section
namespace Go.Mk
theorem nx_split : ∀ t : List UInt8, t = List.replicate (nxL t) 120 ++ endL t
 | [] => rfl
 | c :: t => by
  by_cases hc : c = 120
  ·subst hc
   have he : endL (120 :: t) = endL t := by unfold endL; rw [nxL, if_pos rfl]; rfl
   rw [he, nxL, if_pos rfl, List.replicate_succ, List.cons_append, ← nx_split t]
  ·have he : endL (c :: t) = c :: t := by unfold endL; rw [nxL, if_neg hc]; rfl
   rw [he, nxL, if_neg hc]
   rfl
theorem cx_rep (n : Nat) (e : List UInt8) : cx (List.replicate n 120 ++ e) = n + cx e := by
 induction n with
 | zero => simp
 | succ n ih => rw [List.replicate_succ, List.cons_append, cx, if_pos rfl, ih]; omega
theorem shaped_facts {t : List UInt8} (h : htE t = 0) : cx t = nxL t ∧ (lastB t = 120 ↔ endL t = []) ∧ (lastB t = 111 ↔ endL t = [111]) := by
 unfold htE at h
 split at h
 ·rename_i q
  obtain ⟨q, h1, _⟩ := q
  have hs := nx_split t
  generalize nxL t = n at *
  rcases q with q | q | q
  ·rw [q] at hs ⊢
   rw [List.append_nil] at hs
   have hn : 0 < n := by have := congrArg List.length hs; rw [List.length_replicate] at this; omega
   have hl : lastB t = 120 := by
    rw [hs]; unfold lastB
    rw [List.getLast?_replicate, if_neg (by omega)]; rfl
   refine ⟨?_, ⟨fun _ => rfl, fun _ => hl⟩, ⟨fun e => ?_, fun e => by cases e⟩⟩
   ·have := cx_rep n []
    rw [List.append_nil, ← hs] at this
    simpa [cx] using this
   ·rw [hl] at e; cases e
  ·rw [q] at hs ⊢
   have hl : lastB t = 111 := by rw [hs]; unfold lastB; simp
   refine ⟨?_, ⟨fun e => ?_, fun e => by cases e⟩, ⟨fun _ => rfl, fun _ => hl⟩⟩
   ·have := cx_rep n [111]
    rw [← hs] at this
    rw [this]; rfl
   ·rw [hl] at e; cases e
  ·rw [q] at hs ⊢
   have hl : lastB t = 45 := by rw [hs]; unfold lastB; simp
   refine ⟨?_, ⟨fun e => ?_, fun e => by cases e⟩, ⟨fun e => ?_, fun e => by cases e⟩⟩
   ·have := cx_rep n [45]
    rw [← hs] at this
    rw [this]; rfl
   ·rw [hl] at e; cases e
   ·rw [hl] at e; cases e
 ·cases h
theorem rowGo_snoc : ∀ (l : List (List UInt8)) (r : Nat) (t : List UInt8), rowGo r (l ++ [t]) = if endL t = [111] then 0 else rowGo r l + nxL t
 | [], r, t => rfl
 | a :: l, r, t => by rw [List.cons_append, rowGo, rowGo_snoc l _ t, rowGo]
theorem htE_01 (t : List UInt8) : htE t = 0 ∨ htE t = 1 := by unfold htE; split <;> simp
theorem fstT_drop (f : List UInt8 → Int) {L : List ByteArray} {k : Nat} {x : ByteArray} (h : L[k]? = some x) : fstT f ((bls L).drop k) = if f (bl x) = 0 then fstT f ((bls L).drop (k + 1)) else f (bl x) := by rw [bls_at h, fstT]
theorem fstT_all (f : List UInt8 → Int) : ∀ {l : List (List UInt8)}, fstT f l = 0 → ∀ t ∈ l, f t = 0
 | [], _, t, ht => by cases ht
 | a :: l, h, t, ht => by
  rw [fstT] at h
  split at h
  ·rename_i q
   rcases List.mem_cons.1 ht with rfl | ht
   ·exact q
   ·exact fstT_all f h t ht
  ·rename_i q; exact absurd h q
theorem n120 (c : UInt8) : ((c.toNat : Int) == 120) = decide (c = 120) := by
 by_cases q : c = 120
 ·subst q; rfl
 ·rw [decide_eq_false q]; exact u8_ne q
theorem n111 (c : UInt8) : ((c.toNat : Int) == 111) = decide (c = 111) := by
 by_cases q : c = 111
 ·subst q; rfl
 ·rw [decide_eq_false q]; exact u8_ne q
theorem r6CheckForm_any (s : ByteArray) (H O : List ByteArray) (nh ch no co : Nat) (AH AO : Option Addr) (rt : Bool) (w : World) (hz : s.size ≤ maxLen) (hZ : TextsZ w AH nh H) (hn : nh ≤ 5000) (hs : ∀ x ∈ H, x.size ≤ 5000) (hZ2 : TextsZ w AO no O) (hn2 : no ≤ 5000) (hs2 : ∀ x ∈ O, x.size ≤ 5000) :
    Calls Tryz.prog 55 #[.agg #[.string s, .slice AH nh ch, .slice AO no co, .bool rt]] w (RetPost (.int .i64 (frmE s (bls H) (bls O))) w) := by
  obtain ⟨g, hg⟩ : ∃ g, w.heap.size = g := ⟨_, rfl⟩
  obtain ⟨w1, hw1⟩ : ∃ w1, w.alloc (.cells #[.string s, .slice AH nh ch, .slice AO no co, .bool rt] 66) = w1 := ⟨_, rfl⟩
  have hb1 : Below w.heap.size w w1 := by rw [← hw1]; exact balloc _ (Below.refl _ _)
  have c0 : w1.cell? ⟨g, 0, none⟩ = some (.string s) := by rw [← hw1, ← hg]; simp
  have c1 : w1.cell? ⟨g, 1, none⟩ = some (.slice AH nh ch) := by rw [← hw1, ← hg]; simp
  have c2 : w1.cell? ⟨g, 2, none⟩ = some (.slice AO no co) := by rw [← hw1, ← hg]; simp
  have hN := fun w' => refIsName_any s w' hz
  have HZ1 := Lib.hid (hZ.below hb1)
  have HZ2 := Lib.hid (hZ2.below hb1)
  have HS1 := Lib.hid hs
  have HS2 := Lib.hid hs2
  have HB1 := Lib.hid hb1
  have hni : (nh : Int) ≤ 5000 := by omega
  have hno : (no : Int) ≤ 5000 := by omega
  have HL1 : Hid (H.length = nh) := hZ.1
  have HL2 : Hid (O.length = no) := hZ2.1
  obtain ⟨y, hy⟩ : ∃ y, frmE s (bls H) (bls O) = y := ⟨_, rfl⟩
  rw [hy]
  have l1 : (bls H).length = nh := by unfold bls; rw [List.length_map]; exact hZ.1
  have l2 : (bls O).length = no := by unfold bls; rw [List.length_map]; exact hZ2.1
  unfold frmE at hy
  rw [l1, l2] at hy
  clear hZ hZ2 hs hs2 hb1 hz l1 l2
  cases hnm : isNm s with
  | false =>
    obtain rfl : (8 : Int) = y := by rw [← hy]; unfold nmE; rw [hnm]; simp [fstN]
    rw [hnm] at hN
    clear hy hnm
    go_enter Tryz.func55, Tryz.ntmps55
    go_wp2_with fail
    refine (hN _).mono ?_
    rintro e w2 ⟨rfl, rfl⟩
    go_wp2
    go_ret
    exact ⟨rfl, HB1.out⟩
  | true =>
    rw [hnm] at hN
    have hnz : nmE s = 0 := by unfold nmE; rw [hnm]; rfl
    rw [hnz] at hy
    by_cases q : 24 < nh ∨ 24 < no
    · obtain rfl : (5 : Int) = y := by rw [← hy, if_pos q]; simp [fstN]
      have hq : (24 : Int) < (nh : Int) ∨ (¬ (24 : Int) < (nh : Int) ∧ (24 : Int) < (no : Int)) := by omega
      clear hy hnm hnz q
      rcases hq with q1 | ⟨q1, q2⟩
      all_goals
        go_enter Tryz.func55, Tryz.ntmps55
        go_wp2_with fail
        refine (hN _).mono ?_
        rintro e w2 ⟨rfl, rfl⟩
        go_wp2
        go_ret
        exact ⟨rfl, HB1.out⟩
    · rw [if_neg q] at hy
      have hy2 : fstN [fstT htE (bls H), fstT ofE (bls O), fstP (bls H) 0 (bls H)] = y := by simpa [fstN] using hy
      have q1 : ¬ (24 : Int) < (nh : Int) := by omega
      have q2 : ¬ (24 : Int) < (no : Int) := by omega
      have HY1 : Hid (fstT htE (bls H) = 1 → y = 1) := Lib.hid fun e => by rw [← hy2, e]; simp [fstN]
      have HY2 : Hid (fstT htE (bls H) = 0 → fstT ofE (bls O) = 1 → y = 1) := Lib.hid fun e1 e2 => by rw [← hy2, e1, e2]; simp [fstN]
      have HY3 : Hid (fstT htE (bls H) = 0 → fstT ofE (bls O) = 0 → fstP (bls H) 0 (bls H) = y) := Lib.hid fun e1 e2 => by
        rw [← hy2, e1, e2]
        simp only [fstN, if_true]
        split
        · rename_i q; exact q
        · rfl
      clear hy hy2 hnm hnz q
      go_enter Tryz.func55, Tryz.ntmps55
      go_wp2_with fail
      refine (hN _).mono ?_
      rintro e w2 ⟨rfl, rfl⟩
      clear hN
      go_wp2_with fail
      go_loop [3] (fun i => ∃ k : Nat, k ≤ nh ∧ i = .int .i64 k ∧ Hid (fstT htE ((bls H).drop k) = fstT htE (bls H))) (fun i => nh - (intOf i).toNat)
      case atStart => exact ⟨0, by omega, rfl, Lib.hid rfl⟩
      case round =>
        obtain ⟨k, hk, rfl, HK⟩ := hrel
        by_cases hlt : k < nh
        · obtain ⟨b, off, x, rfl, hbl, hx, hcx⟩ := HZ1.out.at_ hlt
          have hki : (k : Int) < (nh : Int) := by omega
          have hk0 : (0 : Int) ≤ (k : Int) := by omega
          have hkt : ((k : Int)).toNat = k := by omega
          have hSh := fun w => r6shaped_any x w (by have := HS1.out x (List.mem_of_getElem? hx); unfold maxLen; omega)
          have hst := HK.out
          rw [fstT_drop htE hx] at hst
          rcases htE_01 (bl x) with h0 | h0
          · rw [h0, if_pos rfl] at hst
            rw [h0] at hSh
            have HST : Hid (fstT htE ((bls H).drop (k + 1)) = fstT htE (bls H)) := Lib.hid hst
            clear hst h0 hx HK
            go_wp2_with fail
            refine (hSh _).mono ?_
            rintro e w3 ⟨rfl, rfl⟩
            go_wp2
            exact ⟨⟨k + 1, by omega, by go_num, HST⟩, by simp [intOf]; omega⟩
          · rw [h0, if_neg (by decide)] at hst
            rw [h0] at hSh
            obtain rfl := HY1.out hst.symm
            clear hst h0 hx HK HY1 HY2 HY3
            go_wp2_with fail
            refine (hSh _).mono ?_
            rintro e w3 ⟨rfl, rfl⟩
            go_wp2
            go_ret
            exact ⟨rfl, HB1.out⟩
        · have hE1 := HK.out
          rw [bls_end HL1.out (by omega), fstT] at hE1
          have HE1 : Hid (fstT htE (bls H) = 0) := Lib.hid hE1.symm
          clear hE1 HK HY1
          have hkf : ¬ (k : Int) < (nh : Int) := by omega
          go_wp2_with fail
          clear hkf hlt hk
          go_loop [4] (fun i => ∃ k : Nat, k ≤ no ∧ i = .int .i64 k ∧ Hid (fstT ofE ((bls O).drop k) = fstT ofE (bls O))) (fun i => no - (intOf i).toNat)
          case atStart => exact ⟨0, by omega, rfl, Lib.hid rfl⟩
          case round =>
            obtain ⟨k, hk, rfl, HK⟩ := hrel
            by_cases hlt : k < no
            · obtain ⟨b, off, x, rfl, hbl, hx, hcx⟩ := HZ2.out.at_ hlt
              have hki : (k : Int) < (no : Int) := by omega
              have hk0 : (0 : Int) ≤ (k : Int) := by omega
              have hkt : ((k : Int)).toNat = k := by omega
              have e1 : (x.toList == [111]) = decide (bl x = [111]) := by rw [ByteArray.toList_eq, list_beq]
              have e2 : (x.toList == [120]) = decide (bl x = [120]) := by rw [ByteArray.toList_eq, list_beq]
              have hst := HK.out
              rw [fstT_drop ofE hx] at hst
              by_cases g1 : bl x = [111]
              · rw [show ofE (bl x) = 0 from if_pos (.inl g1), if_pos rfl] at hst
                have HST : Hid (fstT ofE ((bls O).drop (k + 1)) = fstT ofE (bls O)) := Lib.hid hst
                rw [decide_eq_true g1] at e1
                clear hst g1 hx HK e2
                go_wp2
                exact ⟨⟨k + 1, by omega, by go_num, HST⟩, by simp [intOf]; omega⟩
              · rw [decide_eq_false g1] at e1
                by_cases g2 : bl x = [120]
                · rw [show ofE (bl x) = 0 from if_pos (.inr g2), if_pos rfl] at hst
                  have HST : Hid (fstT ofE ((bls O).drop (k + 1)) = fstT ofE (bls O)) := Lib.hid hst
                  rw [decide_eq_true g2] at e2
                  clear hst g1 g2 hx HK
                  go_wp2
                  exact ⟨⟨k + 1, by omega, by go_num, HST⟩, by simp [intOf]; omega⟩
                · rw [show ofE (bl x) = 1 from if_neg (by rintro (q | q); exact g1 q; exact g2 q), if_neg (by decide)] at hst
                  rw [decide_eq_false g2] at e2
                  obtain rfl := HY2.out HE1.out hst.symm
                  clear hst g1 g2 hx HK HY2 HY3
                  go_wp2
                  go_ret
                  exact ⟨rfl, HB1.out⟩
            · have hE2 := HK.out
              rw [bls_end HL2.out (by omega), fstT] at hE2
              have HY := Lib.hid (HY3.out HE1.out hE2.symm)
              have HSH := Lib.hid (fstT_all htE HE1.out)
              clear hE2 HK HY2 HY3 HE1
              have hkf : ¬ (k : Int) < (no : Int) := by omega
              go_wp2_with fail
              clear hkf hlt hk
              go_loop [5, 6] (fun rv i => ∃ k r : Nat, k ≤ nh ∧ i = .int .i64 k ∧ rv = .int .i64 r ∧ r ≤ 3 ∧ Hid (r = rowGo 0 ((bls H).take k)) ∧ Hid (fstP (bls H) k ((bls H).drop k) = y)) (fun _ i => nh - (intOf i).toNat)
              case atStart => exact ⟨0, 0, by omega, rfl, rfl, by omega, Lib.hid rfl, HY⟩
              case round =>
                obtain ⟨k, r, hk, rfl, rfl, hr, HR, HK⟩ := hrel
                by_cases hlt : k < nh
                · obtain ⟨b, off, x, rfl, hbl, hx, hcx⟩ := HZ1.out.at_ hlt
                  have hki : (k : Int) < (nh : Int) := by omega
                  have hk0 : (0 : Int) ≤ (k : Int) := by omega
                  have hkt : ((k : Int)).toNat = k := by omega
                  have hxs : x.size ≤ maxLen := by have := HS1.out x (List.mem_of_getElem? hx); unfold maxLen; omega
                  have hmem : bl x ∈ bls H := by unfold bls; exact List.mem_map_of_mem (List.mem_of_getElem? hx)
                  have hsh := HSH.out _ hmem
                  obtain ⟨f1, f2, f3⟩ := shaped_facts hsh
                  have hlen : (bl x).length ≤ 3 := ((htE_zero _).1 hsh).2.1
                  have hF := fun w => r6failures_any x w hxs
                  have hLa := fun w => r6last_any x w hxs
                  have hst := HK.out
                  rw [bls_at hx, fstP] at hst
                  have hrow : rowGo 0 ((bls H).take (k + 1)) = if endL (bl x) = [111] then 0 else rowGo 0 ((bls H).take k) + nxL (bl x) := by
                    rw [show (bls H).take (k + 1) = (bls H).take k ++ [bl x] from by
                      have h1 : (bls H)[k]? = some (bl x) := by unfold bls; rw [List.getElem?_map, hx]; rfl
                      rw [List.take_add_one, h1, Option.toList_some]]
                    exact rowGo_snoc _ _ _
                  have hfl := nxL_le (bl x)
                  rw [f1] at hF
                  have hpl : plE (bls H) k (bl x) = if 3 < r + nxL (bl x) ∨ (r + nxL (bl x) = 3 ∧ ¬ endL (bl x) = []) ∨ (endL (bl x) = [] ∧ k < nh - 1) then 19 else 0 := by
                    unfold plE
                    rw [← HR.out]
                    have : (bls H).length = nh := by unfold bls; rw [List.length_map]; exact HL1.out
                    rw [this]
                  rw [← HR.out] at hrow
                  rw [hpl] at hst
                  have e120 := n120 (lastB (bl x))
                  have e111 := n111 (lastB (bl x))
                  rw [show decide (lastB (bl x) = 120) = decide (endL (bl x) = []) from by simp [f2]] at e120
                  rw [show decide (lastB (bl x) = 111) = decide (endL (bl x) = [111]) from by simp [f3]] at e111
                  have e120n : ((lastB (bl x)).toNat != (120 : Int)) = !decide (endL (bl x) = []) := by show (!(_ == _)) = _; rw [e120]
                  have hfi : nxL (bl x) ≤ 3 := by omega
                  clear hpl f1 f2 f3 hsh hmem hlen hfl HK
                  generalize nxL (bl x) = f at *
                  generalize ((lastB (bl x)).toNat : Int) = lb at *
                  have hfz : (f : Int) ≤ 3 := by omega
                  have hf0 : (0 : Int) ≤ (f : Int) := by omega
                  have hrz : (r : Int) ≤ 3 := by omega
                  have hr0 : (0 : Int) ≤ (r : Int) := by omega
                  have hkw : IntKind.i64.wrap ((k : Int) + 1) = (k : Int) + 1 := IntWalk.i64_in _ (by omega)
                  have hRR : (decide ((3 : Int) < (r : Int) + f) = true ∧ 3 < r + f) ∨ (decide ((3 : Int) < (r : Int) + f) = false ∧ (((r : Int) + f) == 3) = true ∧ r + f = 3) ∨ (decide ((3 : Int) < (r : Int) + f) = false ∧ (((r : Int) + f) == 3) = false ∧ r + f < 3) := by
                    by_cases h1 : (3 : Int) < (r : Int) + f
                    · exact .inl ⟨decide_eq_true h1, by omega⟩
                    · by_cases h2 : (r : Int) + f = 3
                      · exact .inr (.inl ⟨decide_eq_false h1, beq_iff_eq.2 h2, by omega⟩)
                      · exact .inr (.inr ⟨decide_eq_false h1, beq_eq_false_iff_ne.2 h2, by omega⟩)
                  have hKK : (decide ((k : Int) + 1 < (nh : Int)) = true ∧ k < nh - 1) ∨ (decide ((k : Int) + 1 < (nh : Int)) = false ∧ ¬ k < nh - 1) := by
                    by_cases h1 : (k : Int) + 1 < (nh : Int)
                    · exact .inl ⟨decide_eq_true h1, by omega⟩
                    · exact .inr ⟨decide_eq_false h1, by omega⟩
                  obtain ⟨b0, hb0⟩ : ∃ b0, decide (endL (bl x) = []) = b0 := ⟨_, rfl⟩
                  obtain ⟨b1, hb1⟩ : ∃ b1, decide (endL (bl x) = [111]) = b1 := ⟨_, rfl⟩
                  have e : (3 < r + f ∨ (r + f = 3 ∧ b0 = false) ∨ (b0 = true ∧ k < nh - 1)) ↔ (3 < r + f ∨ (r + f = 3 ∧ ¬ endL (bl x) = []) ∨ (endL (bl x) = [] ∧ k < nh - 1)) := by
                    rw [← hb0]; simp
                  have HS19 : Hid ((3 < r + f ∨ (r + f = 3 ∧ b0 = false) ∨ (b0 = true ∧ k < nh - 1)) → 19 = y) := Lib.hid fun q => by
                    rw [if_pos (e.1 q), if_neg (by decide)] at hst
                    exact hst
                  have HS0 : Hid (¬ (3 < r + f ∨ (r + f = 3 ∧ b0 = false) ∨ (b0 = true ∧ k < nh - 1)) → fstP (bls H) (k + 1) ((bls H).drop (k + 1)) = y) := Lib.hid fun q => by
                    rw [if_neg (fun q' => q (e.2 q')), if_pos rfl] at hst
                    exact hst
                  clear e
                  have hrow2 : rowGo 0 ((bls H).take (k + 1)) = if b1 = true then 0 else r + f := by
                    rw [hrow, ← hb1]; simp
                  have HROW := Lib.hid hrow2
                  rw [hb0] at e120 e120n
                  rw [hb1] at e111
                  have hidt : (bl x) = bl x := rfl
                  clear hst hrow hb0 hb1 hx hrow2 hidt
                  have HKN := Lib.hid hlt
                  have hrf : ((r + f : Nat) : Int) = (r : Int) + (f : Int) := by omega
                  have HRF := Lib.hid hrf
                  clear hrf
                  cases b0 <;> cases b1 <;> rcases hRR with ⟨r1, r3⟩ | ⟨r1, r2, r3⟩ | ⟨r1, r2, r3⟩ <;> rcases hKK with ⟨k1, k2⟩ | ⟨k1, k2⟩
                  all_goals
                    first
                      | (obtain rfl := HS19.out (by simp; omega)
                         clear r3 k2 HS19 HS0 HROW
                         go_wp2_with fail
                         refine (hF _).mono ?_
                         rintro e w4 ⟨rfl, rfl⟩
                         go_wp2_with fail
                         repeat (first | (refine (hLa _).mono ?_; rintro e w4 ⟨rfl, rfl⟩; go_wp2_with fail))
                         go_ret
                         exact ⟨rfl, HB1.out⟩)
                      | (have HC2 := Lib.hid (HS0.out (by simp; omega))
                         have HRW := HROW.out
                         simp only [if_true, if_false, Bool.false_eq_true] at HRW
                         have HRW2 := Lib.hid HRW.symm
                         have HR3 := Lib.hid r3
                         clear HRW k2 HS19 HS0 HROW r3
                         go_wp2_with fail
                         refine (hF _).mono ?_
                         rintro e w4 ⟨rfl, rfl⟩
                         go_wp2_with fail
                         repeat (first | (refine (hLa _).mono ?_; rintro e w4 ⟨rfl, rfl⟩; go_wp2_with fail))
                         first
                           | exact ⟨⟨k + 1, 0, by have := HKN.out; omega, by go_num, rfl, by omega, HRW2, HC2⟩, by simp [intOf]; have := HKN.out; omega⟩
                           | exact ⟨⟨k + 1, r + f, by have := HKN.out; omega, by go_num, by rw [HRF.out], by have := HR3.out; omega, HRW2, HC2⟩, by simp [intOf]; have := HKN.out; omega⟩)
                · have h0 := HK.out
                  rw [bls_end HL1.out (by omega), fstP] at h0
                  subst h0
                  go_wp2
                  go_ret
                  exact ⟨rfl, HB1.out⟩
end Go.Mk
end
