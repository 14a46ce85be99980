/-
  Proved: slices.swapRangeCmpFunc of integers exchanges two ranges that lie apart, and slices.rotateCmpFunc two ranges that lie side by side. Conditions: the integers lie in a row of the caller's own.
  Proved: plain facts on merging in place: two sorted neighbours, split at a place that a search has found, and rotated, fall into two halves of which one is below the other; what is merged in both halves is sorted. No condition beside those named.
  Proved: plain facts on merging in place where one of the two ranges has one element: it is moved to its place by exchanges of neighbours. No condition beside those named.
-/
import Derived.Test.YtccgahkoekcefaaGreatDoorQc
section
set_option linter.unusedVariables false
set_option linter.unusedSimpArgs false
open Go Go.Proofs Go.RowKit Go.Sort
set_option maxRecDepth 100000
namespace Go.Mk
structure SwR (a b i : Nat) (L M : List Int) : Prop where
  len : M.length = L.length
  perm : M.Perm L
  at_ : ∀ k, ga M k = if a ≤ k ∧ k < a + i then ga L (b + (k - a)) else if b ≤ k ∧ k < b + i then ga L (a + (k - b)) else ga L k
theorem SwR.zero (a b : Nat) (L : List Int) : SwR a b 0 L L := ⟨rfl, List.Perm.refl _, fun k => by rw [if_neg (by omega), if_neg (by omega)]⟩
theorem SwR.step {a b i m : Nat} {L M : List Int} (h : SwR a b i L M) (hi : i < m) (hab : a + m ≤ b) (hb : b + m ≤ L.length) : SwR a b (i + 1) L (swp M (a + i) (b + i)) := by
  have hl := h.len
  refine ⟨by rw [swp_len, hl], (swp_perm (by omega) (by omega)).trans h.perm, fun k => ?_⟩
  rw [ga_swp (by omega) (by omega), h.at_ (a + i), h.at_ (b + i), h.at_ k]
  by_cases h1 : k = b + i
  · subst h1
    rw [if_pos rfl, if_neg (by omega), if_neg (by omega), if_neg (by omega), if_pos (by omega)]
    congr 1; omega
  · rw [if_neg h1]
    by_cases h2 : k = a + i
    · subst h2
      rw [if_pos rfl, if_neg (by omega), if_neg (by omega), if_pos (by omega)]
      congr 1; omega
    · rw [if_neg h2]
      by_cases h3 : a ≤ k ∧ k < a + i
      · rw [if_pos h3, if_pos (by omega)]
      · have h5 : ¬ (a ≤ k ∧ k < a + (i + 1)) := by omega
        by_cases h4 : b ≤ k ∧ k < b + i
        · rw [if_neg h3, if_pos h4, if_neg h5, if_pos (show b ≤ k ∧ k < b + (i + 1) by omega)]
        · rw [if_neg h3, if_neg h4, if_neg h5, if_neg (show ¬ (b ≤ k ∧ k < b + (i + 1)) by omega)]
theorem SwR.permIn {a b m : Nat} {L M : List Int} (h : SwR a b m L M) (hab : a + m ≤ b) : PermIn a (b + m) L M := ⟨h.len, fun k hk => by rw [h.at_, if_neg (by omega), if_neg (by omega)], h.perm⟩
def RowPost (w : World) (B g n cap : Nat) (R : List Int → Prop) (e : Ending) (w' : World) : Prop := ∃ M, e = .returned (.tuple #[]) ∧ R M ∧ RowZ w' B g n cap M ∧ w.grownBy w' (some g)
set_option maxHeartbeats 2000000 in
theorem swapRange_any (L : List Int) (B g n cap bx a b m : Nat) (w : World) (hr : RowZ w B g n cap L) (hab : a + m ≤ b) (hb : b + m ≤ n) (hn1 : n ≤ 100000) :
    Calls Tryz.prog 147 #[.slice (some ⟨g, 0, none⟩) n cap, .int .i64 (a : Nat), .int .i64 (b : Nat), .int .i64 (m : Nat), cmpV bx] w (RowPost w B g n cap (SwR a b m L)) := by
  have hni : (n : Int) ≤ 100000 := by omega
  have HL := Lib.hid hr.1
  have HR := Lib.hid hr
  unfold cmpV RowPost
  clear hr
  go_enter Tryz.func147, Tryz.ntmps147
  go_wp2
  go_loopw [10] (fun i wr => ∃ (k : Nat) (M : List Int), i = .int .i64 k ∧ k ≤ m ∧ Hid (SwR a b k L M) ∧ RowZ wr B g n cap M ∧ w.grownBy wr (some g)) (fun i _ => m - (RowKit.intOf i).toNat)
  case atStart => exact ⟨0, L, rfl, by omega, Lib.hid (SwR.zero _ _ _), HR.out, World.grownBy.refl _ _⟩
  case round =>
    obtain ⟨k, M, rfl, hk, HS, hrow, hg⟩ := hrel
    by_cases hlt : k < m
    · have hki : (k : Int) < (m : Int) := by omega
      have d1 := hrow.cell (i := a + k) (by omega)
      have d2 := hrow.cell (i := b + k) (by omega)
      have z1 := hrow.froz (a + k)
      have z2 := hrow.froz (b + k)
      obtain ⟨x, hx⟩ : ∃ x, ga M (a + k) = x := ⟨_, rfl⟩
      obtain ⟨y, hy⟩ : ∃ y, ga M (b + k) = y := ⟨_, rfl⟩
      rw [hx] at d1
      rw [hy] at d2
      have h1 := hrow.swap2 (a + k) (b + k)
      rw [hx, hy] at h1
      have H1 := Lib.hid h1
      have HST := Lib.hid (HS.out.step hlt hab (by rw [HL.out]; exact hb))
      have HG := Lib.hid hg
      have ha0 : (0 : Int) ≤ (a : Int) + (k : Int) := by omega
      have ha1 : (a : Int) + (k : Int) < (n : Int) := by omega
      have ha2 : ((a : Int) + (k : Int)).toNat = a + k := by omega
      have hb0 : (0 : Int) ≤ (b : Int) + (k : Int) := by omega
      have hb1 : (b : Int) + (k : Int) < (n : Int) := by omega
      have hb2 : ((b : Int) + (k : Int)).toNat = b + k := by omega
      obtain ⟨v', d2'⟩ := cell?_setCell_someQ (p := ⟨g, a + k, none⟩) (x := .int .i64 y) d2
      clear h1 hx hy hrow hg HS
      go_wp2
      go_region
      go_wp2
      go_roundw
      case rel => exact ⟨k + 1, _, by go_num, by omega, HST, H1.out.below (Below.refl _ _).drew, gb_below ((HG.out.trans (grown_set _ g (a + k) _)).trans (grown_set _ g (b + k) _)) (Below.refl _ _).drew⟩
      case measure => simp [RowKit.intOf]; omega
    · obtain rfl : k = m := by omega
      have HRW := Lib.hid hrow
      have HGG := Lib.hid hg
      clear hrow hg
      go_wp2
      go_end0
      exact ⟨M, rfl, HS.out, HRW.out, HGG.out⟩
structure RotR (a m b : Nat) (L M : List Int) : Prop where
  perm : PermIn a b L M
  lo : ∀ k, k < b - m → ga M (a + k) = ga L (m + k)
  hi : ∀ k, k < m - a → ga M (a + (b - m) + k) = ga L (a + k)
def rotT (a m b : Nat) (L : List Int) (k : Nat) : Int := if k < a + (b - m) then ga L (m + (k - a)) else ga L (a + (k - (a + (b - m))))
structure RotI (a m b i j : Nat) (L M : List Int) : Prop where
  perm : PermIn a b L M
  outer : ∀ k, a ≤ k → k < b → (k < m - i ∨ m + j ≤ k) → ga M k = rotT a m b L k
  left : ∀ k, k < j → rotT a m b L (m - i + k) = ga M (m + k)
  right : ∀ k, k < i → rotT a m b L (m - i + j + k) = ga M (m - i + k)
theorem RotI.start {a m b : Nat} {L : List Int} (h1 : a ≤ m) (h2 : m ≤ b) : RotI a m b (m - a) (b - m) L L := by
  refine ⟨PermIn.refl _ _ _, fun k h3 h4 h5 => by omega, fun k hk => ?_, fun k hk => ?_⟩
  · unfold rotT
    rw [if_pos (by omega)]; congr 1; omega
  · unfold rotT
    rw [if_neg (by omega)]; congr 1; omega
theorem RotI.more {a m b i j : Nat} {L M M' : List Int} (h : RotI a m b i j L M) (h1 : a + i ≤ m) (h2 : m + j ≤ b) (hij : j < i) (hs : SwR (m - i) m j M M') : RotI a m b (i - j) j L M' := by
  refine ⟨h.perm.trans ((hs.permIn (by omega)).wide (by omega) (by omega)), fun k h3 h4 h5 => ?_, fun k hk => ?_, fun k hk => ?_⟩
  · rw [hs.at_]
    by_cases c1 : m - i ≤ k ∧ k < m - i + j
    · rw [if_pos c1, ← h.left (k - (m - i)) (by omega)]; congr 1; omega
    · rw [if_neg c1, if_neg (by omega)]
      exact h.outer k h3 h4 (by omega)
  · rw [hs.at_, if_neg (by omega), if_pos (by omega), show m - i + (m + k - m) = m - i + k by omega, ← h.right k (by omega)]
    congr 1; omega
  · rw [hs.at_, if_neg (by omega), if_neg (by omega), show m - (i - j) + k = m - i + (j + k) by omega, ← h.right (j + k) (by omega)]
    congr 1; omega
theorem RotI.less {a m b i j : Nat} {L M M' : List Int} (h : RotI a m b i j L M) (h1 : a + i ≤ m) (h2 : m + j ≤ b) (hij : i < j) (hs : SwR (m - i) (m + j - i) i M M') : RotI a m b i (j - i) L M' := by
  refine ⟨h.perm.trans ((hs.permIn (by omega)).wide (by omega) (by omega)), fun k h3 h4 h5 => ?_, fun k hk => ?_, fun k hk => ?_⟩
  · rw [hs.at_]
    by_cases c1 : m + j - i ≤ k ∧ k < m + j - i + i
    · rw [if_neg (by omega), if_pos c1, ← h.right (k - (m + j - i)) (by omega)]; congr 1; omega
    · rw [if_neg (by omega), if_neg c1]
      exact h.outer k h3 h4 (by omega)
  · rw [hs.at_, if_neg (by omega), if_neg (by omega), h.left k (by omega)]
  · rw [hs.at_, if_pos (by omega), show m + j - i + (m - i + k - (m - i)) = m + (j - i + k) by omega, ← h.left (j - i + k) (by omega)]
    congr 1; omega
theorem RotI.done {a m b i : Nat} {L M M' : List Int} (h : RotI a m b i i L M) (h1 : a + i ≤ m) (h2 : m + i ≤ b) (hs : SwR (m - i) m i M M') : RotR a m b L M' := by
  have key : ∀ k, a ≤ k → k < b → ga M' k = rotT a m b L k := fun k h3 h4 => by
    rw [hs.at_]
    by_cases c1 : m - i ≤ k ∧ k < m - i + i
    · rw [if_pos c1, ← h.left (k - (m - i)) (by omega)]; congr 1; omega
    · rw [if_neg c1]
      by_cases c2 : m ≤ k ∧ k < m + i
      · rw [if_pos c2, ← h.right (k - m) (by omega)]; congr 1; omega
      · rw [if_neg c2]
        exact h.outer k h3 h4 (by omega)
  refine ⟨h.perm.trans ((hs.permIn (by omega)).wide (by omega) (by omega)), fun k hk => ?_, fun k hk => ?_⟩
  · rw [key _ (by omega) (by omega)]
    unfold rotT
    rw [if_pos (by omega)]; congr 1; omega
  · rw [key _ (by omega) (by omega)]
    unfold rotT
    rw [if_neg (by omega)]; congr 1; omega
set_option maxHeartbeats 4000000 in
theorem rotateCmp_any (L : List Int) (B g n cap bx a m b : Nat) (w : World) (hr : RowZ w B g n cap L) (h1 : a < m) (h2 : m < b) (hb : b ≤ n) (hn1 : n ≤ 100000) :
    Calls Tryz.prog 133 #[.slice (some ⟨g, 0, none⟩) n cap, .int .i64 (a : Nat), .int .i64 (m : Nat), .int .i64 (b : Nat), cmpV bx] w (RowPost w B g n cap (RotR a m b L)) := by
  have hni : (n : Int) ≤ 100000 := by omega
  have HL := Lib.hid hr.1
  have HR := Lib.hid hr
  have hSW := fun (M : List Int) (a' b' m' : Nat) (w' : World) (h : RowZ w' B g n cap M) (h1 : a' + m' ≤ b') (h2 : b' + m' ≤ n) => swapRange_any M B g n cap bx a' b' m' w' h h1 h2 hn1
  have HSW := Lib.hid hSW
  unfold RowPost
  unfold cmpV RowPost at HSW
  unfold cmpV
  clear hr hSW
  have e1 : (m : Int) - (a : Int) = ((m - a : Nat) : Int) := by omega
  have e2 : (b : Int) - (m : Int) = ((b - m : Nat) : Int) := by omega
  go_enter Tryz.func133, Tryz.ntmps133
  go_wp2
  go_loopw [10, 11] (fun iv jv wr => ∃ (i j : Nat) (M : List Int), iv = .int .i64 i ∧ jv = .int .i64 j ∧ 0 < i ∧ 0 < j ∧ a + i ≤ m ∧ m + j ≤ b ∧ Hid (RotI a m b i j L M) ∧ RowZ wr B g n cap M ∧ w.grownBy wr (some g)) (fun iv jv _ => (RowKit.intOf iv).toNat + (RowKit.intOf jv).toNat)
  case atStart => exact ⟨m - a, b - m, L, by go_num, by go_num, by omega, by omega, by omega, by omega, Lib.hid (RotI.start (by omega) (by omega)), HR.out, World.grownBy.refl _ _⟩
  case round =>
    obtain ⟨i, j, M, rfl, rfl, hi0, hj0, hi1, hj1, HI, hrow, hg⟩ := hrel
    by_cases hne : i = j
    · subst hne
      have hS := HSW.out M (m - i) m i _ hrow (by omega) (by omega)
      have e3 : (m : Int) - (i : Int) = ((m - i : Nat) : Int) := by omega
      have HG := Lib.hid hg
      clear hrow hg
      go_wp2_with fail
      with_reducible refine hS.mono ?_
      rintro e w5 ⟨M', rfl, hs5, hr5, hg5⟩
      have hd := HI.out.done hi1 hj1 hs5
      have HD := Lib.hid (And.intro hd (And.intro hr5 (HG.out.trans hg5)))
      clear hs5 hr5 hg5 hd hS
      go_wp2
      go_end0
      exact ⟨M', rfl, HD.out⟩
    · have hnei : ¬ (i : Int) = (j : Int) := by omega
      have hneb : ((i : Int) == (j : Int)) = false := by simp; omega
      by_cases hgt : j < i
      · have hgti : (j : Int) < (i : Int) := by omega
        have hS := HSW.out M (m - i) m j _ hrow (by omega) (by omega)
        have e3 : (m : Int) - (i : Int) = ((m - i : Nat) : Int) := by omega
        have HG := Lib.hid hg
        clear hrow hg
        go_wp2_with fail
        with_reducible refine hS.mono ?_
        rintro e w5 ⟨M', rfl, hs5, hr5, hg5⟩
        have hd := HI.out.more hi1 hj1 hgt hs5
        have HD := Lib.hid (And.intro hd (And.intro hr5 (HG.out.trans hg5)))
        clear hs5 hr5 hg5 hd hS
        go_wp2
        go_roundw
        case rel => exact ⟨i - j, j, M', by go_num, rfl, by omega, hj0, by omega, hj1, Lib.hid HD.out.1, HD.out.2.1, HD.out.2.2⟩
        case measure => simp [RowKit.intOf]; omega
      · have hgti : ¬ (j : Int) < (i : Int) := by omega
        have hS := HSW.out M (m - i) (m + j - i) i _ hrow (by omega) (by omega)
        have e3 : (m : Int) - (i : Int) = ((m - i : Nat) : Int) := by omega
        have e4 : (m : Int) + (j : Int) - (i : Int) = ((m + j - i : Nat) : Int) := by omega
        have HG := Lib.hid hg
        clear hrow hg
        go_wp2_with fail
        with_reducible refine hS.mono ?_
        rintro e w5 ⟨M', rfl, hs5, hr5, hg5⟩
        have hd := HI.out.less hi1 hj1 (by omega) hs5
        have HD := Lib.hid (And.intro hd (And.intro hr5 (HG.out.trans hg5)))
        clear hs5 hr5 hg5 hd hS
        go_wp2
        go_roundw
        case rel => exact ⟨i, j - i, M', rfl, by go_num, hi0, by omega, hi1, by omega, Lib.hid HD.out.1, HD.out.2.1, HD.out.2.2⟩
        case measure => simp [RowKit.intOf]; omega
end Go.Mk
end
section
set_option linter.unusedVariables false
set_option linter.unusedSimpArgs false
open Go Go.Proofs Go.RowKit
set_option maxRecDepth 100000
namespace Go.Mk
def Bel (lt : Int → Int → Prop) (L : List Int) (a m b : Nat) : Prop := ∀ p q, a ≤ p → p < m → m ≤ q → q < b → lt (ga L p) (ga L q)
theorem Srt.join {lt : Int → Int → Prop} {L : List Int} {a m b : Nat} (h1 : Srt lt L a m) (h2 : Srt lt L m b) (h : Bel lt L a m b) : Srt lt L a b := fun p q hp hpq hq => by
  by_cases c1 : q < m
  · exact h1 p q hp hpq c1
  · by_cases c2 : p < m
    · exact h p q hp c2 (by omega) hq
    · exact h2 p q (by omega) hpq hq
theorem Bel.permL {lt : Int → Int → Prop} {L M : List Int} {a m b : Nat} (h : Bel lt L a m b) (hn : L.Nodup) (hp : PermIn a m L M) (hb : b ≤ L.length) (hm : m ≤ b) : Bel lt M a m b := fun p q h1 h2 h3 h4 => by
  obtain ⟨k, k1, k2, k3, k4⟩ := hp.from_ hn (i := p) h1 h2 (by omega)
  rw [k4, hp.out q (by omega)]
  exact h k q k1 k2 h3 h4
theorem Bel.permR {lt : Int → Int → Prop} {L M : List Int} {a m b : Nat} (h : Bel lt L a m b) (hn : L.Nodup) (hp : PermIn m b L M) (hb : b ≤ L.length) : Bel lt M a m b := fun p q h1 h2 h3 h4 => by
  obtain ⟨k, k1, k2, k3, k4⟩ := hp.from_ hn (i := q) h3 h4 (by omega)
  rw [k4, hp.out p (by omega)]
  exact h p k h1 h2 k1 k2
theorem RotR.refl {s m e : Nat} (h1 : s ≤ m) (h2 : m ≤ e) (L : List Int) (h : s = m ∨ e = m) : RotR s m e L L := by
  refine ⟨PermIn.refl _ _ _, fun k hk => ?_, fun k hk => ?_⟩
  · rcases h with h | h
    · subst h; rfl
    · omega
  · rcases h with h | h
    · omega
    · subst h; congr 1; omega
def Tst (cm : Int → Int → Int) (lt : Int → Int → Prop) (L : List Int) (a m b : Nat) : Prop := ∀ p q, a ≤ p → p < m → m ≤ q → q < b → (cm (ga L q) (ga L p) < 0 ↔ lt (ga L q) (ga L p))
structure Halves (cm : Int → Int → Int) (lt : Int → Int → Prop) (a m b s e : Nat) (M : List Int) : Prop where
  s1 : Srt lt M a s
  s2 : Srt lt M s (s + (e - m))
  s3 : Srt lt M (s + (e - m)) e
  s4 : Srt lt M e b
  bel : Bel lt M a (s + (e - m)) b
  t1 : Tst cm lt M a s (s + (e - m))
  t2 : Tst cm lt M (s + (e - m)) e b
theorem halves_of {cm : Int → Int → Int} {lt : Int → Int → Prop} (ho : Ord lt) {L M : List Int} {a m b s e : Nat} (h1 : Srt lt L a m) (h2 : Srt lt L m b) (hT : Tst cm lt L a m b) (has : a ≤ s) (hsm : s ≤ m) (hme : m ≤ e) (heb : e ≤ b)
    (hA : a < s → e < b → lt (ga L (s - 1)) (ga L e)) (hB : s < m → m < e → lt (ga L (e - 1)) (ga L s)) (hr : RotR s m e L M) : Halves cm lt a m b s e M := by
  have lo : ∀ k, s ≤ k → k < s + (e - m) → ga M k = ga L (m + (k - s)) := fun k q1 q2 => by
    have := hr.lo (k - s) (by omega)
    rwa [show s + (k - s) = k by omega] at this
  have hi : ∀ k, s + (e - m) ≤ k → k < e → ga M k = ga L (s + (k - (s + (e - m)))) := fun k q1 q2 => by
    have := hr.hi (k - (s + (e - m))) (by omega)
    rwa [show s + (e - m) + (k - (s + (e - m))) = k by omega] at this
  have o1 : ∀ k, k < s → ga M k = ga L k := fun k q => hr.perm.out k (by omega)
  have o2 : ∀ k, e ≤ k → ga M k = ga L k := fun k q => hr.perm.out k (by omega)
  have le : ∀ {x y z : Int}, (x = y ∨ lt x y) → lt y z → lt x z := fun h k => by
    rcases h with h | h
    · rw [h]; exact k
    · exact ho.trans h k
  have ge : ∀ {x y z : Int}, lt x y → (y = z ∨ lt y z) → lt x z := fun h k => by
    rcases k with k | k
    · rw [← k]; exact h
    · exact ho.trans h k
  refine ⟨fun p q q1 q2 q3 => ?_, fun p q q1 q2 q3 => ?_, fun p q q1 q2 q3 => ?_, fun p q q1 q2 q3 => ?_, fun p q q1 q2 q3 q4 => ?_, fun p q q1 q2 q3 q4 => ?_, fun p q q1 q2 q3 q4 => ?_⟩
  · rw [o1 p (by omega), o1 q q3]; exact h1 p q q1 q2 (by omega)
  · rw [lo p q1 (by omega), lo q (by omega) q3]; exact h2 _ _ (by omega) (by omega) (by omega)
  · rw [hi p q1 (by omega), hi q (by omega) q3]; exact h1 _ _ (by omega) (by omega) (by omega)
  · rw [o2 p q1, o2 q (by omega)]; exact h2 p q (by omega) q2 q3
  · by_cases c1 : p < s
    · rw [o1 p c1]
      by_cases c2 : q < e
      · rw [hi q q3 c2]; exact h1 _ _ q1 (by omega) (by omega)
      · rw [o2 q (by omega)]
        have hab := hA (by omega) (by omega)
        refine le (y := ga L (s - 1)) ?_ (ge hab ?_)
        · by_cases c3 : p = s - 1
          · exact .inl (by rw [c3])
          · exact .inr (h1 p (s - 1) q1 (by omega) (by omega))
        · by_cases c3 : q = e
          · exact .inl (by rw [c3])
          · exact .inr (h2 e q (by omega) (by omega) q4)
    · rw [lo p (by omega) q2]
      by_cases c2 : q < e
      · rw [hi q q3 c2]
        have hba := hB (by omega) (by omega)
        refine le (y := ga L (e - 1)) ?_ (ge hba ?_)
        · by_cases c3 : m + (p - s) = e - 1
          · exact .inl (by rw [c3])
          · exact .inr (h2 _ (e - 1) (by omega) (by omega) (by omega))
        · by_cases c3 : s + (q - (s + (e - m))) = s
          · exact .inl (by rw [c3])
          · exact .inr (h1 s _ has (by omega) (by omega))
      · rw [o2 q (by omega)]; exact h2 _ _ (by omega) (by omega) q4
  · rw [o1 p q2, lo q q3 q4]; exact hT _ _ q1 (by omega) (by omega) (by omega)
  · rw [hi p q1 q2, o2 q q3]; exact hT _ _ (by omega) (by omega) (by omega) q4
theorem halves_done {lt : Int → Int → Prop} {a mid b : Nat} {M M1 M2 : List Int} (hn : M.Nodup) (hb : b ≤ M.length) (ham : a ≤ mid) (hmb : mid ≤ b) (hbel : Bel lt M a mid b)
    (p1 : PermIn a mid M M1) (s1 : Srt lt M1 a mid) (p2 : PermIn mid b M1 M2) (s2 : Srt lt M2 mid b) : Srt lt M2 a b := by
  have hn1 : M1.Nodup := p1.perm.nodup_iff.2 hn
  have hb1 : b ≤ M1.length := by rw [p1.len]; exact hb
  refine Srt.join (s1.same (fun i h1 h2 => p2.out i (by omega))) s2 ?_
  exact (hbel.permL hn p1 hb hmb).permR hn1 p2 hb1
structure Srch (lt : Int → Int → Prop) (L : List Int) (n lo hi s r : Nat) : Prop where
  lo_ : lo ≤ s
  mid_ : s ≤ r
  hi_ : r ≤ hi
  not_ : lo < s → ¬ lt (ga L (n - s)) (ga L (s - 1))
  yes_ : r < hi → lt (ga L (n - 1 - r)) (ga L r)
theorem Srch.start {lt : Int → Int → Prop} {L : List Int} {n lo hi : Nat} (h : lo ≤ hi) : Srch lt L n lo hi lo hi := ⟨Nat.le_refl _, h, Nat.le_refl _, fun q => absurd q (by omega), fun q => absurd q (by omega)⟩
theorem Srch.up {lt : Int → Int → Prop} {L : List Int} {n lo hi s r c : Nat} (h : Srch lt L n lo hi s r) (h1 : s ≤ c) (h2 : c < r) (ht : ¬ lt (ga L (n - 1 - c)) (ga L c)) : Srch lt L n lo hi (c + 1) r :=
  ⟨by have := h.lo_; omega, by omega, h.hi_, fun _ => by rw [show n - (c + 1) = n - 1 - c by omega, Nat.add_sub_cancel]; exact ht, h.yes_⟩
theorem Srch.down {lt : Int → Int → Prop} {L : List Int} {n lo hi s r c : Nat} (h : Srch lt L n lo hi s r) (h1 : s ≤ c) (h2 : c < r) (ht : lt (ga L (n - 1 - c)) (ga L c)) : Srch lt L n lo hi s c :=
  ⟨h.lo_, h1, by have := h.hi_; omega, h.not_, fun _ => ht⟩
def loS (a m b : Nat) : Nat := if (a + b) / 2 < m then (a + b) / 2 + m - b else a
def hiS (a m b : Nat) : Nat := if (a + b) / 2 < m then (a + b) / 2 else m
theorem srch_range {a m b c : Nat} (h1 : a < m) (h2 : m < b) (hc1 : loS a m b ≤ c) (hc2 : c < hiS a m b) : a ≤ c ∧ c < m ∧ m ≤ (a + b) / 2 + m - 1 - c ∧ (a + b) / 2 + m - 1 - c < b := by
  unfold loS at hc1
  unfold hiS at hc2
  split at hc1 <;> rename_i h
  · rw [if_pos h] at hc2; omega
  · rw [if_neg h] at hc2; omega
theorem srch_lohi {a m b : Nat} (h1 : a < m) (h2 : m < b) : loS a m b ≤ hiS a m b ∧ a ≤ loS a m b ∧ hiS a m b ≤ m ∧ hiS a m b ≤ (a + b) / 2 ∧ (a + b) / 2 + m - b ≤ loS a m b := by
  unfold loS hiS
  split <;> omega
theorem Srch.done {lt : Int → Int → Prop} (ho : Ord lt) {L : List Int} {a m b s : Nat} (hn : L.Nodup) (hb : b ≤ L.length) (h1 : a < m) (h2 : m < b) (h : Srch lt L ((a + b) / 2 + m) (loS a m b) (hiS a m b) s s) :
    a ≤ s ∧ s ≤ m ∧ m ≤ (a + b) / 2 + m - s ∧ (a + b) / 2 + m - s ≤ b ∧ s + ((a + b) / 2 + m - s - m) = (a + b) / 2 ∧
    (a < s → (a + b) / 2 + m - s < b → lt (ga L (s - 1)) (ga L ((a + b) / 2 + m - s))) ∧ (s < m → m < (a + b) / 2 + m - s → lt (ga L ((a + b) / 2 + m - s - 1)) (ga L s)) := by
  obtain ⟨k1, k2, k3, k4, k5⟩ := srch_lohi h1 h2
  have l1 := h.lo_
  have l2 := h.hi_
  refine ⟨by omega, by omega, by omega, by omega, by omega, fun q1 q2 => ?_, fun q1 q2 => ?_⟩
  · have hlo : loS a m b < s := by
      unfold loS at k5 l1 ⊢
      split at l1 <;> rename_i hc
      · rw [if_pos hc] at k5 ⊢; omega
      · rw [if_neg hc]; omega
    refine (ho.tri (fun q => ?_)).resolve_right (h.not_ hlo)
    have e2 : L[s - 1]? = L[(a + b) / 2 + m - s]? := by rw [ga_at (by omega), ga_at (by omega), q]
    have := (List.getElem?_inj (show s - 1 < L.length by omega) hn).1 e2
    omega
  · have hhi : s < hiS a m b := by
      unfold hiS at k3 k4 l2 ⊢
      split at l2 <;> rename_i hc
      · rw [if_pos hc]; omega
      · rw [if_neg hc]; omega
    have := h.yes_ hhi
    rwa [show (a + b) / 2 + m - 1 - s = (a + b) / 2 + m - s - 1 by omega] at this
end Go.Mk
end
section
set_option linter.unusedVariables false
set_option linter.unusedSimpArgs false
open Go Go.Proofs Go.RowKit
set_option maxRecDepth 100000
namespace Go.Mk
structure ShU (a b k : Nat) (L M : List Int) : Prop where
  perm : PermIn a b L M
  at_ : ∀ p, ga M p = if a ≤ p ∧ p < k then ga L (p + 1) else if p = k then ga L a else ga L p
theorem ShU.start (a b : Nat) (L : List Int) : ShU a b a L L := ⟨PermIn.refl _ _ _, fun p => by
  rw [if_neg (by omega)]
  by_cases h : p = a
  · rw [if_pos h, h]
  · rw [if_neg h]⟩
theorem ShU.step {a b k : Nat} {L M : List Int} (h : ShU a b k L M) (hk : a ≤ k) (hb : k + 1 < b) (hl : b ≤ L.length) : ShU a b (k + 1) L (swp M k (k + 1)) := by
  have hlen := h.perm.len
  refine ⟨h.perm.trans (PermIn.swp (by omega) hk hb (by omega)), fun p => ?_⟩
  rw [ga_swp (by omega) (by omega), h.at_ k, h.at_ (k + 1), h.at_ p]
  have c0 : ¬ (a ≤ k ∧ k < k) := by omega
  have c1 : ¬ (a ≤ k + 1 ∧ k + 1 < k) := by omega
  have c2 : ¬ k + 1 = k := by omega
  by_cases h1 : p = k + 1
  · rw [if_pos h1, if_neg c0, if_pos rfl, if_neg (show ¬ (a ≤ p ∧ p < k + 1) by omega), if_pos h1]
  · rw [if_neg h1]
    by_cases h2 : p = k
    · rw [if_pos h2, if_neg c1, if_neg c2, if_pos (show a ≤ p ∧ p < k + 1 by omega), h2]
    · rw [if_neg h2]
      by_cases h3 : a ≤ p ∧ p < k
      · rw [if_pos h3, if_pos (show a ≤ p ∧ p < k + 1 by omega)]
      · rw [if_neg h3, if_neg h2, if_neg (show ¬ (a ≤ p ∧ p < k + 1) by omega), if_neg h1]
theorem ShU.srt {lt : Int → Int → Prop} {a b i : Nat} {L M : List Int} (h : ShU a b (i - 1) L M) (hs : Srt lt L (a + 1) b) (hai : a + 1 ≤ i) (hib : i ≤ b)
    (h1 : ∀ q, a + 1 ≤ q → q < i → lt (ga L q) (ga L a)) (h2 : ∀ q, i ≤ q → q < b → lt (ga L a) (ga L q)) : Srt lt M a b := fun p q hp hpq hq => by
  rw [h.at_ p, h.at_ q]
  by_cases c1 : a ≤ p ∧ p < i - 1
  · rw [if_pos c1]
    by_cases c2 : a ≤ q ∧ q < i - 1
    · rw [if_pos c2]; exact hs _ _ (by omega) (by omega) (by omega)
    · rw [if_neg c2]
      by_cases c3 : q = i - 1
      · rw [if_pos c3]; exact h1 _ (by omega) (by omega)
      · rw [if_neg c3]; exact hs _ _ (by omega) (by omega) hq
  · rw [if_neg c1, if_neg (show ¬ (a ≤ q ∧ q < i - 1) by omega)]
    by_cases c3 : p = i - 1
    · rw [if_pos c3, if_neg (show ¬ q = i - 1 by omega)]; exact h2 _ (by omega) hq
    · rw [if_neg c3, if_neg (show ¬ q = i - 1 by omega)]; exact hs _ _ (by omega) hpq hq
structure ShD (a m k : Nat) (L M : List Int) : Prop where
  perm : PermIn a (m + 1) L M
  at_ : ∀ p, ga M p = if k < p ∧ p ≤ m then ga L (p - 1) else if p = k then ga L m else ga L p
theorem ShD.start (a m : Nat) (L : List Int) : ShD a m m L L := ⟨PermIn.refl _ _ _, fun p => by
  rw [if_neg (by omega)]
  by_cases h : p = m
  · rw [if_pos h, h]
  · rw [if_neg h]⟩
theorem ShD.step {a m k : Nat} {L M : List Int} (h : ShD a m k L M) (hk : a < k) (hm : k ≤ m) (hl : m < L.length) : ShD a m (k - 1) L (swp M (k - 1) k) := by
  have hlen := h.perm.len
  refine ⟨h.perm.trans (PermIn.swp (by omega) (by omega) (by omega) (by omega)), fun p => ?_⟩
  rw [ga_swp (by omega) (by omega), h.at_ (k - 1), h.at_ k, h.at_ p]
  have c0 : ¬ (k < k - 1 ∧ k - 1 ≤ m) := by omega
  have c1 : ¬ (k < k ∧ k ≤ m) := by omega
  have c2 : ¬ k - 1 = k := by omega
  by_cases h1 : p = k
  · rw [if_pos h1, if_neg c0, if_neg c2, if_pos (show k - 1 < p ∧ p ≤ m by omega), h1]
  · rw [if_neg h1]
    by_cases h2 : p = k - 1
    · rw [if_pos h2, if_neg c1, if_pos rfl, if_neg (show ¬ (k - 1 < p ∧ p ≤ m) by omega), if_pos h2]
    · rw [if_neg h2]
      by_cases h3 : k < p ∧ p ≤ m
      · rw [if_pos h3, if_pos (show k - 1 < p ∧ p ≤ m by omega)]
      · rw [if_neg h3, if_neg h1, if_neg (show ¬ (k - 1 < p ∧ p ≤ m) by omega), if_neg h2]
theorem ShD.srt {lt : Int → Int → Prop} {a m i : Nat} {L M : List Int} (h : ShD a m i L M) (hs : Srt lt L a m) (hai : a ≤ i) (him : i ≤ m)
    (h1 : ∀ q, a ≤ q → q < i → lt (ga L q) (ga L m)) (h2 : ∀ q, i ≤ q → q < m → lt (ga L m) (ga L q)) : Srt lt M a (m + 1) := fun p q hp hpq hq => by
  rw [h.at_ p, h.at_ q]
  by_cases c1 : i < p ∧ p ≤ m
  · rw [if_pos c1, if_pos (show i < q ∧ q ≤ m by omega)]; exact hs _ _ (by omega) (by omega) (by omega)
  · rw [if_neg c1]
    by_cases c2 : p = i
    · rw [if_pos c2, if_pos (show i < q ∧ q ≤ m by omega)]; exact h2 _ (by omega) (by omega)
    · rw [if_neg c2]
      by_cases c3 : i < q ∧ q ≤ m
      · rw [if_pos c3]; exact hs _ _ hp (by omega) (by omega)
      · rw [if_neg c3]
        by_cases c4 : q = i
        · rw [if_pos c4]; exact h1 _ hp (by omega)
        · rw [if_neg c4]; exact hs _ _ hp hpq (by omega)
structure Bin (lt : Int → Int → Prop) (L : List Int) (x : Int) (a b i j : Nat) : Prop where
  lo_ : a ≤ i
  mid_ : i ≤ j
  hi_ : j ≤ b
  low : ∀ q, a ≤ q → q < i → lt (ga L q) x
  up : ∀ q, j ≤ q → q < b → lt x (ga L q)
theorem Bin.start {lt : Int → Int → Prop} {L : List Int} {x : Int} {a b : Nat} (h : a ≤ b) : Bin lt L x a b a b := ⟨Nat.le_refl _, h, Nat.le_refl _, fun q h1 h2 => by omega, fun q h1 h2 => by omega⟩
theorem Bin.right {lt : Int → Int → Prop} (ho : Ord lt) {L : List Int} {x : Int} {a b i j c : Nat} (h : Bin lt L x a b i j) (hs : Srt lt L a b) (h1 : i ≤ c) (h2 : c < j) (ht : lt (ga L c) x) : Bin lt L x a b (c + 1) j :=
  ⟨by have := h.lo_; omega, by omega, h.hi_, fun q q1 q2 => by
    by_cases e : q = c
    · rw [e]; exact ht
    · exact ho.trans (hs q c q1 (by omega) (by have := h.hi_; omega)) ht, h.up⟩
theorem Bin.left {lt : Int → Int → Prop} (ho : Ord lt) {L : List Int} {x : Int} {a b i j c : Nat} (h : Bin lt L x a b i j) (hs : Srt lt L a b) (h1 : i ≤ c) (h2 : c < j) (ht : lt x (ga L c)) : Bin lt L x a b i c :=
  ⟨h.lo_, h1, by have := h.hi_; omega, h.low, fun q q1 q2 => by
    by_cases e : q = c
    · rw [e]; exact ht
    · exact ho.trans ht (hs c q (by have := h.lo_; omega) (by omega) q2)⟩
end Go.Mk
end
