/-
  Proved: slices.symMergeCmpFunc of integers merges two sorted neighbours in place, of any lengths. Conditions: the integers lie in a row of the caller's own; the comparison leaves what was there.
  Proved: plain facts on sorting in blocks of twenty, and on lists in order: two lists with the same elements, both in a strict order, are the same; putting elements in their places one after another makes such a list. No condition beside those named.
  Proved: slices.stableCmpFunc and slices.SortStableFunc of up to 40 integers sort them in place, where the comparison of one with an earlier one answers as a strict order does. Conditions: the integers lie in a row of the caller's own; the comparison leaves what was there.
-/
import Derived.Test.YtccgahkoekcefaaGreatDoorQi
section
set_option linter.unusedVariables false
set_option linter.unusedSimpArgs false
open Go Go.Proofs Go.RowKit Go.Sort
set_option maxRecDepth 100000
namespace Go.Mk
theorem symMerge_ih {lt : Int → Int → Prop} (ho : Ord lt) (cm : Int → Int → Int) (B g n cap bx : Nat) (hn1 : n ≤ 100000) : ∀ d : Nat, SymIH lt cm B g n cap bx d := by
  intro d
  induction d with
  | zero => intro L a m b w hd; omega
  | succ d ih =>
    intro L a m b w hd hr hn h1 h2 hb hC hs1 hs2 hT
    by_cases c1 : m = a + 1
    · subst c1
      exact symA_any ho cm L B g n cap bx a (a + 1) b w hr hn rfl h2 hb hn1 hC hs2 hT
    · by_cases c2 : b = m + 1
      · subst c2
        exact symB_any ho cm L B g n cap bx a m (m + 1) w hr hn rfl (by omega) hb hn1 hC hs1 hT
      · exact symC_any ho cm L B g n cap bx a m b ((a + b) / 2) w hr hn (by omega) (by omega) rfl hb hn1 hC hs1 hs2 hT (fun L' a' m' b' w' hd' => ih L' a' m' b' w' (by omega))
theorem symMerge_any {lt : Int → Int → Prop} (ho : Ord lt) (cm : Int → Int → Int) (L : List Int) (B g n cap bx a m b : Nat) (w : World) (hr : RowZ w B g n cap L) (hn : L.Nodup) (h1 : a < m) (h2 : m < b) (hb : b ≤ n) (hn1 : n ≤ 100000) (hC : CmpOK w g bx cm L)
    (hs1 : Srt lt L a m) (hs2 : Srt lt L m b) (hT : Tst cm lt L a m b) :
    Calls Tryz.prog 109 #[.slice (some ⟨g, 0, none⟩) n cap, .int .i64 (a : Nat), .int .i64 (m : Nat), .int .i64 (b : Nat), cmpV bx] w (SortPost w B g n cap lt L a b) :=
  symMerge_ih ho cm B g n cap bx hn1 (b - a + 1) L a m b w (by omega) hr hn h1 h2 hb hC hs1 hs2 hT
end Go.Mk
end
section
set_option linter.unusedVariables false
set_option linter.unusedSimpArgs false
open Go Go.Proofs Go.RowKit
set_option maxRecDepth 100000
namespace Go.Mk
structure InsB (lt : Int → Int → Prop) (L M : List Int) (c : Nat) : Prop where
  perm : PermIn 0 c L M
  srt : ∀ p q, p < q → q < c → p / 20 = q / 20 → lt (ga M p) (ga M q)
  frm : ∀ p, p < c → ∃ q, q < c ∧ q / 20 = p / 20 ∧ ga M p = ga L q
theorem InsB.start {lt : Int → Int → Prop} (L : List Int) : InsB lt L L 0 := ⟨PermIn.refl _ _ _, fun _ _ _ h => by omega, fun _ h => by omega⟩
theorem InsB.step {lt : Int → Int → Prop} {L M M' : List Int} {c b : Nat} (h : InsB lt L M c) (hn : L.Nodup) (k : Nat) (hc : c = 20 * k) (hcb : c ≤ b) (hb : b ≤ c + 20) (hl : b ≤ L.length) (hp : PermIn c b M M') (hs : Srt lt M' c b) : InsB lt L M' b := by
  have hnM : M.Nodup := h.perm.perm.nodup_iff.2 hn
  have hlM := h.perm.len
  refine ⟨(h.perm.wide (Nat.le_refl _) hcb).trans (hp.wide (Nat.zero_le _) (Nat.le_refl _)), fun p q h1 h2 h3 => ?_, fun p h1 => ?_⟩
  · by_cases hq : q < c
    · rw [hp.out p (by omega), hp.out q (by omega)]; exact h.srt p q h1 hq h3
    · exact hs p q (by omega) h1 h2
  · by_cases hq : p < c
    · obtain ⟨q, q1, q2, q3⟩ := h.frm p hq
      exact ⟨q, by omega, q2, by rw [hp.out p (by omega)]; exact q3⟩
    · obtain ⟨j, j1, j2, j3, j4⟩ := hp.from_ hnM (i := p) (by omega) h1 (by omega)
      exact ⟨j, j2, by omega, by rw [j4, h.perm.out j (by omega)]⟩
theorem InsB.ask {lt : Int → Int → Prop} {cm : Int → Int → Int} {L M : List Int} {c n : Nat} (h : InsB lt L M c) (hT : ∀ p q, p < q → q < n → (cm (ga L q) (ga L p) < 0 ↔ lt (ga L q) (ga L p))) :
    ∀ p q, c ≤ p → p < q → q < n → (cm (ga M q) (ga M p) < 0 ↔ lt (ga M q) (ga M p)) := fun p q h1 h2 h3 => by
  rw [h.perm.out p (by omega), h.perm.out q (by omega)]
  exact hT p q h2 h3
theorem InsB.tst {lt : Int → Int → Prop} {cm : Int → Int → Int} {L M : List Int} {n : Nat} (h : InsB lt L M n) (hn : n ≤ 40) (hT : ∀ p q, p < q → q < n → (cm (ga L q) (ga L p) < 0 ↔ lt (ga L q) (ga L p))) : Tst cm lt M 0 20 n := fun p q h1 h2 h3 h4 => by
  obtain ⟨p', a1, a2, a3⟩ := h.frm p (by omega)
  obtain ⟨q', b1, b2, b3⟩ := h.frm q h4
  rw [a3, b3]
  exact hT p' q' (by omega) b1
theorem InsB.all {lt : Int → Int → Prop} {L M : List Int} {n : Nat} (h : InsB lt L M n) (hn : n ≤ 20) : Srt lt M 0 n := fun p q _ h2 h3 => h.srt p q h2 h3 (by omega)
theorem InsB.lo {lt : Int → Int → Prop} {L M : List Int} {n : Nat} (h : InsB lt L M n) (hn : 20 ≤ n) : Srt lt M 0 20 := fun p q _ h2 h3 => h.srt p q h2 (by omega) (by omega)
theorem InsB.hi {lt : Int → Int → Prop} {L M : List Int} {n : Nat} (h : InsB lt L M n) (hn : n ≤ 40) : Srt lt M 20 n := fun p q h1 h2 h3 => h.srt p q h2 h3 (by omega)
theorem pw_of_srt {lt : Int → Int → Prop} {L : List Int} (h : Srt lt L 0 L.length) : L.Pairwise lt := by
  rw [List.pairwise_iff_getElem]
  intro i j hi hj hij
  have := h i j (Nat.zero_le _) hij hj
  have e1 := ga_at hi
  have e2 := ga_at hj
  rw [List.getElem?_eq_getElem hi] at e1
  rw [List.getElem?_eq_getElem hj] at e2
  rw [Option.some.inj e1, Option.some.inj e2]
  exact this
theorem pw_unique {lt : Int → Int → Prop} (ho : Ord lt) : ∀ {L M : List Int}, L.Perm M → L.Pairwise lt → M.Pairwise lt → L = M
  | [], M, hp, _, _ => (List.Perm.nil_eq hp)
  | x :: L, [], hp, _, _ => by simpa using hp.length_eq
  | x :: L, y :: M, hp, h1, h2 => by
    rw [List.pairwise_cons] at h1 h2
    have e : x = y := by
      by_cases e : x = y
      · exact e
      · exfalso
        have a1 : x ∈ M := by
          have : x ∈ y :: M := hp.mem_iff.1 (List.mem_cons_self)
          rcases List.mem_cons.1 this with q | q
          · exact absurd q e
          · exact q
        have a2 : y ∈ L := by
          have : y ∈ x :: L := hp.mem_iff.2 (List.mem_cons_self)
          rcases List.mem_cons.1 this with q | q
          · exact absurd q.symm e
          · exact q
        exact ho.irr (ho.trans (h1.1 y a2) (h2.1 x a1))
    subst e
    rw [pw_unique ho (List.Perm.cons_inv hp) h1.2 h2.2]
theorem pw_insert {lt : Int → Int → Prop} (ho : Ord lt) {L : List Int} {x : Int} {k : Nat} (h : L.Pairwise lt) (h1 : ∀ y ∈ L.drop k, lt x y) (h2 : 0 < k → k ≤ L.length ∧ lt (ga L (k - 1)) x) : (L.take k ++ x :: L.drop k).Pairwise lt := by
  have hlow : ∀ y ∈ L.take k, lt y x := fun y hy => by
    rcases Nat.eq_zero_or_pos k with rfl | hk
    · simp at hy
    · obtain ⟨hkl, hlt⟩ := h2 hk
      obtain ⟨i, hi⟩ := List.mem_iff_getElem?.1 hy
      rw [List.getElem?_take] at hi
      split at hi
      · rename_i hik
        have hil : i < L.length := by omega
        rw [ga_at hil] at hi
        obtain rfl := Option.some.inj hi
        by_cases e : i = k - 1
        · rw [e]; exact hlt
        · rw [List.pairwise_iff_getElem] at h
          have := h i (k - 1) hil (by omega) (by omega)
          have e1 := ga_at hil
          have e2 := ga_at (show k - 1 < L.length by omega)
          rw [List.getElem?_eq_getElem hil] at e1
          rw [List.getElem?_eq_getElem (show k - 1 < L.length by omega)] at e2
          rw [Option.some.inj e1, Option.some.inj e2] at this
          exact ho.trans this hlt
      · cases hi
  rw [List.pairwise_append]
  refine ⟨h.sublist (List.take_sublist _ _), ?_, fun a ha b hb => ?_⟩
  · rw [List.pairwise_cons]
    exact ⟨h1, h.sublist (List.drop_sublist _ _)⟩
  · rcases List.mem_cons.1 hb with rfl | hb
    · exact hlow a ha
    · exact ho.trans (hlow a ha) (h1 b hb)
theorem insert_perm (L : List Int) (x : Int) (k : Nat) : (L.take k ++ x :: L.drop k).Perm (L ++ [x]) := by
  refine List.perm_middle.trans ?_
  rw [List.take_append_drop]
  exact (List.perm_append_singleton x L).symm
end Go.Mk
end
section
set_option linter.unusedVariables false
set_option linter.unusedSimpArgs false
open Go Go.Proofs Go.RowKit Go.Sort
set_option maxRecDepth 100000
namespace Go.Mk
set_option maxHeartbeats 4000000 in
theorem stableCmp_any {lt : Int → Int → Prop} (ho : Ord lt) (cm : Int → Int → Int) (L : List Int) (B g n cap bx : Nat) (w : World) (hr : RowZ w B g n cap L) (hn : L.Nodup) (hn1 : n ≤ 40) (hC : CmpOK w g bx cm L)
    (hT : ∀ p q, p < q → q < n → (cm (ga L q) (ga L p) < 0 ↔ lt (ga L q) (ga L p))) :
    Calls Tryz.prog 89 #[.slice (some ⟨g, 0, none⟩) n cap, .int .i64 (n : Nat), cmpV bx] w (SortPost w B g n cap lt L 0 n) := by
  have hni : (n : Int) ≤ 40 := by omega
  have hl := hr.1
  have HI : Hid (∀ (M : List Int) (c b : Nat) (w' : World), InsB lt L M c → RowZ w' B g n cap M → w.grownBy w' (some g) → b ≤ n → c ≤ n →
      Calls Tryz.prog 108 #[.slice (some ⟨g, 0, none⟩) n cap, .int .i64 (c : Nat), .int .i64 (b : Nat), cmpV bx] w' (SortPost w' B g n cap lt M c b)) :=
    Lib.hid fun M c b w' h1 h2 h3 h4 h5 => insertCmp_any ho cm M B g n cap bx c b w' h2 (h1.perm.perm.nodup_iff.2 hn) h4 (by omega) (by omega) (hC.next h3 h1.perm.perm) (fun p q q1 q2 q3 => h1.ask hT p q q1 q2 (by omega))
  have HM : Hid (∀ (M : List Int) (w' : World) (z : Int), z = (n : Int) → InsB lt L M n → RowZ w' B g n cap M → w.grownBy w' (some g) → 20 < n →
      Calls Tryz.prog 109 #[.slice (some ⟨g, 0, none⟩) n cap, .int .i64 0, .int .i64 20, .int .i64 z, cmpV bx] w' (SortPost w' B g n cap lt M 0 n)) :=
    Lib.hid fun M w' z hz h1 h2 h3 h4 => hz ▸ symMerge_any ho cm M B g n cap bx 0 20 n w' h2 (h1.perm.perm.nodup_iff.2 hn) (by omega) h4 (Nat.le_refl _) (by omega) (hC.next h3 h1.perm.perm) (h1.lo (by omega)) (h1.hi hn1) (h1.tst hn1 hT)
  have HL := Lib.hid hl
  have HN := Lib.hid hn
  have HR := Lib.hid hr
  unfold SortPost at HI HM ⊢
  unfold cmpV at *
  clear hC hT hn hr hl
  go_enter Tryz.func89, Tryz.ntmps89
  go_wp2
  go_loopw [7, 8] (fun av bv wr => ∃ (c b k : Nat) (M : List Int), av = .int .i64 (c : Nat) ∧ bv = .int .i64 (b : Nat) ∧ c ≤ n ∧ b ≤ 60 ∧ Hid (b = c + 20 ∧ c = 20 * k) ∧ Hid (InsB lt L M c) ∧ Hid (RowZ wr B g n cap M) ∧ Hid (w.grownBy wr (some g))) (fun _ bv _ => 100 - (RowKit.intOf bv).toNat)
  case atStart => exact ⟨0, 20, 0, L, rfl, rfl, by omega, by omega, Lib.hid ⟨by omega, by omega⟩, Lib.hid (InsB.start L), HR, Lib.hid (World.grownBy.refl _ _)⟩
  case round =>
    obtain ⟨c, b, k, M, rfl, rfl, hc, hb60, HBK, HB, HW, HG⟩ := hrel
    by_cases hlt : b ≤ n
    · have hbi : (b : Int) ≤ (n : Int) := by omega
      have hK := HI.out M c b _ HB.out HW.out HG.out hlt hc
      go_wp2_with fail
      with_reducible refine hK.mono ?_
      rintro e w5 ⟨M', rfl, hp5, hs5, hr5, hg5⟩
      have HD := Lib.hid (And.intro (HB.out.step HN.out k HBK.out.2 (by have := HBK.out.1; omega) (by have := HBK.out.1; omega) (by rw [HL.out]; exact hlt) hp5 hs5) (And.intro hr5 (HG.out.trans hg5)))
      clear hp5 hs5 hr5 hg5 hK
      go_wp2
      go_roundw
      case rel => exact ⟨b, b + 20, k + 1, M', rfl, by go_num, hlt, by have := HBK.out.1; omega, Lib.hid ⟨rfl, by have := HBK.out; omega⟩, Lib.hid HD.out.1, Lib.hid HD.out.2.1, Lib.hid HD.out.2.2⟩
      case measure => simp [RowKit.intOf]; omega
    · have hbi : ¬ (b : Int) ≤ (n : Int) := by omega
      have hK := HI.out M c n _ HB.out HW.out HG.out (Nat.le_refl _) hc
      go_wp2_with fail
      with_reducible refine hK.mono ?_
      rintro e w5 ⟨M1, rfl, hp5, hs5, hr5, hg5⟩
      have HD := Lib.hid (And.intro (HB.out.step HN.out k HBK.out.2 hc (by have := HBK.out.1; omega) (by rw [HL.out]; exact Nat.le_refl _) hp5 hs5) (And.intro hr5 (HG.out.trans hg5)))
      clear hp5 hs5 hr5 hg5 hK
      go_wp2
      go_loopw [6, 7, 8] (fun sv av bv wr => ∃ (s : Nat) (x y : Int) (M : List Int), sv = .int .i64 (s : Nat) ∧ av = .int .i64 x ∧ bv = .int .i64 y ∧ Hid ((s = 20 ∧ InsB lt L M n) ∨ (s = 40 ∧ PermIn 0 n L M ∧ Srt lt M 0 n)) ∧ Hid (RowZ wr B g n cap M) ∧ Hid (w.grownBy wr (some g))) (fun sv _ _ _ => 100 - (RowKit.intOf sv).toNat)
      case atStart => exact ⟨20, _, _, M1, rfl, rfl, rfl, Lib.hid (.inl ⟨rfl, HD.out.1⟩), Lib.hid HD.out.2.1, Lib.hid HD.out.2.2⟩
      case round =>
        obtain ⟨s, x, y, M2, rfl, rfl, rfl, HS, HW2, HG2⟩ := hrel
        by_cases h40 : s = 40
        · subst h40
          have hP : PermIn 0 n L M2 ∧ Srt lt M2 0 n := by
            rcases HS.out with ⟨q, _⟩ | ⟨_, q⟩
            · cases q
            · exact q
          have HP := Lib.hid hP
          clear hP HS
          go_wp2
          go_end0
          exact ⟨M2, rfl, HP.out.1, HP.out.2, HW2.out, HG2.out⟩
        · have hS : s = 20 ∧ InsB lt L M2 n := by
            rcases HS.out with q | ⟨q, _⟩
            · exact q
            · exact absurd q h40
          obtain ⟨rfl, hS⟩ := hS
          rw [show ((20 : Nat) : Int) = 20 from rfl]
          have HP := Lib.hid hS
          clear hS HS h40
          by_cases h20 : 20 < n
          · have h20i : (20 : Int) < (n : Int) := by omega
            go_wp2
            go_loopw [7, 8] (fun av bv wr => ∃ (c : Nat) (M : List Int), av = .int .i64 (c : Nat) ∧ bv = .int .i64 ((c + 40 : Nat) : Int) ∧ Hid ((c = 0 ∧ InsB lt L M n) ∨ (c = 40 ∧ n = 40 ∧ PermIn 0 n L M ∧ Srt lt M 0 n)) ∧ Hid (RowZ wr B g n cap M) ∧ Hid (w.grownBy wr (some g))) (fun _ bv _ => 100 - (RowKit.intOf bv).toNat)
            case atStart => exact ⟨0, M2, rfl, rfl, Lib.hid (.inl ⟨rfl, HP.out⟩), HW2, HG2⟩
            case round =>
              obtain ⟨c3, M3, rfl, rfl, HS3, HW3, HG3⟩ := hrel
              by_cases hc3 : c3 = 40
              · subst hc3
                have hP : n = 40 ∧ PermIn 0 n L M3 ∧ Srt lt M3 0 n := by
                  rcases HS3.out with ⟨q, _⟩ | ⟨_, q⟩
                  · cases q
                  · exact q
                have HP3 := Lib.hid hP.2
                have hn40 := hP.1
                have hn40i : (n : Int) = 40 := by omega
                clear hP HS3
                go_wp2
                go_roundw
                case rel => exact ⟨40, _, _, M3, rfl, rfl, rfl, Lib.hid (.inr ⟨rfl, HP3.out⟩), HW3, HG3⟩
                case measure => simp [RowKit.intOf]
              · have hS : c3 = 0 ∧ InsB lt L M3 n := by
                  rcases HS3.out with q | ⟨q, _⟩
                  · exact q
                  · exact absurd q hc3
                obtain ⟨rfl, hS⟩ := hS
                have hK0 := fun z hz => HM.out M3 _ z hz hS HW3.out HG3.out h20
                have HP3 := Lib.hid hS
                clear hS HS3 hc3
                by_cases hn40 : n = 40
                · have hn40i : (40 : Int) ≤ (n : Int) := by omega
                  have hK := hK0 40 (by omega)
                  clear hK0
                  have HN40 := Lib.hid hn40
                  clear hn40
                  go_wp2_with fail
                  with_reducible refine hK.mono ?_
                  rintro e w5 ⟨M', rfl, hp5, hs5, hr5, hg5⟩
                  have HD := Lib.hid (And.intro (HP3.out.perm.trans hp5) (And.intro hs5 (And.intro hr5 (HG3.out.trans hg5))))
                  clear hp5 hs5 hr5 hg5 hK
                  go_wp2
                  go_roundw
                  case rel => exact ⟨40, M', rfl, rfl, Lib.hid (.inr ⟨rfl, HN40.out, HD.out.1, HD.out.2.1⟩), Lib.hid HD.out.2.2.1, Lib.hid HD.out.2.2.2⟩
                  case measure => simp [RowKit.intOf]
                · have hn40i : ¬ (40 : Int) ≤ (n : Int) := by omega
                  have hK := hK0 n rfl
                  clear hK0
                  go_wp2_with fail
                  with_reducible refine hK.mono ?_
                  rintro e w5 ⟨M', rfl, hp5, hs5, hr5, hg5⟩
                  have HD := Lib.hid (And.intro (HP3.out.perm.trans hp5) (And.intro hs5 (And.intro hr5 (HG3.out.trans hg5))))
                  clear hp5 hs5 hr5 hg5 hK
                  go_wp2
                  go_roundw
                  case rel => exact ⟨40, _, _, M', rfl, rfl, rfl, Lib.hid (.inr ⟨rfl, HD.out.1, HD.out.2.1⟩), Lib.hid HD.out.2.2.1, Lib.hid HD.out.2.2.2⟩
                  case measure => simp [RowKit.intOf]
          · have h20i : ¬ (20 : Int) < (n : Int) := by omega
            go_wp2
            go_end0
            exact ⟨rfl, M2, HP.out.perm, HP.out.all (by omega), HW2.out, HG2.out⟩
set_option maxHeartbeats 400000 in
theorem sortStable_any {lt : Int → Int → Prop} (ho : Ord lt) (cm : Int → Int → Int) (L : List Int) (B g n cap bx : Nat) (w : World) (hr : RowZ w B g n cap L) (hn : L.Nodup) (hn1 : n ≤ 40) (hC : CmpOK w g bx cm L)
    (hT : ∀ p q, p < q → q < n → (cm (ga L q) (ga L p) < 0 ↔ lt (ga L q) (ga L p))) :
    Calls Tryz.prog 54 #[.slice (some ⟨g, 0, none⟩) n cap, cmpV bx] w (SortPost w B g n cap lt L 0 n) := by
  have hK := stableCmp_any ho cm L B g n cap bx w hr hn hn1 hC hT
  unfold SortPost at *
  unfold cmpV at *
  clear hC hT hn hr
  go_enter Tryz.func54, Tryz.ntmps54
  go_wp2_with fail
  with_reducible refine hK.mono ?_
  rintro e w5 ⟨M', rfl, h5⟩
  go_wp2
  go_end0
  exact ⟨M', rfl, h5⟩
end Go.Mk
end
