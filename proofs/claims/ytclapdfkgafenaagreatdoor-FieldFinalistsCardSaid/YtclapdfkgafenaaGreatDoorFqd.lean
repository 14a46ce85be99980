/-
  Proved: slices.stableCmpFunc and slices.SortStableFunc of up to 40 integers sort them in place, where the comparison of one with an earlier one answers as a strict order does. Conditions: the integers lie in a row of the caller's own; the comparison leaves what was there.
-/
import Derived.Test.YtclapdfkgafenaaGreatDoorFqc
set_option linter.unusedVariables false
set_option linter.unusedSimpArgs false
open Go Go.Proofs Go.RowKit Go.Sort
set_option maxRecDepth 100000
namespace Go.Mk
theorem symMerge_ih {lt : Int → Int → Prop} (ho : Ord lt) (cm : Int → Int → Int) (B g n cap bx : Nat) (hn1 : n ≤ 100000) : ∀ d : Nat, SymIH lt cm B g n cap bx d := by
  intro d
  induction d with
  | zero => intro L a m b w hd; omega
  | succ d ih =>
    intro L a m b w hd hr hn h1 h2 hb hC hs1 hs2 hT
    by_cases c1 : m = a + 1
    · subst c1
      exact symA_any ho cm L B g n cap bx a (a + 1) b w hr hn rfl h2 hb hn1 hC hs2 hT
    · by_cases c2 : b = m + 1
      · subst c2
        exact symB_any ho cm L B g n cap bx a m (m + 1) w hr hn rfl (by omega) hb hn1 hC hs1 hT
      · exact symC_any ho cm L B g n cap bx a m b ((a + b) / 2) w hr hn (by omega) (by omega) rfl hb hn1 hC hs1 hs2 hT (fun L' a' m' b' w' hd' => ih L' a' m' b' w' (by omega))
theorem symMerge_any {lt : Int → Int → Prop} (ho : Ord lt) (cm : Int → Int → Int) (L : List Int) (B g n cap bx a m b : Nat) (w : World) (hr : RowZ w B g n cap L) (hn : L.Nodup) (h1 : a < m) (h2 : m < b) (hb : b ≤ n) (hn1 : n ≤ 100000) (hC : CmpOK w g bx cm L)
    (hs1 : Srt lt L a m) (hs2 : Srt lt L m b) (hT : Tst cm lt L a m b) :
    Calls Tryz.prog 208 #[.slice (some ⟨g, 0, none⟩) n cap, .int .i64 (a : Nat), .int .i64 (m : Nat), .int .i64 (b : Nat), cmpV bx] w (SortPost w B g n cap lt L a b) :=
  symMerge_ih ho cm B g n cap bx hn1 (b - a + 1) L a m b w (by omega) hr hn h1 h2 hb hC hs1 hs2 hT
set_option maxHeartbeats 4000000 in
theorem stableCmp_any {lt : Int → Int → Prop} (ho : Ord lt) (cm : Int → Int → Int) (L : List Int) (B g n cap bx : Nat) (w : World) (hr : RowZ w B g n cap L) (hn : L.Nodup) (hn1 : n ≤ 40) (hC : CmpOK w g bx cm L)
    (hT : ∀ p q, p < q → q < n → (cm (ga L q) (ga L p) < 0 ↔ lt (ga L q) (ga L p))) :
    Calls Tryz.prog 169 #[.slice (some ⟨g, 0, none⟩) n cap, .int .i64 (n : Nat), cmpV bx] w (SortPost w B g n cap lt L 0 n) := by
  have hni : (n : Int) ≤ 40 := by omega
  have hl := hr.1
  have HI : Hid (∀ (M : List Int) (c b : Nat) (w' : World), InsB lt L M c → RowZ w' B g n cap M → w.grownBy w' (some g) → b ≤ n → c ≤ n →
      Calls Tryz.prog 207 #[.slice (some ⟨g, 0, none⟩) n cap, .int .i64 (c : Nat), .int .i64 (b : Nat), cmpV bx] w' (SortPost w' B g n cap lt M c b)) :=
    Lib.hid fun M c b w' h1 h2 h3 h4 h5 => insertCmp_any ho cm M B g n cap bx c b w' h2 (h1.perm.perm.nodup_iff.2 hn) h4 (by omega) (by omega) (hC.next h3 h1.perm.perm) (fun p q q1 q2 q3 => h1.ask hT p q q1 q2 (by omega))
  have HM : Hid (∀ (M : List Int) (w' : World) (z : Int), z = (n : Int) → InsB lt L M n → RowZ w' B g n cap M → w.grownBy w' (some g) → 20 < n →
      Calls Tryz.prog 208 #[.slice (some ⟨g, 0, none⟩) n cap, .int .i64 0, .int .i64 20, .int .i64 z, cmpV bx] w' (SortPost w' B g n cap lt M 0 n)) :=
    Lib.hid fun M w' z hz h1 h2 h3 h4 => hz ▸ symMerge_any ho cm M B g n cap bx 0 20 n w' h2 (h1.perm.perm.nodup_iff.2 hn) (by omega) h4 (Nat.le_refl _) (by omega) (hC.next h3 h1.perm.perm) (h1.lo (by omega)) (h1.hi hn1) (h1.tst hn1 hT)
  have HL := Lib.hid hl
  have HN := Lib.hid hn
  have HR := Lib.hid hr
  unfold SortPost at HI HM ⊢
  unfold cmpV at *
  clear hC hT hn hr hl
  go_enter Tryz.func169, Tryz.ntmps169
  go_wp2
  go_loopw [7, 8] (fun av bv wr => ∃ (c b k : Nat) (M : List Int), av = .int .i64 (c : Nat) ∧ bv = .int .i64 (b : Nat) ∧ c ≤ n ∧ b ≤ 60 ∧ Hid (b = c + 20 ∧ c = 20 * k) ∧ Hid (InsB lt L M c) ∧ Hid (RowZ wr B g n cap M) ∧ Hid (w.grownBy wr (some g))) (fun _ bv _ => 100 - (RowKit.intOf bv).toNat)
  case atStart => exact ⟨0, 20, 0, L, rfl, rfl, by omega, by omega, Lib.hid ⟨by omega, by omega⟩, Lib.hid (InsB.start L), HR, Lib.hid (World.grownBy.refl _ _)⟩
  case round =>
    obtain ⟨c, b, k, M, rfl, rfl, hc, hb60, HBK, HB, HW, HG⟩ := hrel
    by_cases hlt : b ≤ n
    · have hbi : (b : Int) ≤ (n : Int) := by omega
      have hK := HI.out M c b _ HB.out HW.out HG.out hlt hc
      go_wp2_with fail
      with_reducible refine hK.mono ?_
      rintro e w5 ⟨M', rfl, hp5, hs5, hr5, hg5⟩
      have HD := Lib.hid (And.intro (HB.out.step HN.out k HBK.out.2 (by have := HBK.out.1; omega) (by have := HBK.out.1; omega) (by rw [HL.out]; exact hlt) hp5 hs5) (And.intro hr5 (HG.out.trans hg5)))
      clear hp5 hs5 hr5 hg5 hK
      go_wp2
      go_roundw
      case rel => exact ⟨b, b + 20, k + 1, M', rfl, by go_num, hlt, by have := HBK.out.1; omega, Lib.hid ⟨rfl, by have := HBK.out; omega⟩, Lib.hid HD.out.1, Lib.hid HD.out.2.1, Lib.hid HD.out.2.2⟩
      case measure => simp [RowKit.intOf]; omega
    · have hbi : ¬ (b : Int) ≤ (n : Int) := by omega
      have hK := HI.out M c n _ HB.out HW.out HG.out (Nat.le_refl _) hc
      go_wp2_with fail
      with_reducible refine hK.mono ?_
      rintro e w5 ⟨M1, rfl, hp5, hs5, hr5, hg5⟩
      have HD := Lib.hid (And.intro (HB.out.step HN.out k HBK.out.2 hc (by have := HBK.out.1; omega) (by rw [HL.out]; exact Nat.le_refl _) hp5 hs5) (And.intro hr5 (HG.out.trans hg5)))
      clear hp5 hs5 hr5 hg5 hK
      go_wp2
      go_loopw [6, 7, 8] (fun sv av bv wr => ∃ (s : Nat) (x y : Int) (M : List Int), sv = .int .i64 (s : Nat) ∧ av = .int .i64 x ∧ bv = .int .i64 y ∧ Hid ((s = 20 ∧ InsB lt L M n) ∨ (s = 40 ∧ PermIn 0 n L M ∧ Srt lt M 0 n)) ∧ Hid (RowZ wr B g n cap M) ∧ Hid (w.grownBy wr (some g))) (fun sv _ _ _ => 100 - (RowKit.intOf sv).toNat)
      case atStart => exact ⟨20, _, _, M1, rfl, rfl, rfl, Lib.hid (.inl ⟨rfl, HD.out.1⟩), Lib.hid HD.out.2.1, Lib.hid HD.out.2.2⟩
      case round =>
        obtain ⟨s, x, y, M2, rfl, rfl, rfl, HS, HW2, HG2⟩ := hrel
        by_cases h40 : s = 40
        · subst h40
          have hP : PermIn 0 n L M2 ∧ Srt lt M2 0 n := by
            rcases HS.out with ⟨q, _⟩ | ⟨_, q⟩
            · cases q
            · exact q
          have HP := Lib.hid hP
          clear hP HS
          go_wp2
          go_end0
          exact ⟨M2, rfl, HP.out.1, HP.out.2, HW2.out, HG2.out⟩
        · have hS : s = 20 ∧ InsB lt L M2 n := by
            rcases HS.out with q | ⟨q, _⟩
            · exact q
            · exact absurd q h40
          obtain ⟨rfl, hS⟩ := hS
          rw [show ((20 : Nat) : Int) = 20 from rfl]
          have HP := Lib.hid hS
          clear hS HS h40
          by_cases h20 : 20 < n
          · have h20i : (20 : Int) < (n : Int) := by omega
            go_wp2
            go_loopw [7, 8] (fun av bv wr => ∃ (c : Nat) (M : List Int), av = .int .i64 (c : Nat) ∧ bv = .int .i64 ((c + 40 : Nat) : Int) ∧ Hid ((c = 0 ∧ InsB lt L M n) ∨ (c = 40 ∧ n = 40 ∧ PermIn 0 n L M ∧ Srt lt M 0 n)) ∧ Hid (RowZ wr B g n cap M) ∧ Hid (w.grownBy wr (some g))) (fun _ bv _ => 100 - (RowKit.intOf bv).toNat)
            case atStart => exact ⟨0, M2, rfl, rfl, Lib.hid (.inl ⟨rfl, HP.out⟩), HW2, HG2⟩
            case round =>
              obtain ⟨c3, M3, rfl, rfl, HS3, HW3, HG3⟩ := hrel
              by_cases hc3 : c3 = 40
              · subst hc3
                have hP : n = 40 ∧ PermIn 0 n L M3 ∧ Srt lt M3 0 n := by
                  rcases HS3.out with ⟨q, _⟩ | ⟨_, q⟩
                  · cases q
                  · exact q
                have HP3 := Lib.hid hP.2
                have hn40 := hP.1
                have hn40i : (n : Int) = 40 := by omega
                clear hP HS3
                go_wp2
                go_roundw
                case rel => exact ⟨40, _, _, M3, rfl, rfl, rfl, Lib.hid (.inr ⟨rfl, HP3.out⟩), HW3, HG3⟩
                case measure => simp [RowKit.intOf]
              · have hS : c3 = 0 ∧ InsB lt L M3 n := by
                  rcases HS3.out with q | ⟨q, _⟩
                  · exact q
                  · exact absurd q hc3
                obtain ⟨rfl, hS⟩ := hS
                have hK0 := fun z hz => HM.out M3 _ z hz hS HW3.out HG3.out h20
                have HP3 := Lib.hid hS
                clear hS HS3 hc3
                by_cases hn40 : n = 40
                · have hn40i : (40 : Int) ≤ (n : Int) := by omega
                  have hK := hK0 40 (by omega)
                  clear hK0
                  have HN40 := Lib.hid hn40
                  clear hn40
                  go_wp2_with fail
                  with_reducible refine hK.mono ?_
                  rintro e w5 ⟨M', rfl, hp5, hs5, hr5, hg5⟩
                  have HD := Lib.hid (And.intro (HP3.out.perm.trans hp5) (And.intro hs5 (And.intro hr5 (HG3.out.trans hg5))))
                  clear hp5 hs5 hr5 hg5 hK
                  go_wp2
                  go_roundw
                  case rel => exact ⟨40, M', rfl, rfl, Lib.hid (.inr ⟨rfl, HN40.out, HD.out.1, HD.out.2.1⟩), Lib.hid HD.out.2.2.1, Lib.hid HD.out.2.2.2⟩
                  case measure => simp [RowKit.intOf]
                · have hn40i : ¬ (40 : Int) ≤ (n : Int) := by omega
                  have hK := hK0 n rfl
                  clear hK0
                  go_wp2_with fail
                  with_reducible refine hK.mono ?_
                  rintro e w5 ⟨M', rfl, hp5, hs5, hr5, hg5⟩
                  have HD := Lib.hid (And.intro (HP3.out.perm.trans hp5) (And.intro hs5 (And.intro hr5 (HG3.out.trans hg5))))
                  clear hp5 hs5 hr5 hg5 hK
                  go_wp2
                  go_roundw
                  case rel => exact ⟨40, _, _, M', rfl, rfl, rfl, Lib.hid (.inr ⟨rfl, HD.out.1, HD.out.2.1⟩), Lib.hid HD.out.2.2.1, Lib.hid HD.out.2.2.2⟩
                  case measure => simp [RowKit.intOf]
          · have h20i : ¬ (20 : Int) < (n : Int) := by omega
            go_wp2
            go_end0
            exact ⟨rfl, M2, HP.out.perm, HP.out.all (by omega), HW2.out, HG2.out⟩
set_option maxHeartbeats 400000 in
theorem sortStable_any {lt : Int → Int → Prop} (ho : Ord lt) (cm : Int → Int → Int) (L : List Int) (B g n cap bx : Nat) (w : World) (hr : RowZ w B g n cap L) (hn : L.Nodup) (hn1 : n ≤ 40) (hC : CmpOK w g bx cm L)
    (hT : ∀ p q, p < q → q < n → (cm (ga L q) (ga L p) < 0 ↔ lt (ga L q) (ga L p))) :
    Calls Tryz.prog 114 #[.slice (some ⟨g, 0, none⟩) n cap, cmpV bx] w (SortPost w B g n cap lt L 0 n) := by
  have hK := stableCmp_any ho cm L B g n cap bx w hr hn hn1 hC hT
  unfold SortPost at *
  unfold cmpV at *
  clear hC hT hn hr
  go_enter Tryz.func114, Tryz.ntmps114
  go_wp2_with fail
  with_reducible refine hK.mono ?_
  rintro e w5 ⟨M', rfl, h5⟩
  go_wp2
  go_end0
  exact ⟨M', rfl, h5⟩
end Go.Mk
