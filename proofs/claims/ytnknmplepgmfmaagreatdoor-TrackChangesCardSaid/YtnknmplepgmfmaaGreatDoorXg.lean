/-
  Proved: the error of a further team by package track (the closure of CheckTeams), which adds to a map of substitutes. Conditions: the relay, the teams and the reserves lie in boxes, below the map's block; at most 1,000 names in a list, each no longer than an int says.
-/
import Derived.Test.YtnknmplepgmfmaaGreatDoorXf
set_option linter.unusedVariables false
set_option linter.unusedSimpArgs false
open Go Go.Proofs Go.RowKit Go.Maps Go.WideMaps
set_option maxRecDepth 100000
namespace Go.Mk
/-- The integers of a list lie in the cells of a slice, in a block below a bound. -/
def IntsB (w : World) (B : Nat) (A : Option Addr) (n : Nat) (L : List Int) : Prop :=
  L.length = n ∧ B ≤ w.heap.size ∧ (0 < n → ∃ g off, A = some ⟨g, off, none⟩ ∧ g < B ∧ ∀ (j : Nat) (x : Int), L[j]? = some x → w.cell? ⟨g, off + j, none⟩ = some (.int .i64 x))
theorem IntsB.toZ {w : World} {B n : Nat} {A : Option Addr} {L : List Int} (h : IntsB w B A n L) : IntsZ w A n L := by
  refine ⟨h.1, fun hn => ?_⟩
  obtain ⟨g, off, e, hlt, hc⟩ := h.2.2 hn
  exact ⟨g, off, e, Nat.lt_of_lt_of_le hlt h.2.1, hc⟩
theorem IntsB.below {w w' : World} {B K n : Nat} {A : Option Addr} {L : List Int} (h : IntsB w B A n L) (hb : Below K w w') (hB : B ≤ K) : IntsB w' B A n L := by
  refine ⟨h.1, Nat.le_trans h.2.1 hb.size, fun hn => ?_⟩
  obtain ⟨b, off, e, hlt, hc⟩ := h.2.2 hn
  exact ⟨b, off, e, hlt, fun j x hx => (hb.cell (p := ⟨b, _, none⟩) (Nat.lt_of_lt_of_le hlt hB)).trans (hc j x hx)⟩
theorem IntsZ.toB {w : World} {n : Nat} {A : Option Addr} {L : List Int} (h : IntsZ w A n L) : IntsB w w.heap.size A n L := ⟨h.1, Nat.le_refl _, h.2⟩
theorem IntsB.wide {w : World} {B K n : Nat} {A : Option Addr} {L : List Int} (h : IntsB w B A n L) (h1 : B ≤ K) (h2 : K ≤ w.heap.size) : IntsB w K A n L := by
  refine ⟨h.1, h2, fun hn => ?_⟩
  obtain ⟨g, off, e, hlt, hc⟩ := h.2.2 hn
  exact ⟨g, off, e, by omega, hc⟩
theorem TextsB.wide {w : World} {B K n : Nat} {A : Option Addr} {L : List ByteArray} (h : TextsB w B A n L) (h1 : B ≤ K) (h2 : K ≤ w.heap.size) : TextsB w K A n L := by
  refine ⟨h.1, h2, fun hn => ?_⟩
  obtain ⟨g, off, e, hlt, hc⟩ := h.2.2 hn
  exact ⟨g, off, e, by omega, hc⟩
/-- Teams: lists of texts in the cells of slices, in blocks below a bound. -/
def TeamsB (w : World) (B : Nat) (A : Option Addr) (n : Nat) (LL : List (List ByteArray)) : Prop :=
  LL.length = n ∧ B ≤ w.heap.size ∧ (0 < n → ∃ g off, A = some ⟨g, off, none⟩ ∧ g < B ∧ ∀ (j : Nat) (l : List ByteArray), LL[j]? = some l → ∃ A' c', w.cell? ⟨g, off + j, none⟩ = some (.slice A' l.length c') ∧ l.length ≤ c' ∧ TextsB w B A' l.length l)
theorem TeamsB.below {w w' : World} {B K n : Nat} {A : Option Addr} {LL : List (List ByteArray)} (h : TeamsB w B A n LL) (hb : Below K w w') (hB : B ≤ K) : TeamsB w' B A n LL := by
  refine ⟨h.1, Nat.le_trans h.2.1 hb.size, fun hn => ?_⟩
  obtain ⟨b, off, e, hlt, hc⟩ := h.2.2 hn
  refine ⟨b, off, e, hlt, fun j x hx => ?_⟩
  obtain ⟨A', c', h1, h2, h3⟩ := hc j x hx
  exact ⟨A', c', (hb.cell (p := ⟨b, _, none⟩) (Nat.lt_of_lt_of_le hlt hB)).trans h1, h2, h3.below hb hB⟩
theorem TeamsB.wide {w : World} {B K n : Nat} {A : Option Addr} {LL : List (List ByteArray)} (h : TeamsB w B A n LL) (h1 : B ≤ K) (h2 : K ≤ w.heap.size) : TeamsB w K A n LL := by
  refine ⟨h.1, h2, fun hn => ?_⟩
  obtain ⟨g, off, e, hlt, hc⟩ := h.2.2 hn
  refine ⟨g, off, e, by omega, fun j x hx => ?_⟩
  obtain ⟨A', c', q1, q2, q3⟩ := hc j x hx
  exact ⟨A', c', q1, q2, q3.wide h1 h2⟩
theorem TeamsB.at_ {w : World} {B n : Nat} {A : Option Addr} {LL : List (List ByteArray)} (h : TeamsB w B A n LL) {k : Nat} (hk : k < n) : ∃ b off l A' c', A = some ⟨b, off, none⟩ ∧ b < B ∧ LL[k]? = some l ∧ w.cell? ⟨b, off + k, none⟩ = some (.slice A' l.length c') ∧ l.length ≤ c' ∧ TextsB w B A' l.length l := by
  obtain ⟨b, off, e, hlt, hc⟩ := h.2.2 (by omega)
  have hl : k < LL.length := by rw [h.1]; exact hk
  obtain ⟨A', c', q⟩ := hc k LL[k] (List.getElem?_eq_getElem hl)
  exact ⟨b, off, LL[k], A', c', e, hlt, List.getElem?_eq_getElem hl, q⟩
/-- What the closure of CheckTeams looks at: boxes of the relay, the teams, the reserves and the map of substitutes. -/
def TmBox (w : World) (B g3 g4 g5 g10 : Nat) (A : Option Addr) (n cap : Nat) (z b : Int) (L : List Int) (AT : Option Addr) (nT cT : Nat) (LT : List (List ByteArray)) (AR : Option Addr) (nR cR : Nat) (R : List ByteArray) : Prop :=
  (g3 < B ∧ g4 < B ∧ g5 < B ∧ B < g10 ∧ g10 < w.heap.size) ∧
  (w.cell? ⟨g3, 0, none⟩ = some (.slice A n cap) ∧ w.cell? ⟨g3, 1, none⟩ = some (.int .i64 z) ∧ w.cell? ⟨g3, 2, none⟩ = some (.int .i64 b) ∧
   w.cell? ⟨g4, 0, none⟩ = some (.slice AT nT cT) ∧ w.cell? ⟨g5, 0, none⟩ = some (.slice AR nR cR) ∧ w.cell? ⟨g10, 0, none⟩ = some (.map (some B))) ∧
  IntsB w B A n L ∧ TeamsB w B AT nT LT ∧ TextsB w B AR nR R
theorem TmBox.kept {w w' : World} {B g3 g4 g5 g10 : Nat} {A : Option Addr} {n cap : Nat} {z b : Int} {L : List Int} {AT : Option Addr} {nT cT : Nat} {LT : List (List ByteArray)} {AR : Option Addr} {nR cR : Nat} {R : List ByteArray}
    (h : TmBox w B g3 g4 g5 g10 A n cap z b L AT nT cT LT AR nR cR R) (hg : w.grownBy w' (some B)) : TmBox w' B g3 g4 g5 g10 A n cap z b L AT nT cT LT AR nR cR R := by
  obtain ⟨⟨l3, l4, l5, l10, l0⟩, ⟨a0, a1, a2, a4, a5, a10⟩, hI, hT, hR⟩ := h
  have hb : Below B w w' := (Below.refl _ _).grown hg (by omega) (fun j hj => by cases hj; exact Nat.le_refl _)
  refine ⟨⟨l3, l4, l5, l10, Nat.lt_of_lt_of_le l0 hb.size⟩, ⟨(hb.cell (p := ⟨g3, _, none⟩) l3).trans a0, (hb.cell (p := ⟨g3, _, none⟩) l3).trans a1, (hb.cell (p := ⟨g3, _, none⟩) l3).trans a2, (hb.cell (p := ⟨g4, _, none⟩) l4).trans a4, (hb.cell (p := ⟨g5, _, none⟩) l5).trans a5, ?_⟩, hI.below hb (Nat.le_refl _), hT.below hb (Nat.le_refl _), hR.below hb (Nat.le_refl _)⟩
  exact (World.cell?_of_block (hg.block g10 l0 (fun q => by injection q with q; omega))).trans a10
theorem TmBox.below {w w' : World} {B g3 g4 g5 g10 : Nat} {A : Option Addr} {n cap : Nat} {z b : Int} {L : List Int} {AT : Option Addr} {nT cT : Nat} {LT : List (List ByteArray)} {AR : Option Addr} {nR cR : Nat} {R : List ByteArray}
    (h : TmBox w B g3 g4 g5 g10 A n cap z b L AT nT cT LT AR nR cR R) (hb : Below w.heap.size w w') : TmBox w' B g3 g4 g5 g10 A n cap z b L AT nT cT LT AR nR cR R :=
  h.kept ⟨hb.os, hb.tape, hb.output, hb.size, fun k hk _ => hb.block k hk⟩
/-- The error of a further team, and the substitutes behind it. -/
def stepE (rel : Int) (n : Nat) (F R P t : List ByteArray) : Int × List ByteArray := if teamE rel n t = 0 then chgE F R P t else (teamE rel n t, P)
theorem tmsE_step {rel : Int} {n : Nat} {F R P : List ByteArray} {L : List (List ByteArray)} {k : Nat} {t : List ByteArray} (i : Nat) (h : L[k]? = some t) : tmsE rel n F R i P (L.drop k) = if (stepE rel n F R P t).1 = 0 then tmsE rel n F R (i + 1) (stepE rel n F R P t).2 (L.drop (k + 1)) else (i, (stepE rel n F R P t).1) := by
  rw [tmsE_drop i h]
  unfold stepE
  by_cases q : teamE rel n t = 0
  · rw [if_pos q, if_pos q]
  · rw [if_neg q, if_neg q, if_neg q]
set_option maxHeartbeats 4000000 in
theorem trTeamsC_any (i : Int) (B N g3 g4 g5 g10 : Nat) (A : Option Addr) (n cap : Nat) (z b : Int) (L : List Int) (AT : Option Addr) (nT cT : Nat) (LT : List (List ByteArray)) (AR : Option Addr) (nR cR : Nat) (R P T : List ByteArray) (At : Option Addr) (nt ct : Nat) (w : World)
    (hX : TmBox w B g3 g4 g5 g10 A n cap z b L AT nT cT LT AR nR cR R) (hM : NSet w B N P) (hT : TextsB w B At nt T) (hn : (n : Int) ≤ 9223372036854775807) (hc : n ≤ cap) (h0 : 0 < nT) (hnf : ∀ l ∈ LT, l.length ≤ 1000) (hnR : nR ≤ 1000) (hnt : nt ≤ 1000) (hct : nt ≤ ct) (hN : N ≤ 1000000) (hs : ∀ x ∈ T, x.size ≤ maxLen) :
    Calls Tryz.prog 69 #[.int .i64 i, .slice At nt ct, .pointer (some ⟨g3, 0, none⟩), .pointer (some ⟨g4, 0, none⟩), .pointer (some ⟨g5, 0, none⟩), .pointer (some ⟨g10, 0, none⟩)] w
      (fun e w' => e = .returned (.int .i64 (stepE (relW L z b) n (LT.headD []) R P T).1) ∧ (∃ n', n' ≤ N + nt ∧ NSet w' B n' (stepE (relW L z b) n (LT.headD []) R P T).2) ∧ w.grownBy w' (some B)) := by
  have hC := trCheckTeam_any L n cap A z b T nt ct At w hX.2.2.1.toZ hn hc hT.toZ hnt hct hs
  have HX := Lib.hid hX
  have HM := Lib.hid hM
  have HT := Lib.hid hT
  have HS := Lib.hid hs
  obtain ⟨⟨l3, l4, l5, l10, l0⟩, ⟨a0, a1, a2, a4, a5, a10⟩, _, hTm, _⟩ := hX
  obtain ⟨tb, toff, F, Af, cf, rfl, htb, hF, hFc, hFl, hFB⟩ := hTm.at_ h0
  have hFh : LT.headD [] = F := by
    cases LT with
    | nil => simp at hF
    | cons x l => simp at hF; simp [hF]
  rw [hFh]
  have hnF := hnf F (List.mem_of_getElem? hF)
  unfold stepE
  generalize teamE (relW L z b) n T = e at *
  obtain ⟨Y, hY⟩ : ∃ Y, (if e = 0 then chgE F R P T else (e, P)) = Y := ⟨_, rfl⟩
  rw [hY]
  have HY := Lib.hid hY
  have HFB := Lib.hid hFB
  have HFC := Lib.hid (show w.cell? ⟨tb, toff, none⟩ = some (.slice Af F.length cf) from hFc)
  clear hM hTm hF hFh hnf hY hT hs hn hFB
  go_enter Tryz.func69, Tryz.ntmps69
  go_wp2_with fail
  refine hC.mono ?_
  rintro e' w1 ⟨rfl, hb1⟩
  have hX1 := HX.out.below hb1
  obtain ⟨_, ⟨b0, b1, b2, b4, b5, b10⟩, _, hTm1, hR1⟩ := hX1
  have hlw := HM.out.lt
  clear a0 a1 a2 a4 a5 a10 hFc hC
  by_cases q : e = 0
  · subst q
    have hYe : chgE F R P T = Y := by have := HY.out; rw [if_pos rfl] at this; exact this
    have hBw := Nat.le_of_lt hlw
    have hFB1 := HFB.out.below hb1 hBw
    have hFc1 : w1.cell? ⟨tb, toff, none⟩ = some (.slice Af F.length cf) := (hb1.cell (p := ⟨tb, _, none⟩) (Nat.lt_of_lt_of_le htb hBw)).trans HFC.out
    have hM1 := HM.out.below hb1
    have hlb : B < w1.heap.size := hM1.lt
    have hT1 := HT.out.below hb1 hBw
    have HCh : Hid (∀ w', Below w1.heap.size w1 w' → Calls Tryz.prog 70 #[.slice Af F.length cf, .slice AR nR cR, .slice At nt ct, .map (some B)] w' (fun e w'' => e = .returned (.int .i64 Y.1) ∧ (∃ n', n' ≤ N + nt ∧ NSet w'' B n' Y.2) ∧ w'.grownBy w'' (some B))) :=
      Lib.hid fun w' hb => by rw [← hYe]; exact trChange_any F R T P F.length cf nR cR nt ct B N Af AR At w' (hFB1.below hb (Nat.le_of_lt hlb)) (hR1.below hb (Nat.le_of_lt hlb)) (hT1.below hb (Nat.le_of_lt hlb)) (hM1.below hb) hnF hnR hnt hN HS.out
    have HK : Hid (∀ w', w1.grownBy w' (some B) → w'.cell? ⟨g4, 0, none⟩ = some (.slice (some ⟨tb, toff, none⟩) nT cT) ∧ w'.cell? ⟨tb, toff, none⟩ = some (.slice Af F.length cf) ∧ w'.cell? ⟨g5, 0, none⟩ = some (.slice AR nR cR) ∧ w'.cell? ⟨g10, 0, none⟩ = some (.map (some B)) ∧ w1.grownBy w' (some B)) := Lib.hid fun w' hg => by
      have hX2 := (HX.out.below hb1).kept hg
      obtain ⟨_, ⟨_, _, _, d4, d5, d10⟩, _⟩ := hX2
      have hb : Below B w1 w' := (Below.refl _ _).grown hg (Nat.le_of_lt hlb) (fun j hj => by cases hj; exact Nat.le_refl _)
      exact ⟨d4, (hb.cell (p := ⟨tb, _, none⟩) htb).trans hFc1, d5, d10, hg⟩
    have hnTi : (0 : Int) < (nT : Int) := by omega
    have HD : Hid (w1.grownBy w1.drew (some B)) := Lib.hid (by have hb := Below.drew (Below.refl w1.heap.size w1); exact ⟨hb.os, hb.tape, hb.output, hb.size, fun k hk _ => hb.block k hk⟩)
    have HB1 := Lib.hid hb1
    clear hFB1 hM1 hT1 hTm1 hR1 HFB HFC HT b0 b1 b2 HY hFc1 hFl hb1 hYe
    go_wp2_with fail
    go_region_held3 (fun w' => w'.cell? ⟨g4, 0, none⟩ = some (.slice (some ⟨tb, toff, none⟩) nT cT) ∧ w'.cell? ⟨tb, toff, none⟩ = some (.slice Af F.length cf) ∧ w'.cell? ⟨g5, 0, none⟩ = some (.slice AR nR cR) ∧ w'.cell? ⟨g10, 0, none⟩ = some (.map (some B)) ∧ w1.grownBy w' (some B)) ((first | (exact HK.out _ HD.out) | (assumption) | (exact HK.out _ (HD.out.trans hg2)))) ((first | (go_at_call 70; (refine (HCh.out _ (Below.drew (Below.refl _ _))).mono ?_); rintro e w2 ⟨rfl, hN2, hg2⟩)))
    all_goals
      have hg3 : w1.grownBy w2 (some B) := HD.out.trans hg2
      go_wp2
      go_ret
      exact ⟨rfl, hN2, grown_of HB1.out hg3⟩
  · have hYe : (e, P) = Y := by have := HY.out; rw [if_neg q] at this; exact this
    subst hYe
    have hb' : (e != 0) = true := by rw [bne_iff_ne]; exact q
    clear HY
    go_wp2
    go_ret
    exact ⟨rfl, ⟨N, by omega, HM.out.below hb1⟩, ⟨hb1.os, hb1.tape, hb1.output, hb1.size, fun k hk _ => hb1.block k hk⟩⟩
end Go.Mk
