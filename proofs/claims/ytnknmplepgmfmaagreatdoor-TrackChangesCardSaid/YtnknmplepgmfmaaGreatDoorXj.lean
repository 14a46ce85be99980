/-
  Proved: the first error of the teams of all rounds by package track (CheckTeams), as a plain function. Conditions: the legs, the names and the teams lie where the slices say; at most 1,000 teams and names in a list, each name no longer than an int says.
-/
import Derived.Test.YtnknmplepgmfmaaGreatDoorXh
set_option linter.unusedVariables false
set_option linter.unusedSimpArgs false
open Go Go.Proofs Go.RowKit Go.Maps Go.WideMaps
set_option maxRecDepth 100000
namespace Go.Mk
theorem cell_new1 {w : World} {v : Value} {t : TypeId} : (w.alloc (.cells #[v] t)).cell? ⟨w.heap.size, 0, none⟩ = some v := by simp
set_option maxHeartbeats 8000000 in
theorem trCheckTeams_any (A : Option Addr) (n cap : Nat) (z b : Int) (L : List Int) (AT : Option Addr) (nT cT : Nat) (LT : List (List ByteArray)) (AR : Option Addr) (nR cR : Nat) (R : List ByteArray) (w : World)
    (hL : IntsZ w A n L) (hT : TeamsB w w.heap.size AT nT LT) (hR : TextsZ w AR nR R) (hn : (n : Int) ≤ 9223372036854775807) (hc : n ≤ cap) (hcR : nR ≤ cR) (hnT : nT ≤ 1000) (hnf : ∀ l ∈ LT, l.length ≤ 1000 ∧ ∀ x ∈ l, x.size ≤ maxLen) (hnR : nR ≤ 1000) (hRs : ∀ x ∈ R, x.size ≤ maxLen) :
    Calls Tryz.prog 26 #[.agg #[.slice A n cap, .int .i64 z, .int .i64 b], .slice AT nT cT, .slice AR nR cR] w
      (RetPost (.tuple #[.int .i64 ((teamsE (relW L z b) n LT R).1 : Nat), .int .i64 (teamsE (relW L z b) n LT R).2]) w) := by
  have hmm := @run_makeMap Tryz.prog
  -- the world behind the boxes
  obtain ⟨w1, hw1⟩ : ∃ w1, ((w.alloc (.cells #[.slice A n cap, .int .i64 z, .int .i64 b] 24)).alloc (.cells #[.slice AT nT cT] 53)).alloc (.cells #[.slice AR nR cR] 54) = w1 := ⟨_, rfl⟩
  have hB1 : Below w.heap.size w w1 := by rw [← hw1]; exact balloc _ (balloc _ (balloc _ (Below.refl _ _)))
  have hs1 : w1.heap.size = w.heap.size + 1 + 1 + 1 := by rw [← hw1]; simp
  have hBa : Below (w.heap.size + 1) (w.alloc (.cells #[.slice A n cap, .int .i64 z, .int .i64 b] 24)) w1 := by rw [← hw1]; exact ((Below.refl _ _).alloc (by simp) _).alloc (by simp) _
  have hBb : Below (w.heap.size + 1 + 1) ((w.alloc (.cells #[.slice A n cap, .int .i64 z, .int .i64 b] 24)).alloc (.cells #[.slice AT nT cT] 53)) w1 := by rw [← hw1]; exact (Below.refl _ _).alloc (by simp) _
  have c0 : w1.cell? ⟨w.heap.size, 0, none⟩ = some (.slice A n cap) := (hBa.cell (p := ⟨w.heap.size, 0, none⟩) (by show w.heap.size < _; omega)).trans (by simp)
  have c1 : w1.cell? ⟨w.heap.size, 1, none⟩ = some (.int .i64 z) := (hBa.cell (p := ⟨w.heap.size, 1, none⟩) (by show w.heap.size < _; omega)).trans (by simp)
  have c2 : w1.cell? ⟨w.heap.size, 2, none⟩ = some (.int .i64 b) := (hBa.cell (p := ⟨w.heap.size, 2, none⟩) (by show w.heap.size < _; omega)).trans (by simp)
  have c3 : w1.cell? ⟨w.heap.size + 1, 0, none⟩ = some (.slice AT nT cT) := (hBb.cell (p := ⟨w.heap.size + 1, 0, none⟩) (by show w.heap.size + 1 < _; omega)).trans (by simp)
  have c4 : w1.cell? ⟨w.heap.size + 1 + 1, 0, none⟩ = some (.slice AR nR cR) := by
    rw [← hw1]
    have := @cell_new1 ((w.alloc (.cells #[.slice A n cap, .int .i64 z, .int .i64 b] 24)).alloc (.cells #[.slice AT nT cT] 53)) (.slice AR nR cR) 54
    simpa using this
  have HCE : Hid (∀ w', Below w1.heap.size w1 w' → w'.cell? ⟨w.heap.size, 0, none⟩ = some (.slice A n cap) ∧ w'.cell? ⟨w.heap.size, 1, none⟩ = some (.int .i64 z) ∧ w'.cell? ⟨w.heap.size, 2, none⟩ = some (.int .i64 b) ∧ w'.cell? ⟨w.heap.size + 1, 0, none⟩ = some (.slice AT nT cT) ∧ w'.cell? ⟨w.heap.size + 1 + 1, 0, none⟩ = some (.slice AR nR cR) ∧ Below w1.heap.size w1 w') := Lib.hid fun w' hb =>
    ⟨(hb.cell (p := ⟨w.heap.size, 0, none⟩) (by show w.heap.size < _; omega)).trans c0, (hb.cell (p := ⟨w.heap.size, 1, none⟩) (by show w.heap.size < _; omega)).trans c1, (hb.cell (p := ⟨w.heap.size, 2, none⟩) (by show w.heap.size < _; omega)).trans c2, (hb.cell (p := ⟨w.heap.size + 1, 0, none⟩) (by show w.heap.size + 1 < _; omega)).trans c3, (hb.cell (p := ⟨w.heap.size + 1 + 1, 0, none⟩) (by show w.heap.size + 1 + 1 < _; omega)).trans c4, hb⟩
  clear c0 c1 c2 c3 c4 hBa hBb
  have HR : Hid (∀ w', Below w1.heap.size w1 w' → Calls Tryz.prog 15 #[.agg #[.slice A n cap, .int .i64 z, .int .i64 b]] w' (RetPost (.int .i64 (relW L z b)) w')) := Lib.hid fun w' hb => trCheckRelay_any L n cap A z b w' ((hL.below hB1).below hb) hn hc
  have HNR : Hid (∀ w', Below w1.heap.size w1 w' → Calls Tryz.prog 67 #[.slice AR nR cR] w' (RetPost (.int .i64 (nmsE [] R)) w')) := Lib.hid fun w' hb => trNames_any R nR cR AR w' ((hR.below hB1).below hb) hnR hcR hRs
  have hW1 := fun w => trWhen_any ((nT : Int) == 0) 12 w
  have hW2 := fun w => trWhen_any (decide (8 < (nT : Int))) 5 w
  have hW3 := fun w => trWhen_any (decide (16 < (nR : Int))) 5 w
  have hi1 : (if ((nT : Int) == 0) = true then (12 : Int) else 0) = if LT.length = 0 then 12 else 0 := by
    rw [hT.1]
    by_cases q : nT = 0
    · rw [if_pos q, if_pos (by simp; omega)]
    · rw [if_neg q, if_neg (by simp; omega)]
  have hi2 : (if decide (8 < (nT : Int)) = true then (5 : Int) else 0) = if 8 < LT.length then 5 else 0 := by
    rw [hT.1]
    by_cases q : 8 < nT
    · rw [if_pos q, if_pos (by simp; omega)]
    · rw [if_neg q, if_neg (by simp; omega)]
  have hi3 : (if decide (16 < (nR : Int)) = true then (5 : Int) else 0) = if 16 < R.length then 5 else 0 := by
    rw [hR.1]
    by_cases q : 16 < nR
    · rw [if_pos q, if_pos (by simp; omega)]
    · rw [if_neg q, if_neg (by simp; omega)]
  obtain ⟨e1, he1⟩ : ∃ e : Int, (if ((nT : Int) == 0) = true then (12 : Int) else 0) = e := ⟨_, rfl⟩
  obtain ⟨e2, he2⟩ : ∃ e : Int, (if decide (8 < (nT : Int)) = true then (5 : Int) else 0) = e := ⟨_, rfl⟩
  obtain ⟨e3, he3⟩ : ∃ e : Int, (if decide (16 < (nR : Int)) = true then (5 : Int) else 0) = e := ⟨_, rfl⟩
  rw [he1] at hW1 hi1
  rw [he2] at hW2 hi2
  rw [he3] at hW3 hi3
  obtain ⟨e, he⟩ : ∃ e, fstN [relW L z b, e1, e2, e3] = e := ⟨_, rfl⟩
  rw [teamsE_of (e := e) (by rw [← hi1, ← hi2, ← hi3, he])]
  have hF := fun g w => trFirst_any [relW L z b, e1, e2, e3] 4 rfl (by decide) g w
  rw [he] at hF
  have HT := Lib.hid (hT.below hB1 (Nat.le_refl _))
  have HRR := Lib.hid (hR.toB.below hB1 (Nat.le_refl _))
  have HLL := Lib.hid (hL.toB.below hB1 (Nat.le_refl _))
  have HB1 := Lib.hid hB1
  have HFT : Hid (∀ (B g10 : Nat) (w' : World), TmBox w' B w.heap.size (w.heap.size + 1) (w.heap.size + 1 + 1) g10 A n cap z b L AT nT cT LT AR nR cR R → NSet w' B 0 [] → Calls Tryz.prog 68 #[.slice AT nT cT, TeamsF w.heap.size (w.heap.size + 1) (w.heap.size + 1 + 1) g10] w'
      (fun e w'' => e = .returned (.tuple #[.int .i64 ((tmsE (relW L z b) n (LT.headD []) R 0 [] LT).1 : Nat), .int .i64 (tmsE (relW L z b) n (LT.headD []) R 0 [] LT).2]) ∧ w'.grownBy w'' (some B))) := Lib.hid fun B g10 w' h1 h2 => trFirstTeam_any B w.heap.size (w.heap.size + 1) (w.heap.size + 1 + 1) g10 A n cap z b L AT nT cT cT LT AR nR cR R w' h1 h2 hn hc hnT hnf hnR
  generalize relW L z b = rel at *
  generalize tmsE rel n (LT.headD []) R 0 [] LT = tm at *
  generalize nmsE [] R = en at *
  obtain ⟨Y, hY⟩ : ∃ Y : Nat × Int, (if e = 0 then (if en = 0 then tm else (0, en)) else (0, e)) = Y := ⟨_, rfl⟩
  rw [hY]
  have HY := Lib.hid hY
  unfold TeamsF at HFT
  clear hL hT hR hn hnf hRs hi1 hi2 hi3 he1 he2 he3 he hY hB1
  go_enter Tryz.func26, Tryz.ntmps26
  go_wp2_with fail
  clear hw1
  go_region_held3 (fun w' => w'.cell? ⟨w.heap.size, 0, none⟩ = some (.slice A n cap) ∧ w'.cell? ⟨w.heap.size, 1, none⟩ = some (.int .i64 z) ∧ w'.cell? ⟨w.heap.size, 2, none⟩ = some (.int .i64 b) ∧ w'.cell? ⟨w.heap.size + 1, 0, none⟩ = some (.slice AT nT cT) ∧ w'.cell? ⟨w.heap.size + 1 + 1, 0, none⟩ = some (.slice AR nR cR) ∧ Below w1.heap.size w1 w') ((first | (exact HCE.out _ (Below.drew (Below.refl _ _))) | (assumption) | (exact HCE.out _ (bstep (by have hq : _ ∧ _ ∧ _ ∧ _ ∧ _ ∧ Below w1.heap.size w1 _ := (by assumption); exact hq.2.2.2.2.2) (by assumption))) | (exact HCE.out _ (balloc _ (by have hq : _ ∧ _ ∧ _ ∧ _ ∧ _ ∧ Below w1.heap.size w1 _ := (by assumption); exact hq.2.2.2.2.2))))) ((first | (go_at_call 15; (refine (HR.out _ (by first | exact (Below.drew (Below.refl _ _)) | assumption | (have hq : _ ∧ _ ∧ _ ∧ _ ∧ _ ∧ Below w1.heap.size w1 _ := (by assumption); exact hq.2.2.2.2.2))).mono ?_); rintro e w' ⟨rfl, hbw⟩) | (go_at_call 51; (first | (with_reducible refine (hW1 _).mono ?_) | (with_reducible refine (hW2 _).mono ?_) | (with_reducible refine (hW3 _).mono ?_)); rintro e w' ⟨rfl, rfl⟩) | (go_at_call 50; (refine (hF _ _ ?_).mono ?_); (exact es4 _ _ _ _ _ _); rintro e w' ⟨rfl, rfl⟩)))
  all_goals
    rename_i hH
    have hb2 := Lib.hid hH.2.2.2.2.2
    clear hH
    obtain ⟨w2, hw2⟩ : ∃ w2 : World, w'.alloc (.cells #[.int .i64 rel, .int .i64 e1, .int .i64 e2, .int .i64 e3] 33) = w2 := ⟨_, rfl⟩
    rw [hw2] at hb2 ⊢
    clear hw2 hbw hF hW1 hW2 hW3 HR
    have HBw := Lib.hid (HB1.out.trans (hb2.out.mono (by omega)))
    by_cases q : e = 0
    · subst q
      have HYe : Hid ((if en = 0 then tm else (0, en)) = Y) := Lib.hid (by have := HY.out; rw [if_pos rfl] at this; exact this)
      have hN := HNR.out _ hb2.out
      obtain ⟨d0, d1, d2, d3, d4, _⟩ := HCE.out _ hb2.out
      clear HNR HY
      go_wp2_with fail
      refine hN.mono ?_
      rintro e' w3 ⟨rfl, hb3⟩
      have hb13 := bstep hb2.out hb3
      have HB3 := Lib.hid hb13
      clear d0 d1 d2 d3 d4 hN
      by_cases q2 : en = 0
      · subst q2
        have hYe : tm = Y := by have := HYe.out; rw [if_pos rfl] at this; exact this
        subst hYe
        have hbm := balloc (.map #[] 0) hb13
        have hb4 := balloc (.cells #[.map (some w3.heap.size)] 117) hbm
        obtain ⟨d0, d1, d2, d3, d4, _⟩ := HCE.out _ hb4
        have h13 := hb13.size
        have d10 : ((w3.alloc (.map #[] 0)).alloc (.cells #[.map (some w3.heap.size)] 117)).cell? ⟨w3.heap.size + 1, 0, none⟩ = some (.map (some w3.heap.size)) := by
          simp
        have hsz4 : ((w3.alloc (.map #[] 0)).alloc (.cells #[.map (some w3.heap.size)] 117)).heap.size = w3.heap.size + 1 + 1 := by simp
        have hX : TmBox ((w3.alloc (.map #[] 0)).alloc (.cells #[.map (some w3.heap.size)] 117)) w3.heap.size w.heap.size (w.heap.size + 1) (w.heap.size + 1 + 1) (w3.heap.size + 1) A n cap z b L AT nT cT LT AR nR cR R :=
          ⟨⟨by omega, by omega, by omega, by omega, by omega⟩, ⟨d0, d1, d2, d3, d4, d10⟩, (HLL.out.below hb4 (by omega)).wide (by omega) (by omega), (HT.out.below hb4 (by omega)).wide (by omega) (by omega), (HRR.out.below hb4 (by omega)).wide (by omega) (by omega)⟩
        have hM : NSet ((w3.alloc (.map #[] 0)).alloc (.cells #[.map (some w3.heap.size)] 117)) w3.heap.size 0 [] := (NSet.made w3).below (balloc _ (Below.refl _ _))
        have hC := HFT.out w3.heap.size (w3.heap.size + 1) _ hX hM
        have HB4 := Lib.hid (HB1.out.trans (hb4.mono (by omega)))
        have HB34 : Hid (w3.heap.size ≥ w.heap.size) := Lib.hid (by omega)
        clear HYe hb13 hb4 hbm hX hM d0 d1 d2 d4 d10 hsz4 HFT h13
        go_wp2_with fail
        refine hC.mono ?_
        rintro e' w5 ⟨rfl, hg5⟩
        have hb5 : Below w.heap.size w w5 := HB4.out.grown hg5 (HB4.out.size) (fun j hj => by cases hj; exact HB34.out)
        clear hC hg5
        go_wp2
        go_ret2
        exact ⟨rfl, hb5⟩
      · have hYe : (0, en) = Y := by have := HYe.out; rw [if_neg q2] at this; exact this
        subst hYe
        have hb' : (en != 0) = true := by rw [bne_iff_ne]; exact q2
        have hbw := HB1.out.trans (hb13.mono (by omega))
        clear HYe hb13
        go_wp2
        go_ret2
        exact ⟨rfl, hbw⟩
    · have hYe : (0, e) = Y := by have := HY.out; rw [if_neg q] at this; exact this
      subst hYe
      have hb' : (e != 0) = true := by rw [bne_iff_ne]; exact q
      clear HY
      go_wp2
      go_ret2
      exact ⟨rfl, HBw.out⟩
end Go.Mk
