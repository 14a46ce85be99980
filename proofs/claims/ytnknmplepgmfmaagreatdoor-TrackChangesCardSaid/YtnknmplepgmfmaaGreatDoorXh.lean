/-
  Proved: the first error of the teams of all rounds by package track (firstOf with the closure of CheckTeams). Conditions: the relay, the teams and the reserves lie in boxes, below the map's block; at most 1,000 teams and names in a list, each name no longer than an int says.
-/
import Derived.Test.YtnknmplepgmfmaaGreatDoorXg
set_option linter.unusedVariables false
set_option linter.unusedSimpArgs false
open Go Go.Proofs Go.RowKit Go.Maps Go.WideMaps
set_option maxRecDepth 100000
namespace Go.Mk
def TeamsF (g3 g4 g5 g10 : Nat) : Value := .func (.func 69) #[] #[.pointer (some ⟨g3, 0, none⟩), .pointer (some ⟨g4, 0, none⟩), .pointer (some ⟨g5, 0, none⟩), .pointer (some ⟨g10, 0, none⟩)]
set_option maxHeartbeats 4000000 in
theorem trFirstTeam_any (B g3 g4 g5 g10 : Nat) (A : Option Addr) (n cap : Nat) (z b : Int) (L : List Int) (AT : Option Addr) (nT cT cT2 : Nat) (LT : List (List ByteArray)) (AR : Option Addr) (nR cR : Nat) (R : List ByteArray) (w : World)
    (hX : TmBox w B g3 g4 g5 g10 A n cap z b L AT nT cT LT AR nR cR R) (hM : NSet w B 0 []) (hn : (n : Int) ≤ 9223372036854775807) (hc : n ≤ cap) (hnT : nT ≤ 1000) (hnf : ∀ l ∈ LT, l.length ≤ 1000 ∧ ∀ x ∈ l, x.size ≤ maxLen) (hnR : nR ≤ 1000) :
    Calls Tryz.prog 68 #[.slice AT nT cT2, TeamsF g3 g4 g5 g10] w
      (fun e w' => e = .returned (.tuple #[.int .i64 ((tmsE (relW L z b) n (LT.headD []) R 0 [] LT).1 : Nat), .int .i64 (tmsE (relW L z b) n (LT.headD []) R 0 [] LT).2]) ∧ w.grownBy w' (some B)) := by
  unfold TeamsF
  have hni : (nT : Int) ≤ 1000 := by omega
  have HX := Lib.hid hX
  have Hlen := Lib.hid hX.2.2.2.1.1
  have HS := Lib.hid hnf
  have HC : Hid (∀ (i : Int) (N : Nat) (P T : List ByteArray) (At : Option Addr) (nt ct : Nat) (w' : World), 0 < nT → TmBox w' B g3 g4 g5 g10 A n cap z b L AT nT cT LT AR nR cR R → NSet w' B N P → TextsB w' B At nt T → nt ≤ 1000 → nt ≤ ct → N ≤ 1000000 → (∀ x ∈ T, x.size ≤ maxLen) →
      Calls Tryz.prog 69 #[.int .i64 i, .slice At nt ct, .pointer (some ⟨g3, 0, none⟩), .pointer (some ⟨g4, 0, none⟩), .pointer (some ⟨g5, 0, none⟩), .pointer (some ⟨g10, 0, none⟩)] w'
        (fun e w'' => e = .returned (.int .i64 (stepE (relW L z b) n (LT.headD []) R P T).1) ∧ (∃ n', n' ≤ N + nt ∧ NSet w'' B n' (stepE (relW L z b) n (LT.headD []) R P T).2) ∧ w'.grownBy w'' (some B))) :=
    Lib.hid fun i N P T At nt ct w' h0 h1 h2 h3 h4 h5 h6 h7 => trTeamsC_any i B N g3 g4 g5 g10 A n cap z b L AT nT cT LT AR nR cR R P T At nt ct w' h1 h2 h3 hn hc h0 (fun l hl => (hnf l hl).1) hnR h4 h5 h6 h7
  generalize relW L z b = rel at *
  obtain ⟨F, hF⟩ : ∃ F, LT.headD [] = F := ⟨_, rfl⟩
  rw [hF] at HC ⊢
  obtain ⟨Y, hY⟩ : ∃ Y, tmsE rel n F R 0 [] LT = Y := ⟨_, rfl⟩
  rw [hY]
  have HY : Hid (tmsE rel n F R 0 [] (LT.drop 0) = Y) := Lib.hid (by rw [List.drop_zero]; exact hY)
  have HM := Lib.hid hM
  clear hX hY hM hF hn hnf
  go_enter Tryz.func68, Tryz.ntmps68
  go_wp2
  go_loopw [11] (fun i wr => ∃ (k n' : Nat) (Q : List ByteArray), k ≤ nT ∧ n' ≤ 1000 * k ∧ i = .int .i64 k ∧ Hid (tmsE rel n F R k Q (LT.drop k) = Y) ∧ Hid (NSet wr B n' Q) ∧ w.grownBy wr (some B)) (fun i _ => nT - (intOf i).toNat)
  case atStart => exact ⟨0, 0, [], by omega, by omega, rfl, HY, HM, World.grownBy.refl _ _⟩
  case round =>
    obtain ⟨k, n', Q, hk, hn', rfl, HK, HN, hG⟩ := hrel
    by_cases hlt : k < nT
    · have hXr := HX.out.kept hG
      obtain ⟨tb, toff, T, At, ct, rfl, htb, hT, hTc, hTl, hTB⟩ := hXr.2.2.2.1.at_ hlt
      have hst := HK.out
      rw [tmsE_step k hT] at hst
      have hki : (k : Int) < (nT : Int) := by omega
      have hTs := HS.out T (List.mem_of_getElem? hT)
      have hC := HC.out k n' Q T At T.length ct wr (by omega) hXr HN.out hTB hTs.1 hTl (by omega) hTs.2
      obtain ⟨S, hS⟩ : ∃ S, stepE rel n F R Q T = S := ⟨_, rfl⟩
      rw [hS] at hC hst
      have hTl1 := hTs.1
      obtain ⟨nt, hnt⟩ : ∃ nt, T.length = nt := ⟨_, rfl⟩
      rw [hnt] at hC hTc hTl1
      clear hTB hT HK hXr hS hTs HN hTl
      by_cases q : S.1 = 0
      · rw [if_pos q] at hst
        rw [q] at hC
        have Hst := Lib.hid hst
        clear hst
        go_wp2_with fail
        refine hC.mono ?_
        rintro e w2 ⟨rfl, ⟨n2, hn2, hN2⟩, hg2⟩
        have hG2 := hG.trans hg2
        go_wp2
        go_roundw
        case rel => exact ⟨k + 1, n2, S.2, by omega, by omega, by go_num, Hst, Lib.hid hN2, hG2⟩
        case measure => simp [intOf]; omega
      · rw [if_neg q] at hst
        subst hst
        have hb' : (S.1 != 0) = true := by rw [bne_iff_ne]; exact q
        clear HY
        go_wp2_with fail
        refine hC.mono ?_
        rintro e w2 ⟨rfl, ⟨n2, hn2, hN2⟩, hg2⟩
        have hG2 := hG.trans hg2
        go_wp2
        go_ret2
        exact ⟨rfl, hG2⟩
    · have hkn : k = nT := by omega
      have h0 := HK.out
      rw [hkn, List.drop_of_length_le (by rw [Hlen.out]; omega), tmsE] at h0
      subst h0
      go_wp2
      go_ret2
      exact ⟨rfl, hG⟩
theorem teamsE_of {rel : Int} {n : Nat} {T : List (List ByteArray)} {R : List ByteArray} {e : Int} (h : fstN [rel, if T.length = 0 then 12 else 0, if 8 < T.length then 5 else 0, if 16 < R.length then 5 else 0] = e) :
    teamsE rel n T R = if e = 0 then (if nmsE [] R = 0 then tmsE rel n (T.headD []) R 0 [] T else (0, nmsE [] R)) else (0, e) := by
  unfold teamsE
  by_cases h1 : rel = 0
  · rw [if_neg (by simp [h1])]
    by_cases h2 : T.length = 0
    · rw [if_pos h2] at h ⊢
      have he : e = 12 := by rw [← h]; simp [fstN, h1]
      rw [he]; rfl
    · rw [if_neg h2] at h ⊢
      by_cases h3 : 8 < T.length
      · rw [if_pos h3] at h ⊢
        have he : e = 5 := by rw [← h]; simp [fstN, h1]
        rw [he]; rfl
      · rw [if_neg h3] at h ⊢
        by_cases h4 : 16 < R.length
        · rw [if_pos h4] at h ⊢
          have he : e = 5 := by rw [← h]; simp [fstN, h1]
          rw [he]; rfl
        · rw [if_neg h4] at h ⊢
          have he : e = 0 := by rw [← h]; simp [fstN, h1]
          rw [if_pos he]
          by_cases h5 : nmsE [] R = 0
          · rw [if_neg (by simp [h5]), if_pos h5]
          · rw [if_pos h5, if_neg h5]
  · rw [if_pos h1]
    have he : e = rel := by rw [← h]; simp [fstN, h1]
    rw [if_neg (by rw [he]; exact h1), he]
end Go.Mk
