/-
  Proved: the reference's ShortRunners says whether heats of runners are few, and their texts moderate; seed.hasTime says whether a runner has a time. Conditions: the runners lie where the slices say.
-/
import Derived.Test.YtkjolejppnogiaaGreatDoorEn
import Derived.Test.YtkjolejppnogiaaGreatDoorEk
set_option linter.unusedVariables false
set_option linter.unusedSimpArgs false
open Go Go.Proofs Go.RowKit Go.Maps Go.WideMaps
set_option maxRecDepth 100000
namespace Go.Mk
/-- Are the texts of a runner moderate? -/
def shR (x : Run) : Bool := decide (x.name.size ≤ 40) && (decide (x.kind.size ≤ 20) && decide (x.reason.size ≤ 20))
/-- Are the runners of a heat few, or too many, and moderate? -/
def shH (l : List Run) : Bool := (decide (l.length ≤ 12) || (decide (160 < l.length) && decide (l.length ≤ 162))) && l.all shR
theorem hasTime_any (x : Run) (w : World) : Calls Tryz.prog 114 #[x.agg] w (RetPost (.bool (decide (x.kind = sTime))) w) := by
  obtain ⟨nm, k, v, r⟩ := x
  unfold Run.agg
  rw [← timeB]
  go_enter Tryz.func114, Tryz.ntmps114
  go_wp2
  go_ret
  exact ⟨rfl, balloc _ (Below.refl _ _)⟩
theorem r4ShortRunners_long (n cap : Nat) (A : Option Addr) (w : World) (h : 18 < (n : Int)) (hm : (n : Int) ≤ 9223372036854775807) :
    Calls Tryz.prog 36 #[.slice A n cap] w (RetPost (.bool false) w) := by
  go_enter Tryz.func36, Tryz.ntmps36
  go_wp2
  go_ret
  exact ⟨rfl, Below.refl _ _⟩
set_option maxHeartbeats 8000000 in
theorem r4ShortRunners_any (LL : List (List Run)) (n cap : Nat) (A : Option Addr) (B : Nat) (w : World) (hZ : RHeats w B A n LL) (hn : (n : Int) ≤ 18) :
    Calls Tryz.prog 36 #[.slice A n cap] w (RetPost (.bool (LL.all shH)) w) := by
  have HM : Hid (∀ w', Below w.heap.size w w' → RHeats w' B A n LL) := fun w' hb => hZ.below hb hZ.2.1
  have Hlen : Hid (LL.length = n) := hZ.1
  obtain ⟨X, hX⟩ : ∃ X, LL.all shH = X := ⟨_, rfl⟩
  rw [hX]
  have HX : Hid ((LL.drop 0).all shH = X) := (show _ = _ by rw [List.drop_zero, hX])
  clear hX hZ
  go_enter Tryz.func36, Tryz.ntmps36
  go_wp2
  go_loopw [3] (fun i wr => ∃ k : Nat, k ≤ n ∧ i = .int .i64 k ∧ Hid ((LL.drop k).all shH = X) ∧ Below w.heap.size w wr) (fun i _ => n - (intOf i).toNat)
  case atStart => exact ⟨0, by omega, rfl, HX, Below.refl _ _⟩
  case round =>
    obtain ⟨k, hk, rfl, HK, hb⟩ := hrel
    by_cases hlt : k < n
    · obtain ⟨b, off, l, A', c', rfl, hbl, hL, hc, hZl⟩ := (HM.out _ hb).at_ hlt
      have hst := HK.out
      rw [drop_cons hL, List.all_cons] at hst
      have HL := Lib.hid hL
      have hki : (k : Int) < (n : Int) := by omega
      have hk0 : (0 : Int) ≤ (k : Int) := by omega
      have hkt : ((k : Int)).toNat = k := by omega
      have bad : shH l = false → false = X := fun q => by rw [q, Bool.false_and] at hst; exact hst
      have good : shH l = true → (LL.drop (k + 1)).all shH = X := fun q => by rw [q, Bool.true_and] at hst; exact hst
      have BAD := Lib.hid bad
      have GOOD := Lib.hid good
      obtain ⟨m, hm⟩ : ∃ m, l.length = m := ⟨_, rfl⟩
      rw [hm] at hc
      have Hm := Lib.hid hm
      clear hst hL HK bad good hZl
      by_cases g1 : (12 < (m : Int) ∧ (m : Int) ≤ 160) ∨ 162 < (m : Int)
      · have hX := BAD.out (by
          unfold shH
          rw [hm, show (decide (m ≤ 12) || (decide (160 < m) && decide (m ≤ 162))) = false from by simp; omega, Bool.false_and])
        subst hX
        clear hm
        rcases g1 with ⟨q1, q2⟩ | q1
        · as_aux_lemma =>
            go_wp2_with fail
            go_wp2
            go_ret
            exact ⟨rfl, hb⟩
        · have q2 : 12 < (m : Int) := by omega
          have q3 : ¬ (m : Int) ≤ 160 := by omega
          as_aux_lemma =>
            go_wp2_with fail
            go_wp2
            go_ret
            exact ⟨rfl, hb⟩
      · have hlen : (decide (m ≤ 12) || (decide (160 < m) && decide (m ≤ 162))) = true := by simp; omega
        have HG : Hid (shH l = l.all shR) := (show _ = _ by unfold shH; rw [hm, hlen, Bool.true_and])
        obtain ⟨Y, hY⟩ : ∃ Y, l.all shR = Y := ⟨_, rfl⟩
        have HY : Hid ((l.drop 0).all shR = Y) := (show _ = _ by rw [List.drop_zero, hY])
        have HB : Hid (Y = false → false = X) := fun q => BAD.out (by rw [HG.out, hY, q])
        have HGD : Hid (Y = true → (LL.drop (k + 1)).all shH = X) := fun q => GOOD.out (by rw [HG.out, hY, q])
        have q0 : ¬ 162 < (m : Int) := by omega
        have q1 : (m : Int) ≤ 12 ∨ 160 < (m : Int) := by omega
        clear hm hlen hY g1
        have main : ∀ W : World, True := fun _ => trivial
        rcases q1 with q1 | q1
        all_goals
          first
            | have q2 : ¬ 12 < (m : Int) := by omega
            | (have q2 : 12 < (m : Int) := by omega
               have q3 : ¬ (m : Int) ≤ 160 := by omega)
          as_aux_lemma =>
            go_wp2
            go_loopw [4] (fun i wx => ∃ j : Nat, j ≤ m ∧ i = .int .i64 j ∧ Hid ((l.drop j).all shR = Y) ∧ Below w.heap.size w wx) (fun i _ => m - (intOf i).toNat)
            case atStart => exact ⟨0, by omega, rfl, HY, hb⟩
            case round =>
              obtain ⟨j, hj, rfl, HJ, hbx⟩ := hrel
              clear hc
              obtain ⟨b', off', l', A2, c2, hAq, _, hLq, hc2, hZ2⟩ := (HM.out _ hbx).at_ hlt
              cases hAq
              cases HL.out.symm.trans hLq
              rw [Hm.out] at hc2 hZ2
              by_cases hjm : j < m
              · obtain ⟨b2, off2, x, rfl, _, hx, c0, c1, c2', c3⟩ := hZ2.at_ hjm
                have hst := HJ.out
                rw [drop_cons hx, List.all_cons] at hst
                have hji : (j : Int) < (m : Int) := by omega
                have bad : shR x = false → false = X := fun q => HB.out (by rw [q, Bool.false_and] at hst; exact hst.symm)
                have good : shR x = true → (l.drop (j + 1)).all shR = Y := fun q => by rw [q, Bool.true_and] at hst; exact hst
                obtain ⟨nm, kd, v, r⟩ := x
                simp only at c0 c1 c2' c3
                have BAD2 := Lib.hid bad
                have GOOD2 := Lib.hid good
                have hb1 : Below w.heap.size w (wr.alloc (.cells #[.string nm, .string kd, .int .i64 v, .string r] 83)) := balloc _ hbx
                clear hst hx HJ bad good hLq hZ2
                by_cases g1 : 40 < (nm.size : Int)
                · have hX := BAD2.out (by unfold shR; rw [decide_eq_false (by simp only; omega)]; rfl)
                  subst hX
                  as_aux_lemma =>
                    go_wp2_with fail
                    go_wp2
                    go_ret
                    exact ⟨rfl, hb1⟩
                · by_cases g3 : 20 < (kd.size : Int)
                  · have hX := BAD2.out (by unfold shR; rw [show decide ((⟨nm, kd, v, r⟩ : Run).kind.size ≤ 20) = false from decide_eq_false (by simp only; omega)]; simp)
                    subst hX
                    as_aux_lemma =>
                      go_wp2_with fail
                      go_wp2
                      go_ret
                      exact ⟨rfl, hb1⟩
                  · by_cases g4 : 20 < (r.size : Int)
                    · have hX := BAD2.out (by unfold shR; rw [show decide ((⟨nm, kd, v, r⟩ : Run).reason.size ≤ 20) = false from decide_eq_false (by simp only; omega)]; simp)
                      subst hX
                      as_aux_lemma =>
                        go_wp2_with fail
                        go_wp2
                        go_ret
                        exact ⟨rfl, hb1⟩
                    · have HK2 : Hid ((l.drop (j + 1)).all shR = Y) := GOOD2.out (by unfold shR; simp only; rw [decide_eq_true (by omega), decide_eq_true (by omega), decide_eq_true (by omega)]; rfl)
                      as_aux_lemma =>
                        go_wp2_with fail
                        go_wp2
                        go_roundw
                        case rel => exact ⟨j + 1, by omega, by go_num, HK2, hb1⟩
                        case measure => simp [intOf]; omega
              · have hz := HJ.out
                rw [List.drop_of_length_le (by rw [Hm.out]; omega)] at hz
                have HK2 : Hid ((LL.drop (k + 1)).all shH = X) := HGD.out hz.symm
                clear hz hLq hZ2
                as_aux_lemma =>
                  go_wp2
                  go_roundw
                  case rel => exact ⟨k + 1, by omega, by go_num, HK2, hbx⟩
                  case measure => simp [intOf]; omega
    · have hz := HK.out
      rw [List.drop_of_length_le (by rw [Hlen.out]; omega)] at hz
      have hz2 : true = X := hz
      subst hz2
      go_wp2
      go_ret
      exact ⟨rfl, hb⟩
end Go.Mk
