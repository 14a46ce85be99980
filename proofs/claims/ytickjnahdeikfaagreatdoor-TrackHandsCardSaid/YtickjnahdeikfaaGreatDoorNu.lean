/-
  Proved: the first error of the exchanges of a run, and its place, by package track (firstOf with the closure of CheckRun). Conditions: the exchanges and the zones lie where the slices in the two boxes say, as many of both, at most a hundred.
-/
import Derived.Test.YtickjnahdeikfaaGreatDoorNt
set_option linter.unusedVariables false
set_option linter.unusedSimpArgs false
open Go Go.Proofs Go.RowKit
set_option maxRecDepth 100000
namespace Go.Mk
def RunF (g4 g9 : Nat) : Value := .func (.func 54) #[] #[.pointer (some ⟨g4, 0, none⟩), .pointer (some ⟨g9, 0, none⟩)]
set_option maxHeartbeats 4000000 in
theorem trFirstEx_any (g4 g9 m cE cE2 cZ : Nat) (E AZ : Option Addr) (L Z : List (Int × Int)) (w : World)
    (hX : RunBox w g4 g9 E m cE L AZ m cZ Z) (hm : m ≤ 100) :
    Calls Tryz.prog 53 #[.slice E m cE2, RunF g4 g9] w (RetPost (.tuple #[.int .i64 (runG (0, 0) 0 L Z).1, .int .i64 (runG (0, 0) 0 L Z).2]) w) := by
  unfold RunF
  have hmi : (m : Int) ≤ 100 := by omega
  have HX := Lib.hid hX
  have HL := Lib.hid hX.2.2.1.1
  have HZ := Lib.hid hX.2.2.2.1
  obtain ⟨R, hR⟩ : ∃ R, runG (0, 0) 0 L Z = R := ⟨_, rfl⟩
  rw [hR]
  have HR := Lib.hid hR
  clear hX hR
  go_enter Tryz.func53, Tryz.ntmps53
  go_wp2
  go_loopw [11] (fun i wr => ∃ (k : Nat) (p : Int × Int), k ≤ m ∧ i = .int .i64 k ∧ (0 < k → L[k - 1]? = some p) ∧ Hid (runG p k (L.drop k) (Z.drop k) = R) ∧ Below w.heap.size w wr) (fun i _ => m - (intOf i).toNat)
  case atStart => exact ⟨0, (0, 0), by omega, rfl, fun h => absurd h (by omega), HR, Below.refl _ _⟩
  case round =>
    obtain ⟨k, p, hk, rfl, hp, HK, hb⟩ := hrel
    by_cases hlt : k < m
    · have hXr := HX.out.below hb
      obtain ⟨be, oe, q, rfl, hbe, hq, q0, q1⟩ := hXr.2.2.1.at_ hlt
      obtain ⟨bz, oz, zz, haz, hbz, hz, hz0, hz1⟩ := hXr.2.2.2.at_ hlt
      have hst := runG_drop p hq hz
      rw [HK.out] at hst
      have hki : (k : Int) < (m : Int) := by omega
      have hk0 : (0 : Int) ≤ (k : Int) := by omega
      have hkt : ((k : Int)).toNat = k := by omega
      have hC := fun w' (hb' : Below wr.heap.size wr w') => trRunC_any k g4 g9 m cE cZ m _ AZ L Z p q zz w' (hXr.below hb') hlt hm rfl hq hz hp
      have HQ := Lib.hid hq
      obtain ⟨e, he⟩ : ∃ e, exE k p q zz = e := ⟨_, rfl⟩
      rw [he] at hst hC
      have HB := Lib.hid hb
      clear HK hXr hz hq he hp haz hz0 hz1
      by_cases q2 : e = 0
      · subst q2
        rw [if_pos rfl] at hst
        have Hst := Lib.hid hst.symm
        clear hst
        go_wp2_with fail
        refine (hC _ (balloc _ (Below.refl _ _))).mono ?_
        rintro e' w2 ⟨rfl, hb2⟩
        have hb3 := HB.out.trans ((bstep (balloc _ (Below.refl _ _)) hb2).mono HB.out.size)
        clear hb2 hC
        go_wp2
        go_roundw
        case rel => exact ⟨k + 1, q, by omega, by go_num, fun _ => HQ.out, Hst, hb3⟩
        case measure => simp [intOf]; omega
      · rw [if_neg q2] at hst
        subst hst
        have hb' : (e != 0) = true := by rw [bne_iff_ne]; exact q2
        clear HR
        go_wp2_with fail
        refine (hC _ (balloc _ (Below.refl _ _))).mono ?_
        rintro e' w2 ⟨rfl, hb2⟩
        have hb3 := HB.out.trans ((bstep (balloc _ (Below.refl _ _)) hb2).mono HB.out.size)
        clear hb2 hC
        go_wp2
        go_ret2
        exact ⟨rfl, hb3⟩
    · have hkn : k = m := by omega
      have h0 := HK.out
      rw [hkn, runG_end p m (by rw [HL.out]; omega)] at h0
      subst h0
      clear HR HK
      go_wp2
      go_ret2
      exact ⟨rfl, hb⟩
end Go.Mk
