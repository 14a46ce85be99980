/-
  Proved: ranks of package field, where the comparison holds two cells, as a plain function. Condition: both
-/
import Derived.Test.YthgkaojplomapaaGreatDoorFeb
set_option maxHeartbeats 32000000
set_option linter.unusedVariables false
set_option linter.unusedSimpArgs false
open Go Go.Proofs Go.RowKit
set_option maxRecDepth 100000
namespace Go.Mk
theorem fdRanks2_any (n : Nat) (hn : n ≤ 1000) (R : Nat → Bool) (b : Nat → Nat → Bool) (f1 f2 : FuncId) (P1 P2 P3 : Value) (w : World) (e1 : ∀ args w, (callFunc f1 args).run Tryz.prog w = .ok (.enter f1 args) w) (e2 : ∀ args w, (callFunc f2 args).run Tryz.prog w = .ok (.enter f2 args) w)
  (H1 : ∀ (w' : World) (i : Nat), Below w.heap.size w w' → i < n → Calls Tryz.prog f1 #[.int .i64 i, P1] w' (RetPost (.bool (R i)) w'))
  (H2 : ∀ (w' : World) (j i : Nat), Below w.heap.size w w' → j < n → i < n → Calls Tryz.prog f2 #[.int .i64 j, .int .i64 i, P2, P3] w' (RetPost (.bool (b j i)) w')) :
  Calls Tryz.prog 46 #[.int .i64 n, .func (.func f1) #[] #[P1], .func (.func f2) #[] #[P2, P3]] w (fun e w' => ∃ g, e = .returned (.slice (some ⟨g, 0, none⟩) n n) ∧ Row w' g (ranksB R b n) ∧ w.heap.size ≤ g ∧ Below w.heap.size w w') := by
 obtain ⟨i0, hi, hz0, hz1, hz2⟩ := info_parts infoInt
 have hmk : ∀ w : World, (Instr.makeSlice 23 (.int .i64 (n : Int)) (.int .i64 (n : Int))).run Tryz.prog w = .ok (.slice (some ⟨w.heap.size, 0, none⟩) n n) (w.alloc (.cells (madeCells #[.int .i64 0] n) 3)) := by
  intro w
  have := run_make (P := Tryz.prog) w 23 3 i0 (.int .i64 0) Tryz.underlying23 hi hz0 .i64 .i64 n n (by omega) (by omega) (by rw [hz2]; omega) (by omega)
  rw [hz1] at this
  simpa [Value.cells] using this
 clear hi hz0 hz1 hz2
 have HH1 := Lib.hid H1
 have HH2 := Lib.hid H2
 clear H1 H2
 have hni : (n : Int) ≤ 1000 := by omega
 go_enter Tryz.func46, Tryz.ntmps46
 go_wp2
 have hrow : Row (w.alloc (.cells (madeCells #[.int .i64 0] n) 3)) w.heap.size (List.replicate n 0) := Row.newZ w n
 have hbel : Below w.heap.size w (w.alloc (.cells (madeCells #[.int .i64 0] n) 3)) := (Below.refl _ _).alloc (Nat.le_refl _) _
 obtain ⟨g, hg⟩ : ∃ g, w.heap.size = g := ⟨_, rfl⟩
 have HG : Hid (w.heap.size ≤ g) := Lib.hid (by omega)
 rw [hg] at hrow ⊢
 generalize w.alloc (.cells (madeCells #[.int .i64 0] n) 3) = w1 at hrow hbel ⊢
 have Hrow := Lib.hid hrow
 have Hbel := Lib.hid hbel
 clear hmk hg hrow hbel
 obtain ⟨L0, hL0⟩ : ∃ L0, ranksB R b n = L0 := ⟨_, rfl⟩
 go_loopw [8, 14] (fun x i wr => ∃ k : Nat, k ≤ n ∧ i = .int .i64 k ∧ Hid (Row wr g ((List.range k).map (rkB R b n) ++ List.replicate (n - k) 0)) ∧ Below w.heap.size w wr) (fun _ i _ => n - (intOf i).toNat)
 case atStart => exact ⟨0, by omega, rfl, Lib.hid (by simpa using Hrow.out), Hbel.out⟩
 case round =>
  obtain ⟨k, hk, rfl, hr, hb⟩ := hrel
  by_cases hlt : k < n
  ·have hki : (k : Int) < (n : Int) := by omega
   have hC := HH1.out wr k hb hlt
   have HB := Lib.hid hb
   clear hb
   cases hR : R k with
   | false =>
    rw [hR] at hC
    have HR2 : Hid ((List.range k).map (rkB R b n) ++ List.replicate (n - k) 0 = (List.range (k + 1)).map (rkB R b n) ++ List.replicate (n - (k + 1)) 0) := Lib.hid (keep_rank _ n k hlt (by unfold rkB; rw [hR]; rfl))
    clear hR
    go_wp2_with fail
    refine hC.mono ?_
    rintro e w2 ⟨rfl, hb2⟩
    have hb3 := bstep HB.out hb2
    have hr3 : Hid (Row w2 g ((List.range (k + 1)).map (rkB R b n) ++ List.replicate (n - (k + 1)) 0)) := Lib.hid (by rw [← HR2.out]; exact hr.out.below hb2 hr.out.1 hb2.size)
    clear hb2
    go_wp2
    exact ⟨⟨k + 1, by omega, by go_num, hr3, hb3⟩, by simp [intOf]; omega⟩
   | true =>
    rw [hR] at hC
    have HRK : Hid (rkB R b n k = 1 + cntB b k n) := Lib.hid (by unfold rkB; rw [hR]; rfl)
    clear hR
    go_wp2_with fail
    refine hC.mono ?_
    rintro e w2 ⟨rfl, hb2⟩
    have hb3 := bstep HB.out hb2
    have hr3 : Row w2 g ((List.range k).map (rkB R b n) ++ List.replicate (n - k) 0) := hr.out.below hb2 hr.out.1 hb2.size
    have hlen : ((List.range k).map (rkB R b n) ++ List.replicate (n - k) 0).length = n := by simp; omega
    obtain ⟨LL, hLL⟩ : ∃ LL, (List.range k).map (rkB R b n) ++ List.replicate (n - k) 0 = LL := ⟨_, rfl⟩
    rw [hLL] at hr3 hlen
    have HLL := Lib.hid hLL
    have Hlen := Lib.hid hlen
    have hkl : k < LL.length := by rw [hlen]; exact hlt
    obtain ⟨hc0, hf0⟩ := hr3.at_ hkl
    have hr4 := hr3.set_ hkl 1
    have hb4 : Below w.heap.size w (w2.setCell ⟨g, k, none⟩ (.int .i64 ((1 : Nat) : Int))) := hb3.setCell HG.out _
    obtain ⟨y0, hy0⟩ : ∃ y, LL.getD k 0 = y := ⟨_, rfl⟩
    rw [hy0] at hc0
    have hk0 : (0 : Int) ≤ (k : Int) := by omega
    have hkt : ((k : Int)).toNat = k := by omega
    have HR4 := Lib.hid hr4
    have HB4 := Lib.hid hb4
    have HKL := Lib.hid hkl
    clear hb2 hr hr3 hr4 hb4 hb3 hLL hlen hy0 hC hkl
    go_wp2_with fail
    go_loopw [9, 26] (fun x j wr => ∃ m : Nat, m ≤ n ∧ j = .int .i64 m ∧ Hid (Row wr g (LL.set k (1 + cntB b k m))) ∧ Below w.heap.size w wr) (fun _ j _ => n - (intOf j).toNat)
    case atStart => exact ⟨0, by omega, rfl, HR4, HB4.out⟩
    case round =>
     obtain ⟨m, hm, rfl, hr, hb⟩ := hrel
     by_cases hlm : m < n
     ·have hmi : (m : Int) < (n : Int) := by omega
      have hC := HH2.out wr m k hb hlm hlt
      have HB := Lib.hid hb
      clear hb
      cases hR : b m k with
      | false =>
       rw [hR] at hC
       have HC : Hid (cntB b k (m + 1) = cntB b k m) := Lib.hid (by rw [cntB, hR]; rfl)
       clear hR
       go_wp2_with fail
       refine hC.mono ?_
       rintro e w3 ⟨rfl, hb2⟩
       have hb3 := bstep HB.out hb2
       have hr3 : Hid (Row w3 g (LL.set k (1 + cntB b k (m + 1)))) := Lib.hid (by rw [HC.out]; exact hr.out.below hb2 hr.out.1 hb2.size)
       clear hb2
       go_wp2
       exact ⟨⟨m + 1, by omega, by go_num, hr3, hb3⟩, by simp [intOf]; omega⟩
      | true =>
       rw [hR] at hC
       have HC : Hid (cntB b k (m + 1) = cntB b k m + 1) := Lib.hid (by rw [cntB, hR]; rfl)
       clear hR
       go_wp2_with fail
       refine hC.mono ?_
       rintro e w3 ⟨rfl, hb2⟩
       have hb3 := bstep HB.out hb2
       have hr3 := hr.out.below hb2 hr.out.1 hb2.size
       obtain ⟨hc0, hf0⟩ := hr3.at_ (j := k) (by rw [List.length_set]; exact HKL.out)
       obtain ⟨z, hz⟩ : ∃ z, cntB b k m = z := ⟨_, rfl⟩
       have hzn : z ≤ n := by rw [← hz]; exact Nat.le_trans (cntB_le b k m) hm
       have hg0 : (LL.set k (1 + cntB b k m)).getD k 0 = 1 + z := by rw [hz, List.getD_eq_getElem?_getD, List.getElem?_set_self HKL.out]; rfl
       rw [hg0] at hc0
       have hr4 := hr3.set_ (i := k) (by rw [List.length_set]; exact HKL.out) (1 + z + 1)
       rw [List.set_set] at hr4
       have hb4 : Below w.heap.size w (w3.setCell ⟨g, k, none⟩ (.int .i64 ((1 + z + 1 : Nat) : Int))) := hb3.setCell HG.out _
       have hr5 : Hid (Row (w3.setCell ⟨g, k, none⟩ (.int .i64 ((1 + z + 1 : Nat) : Int))) g (LL.set k (1 + cntB b k (m + 1)))) := Lib.hid (by rw [HC.out, hz]; exact hr4)
       have HB4 := Lib.hid hb4
       have hzi : (z : Int) ≤ 1000 := by omega
       have hz0 : (0 : Int) ≤ (z : Int) := by omega
       have hcast : ((1 + z : Nat) : Int) = 1 + (z : Int) := by omega
       have hcast2 : ((1 + z + 1 : Nat) : Int) = 1 + (z : Int) + 1 := by omega
       rw [hcast] at hc0
       rw [hcast2] at hr5 HB4
       have hk0 : (0 : Int) ≤ (k : Int) := by omega
       have hkt : ((k : Int)).toNat = k := by omega
       clear hb2 hb3 hr hr3 hr4 hb4 hz hzn hg0 hcast hcast2 hC
       go_wp2
       exact ⟨⟨m + 1, by omega, by go_num, hr5, HB4.out⟩, by simp [intOf]; omega⟩
     ·have hmn : m = n := by omega
      have hr5 : Hid (Row wr g ((List.range (k + 1)).map (rkB R b n) ++ List.replicate (n - (k + 1)) 0)) := Lib.hid (by
       have h := hr.out
       rw [hmn, ← HLL.out, fill_rank (rkB R b n) n k hlt _ HRK.out] at h
       exact h)
      clear hr
      go_wp2
      exact ⟨⟨k + 1, by omega, by go_num, hr5, hb⟩, by simp [intOf]; omega⟩
  ·have hkn : k = n := by omega
   have hrn : Row wr g (ranksB R b n) := by have := hr.out; rw [hkn] at this; simpa [ranksB] using this
   have HRN := Lib.hid hrn
   clear hr hrn hL0
   go_wp2
   go_ret
   exact ⟨g, rfl, HRN.out, HG.out, hb⟩
end Go.Mk
