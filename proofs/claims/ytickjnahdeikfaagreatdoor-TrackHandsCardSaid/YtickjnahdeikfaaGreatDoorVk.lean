/-
  Proved: the reference finds no error in a rational number's text in lowest terms (Check), nor in a list of such texts (CheckRow). Conditions: numerators and denominators have at most nine digits, denominators are not 0, and are 1 or have no common divisor with the numerator.
-/
import Derived.Test.YtickjnahdeikfaaGreatDoorVi
set_option linter.unusedVariables false
set_option linter.unusedSimpArgs false
open Go Go.Proofs Go.RowKit
set_option maxRecDepth 100000
namespace Go.Mk
set_option maxHeartbeats 4000000 in
theorem rfCheck_one (N : Nat) (hN : N ≤ 999999999) (w : World) : Calls Tryz.prog 73 #[.string (digT N)] w (RetPost (.int .i64 0) w) := by
  have h1 := digT_pos N
  have h9 := digT_le9 N hN
  have hS : ∀ w, Calls Tryz.prog 109 #[.string (digT N)] w (RetSame (.int .i64 ((digT N).size : Nat)) w) := fun w => by
    have := rfSlash_any (digT N) (by unfold maxLen; omega) w
    rw [slash_isD (digT_isD N), ← digT_size2] at this
    exact this
  have hF := fun w => rfDecForm_any N hN w
  have hh : ∃ c l, (digT N).data.toList = c :: l ∧ 48 ≤ c.toNat := by
    have := digT_isD N
    cases e : (digT N).data.toList with
    | nil => rw [digT_size2, e] at h1; simp at h1
    | cons c l => exact ⟨c, l, rfl, (this c (by rw [e]; simp)).1⟩
  have hm := headD (digT N) h1 hh
  have hx : (digT N).extract 0 (digT N).size = digT N := by rw [ByteArray.extract_zero_size]
  have hi0 : (0 : Int) < ((digT N).size : Int) := by omega
  have hi9 : ((digT N).size : Int) ≤ 9 := by omega
  generalize digT N = s at *
  have hm' : ¬ (s[0].toNat : Int) = 45 := hm
  clear hh
  go_enter Tryz.func73, Tryz.ntmps73
  go_wp2_with fail
  refine (hS _).mono ?_
  rintro e w1 ⟨rfl, rfl⟩
  go_wp2_with fail
  refine (hF _).mono ?_
  rintro e w1 ⟨rfl, rfl⟩
  go_wp2
  go_ret
  exact ⟨rfl, Below.refl _ _⟩
theorem digT_ne (D : Nat) (c : UInt8) (m : Nat) (hc : valL [c] = m) (h : D ≠ m) : ((digT D).toList == [c]) = false := by
  rw [beq_eq_false_iff_ne, ByteArray.toList_eq]
  intro q
  have := digT_val D
  rw [q, hc] at this
  exact h this.symm
set_option maxHeartbeats 8000000 in
theorem rfCheck_two (N D : Nat) (hN0 : 0 < N) (hN : N ≤ 999999999) (hD1 : 1 < D) (hD : D ≤ 999999999) (hg : Nat.gcd N D = 1) (w : World) : Calls Tryz.prog 73 #[.string (ratT N D)] w (RetPost (.int .i64 0) w) := by
  have hP := fun w => rfParts_any N D hN0 hN (by omega) hD (by omega) w
  obtain ⟨s, a, hs, ha, hsz, ha0, ha9, h19, hsl, hx, hy, hh⟩ := ratT_facts N D hN hD (by omega)
  rw [hs] at hP ⊢
  have hS := rfSlash_any s (by unfold maxLen; omega)
  rw [hsl] at hS
  have hFN := fun w => rfDecForm_any N hN w
  have hFD := fun w => rfDecForm_any D hD w
  have hC := fun v u w (hv : D1 w v N) (hu : D1 w u D) => rfCommon_any N D v u w hN0 hN hD hv hu
  rw [hg] at hC
  have hd1 := digT_pos D
  have y0 := digT_ne D 48 0 rfl (by omega)
  have y1 := digT_ne D 49 1 rfl (by omega)
  have hs0 : 0 < s.size := by clear hh; omega
  have hm' : ¬ (s[0].toNat : Int) = 45 := headD s hs0 hh
  obtain ⟨x, hxe⟩ : ∃ x, digT N = x := ⟨_, rfl⟩
  obtain ⟨y, hye⟩ : ∃ y, digT D = y := ⟨_, rfl⟩
  rw [hxe] at hx hFN
  rw [hye] at hy hFD hd1 hsz y0 y1
  have hi1 : (s.size : Int) ≤ 19 := by omega
  have hi0 : (0 : Int) < (s.size : Int) := by omega
  have hia : (a : Int) ≤ 9 := by omega
  have hi2 : (a : Int) < (s.size : Int) := by omega
  have hi3 : (a : Int) ≤ (s.size : Int) := by omega
  have hi4 : (0 : Int) ≤ (a : Int) := by omega
  have hi5 : ((a : Int)).toNat = a := by omega
  have hi6 : (a : Int) + 1 ≤ (s.size : Int) := by omega
  have hi7 : (0 : Int) ≤ (a : Int) + 1 := by omega
  have hi8 : ((a : Int) + 1).toNat = a + 1 := by omega
  have hw2 : IntKind.i64.wrap ((a : Int) + 1) = (a : Int) + 1 := IntWalk.i64_in _ (by omega)
  have hw3 : IntKind.i64.wrap ((s.size : Int) - (a : Int)) = (s.size : Int) - (a : Int) := IntWalk.i64_in _ (by omega)
  have hw4 : IntKind.i64.wrap ((s.size : Int) - (a : Int) - 1) = (s.size : Int) - (a : Int) - 1 := IntWalk.i64_in _ (by omega)
  have hi9 : ¬ (600 : Int) < (s.size : Int) - (a : Int) - 1 := by omega
  have hi10 : ¬ (600 : Int) < (a : Int) := by omega
  clear hs ha hsz hsl hxe hye hN hD hN0 hD1 h19 ha0 ha9 hg hh
  go_enter Tryz.func73, Tryz.ntmps73
  go_wp2_with fail
  refine (hS _).mono ?_
  rintro e w1 ⟨rfl, rfl⟩
  go_wp2_with fail
  refine (hFN _).mono ?_
  rintro e w1 ⟨rfl, rfl⟩
  go_wp2_with fail
  refine (hFD _).mono ?_
  rintro e w1 ⟨rfl, rfl⟩
  go_wp2_with fail
  refine (hP _).mono ?_
  rintro e w2 ⟨u, v, rfl, ⟨uN, rfl, hN⟩, ⟨uD, rfl, hD⟩, b2⟩
  obtain ⟨AN, nN, cN, rfl⟩ := hN.slice
  obtain ⟨AD, nD, cD, rfl⟩ := hD.slice
  obtain ⟨w3, hw3'⟩ : ∃ w3, (w2.alloc (.cells #[.bool false, .slice AN nN cN] 127)).alloc (.cells #[.bool false, .slice AD nD cD] 127) = w3 := ⟨_, rfl⟩
  have b23 : Below w2.heap.size w2 w3 := by rw [← hw3']; exact balloc _ (balloc _ (Below.refl _ _))
  have b3 := bstep b2 b23
  have hC' := hC _ _ _ (hN.below b23) (hD.below b23)
  have q0 : w3.cell? ⟨w2.heap.size, 1, none⟩ = some (.slice AN nN cN) := by
    rw [← hw3']
    exact (((Below.refl (w2.alloc (.cells #[.bool false, .slice AN nN cN] 127)).heap.size (w2.alloc (.cells #[.bool false, .slice AN nN cN] 127))).alloc (Nat.le_refl _) _).cell (p := ⟨w2.heap.size, 1, none⟩) (by show w2.heap.size < _; simp)).trans (by simp)
  have q1 : w3.cell? ⟨w2.heap.size + 1, 1, none⟩ = some (.slice AD nD cD) := by rw [← hw3']; simp
  clear hN hD b2 b23
  go_wp2_with fail
  refine hC'.mono ?_
  rintro e w4 ⟨r, rfl, hr, b4⟩
  have b5 := bstep b3 b4
  rcases hr with ⟨hz, _⟩ | ⟨_, g, off, c, rfl, hg, hc⟩
  · exact absurd hz (by decide)
  have hc' : w4.cell? ⟨g, off, none⟩ = some (.int .i64 1) := hc
  clear hc b4 hC' q0 q1
  go_wp2
  go_ret
  exact ⟨rfl, b5⟩
theorem rfCheck_any (N D : Nat) (hN : N ≤ 999999999) (hD0 : 0 < D) (hD : D ≤ 999999999) (hg : Nat.gcd N D = 1) (w : World) : Calls Tryz.prog 73 #[.string (ratT N D)] w (RetPost (.int .i64 0) w) := by
  by_cases h1 : D = 1
  · subst h1
    rw [ratT_one]
    exact rfCheck_one N hN w
  · refine rfCheck_two N D (Nat.pos_of_ne_zero fun q => ?_) hN (by omega) hD hg w
    subst q
    rw [Nat.gcd_zero_left] at hg
    exact h1 hg
set_option maxHeartbeats 2000000 in
theorem rfCheckRow_any (L : List ByteArray) (A : Option Addr) (n c : Nat) (w : World) (hn : n ≤ 100) (h : TextR w A n L) (hL : ∀ x ∈ L, ∀ w, Calls Tryz.prog 73 #[.string x] w (RetPost (.int .i64 0) w)) :
    Calls Tryz.prog 31 #[.slice A n c] w (RetPost (.int .i64 0) w) := by
  have hni : (n : Int) ≤ 100 := by omega
  have H := Lib.hid h
  have HL := Lib.hid hL
  clear h hL hn
  go_enter Tryz.func31, Tryz.ntmps31
  go_wp2
  go_loopw [3] (fun i wr => ∃ k : Nat, k ≤ n ∧ i = .int .i64 k ∧ Below w.heap.size w wr) (fun i _ => n - (intOf i).toNat)
  case atStart => exact ⟨0, by omega, rfl, Below.refl _ _⟩
  case round =>
    obtain ⟨k, hk, rfl, hb⟩ := hrel
    by_cases hlt : k < n
    · have g1 := H.out.below hb
      obtain ⟨p1, f1, rfl, _, q1⟩ := g1.2 (by omega)
      have hkl : k < L.length := by rw [g1.1]; exact hlt
      have c1' := q1 k L[k] (List.getElem?_eq_getElem hkl)
      have hC := HL.out L[k] (List.getElem_mem hkl)
      obtain ⟨x, hx⟩ : ∃ x, L[k] = x := ⟨_, rfl⟩
      rw [hx] at c1' hC
      have hki : (k : Int) < (n : Int) := by omega
      have hk0 : (0 : Int) ≤ (k : Int) := by omega
      have hkt : ((k : Int)).toNat = k := by omega
      clear q1 g1 hx hkl
      go_wp2_with fail
      refine (hC _).mono ?_
      rintro e w2 ⟨rfl, b2⟩
      have bw := bstep hb b2
      go_wp2
      go_roundw
      case rel => exact ⟨k + 1, by omega, by go_num, bw⟩
      case measure => simp [intOf]; omega
    · have hki : ¬ (k : Int) < (n : Int) := by omega
      go_wp2
      go_ret
      exact ⟨rfl, hb⟩
end Go.Mk
