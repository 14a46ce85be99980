/-
  Proved: the error of athletes by package field (nameError, newNameError, firstOf and listError at texts, athletesError), as a plain function. Conditions: the texts lie where the slice says; there are at most 1,000, each no longer than an int says.
-/
import Derived.Test.YthpcmhcokblglaaGreatDoorXb
set_option linter.unusedVariables false
set_option linter.unusedSimpArgs false
open Go Go.Proofs Go.RowKit
set_option maxRecDepth 100000
namespace Go.Mk
set_option maxHeartbeats 1000000 in
theorem fdName_any (s : ByteArray) (w : World) (hz : s.size ≤ maxLen) : Calls Tryz.prog 52 #[.string s] w (RetPost (.int .i64 (nmE s)) w) := by
  have hN := fun w => IsName_any s w hz
  have hW := fun w => trWhen_any (!(isNm s)) 8 w
  have HY : Hid ((if (!(isNm s)) = true then (8 : Int) else 0) = nmE s) := Lib.hid (by unfold nmE; cases isNm s <;> rfl)
  rw [HY.out] at hW
  generalize nmE s = y at *
  generalize isNm s = nb at *
  clear hz
  go_enter Tryz.func52, Tryz.ntmps52
  go_wp2_with fail
  refine (hN _).mono ?_
  rintro e w1 ⟨rfl, hb1⟩
  go_wp2_with fail
  refine (hW _).mono ?_
  rintro e w2 ⟨rfl, rfl⟩
  go_wp2
  go_ret
  exact ⟨rfl, hb1⟩
set_option maxHeartbeats 4000000 in
theorem fdNewName_any (L : List ByteArray) (k c : Nat) (A : Option Addr) (s : ByteArray) (w : World) (hZ : TextsZ w A k L) (hk : k ≤ 1000) (hz : s.size ≤ maxLen) :
    Calls Tryz.prog 102 #[.slice A k c, .string s] w (RetPost (.int .i64 (twE L s)) w) := by
  have hN := fun w => fdName_any s w hz
  have HCo : Hid (∀ w', Below w.heap.size w w' → Calls Tryz.prog 176 #[.slice A k c, .string s] w' (RetSame (.bool (isIn L s)) w')) := Lib.hid fun w' hb => slContainsS_any L s k c A w' (hZ.below hb) (by omega)
  have hW := fun w => trWhen_any (isIn L s) 9 w
  have hF0 := fun x y g w => trFirst_any [x, y] 2 rfl (by decide) g w
  have HY : Hid (fstN [nmE s, if isIn L s = true then 9 else 0] = twE L s) := Lib.hid rfl
  generalize twE L s = y at *
  generalize isIn L s = bb at *
  generalize nmE s = e1 at *
  generalize (if bb = true then (9 : Int) else 0) = e2 at *
  have hF := hF0 e1 e2
  rw [HY.out] at hF
  clear hF0 hZ hz
  go_enter Tryz.func102, Tryz.ntmps102
  go_wp2_with fail
  refine (hN _).mono ?_
  rintro e w1 ⟨rfl, hb1⟩
  have HB1 := Lib.hid hb1
  go_wp2_with fail
  refine (HCo.out _ HB1.out).mono ?_
  rintro e w2 ⟨rfl, rfl⟩
  go_wp2_with fail
  refine (hW _).mono ?_
  rintro e w3 ⟨rfl, rfl⟩
  have hb4 := balloc (.cells #[.int .i64 e1, .int .i64 e2] 30) HB1.out
  have hes := es2 w1 e1 e2 30
  go_wp2_with fail
  refine (hF _ _ hes).mono ?_
  rintro e w5 ⟨rfl, rfl⟩
  go_wp2
  go_ret
  exact ⟨rfl, hb4⟩
/-- The closure of athletesError. -/
def AthF (g : Nat) : Value := .func (.func 101) #[] #[.pointer (some ⟨g, 0, none⟩)]
set_option maxHeartbeats 2000000 in
theorem fdAthletesC_any (L : List ByteArray) (n cap k g : Nat) (A : Option Addr) (s : ByteArray) (w : World) (hc : w.cell? ⟨g, 0, none⟩ = some (.slice A n cap)) (hg : g < w.heap.size) (hZ : TextsZ w A n L) (hn : n ≤ 1000) (hcap : n ≤ cap) (hk : k < n) (hz : s.size ≤ maxLen) :
    Calls Tryz.prog 101 #[.int .i64 k, .string s, .pointer (some ⟨g, 0, none⟩)] w (RetPost (.int .i64 (twE (L.take k) s)) w) := by
  obtain ⟨b, off, x, rfl, _, _, _⟩ := hZ.at_ hk
  have hki : (k : Int) ≤ (cap : Int) := by omega
  have hk0 : (0 : Int) ≤ (k : Int) := by omega
  have hkt : ((k : Int)).toNat = k := by omega
  have HN := Lib.hid fun c => fdNewName_any (L.take k) k c _ s w (hZ.take (Nat.le_of_lt hk)) (by omega) hz
  generalize twE (L.take k) s = y at *
  clear hZ hz
  go_enter Tryz.func101, Tryz.ntmps101
  go_wp2_with fail
  refine (HN.out _).mono ?_
  rintro e w1 ⟨rfl, hb1⟩
  go_wp2
  go_ret
  exact ⟨rfl, hb1⟩
set_option maxHeartbeats 2000000 in
theorem fdFirstOfS_any (L : List ByteArray) (n cap g cap2 : Nat) (A : Option Addr) (w : World) (hc : w.cell? ⟨g, 0, none⟩ = some (.slice A n cap)) (hg : g < w.heap.size) (hZ : TextsZ w A n L) (hn : n ≤ 1000) (hcap : n ≤ cap) (hs : ∀ x ∈ L, x.size ≤ maxLen) :
    Calls Tryz.prog 111 #[.slice A n cap2, AthF g] w (RetPost (.int .i64 (nmsE [] L)) w) := by
  unfold AthF
  have hni : (n : Int) ≤ 1000 := by omega
  have H := Lib.hid hZ
  have Hn := Lib.hid hZ.1
  have HS := Lib.hid hs
  have HG : Hid (∀ w', Below w.heap.size w w' → w'.cell? ⟨g, 0, none⟩ = some (.slice A n cap) ∧ g < w'.heap.size ∧ TextsZ w' A n L) := Lib.hid fun w' hb => ⟨(hb.cell (p := ⟨g, _, none⟩) hg).trans hc, Nat.lt_of_lt_of_le hg hb.size, hZ.below hb⟩
  obtain ⟨y, hy⟩ : ∃ y, nmsE [] L = y := ⟨_, rfl⟩
  rw [hy]
  have HY : Hid (nmsE (L.take 0) (L.drop 0) = y) := by rw [← hy]; rfl
  clear hZ hy hc hs
  go_enter Tryz.func111, Tryz.ntmps111
  go_wp2
  go_loopw [10] (fun i wr => ∃ k : Nat, k ≤ n ∧ i = .int .i64 k ∧ Hid (nmsE (L.take k) (L.drop k) = y) ∧ Below w.heap.size w wr) (fun i _ => n - (intOf i).toNat)
  case atStart => exact ⟨0, by omega, rfl, HY, Below.refl _ _⟩
  case round =>
    obtain ⟨k, hk, rfl, HK, hb⟩ := hrel
    by_cases hlt : k < n
    · obtain ⟨c1, c2, c3⟩ := HG.out _ hb
      have hZr := c3
      obtain ⟨b, off, x, rfl, hbl, hx, hcx⟩ := c3.at_ hlt
      have hst := nmsE_drop hx
      rw [HK.out] at hst
      have hki : (k : Int) < (n : Int) := by omega
      have hC := fdAthletesC_any L n cap k g _ x wr c1 c2 hZr hn hcap hlt (HS.out x (List.mem_of_getElem? hx))
      obtain ⟨z, hz⟩ : ∃ z, twE (L.take k) x = z := ⟨_, rfl⟩
      rw [hz] at hst hC
      clear hz hx c3 hZr c1 c2
      by_cases h0 : z = 0
      · subst h0
        rw [if_pos rfl] at hst
        have Hst : Hid (nmsE (L.take (k + 1)) (L.drop (k + 1)) = y) := hst.symm
        clear hst HK
        go_wp2_with fail
        refine hC.mono ?_
        rintro e w' ⟨rfl, hb2⟩
        have hb3 := bstep hb hb2
        go_wp2
        exact ⟨⟨k + 1, by omega, by go_num, Hst, hb3⟩, by simp [intOf]; omega⟩
      · rw [if_neg h0] at hst
        subst hst
        have hb' : (y != 0) = true := by rw [bne_iff_ne]; exact h0
        clear HK HY
        go_wp2_with fail
        refine hC.mono ?_
        rintro e w' ⟨rfl, hb2⟩
        have hb3 := bstep hb hb2
        go_wp2
        go_ret
        exact ⟨rfl, hb3⟩
    · have hkn : k = n := by omega
      have h0 := HK.out
      rw [hkn, List.drop_of_length_le (by rw [Hn.out]; omega)] at h0
      have h0' : 0 = y := h0
      subst h0'
      go_wp2
      go_ret
      exact ⟨rfl, hb⟩
set_option maxHeartbeats 2000000 in
theorem fdListS_any (L : List ByteArray) (n cap g cap2 : Nat) (A : Option Addr) (w : World) (hc : w.cell? ⟨g, 0, none⟩ = some (.slice A n cap)) (hg : g < w.heap.size) (hZ : TextsZ w A n L) (hn : n ≤ 1000) (hcap : n ≤ cap) (hs : ∀ x ∈ L, x.size ≤ maxLen) :
    Calls Tryz.prog 100 #[.slice A n cap2, .int .i64 32, AthF g] w (RetPost (.int .i64 (if 32 < n then 5 else nmsE [] L)) w) := by
  have hC := fdFirstOfS_any L n cap g cap2 A w hc hg hZ hn hcap hs
  unfold AthF at *
  by_cases h : 32 < n
  · have hi : (32 : Int) < (n : Int) := by omega
    rw [if_pos h]
    clear hC hZ hc hs
    go_enter Tryz.func100, Tryz.ntmps100
    go_wp2
    go_ret
    exact ⟨rfl, Below.refl _ _⟩
  · have hi : ¬ (32 : Int) < (n : Int) := by omega
    rw [if_neg h]
    generalize nmsE [] L = y at *
    clear hZ hc hs
    go_enter Tryz.func100, Tryz.ntmps100
    go_wp2_with fail
    refine hC.mono ?_
    rintro e w1 ⟨rfl, hb1⟩
    go_wp2
    go_ret
    exact ⟨rfl, hb1⟩
/-- The error of athletes. -/
def athE (L : List ByteArray) : Int := fstN [if L.length = 0 then 12 else 0, if 32 < L.length then 5 else nmsE [] L]
end Go.Mk
