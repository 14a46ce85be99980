/-
  Proved: the reference's CheckMarks returns the first error of a list of marks, which is that of commonKind. Condition: the list lies where the slice says.
-/
import Derived.Test.YtapglbjojpkblaaGreatDoorMo
import Derived.Test.YtapglbjojpkblaaGreatDoorRf
set_option linter.unusedVariables false
set_option linter.unusedSimpArgs false
open Go Go.Proofs Go.RowKit
set_option maxRecDepth 100000
namespace Go.Mk
/-- The reference's first error of a list, from a kind on. -/
def refK : ByteArray → List (ByteArray × Int × ByteArray) → Int
  | _, [] => 0
  | c, (s, v, r) :: l => if chk s v r ≠ 0 then chk s v r else if s = sNone then refK c l else if c.toList.isEmpty = false ∧ c ≠ s then 13 else refK s l
theorem kind_full (s : ByteArray) (v : Int) (r : ByteArray) (h : chk s v r = 0) : s.toList.isEmpty = false := by
  rcases chk_kind s v r h with rfl | rfl | rfl | rfl <;> (rw [ByteArray.toList_eq]; rfl)
theorem refK_comK (L : List (ByteArray × Int × ByteArray)) : ∀ c c' : ByteArray, ((c = sNone ∧ c'.toList.isEmpty = true) ∨ (c = c' ∧ c ≠ sNone ∧ c'.toList.isEmpty = false)) → refK c' L = (comK c L).2 := by
  induction L with
  | nil => intro c c' _; rfl
  | cons m l ih =>
    obtain ⟨s, v, r⟩ := m
    intro c c' h
    unfold refK comK
    by_cases h0 : chk s v r = 0
    · have d : ¬ chk s v r ≠ 0 := by simp [h0]
      rw [if_neg d, if_neg d]
      by_cases h1 : s = sNone
      · rw [if_pos h1, if_pos h1]; exact ih c c' h
      · rw [if_neg h1, if_neg h1]
        have hs : (s = s ∧ s ≠ sNone ∧ s.toList.isEmpty = false) := ⟨rfl, h1, kind_full s v r h0⟩
        rcases h with ⟨a, b⟩ | ⟨a, b, d⟩
        · rw [if_neg (by simp [b]), if_neg (by simp [a])]
          exact ih s s (.inr hs)
        · subst a
          by_cases g : c = s
          · rw [if_neg (by simp [g]), if_neg (by simp [g])]
            exact ih s s (.inr hs)
          · rw [if_pos ⟨d, g⟩, if_pos ⟨b, g⟩]
    · rw [if_pos h0, if_pos h0]

set_option maxHeartbeats 400000 in
theorem refCheckMarks_many (n cap : Nat) (A : Option Addr) (w : World) (h : 256 < (n : Int)) (hm : (n : Int) ≤ 9223372036854775807) :
    Calls Tryz.prog 8 #[.slice A n cap] w (RetPost (.int .i64 5) w) := by
  go_enter Tryz.func8, Tryz.ntmps8
  go_wp2
  go_ret
  exact ⟨rfl, Below.refl _ _⟩

set_option maxHeartbeats 1000000 in
theorem refCheckMarks_any (L : List (ByteArray × Int × ByteArray)) (n cap : Nat) (A : Option Addr) (B : Nat) (w : World) (hM : Marks w B A n L) (hsm : n ≤ 256) :
    Calls Tryz.prog 8 #[.slice A n cap] w (RetPost (.int .i64 (refK ⟨#[]⟩ L)) w) := by
  obtain ⟨y, hy⟩ : ∃ y, refK ⟨#[]⟩ L = y := ⟨_, rfl⟩
  rw [hy]
  have HY : Hid (refK ⟨#[]⟩ L = y) := hy
  clear hy
  have hn0 : (n : Int) ≤ 256 := by omega
  have HM : Hid (∀ w', Below w.heap.size w w' → Marks w' B A n L) := fun w' hb => hM.below hb hM.2.1
  have hlen := hM.1
  have Hlen := Lib.hid hlen
  clear hM hlen hsm
  go_enter Tryz.func8, Tryz.ntmps8
  go_wp2
  go_loopw [4, 3] (fun i c wr => ∃ (k : Nat) (s : ByteArray), k ≤ n ∧ i = .int .i64 k ∧ c = .string s ∧ Below w.heap.size w wr ∧ Hid (refK s (L.drop k) = y)) (fun i _ _ => n - (intOf i).toNat)
  case atStart => exact ⟨0, ⟨#[]⟩, by omega, rfl, rfl, Below.refl _ _, HY⟩
  case round =>
    obtain ⟨k, c, hk, rfl, rfl, hb, HC⟩ := hrel
    by_cases hlt : k < n
    · obtain ⟨b, off, s, v, r, rfl, hbl, hL, c0, c1, c2⟩ := (HM.out _ hb).at_ hlt
      have hD : L.drop k = (s, v, r) :: L.drop (k + 1) := by
        have hkl := (List.getElem?_eq_some_iff.1 hL).1
        rw [List.drop_eq_getElem_cons hkl, (List.getElem?_eq_some_iff.1 hL).2]
      have hstep := HC.out
      rw [hD] at hstep
      unfold refK at hstep
      have HL := Lib.hid hL
      clear hL hD HC
      have hcm := refCheckMark_any s r v wr
      have after : ∀ w2, Below wr.heap.size wr w2 → Below w.heap.size w w2 ∧ w2.cell? ⟨b, off + k * 3, none⟩ = some (.string s) := fun w2 hb2 => by
        have hb3 := hb.trans (hb2.mono hb.size)
        refine ⟨hb3, ?_⟩
        obtain ⟨b', off', s', v', r', e1, _, e2, q0, _, _⟩ := (HM.out _ hb3).at_ hlt
        obtain ⟨rfl, rfl⟩ : b = b' ∧ off = off' := by simpa using e1
        have e3 : (s, v, r) = (s', v', r') := by simpa using HL.out.symm.trans e2
        obtain ⟨rfl, rfl, rfl⟩ : s = s' ∧ v = v' ∧ r = r' := by simpa using e3
        exact q0
      by_cases g0 : chk s v r = 0
      · rw [if_neg (by simp [g0])] at hstep
        rw [g0] at hcm
        clear g0
        by_cases g1 : s = sNone
        · rw [if_pos g1] at hstep
          have HS := Lib.hid hstep
          have k1 : (s.toList == [110, 111, 110, 101]) = true := by rw [none_beq]; simp [g1]
          clear g1 hstep
          go_wp2_with fail
          refine hcm.mono ?_
          rintro e w2 ⟨rfl, hb2⟩
          obtain ⟨hb3, x0⟩ := after _ hb2
          clear hb2 hcm after
          go_wp2
          exact ⟨⟨k + 1, c, by omega, by go_num, rfl, hb3, HS⟩, by simp [intOf]; omega⟩
        · rw [if_neg g1] at hstep
          have k1 : (s.toList == [110, 111, 110, 101]) = false := by rw [none_beq]; simp [g1]
          clear g1
          by_cases g2 : c.toList.isEmpty = false ∧ c ≠ s
          · rw [if_pos g2] at hstep
            obtain rfl : (13 : Int) = y := hstep
            have k2 : c.toList.isEmpty = false := g2.1
            have k3 : (c.toList == s.toList) = false := tl_ne g2.2
            clear g2
            go_wp2_with fail
            refine hcm.mono ?_
            rintro e w2 ⟨rfl, hb2⟩
            obtain ⟨hb3, x0⟩ := after _ hb2
            clear hb2 hcm after
            go_wp2
            go_ret
            exact ⟨rfl, hb3⟩
          · rw [if_neg g2] at hstep
            have HS := Lib.hid hstep
            clear hstep
            cases k2 : c.toList.isEmpty with
            | true =>
              clear g2
              go_wp2_with fail
              refine hcm.mono ?_
              rintro e w2 ⟨rfl, hb2⟩
              obtain ⟨hb3, x0⟩ := after _ hb2
              clear hb2 hcm after
              go_wp2
              exact ⟨⟨k + 1, s, by omega, by go_num, rfl, hb3, HS⟩, by simp [intOf]; omega⟩
            | false =>
              have g4 : c = s := Classical.byContradiction fun q => g2 ⟨k2, q⟩
              have k3 : (c.toList == s.toList) = true := by rw [g4]; simp
              clear g2 g4
              go_wp2_with fail
              refine hcm.mono ?_
              rintro e w2 ⟨rfl, hb2⟩
              obtain ⟨hb3, x0⟩ := after _ hb2
              clear hb2 hcm after
              go_wp2
              exact ⟨⟨k + 1, s, by omega, by go_num, rfl, hb3, HS⟩, by simp [intOf]; omega⟩
      · rw [if_pos g0] at hstep
        rw [hstep] at hcm g0
        have k0 : (y != 0) = true := by rw [bne_iff_ne]; exact g0
        clear hstep g0
        go_wp2_with fail
        refine hcm.mono ?_
        rintro e w2 ⟨rfl, hb2⟩
        obtain ⟨hb3, x0⟩ := after _ hb2
        clear hb2 hcm after
        go_wp2
        go_ret
        exact ⟨rfl, hb3⟩
    · have hkn : k = n := by omega
      have hstep := HC.out
      rw [hkn, List.drop_of_length_le (by rw [Hlen.out]; omega)] at hstep
      obtain rfl : (0 : Int) = y := by simpa [refK] using hstep
      clear hstep hkn HC
      go_wp2
      go_ret
      exact ⟨rfl, hb⟩
end Go.Mk
