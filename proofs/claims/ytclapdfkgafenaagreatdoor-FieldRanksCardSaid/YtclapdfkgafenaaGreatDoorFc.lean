/-
  Proved: CheckContest and CheckVertical of the reference of chapter 6 return the same plain functions as those of package field; ShortNames as a plain function. Conditions: the texts and the integers lie where the slices say; there are at most 1,000 of both, each text no longer than an int says.
-/
import Derived.Test.YtclapdfkgafenaaGreatDoorFb
set_option linter.unusedVariables false
set_option linter.unusedSimpArgs false
open Go Go.Proofs Go.RowKit
set_option maxRecDepth 100000
namespace Go.Mk
set_option maxHeartbeats 4000000 in
theorem r6checkName_any (L : List ByteArray) (n c k : Nat) (A : Option Addr) (s : ByteArray) (w : World) (hZ : TextsZ w A n L) (hn : n ≤ 1000) (hk : L[k]? = some s) (hz : s.size ≤ maxLen) :
    Calls Tryz.prog 42 #[.slice A n c, .int .i64 k] w (RetPost (.int .i64 (twE (L.take k) s)) w) := by
  have hkn : k < n := by have := (List.getElem?_eq_some_iff.1 hk).1; rw [hZ.1] at this; exact this
  have hN := fun w => refIsName_any s w hz
  obtain ⟨b, off, x, rfl, hbl, hx, hcx⟩ := hZ.at_ hkn
  rw [hk] at hx
  obtain rfl : s = x := Option.some.inj hx
  have hni : (n : Int) ≤ 1000 := by omega
  have hki : (k : Int) < (n : Int) := by omega
  have hk0 : (0 : Int) ≤ (k : Int) := by omega
  have hkt : ((k : Int)).toNat = k := by omega
  obtain ⟨y, hy⟩ : ∃ y, twE (L.take k) s = y := ⟨_, rfl⟩
  rw [hy]
  unfold twE nmE at hy
  cases hnb : isNm s with
  | false =>
    rw [hnb] at hy hN
    have hy8 : y = 8 := by rw [← hy]; simp [fstN]
    subst hy8
    clear hy hZ hk hx hnb
    go_enter Tryz.func42, Tryz.ntmps42
    go_wp2_with fail
    refine (hN _).mono ?_
    rintro e w1 ⟨rfl, rfl⟩
    go_wp2
    go_ret
    exact ⟨rfl, Below.refl _ _⟩
  | true =>
    rw [hnb] at hy hN
    have HT : Hid (isIn (L.take k) s = true → y = 9) := Lib.hid fun h => by rw [← hy, h]; simp [fstN]
    have HF : Hid (isIn (L.take k) s = false → y = 0) := Lib.hid fun h => by rw [← hy, h]; simp [fstN]
    have HM : Hid (∀ w', Below w.heap.size w w' → TextsZ w' (some ⟨b, off, none⟩) n L ∧ w'.cell? ⟨b, off + k, none⟩ = some (.string s)) := Lib.hid fun w' hb => ⟨hZ.below hb, (hb.cell (p := ⟨b, _, none⟩) hbl).trans hcx⟩
    clear hy hZ hk hx hnb
    go_enter Tryz.func42, Tryz.ntmps42
    go_wp2_with fail
    refine (hN _).mono ?_
    rintro e w1 ⟨rfl, rfl⟩
    go_wp2
    go_loopw [5] (fun i wr => ∃ j : Nat, j ≤ k ∧ i = .int .i64 j ∧ Hid (isIn (L.take j) s = false) ∧ Below w.heap.size w wr) (fun i _ => k - (intOf i).toNat)
    case atStart => exact ⟨0, by omega, rfl, Lib.hid rfl, Below.refl _ _⟩
    case round =>
      obtain ⟨j, hj, rfl, HK, hb⟩ := hrel
      by_cases hlt : j < k
      · obtain ⟨hZr, ck⟩ := HM.out _ hb
        obtain ⟨b', off', t, hA, _, hLj, cj⟩ := hZr.at_ (show j < n by omega)
        cases hA
        have hji : (j : Int) < (k : Int) := by omega
        have hjn : (j : Int) < (n : Int) := by omega
        have hj0 : (0 : Int) ≤ (j : Int) := by omega
        have hjt : ((j : Int)).toNat = j := by omega
        by_cases g : t = s
        · have hin : isIn (L.take k) s = true := isIn_mem.2 (by rw [← g]; exact List.mem_of_getElem? (show (L.take k)[j]? = some t by rw [List.getElem?_take_of_lt hlt]; exact hLj))
          obtain rfl : y = 9 := HT.out hin
          have gb : (t.toList == s.toList) = true := by rw [g]; simp
          clear hLj g HK hin hZr
          go_wp2_with fail
          go_quiet (fail)
          go_wp2
          go_ret
          exact ⟨rfl, below_drewN hb _⟩
        · have HK2 : Hid (isIn (L.take (j + 1)) s = false) := (show _ = _ by rw [isIn_take hLj, HK.out, decide_eq_false g]; rfl)
          have gb : (t.toList == s.toList) = false := tl_ne g
          clear hLj g HK hZr
          go_wp2_with fail
          go_quiet (fail)
          go_wp2
          exact ⟨⟨j + 1, by omega, by go_num, HK2, below_drewN hb _⟩, by simp [intOf]; omega⟩
      · obtain rfl : j = k := by omega
        obtain rfl : y = 0 := HF.out HK.out
        go_wp2
        go_ret
        exact ⟨rfl, hb⟩
def shNm (L : List ByteArray) : Bool := decide (L.length ≤ 35) && L.all fun s => decide (s.size ≤ 40)
end Go.Mk
