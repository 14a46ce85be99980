/-
  Proved: Print of the reference of chapter 6 returns the text of a card that PrintCard of package field returns. Conditions: the texts lie where the slices say; there are at most 1,000 of at most 5,000 bytes; the name has at most 300 bytes.
-/
import Derived.Test.YthpcmhcokblglaaGreatDoorFcg
import Derived.Test.YthpcmhcokblglaaGreatDoorFcj
set_option linter.unusedVariables false
set_option linter.unusedSimpArgs false
open Go Go.Proofs Go.RowKit
set_option maxRecDepth 100000
namespace Go.Mk
/-- Texts, a blank ahead of each. -/
def jT (L : List (List UInt8)) : List UInt8 := (L.map ([32] ++ ·)).flatten
theorem jT_append (a b : List (List UInt8)) : jT (a ++ b) = jT a ++ jT b := by unfold jT; simp
theorem jT_cons (a : List UInt8) (b : List (List UInt8)) : jT (a :: b) = 32 :: (a ++ jT b) := by unfold jT; simp
/-- The text of a card. -/
def prL (s : List UInt8) (H O : List (List UInt8)) (rt : Bool) : List UInt8 :=
  s ++ 58 :: (jT H ++ ((if O = [] then [] else 32 :: 124 :: jT O) ++ (if rt then [32, 114, 101, 116, 105, 114, 101, 100] else [])))
theorem bl_append (a b : ByteArray) : bl (a ++ b) = bl a ++ bl b := by
  show (a ++ b).data.toList = _
  rw [ByteArray.data_append, Array.toList_append]
theorem joinB_prL (s : ByteArray) (H O : List ByteArray) (rt : Bool) : joinB (wordsP s H O rt) = mkB (prL (bl s) (bls H) (bls O) rt) := by
  unfold joinB mkB
  congr 1
  congr 1
  unfold wordsP
  have e : ∀ x : ByteArray, x.data.toList = bl x := fun _ => rfl
  show Lib.join (bls _) [32] = _
  have hb : ∀ a b : List ByteArray, bls (a ++ b) = bls a ++ bls b := fun a b => by unfold bls; rw [List.map_append]
  rw [hb, hb, hb]
  have h1 : bls [s ++ sColon] = [bl s ++ [58]] := by unfold bls; rw [List.map_singleton, bl_append]; rfl
  rw [h1, List.append_assoc, List.append_assoc, List.singleton_append, Lib.join_cons]
  have hj : ∀ r, Lib.joinTail [32] r = jT r := fun r => rfl
  have k1 : jT (bls (if O = [] then [] else [sBar] ++ O)) = if bls O = [] then [] else 32 :: 124 :: jT (bls O) := by
    by_cases hO : O = []
    · subst hO; rfl
    · rw [if_neg hO, if_neg (by intro q; apply hO; cases O with | nil => rfl | cons a l => cases q), hb, jT_append]
      rfl
  have k2 : jT (bls (if rt = true then [sRetired] else [])) = if rt then [32, 114, 101, 116, 105, 114, 101, 100] else [] := by cases rt <;> rfl
  rw [hj, jT_append, jT_append, k1, k2]
  unfold prL
  simp
theorem jT_drop {L : List ByteArray} {k : Nat} {x : ByteArray} (h : L[k]? = some x) : jT ((bls L).drop k) = 32 :: (bl x ++ jT ((bls L).drop (k + 1))) := by rw [bls_at h, jT_cons]
set_option maxHeartbeats 8000000 in
theorem r6Print_any (s : ByteArray) (H O : List ByteArray) (nh ch no co : Nat) (AH AO : Option Addr) (rt : Bool) (w : World) (hz : s.size ≤ 300) (hZ : TextsZ w AH nh H) (hn : nh ≤ 1000) (hs : ∀ x ∈ H, x.size ≤ 5000) (hZ2 : TextsZ w AO no O) (hn2 : no ≤ 1000) (hs2 : ∀ x ∈ O, x.size ≤ 5000) :
    Calls Tryz.prog 25 #[.agg #[.string s, .slice AH nh ch, .slice AO no co, .bool rt]] w (RetPost (.string (mkB (prL (bl s) (bls H) (bls O) rt))) w) := by
  obtain ⟨g, hg⟩ : ∃ g, w.heap.size = g := ⟨_, rfl⟩
  obtain ⟨w1, hw1⟩ : ∃ w1, w.alloc (.cells #[.string s, .slice AH nh ch, .slice AO no co, .bool rt] 54) = w1 := ⟨_, rfl⟩
  have hb1 : Below w.heap.size w w1 := by rw [← hw1]; exact balloc _ (Below.refl _ _)
  have c0 : w1.cell? ⟨g, 0, none⟩ = some (.string s) := by rw [← hw1, ← hg]; simp
  have c1 : w1.cell? ⟨g, 1, none⟩ = some (.slice AH nh ch) := by rw [← hw1, ← hg]; simp
  have c2 : w1.cell? ⟨g, 2, none⟩ = some (.slice AO no co) := by rw [← hw1, ← hg]; simp
  have c3 : w1.cell? ⟨g, 3, none⟩ = some (.bool rt) := by rw [← hw1, ← hg]; simp
  have HZ1 := Lib.hid (hZ.below hb1)
  have HZ2 := Lib.hid (hZ2.below hb1)
  have HS1 := Lib.hid hs
  have HS2 := Lib.hid hs2
  have HB1 := Lib.hid hb1
  have hni : (nh : Int) ≤ 1000 := by omega
  have hno : (no : Int) ≤ 1000 := by omega
  have HL1 : Hid (H.length = nh) := hZ.1
  have HL2 : Hid (O.length = no) := hZ2.1
  obtain ⟨y, hy⟩ : ∃ y, prL (bl s) (bls H) (bls O) rt = y := ⟨_, rfl⟩
  rw [hy]
  have HY := Lib.hid hy
  clear hZ hZ2 hs hs2 hb1 hy
  have HSS : Hid (bl (s ++ ⟨#[58]⟩) ++ jT ((bls H).drop 0) = bl s ++ 58 :: jT (bls H)) := Lib.hid (by rw [bl_append]; simp [bl])
  have HSZ : Hid ((s ++ (⟨#[58]⟩ : ByteArray)).size ≤ 400) := Lib.hid (by rw [ByteArray.size_append]; show s.size + 1 ≤ 400; omega)
  go_enter Tryz.func25, Tryz.ntmps25
  go_wp2_with fail
  go_loop [3, 4] (fun sv i => ∃ (k : Nat) (t : ByteArray), k ≤ nh ∧ i = .int .i64 k ∧ sv = .string t ∧ t.size ≤ 400 + k * 5001 ∧ Hid (bl t ++ jT ((bls H).drop k) = bl s ++ 58 :: jT (bls H))) (fun _ i => nh - (intOf i).toNat)
  case atStart => exact ⟨0, _, by omega, rfl, rfl, HSZ.out, HSS⟩
  case round =>
    obtain ⟨k, t, hk, rfl, rfl, ht, HK⟩ := hrel
    by_cases hlt : k < nh
    · obtain ⟨b, off, x, rfl, hbl, hx, hcx⟩ := HZ1.out.at_ hlt
      have hki : (k : Int) < (nh : Int) := by omega
      have hk0 : (0 : Int) ≤ (k : Int) := by omega
      have hkt : ((k : Int)).toNat = k := by omega
      have hxs : x.size ≤ 5000 := HS1.out x (List.mem_of_getElem? hx)
      have htt : t.size ≤ 6000000 := by have : k * 5001 ≤ 1000 * 5001 := Nat.mul_le_mul_right _ (by omega); omega
      have hst := HK.out
      rw [jT_drop hx] at hst
      have HST : Hid (bl (t ++ ⟨#[32]⟩ ++ x) ++ jT ((bls H).drop (k + 1)) = bl s ++ 58 :: jT (bls H)) := Lib.hid (by rw [← hst, bl_append, bl_append]; simp [bl])
      have hsz2 : (t ++ (⟨#[32]⟩ : ByteArray)).size = t.size + 1 := by rw [ByteArray.size_append]; rfl
      have HT : Hid ((t ++ (⟨#[32]⟩ : ByteArray) ++ x).size ≤ 400 + (k + 1) * 5001) := Lib.hid (by rw [ByteArray.size_append, hsz2, Nat.add_mul]; omega)
      have hsz3 : (t ++ (⟨#[32]⟩ : ByteArray)).size ≤ 6000001 := by omega
      clear hst hx HK ht hsz2
      go_wp2
      exact ⟨⟨k + 1, _, by omega, by go_num, rfl, HT.out, HST⟩, by simp [intOf]; omega⟩
    · have hE := HK.out
      rw [show jT ((bls H).drop k) = [] by rw [bls_end HL1.out (by omega)]; rfl, List.append_nil] at hE
      have htt : t.size ≤ 6000000 := by have : k * 5001 ≤ 1000 * 5001 := Nat.mul_le_mul_right _ (by omega); omega
      have HE := Lib.hid hE
      have hkf : ¬ (k : Int) < (nh : Int) := by omega
      clear hE HK ht
      by_cases hO : no = 0
      · have hOe : bls O = [] := by
          have h1 := HL2.out
          rw [hO] at h1
          rw [List.length_eq_zero_iff.1 h1]; rfl
        have hnf : ¬ (0 : Int) < (no : Int) := by omega
        have HT0 : Hid (bl t ++ jT ((bls O).drop 0) = bl t) := Lib.hid (by rw [hOe]; simp [jT])
        have HV : Hid (bl t ++ (if rt then [32, 114, 101, 116, 105, 114, 101, 100] else []) = y) := Lib.hid (by rw [← HY.out, HE.out, hOe]; unfold prL; simp)
        clear hOe HT0 HE HY
        have HO0 := Lib.hid hO
        clear hO
        go_wp2_with fail
        go_loop [3, 5] (fun sv i => sv = .string t ∧ i = .int .i64 0) (fun _ _ => 0)
        case atStart => exact ⟨rfl, rfl⟩
        case round =>
          obtain ⟨rfl, rfl⟩ := hrel
          cases rt with
          | false =>
            have HV2 : Hid (t = mkB y) := Lib.hid (by rw [← HV.out]; simp [mkB_bl])
            go_wp2_with fail
            go_ret
            exact ⟨by rw [HV2.out]; rfl, HB1.out⟩
          | true =>
            have HV2 : Hid (t ++ ⟨#[32, 114, 101, 116, 105, 114, 101, 100]⟩ = mkB y) := Lib.hid (by rw [← HV.out, ← mkB_bl (t ++ _), bl_append]; rfl)
            go_wp2_with fail
            go_ret
            exact ⟨by rw [HV2.out]; rfl, HB1.out⟩
      · have hnf : (0 : Int) < (no : Int) := by omega
        have hOn : bls O ≠ [] := by
          intro q
          have := congrArg List.length q
          unfold bls at this
          rw [List.length_map, HL2.out] at this
          exact hO this
        have HVV : Hid (bl t ++ 32 :: 124 :: jT (bls O) ++ (if rt then [32, 114, 101, 116, 105, 114, 101, 100] else []) = y) := Lib.hid (by rw [← HY.out, HE.out]; unfold prL; rw [if_neg hOn]; simp)
        have HS0 : Hid (bl (t ++ ⟨#[32, 124]⟩) ++ jT ((bls O).drop 0) = bl t ++ 32 :: 124 :: jT (bls O)) := Lib.hid (by rw [bl_append]; simp [bl])
        have HZ0 : Hid ((t ++ (⟨#[32, 124]⟩ : ByteArray)).size ≤ 6000100) := Lib.hid (by rw [ByteArray.size_append]; show t.size + 2 ≤ _; omega)
        clear hOn HE HY hO
        go_wp2_with fail
        go_loop [3, 5] (fun sv i => ∃ (k : Nat) (u : ByteArray), k ≤ no ∧ i = .int .i64 k ∧ sv = .string u ∧ u.size ≤ 6000100 + k * 5001 ∧ Hid (bl u ++ jT ((bls O).drop k) = bl t ++ 32 :: 124 :: jT (bls O))) (fun _ i => no - (intOf i).toNat)
        case atStart => exact ⟨0, _, by omega, rfl, rfl, HZ0.out, HS0⟩
        case round =>
          obtain ⟨j, u, hj, rfl, rfl, hu, HJ⟩ := hrel
          by_cases hjt : j < no
          · obtain ⟨b, off, x, rfl, hbl, hx, hcx⟩ := HZ2.out.at_ hjt
            have hki : (j : Int) < (no : Int) := by omega
            have hk0 : (0 : Int) ≤ (j : Int) := by omega
            have hkt : ((j : Int)).toNat = j := by omega
            have hxs : x.size ≤ 5000 := HS2.out x (List.mem_of_getElem? hx)
            have htt : u.size ≤ 12000000 := by have : j * 5001 ≤ 1000 * 5001 := Nat.mul_le_mul_right _ (by omega); omega
            have hst := HJ.out
            rw [jT_drop hx] at hst
            have HST : Hid (bl (u ++ ⟨#[32]⟩ ++ x) ++ jT ((bls O).drop (j + 1)) = bl t ++ 32 :: 124 :: jT (bls O)) := Lib.hid (by rw [← hst, bl_append, bl_append]; simp [bl])
            have hsz2 : (u ++ (⟨#[32]⟩ : ByteArray)).size = u.size + 1 := by rw [ByteArray.size_append]; rfl
            have HT : Hid ((u ++ (⟨#[32]⟩ : ByteArray) ++ x).size ≤ 6000100 + (j + 1) * 5001) := Lib.hid (by rw [ByteArray.size_append, hsz2, Nat.add_mul]; omega)
            have hsz3 : (u ++ (⟨#[32]⟩ : ByteArray)).size ≤ 12000001 := by omega
            clear hst hx HJ hu hsz2
            go_wp2
            exact ⟨⟨j + 1, _, by omega, by go_num, rfl, HT.out, HST⟩, by simp [intOf]; omega⟩
          · have hE := HJ.out
            rw [show jT ((bls O).drop j) = [] by rw [bls_end HL2.out (by omega)]; rfl, List.append_nil] at hE
            have htt2 : u.size ≤ 12000000 := by have : j * 5001 ≤ 1000 * 5001 := Nat.mul_le_mul_right _ (by omega); omega
            have HV : Hid (bl u ++ (if rt then [32, 114, 101, 116, 105, 114, 101, 100] else []) = y) := Lib.hid (by rw [← HVV.out, hE])
            have hjf : ¬ (j : Int) < (no : Int) := by omega
            clear hE HJ hu HVV
            cases rt with
            | false =>
              have HV2 : Hid (u = mkB y) := Lib.hid (by rw [← HV.out]; simp [mkB_bl])
              go_wp2_with fail
              go_ret
              exact ⟨by rw [HV2.out]; rfl, HB1.out⟩
            | true =>
              have HV2 : Hid (u ++ ⟨#[32, 114, 101, 116, 105, 114, 101, 100]⟩ = mkB y) := Lib.hid (by rw [← HV.out, ← mkB_bl (u ++ _), bl_append]; rfl)
              go_wp2_with fail
              go_ret
              exact ⟨by rw [HV2.out]; rfl, HB1.out⟩
end Go.Mk
