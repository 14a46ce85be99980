/-
  Proved: the acts of the law in new memory, and its first error. Conditions: the acts lie where the slice says, and are no more than memory holds.
-/
import Derived.Test.YthpcmhcokblglaaGreatDoorFq
set_option linter.unusedVariables false
set_option linter.unusedSimpArgs false
open Go Go.Proofs Go.RowKit
set_option maxRecDepth 100000
namespace Go.Mk
theorem OwnActs.next {w1 : World} {T : TypeId} {B : Nat} {v' : Value} {L : List ActR} {r : ActR} (h : w1.ownsRow B T 3 v' (L.length + 1) (L.flatMap actC ++ actC r)) : OwnActs w1 T B v' (L ++ [r]) := by
  unfold OwnActs
  rw [List.length_append, List.flatMap_append]
  simpa using h
set_option maxHeartbeats 4000000 in
theorem l6acts_any (L : List ActR) (n cap : Nat) (A : Option Addr) (w : World) (hZ : Acts w A n L) (hn : n ≤ 2000) :
    Calls Tryz.prog 17 #[.slice A n cap] w (fun e w' => ∃ v, e = .returned v ∧ OwnActs w' 44 w.heap.size v L ∧ Below w.heap.size w w') := by
  have hni : (n : Int) ≤ 2000 := by omega
  obtain ⟨i0, hi, hz0, hz1, hz2⟩ := info_parts infoAct
  have H := Lib.hid hZ
  have HL := Lib.hid hZ.1
  clear hZ
  go_enter Tryz.func17, Tryz.ntmps17
  go_wp2
  go_loopw [3, 8] (fun v i wr => ∃ k : Nat, k ≤ n ∧ i = .int .i64 k ∧ OwnActs wr 44 w.heap.size v (L.take k) ∧ Below w.heap.size w wr) (fun _ i _ => n - (intOf i).toNat)
  case atStart => exact ⟨0, by omega, rfl, World.ownsRow_nil _ _ _ _, Below.refl _ _⟩
  case round =>
    obtain ⟨k, hk, rfl, hown, hb⟩ := hrel
    by_cases hlt : k < n
    · obtain ⟨b', off, q, rfl, hbl, hx, hc0, hc1, hc2⟩ := (H.out.below hb).at_ hlt
      have hki : (k : Int) < (n : Int) := by omega
      have hk0 : (0 : Int) ≤ (k : Int) := by omega
      have hkt : ((k : Int)).toNat = k := by omega
      have hlen : (L.take k).length = k := by rw [List.length_take, HL.out]; omega
      have hst : L.take (k + 1) = L.take k ++ [q] := by rw [List.take_add_one, hx]; rfl
      have Hst := Lib.hid hst
      have Hlen := Lib.hid hlen
      clear hst hlen hx
      go_wp2_with (at_builtin; refine wpList_append_own _ rfl _ _ 46 rfl w.heap.size 44 i0 (.agg #[.string ⟨#[]⟩, .string ⟨#[]⟩, .int .i64 0]) 3 40 Tryz.underlying46 hi hz0 hz1 hz2 rfl (by decide) _ _ _ rfl (World.ownsRow.alloc (World.ownsRow.alloc hown _) _) ⟨wr.heap.size + 1, 0, none⟩ 1 1 (actC q) rfl rfl ?c1 ?c2 ?c3 ?c4 ?c5 ?_)
      case c1 =>
        intro j u hj
        match j, hj with
        | 0, hj => simp [actC] at hj; subst hj; simp [Addr.add]
        | 1, hj => simp [actC] at hj; subst hj; simp [Addr.add]
        | 2, hj => simp [actC] at hj; subst hj; simp [Addr.add]
      case c2 => intro u hu; simp [actC] at hu; rcases hu with rfl | rfl | rfl <;> rfl
      case c3 => unfold maxLen; have := Hlen.out; omega
      case c4 => have := Hlen.out; omega
      case c5 => have := hb.size; simp; omega
      intro v' w2 hown' hgrow _
      have hb2 : Below w.heap.size w w2 := ((hb.alloc hb.size _).alloc (by have := hb.size; simp; omega) _).grown hgrow (by have := hb.size; simp; omega) (fun r hr => (World.ownsRow.lt hown r hr).1)
      have ho2 : OwnActs w2 44 w.heap.size v' (L.take (k + 1)) := by rw [Hst.out]; exact OwnActs.next (by rw [List.length_take]; exact hown')
      clear hown' hgrow hown hb hc0 hc1 hc2
      go_wp2
      go_roundw
      case rel => exact ⟨k + 1, by omega, by go_num, ho2, hb2⟩
      case measure => simp [intOf]; omega
    · have hkn : k = n := by omega
      rw [hkn, List.take_of_length_le (by rw [HL.out]; omega)] at hown
      have HO := Lib.hid hown
      clear hown
      go_wp2
      go_ret
      exact ⟨_, rfl, HO.out, hb⟩
set_option maxHeartbeats 1000000 in
theorem l6first_any (L : List Int) (n : Nat) (hn : L.length = n) (hs : n ≤ 100) (g : Nat) (w : World) (h : Es w g L) :
    Calls Tryz.prog 18 #[.slice (some ⟨g, 0, none⟩) n n] w (RetSame (.int .i64 (fstN L)) w) := by
  have H := Lib.hid h
  have Hn := Lib.hid hn
  have hni : (n : Int) ≤ 100 := by omega
  obtain ⟨y, hy⟩ : ∃ y, fstN L = y := ⟨_, rfl⟩
  rw [hy]
  have HY : Hid (fstN (L.drop 0) = y) := by rw [← hy]; rfl
  clear h hn hs hy
  go_enter Tryz.func18, Tryz.ntmps18
  go_wp2
  go_loop [7] (fun i => ∃ k : Nat, k ≤ n ∧ i = .int .i64 k ∧ Hid (fstN (L.drop k) = y)) (fun i => n - (intOf i).toNat)
  case atStart => exact ⟨0, by omega, rfl, HY⟩
  case round =>
    obtain ⟨k, hk, rfl, HK⟩ := hrel
    by_cases hlt : k < n
    · obtain ⟨z, hz, hc⟩ := es_get H.out (k := k) (by rw [Hn.out]; exact hlt)
      have hst := fstN_drop L k z hz
      rw [HK.out] at hst
      have hki : (k : Int) < (n : Int) := by omega
      by_cases h0 : z = 0
      · subst h0
        rw [if_pos rfl] at hst
        have Hst : Hid (fstN (L.drop (k + 1)) = y) := hst.symm
        clear hst hz HK
        go_wp2
        exact ⟨⟨k + 1, by omega, by go_num, Hst⟩, by simp [intOf]; omega⟩
      · rw [if_neg h0] at hst
        subst hst
        have hb : (y != 0) = true := by rw [bne_iff_ne]; exact h0
        clear hz HK HY
        go_wp2
        go_ret
        exact ⟨rfl, rfl⟩
    · have hkn : k = n := by omega
      have h0 := HK.out
      rw [hkn, List.drop_of_length_le (by rw [Hn.out]; omega)] at h0
      have h0' : 0 = y := h0
      subst h0'
      go_wp2
      go_ret
      exact ⟨rfl, rfl⟩
end Go.Mk
