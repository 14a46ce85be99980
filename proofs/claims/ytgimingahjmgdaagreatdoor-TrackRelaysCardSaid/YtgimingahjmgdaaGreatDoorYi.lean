/-
  Proved: the zones of a relay by package track and by its reference, and the reference's distance. Conditions: the legs lie where the slice says; there is at least one.
-/
import Derived.Test.YtgimingahjmgdaaGreatDoorYh
set_option linter.unusedVariables false
set_option linter.unusedSimpArgs false
open Go Go.Proofs Go.RowKit
set_option maxRecDepth 100000
namespace Go.Mk
theorem RelB.old {W w w' : World} {A : Option Addr} {g n cap : Nat} {z b : Int} {L : List Int} (h : RelB W g A n cap z b L w) (hb : Below (g + 1) w w') (hs : w.heap.size = g + 1) : RelB W g A n cap z b L w' := h.next (by rw [hs]; exact hb)
set_option maxHeartbeats 4000000 in
theorem r7Zones_any (L : List Int) (n cap : Nat) (A : Option Addr) (z b : Int) (w : World) (hZ : IntsZ w A (n + 1) L) (hn : n ≤ 100) :
    Calls Tryz.prog 16 #[.agg #[.slice A (n + 1) cap, .int .i64 z, .int .i64 b]] w (fun e w' => ∃ v, e = .returned v ∧ OwnPairs w' (w.heap.size + 1) v (zonesW z b (L.take n) 0) ∧ Below w.heap.size w w') := by
  have hni : (n : Int) ≤ 100 := by omega
  obtain ⟨i0, hi, hz0, hz1, hz2⟩ := info_parts infoPair
  have HL := Lib.hid hZ.1
  obtain ⟨F, hF⟩ : ∃ F, zonesW z b (L.take n) 0 = F := ⟨_, rfl⟩
  rw [hF]
  have HF := Lib.hid hF
  have HN := Lib.hid (RelB.new (cap := cap) (z := z) (b := b) hZ 26)
  have hsz : (w.alloc (.cells #[.slice A (n + 1) cap, .int .i64 z, .int .i64 b] 26)).heap.size = w.heap.size + 1 := by simp
  clear hZ hF
  go_enter Tryz.func16, Tryz.ntmps16
  go_wp2
  obtain ⟨w1, hw1⟩ : ∃ w1, w.alloc (.cells #[.slice A (n + 1) cap, .int .i64 z, .int .i64 b] 26) = w1 := ⟨_, rfl⟩
  rw [hw1] at HN hsz ⊢
  obtain ⟨g0, hg0⟩ : ∃ g0, w.heap.size = g0 := ⟨_, rfl⟩
  rw [hg0] at HN hsz ⊢
  clear hw1
  go_loopw [3, 4, 5] (fun v e i wr => ∃ (k : Nat) (s : Int) (P : List (Int × Int)), k ≤ n ∧ P.length = k ∧ i = .int .i64 k ∧ e = .int .i64 s ∧ Hid (P ++ zonesW z b ((L.take n).drop k) s = F) ∧ OwnPairs wr (g0 + 1) v P ∧ Below (g0 + 1) w1 wr) (fun _ _ i _ => n - (intOf i).toNat)
  case atStart => exact ⟨0, 0, [], by omega, rfl, rfl, rfl, Lib.hid (by rw [List.drop_zero]; exact HF.out), World.ownsRow_nil _ _ _ _, Below.refl _ _⟩
  case round =>
    obtain ⟨k, s, P, hk, hP, rfl, rfl, HK, hown, hb⟩ := hrel
    obtain ⟨c0, c1, c2, hgr, hbw, hzr⟩ := HN.out.old hb hsz
    by_cases hlt : k < n
    · obtain ⟨b', off, x, rfl, hbl, hx, hc0⟩ := hzr.cellAt (show k < n + 1 by omega)
      have hki : (k : Int) < (n : Int) := by omega
      have hki1 : (k : Int) + 1 < (n : Int) + 1 := by omega
      have hki2 : (k : Int) < (n : Int) + 1 := by omega
      have hst := HK.out
      rw [zonesW_drop z b s (show (L.take n)[k]? = some x by rw [List.getElem?_take_of_lt hlt]; exact hx)] at hst
      have Hst : Hid ((P ++ [(wrap64 (wrap64 (s + x) - b), wrap64 (wrap64 (wrap64 (s + x) - b) + z))]) ++ zonesW z b ((L.take n).drop (k + 1)) (wrap64 (s + x)) = F) := Lib.hid (by rw [← hst]; simp)
      clear hst HK hx hzr
      go_wp2_with (at_builtin; refine wpList_append_own _ rfl _ _ 32 rfl (g0 + 1) 47 i0 (.agg #[.int .i64 0, .int .i64 0]) 2 16 Tryz.underlying32 hi hz0 hz1 hz2 rfl (by decide) _ _ _ rfl (World.ownsRow.alloc hown _) ⟨wr.heap.size, 0, none⟩ 1 1 (pairC (wrap64 (wrap64 (s + x) - b), wrap64 (wrap64 (wrap64 (s + x) - b) + z))) rfl rfl ?c1 ?c2 ?c3 ?c4 ?c5 ?_)
      case c1 =>
        intro j u hj
        match j, hj with
        | 0, hj => simp [pairC] at hj; subst hj; simp [Addr.add]
        | 1, hj => simp [pairC] at hj; subst hj; simp [Addr.add]
      case c2 => intro u hu; simp [pairC] at hu; rcases hu with rfl | rfl <;> rfl
      case c3 => unfold maxLen; omega
      case c4 => omega
      case c5 => have := hb.size; simp; omega
      intro v' w2 hown' hgrow _
      have hb2 : Below (g0 + 1) w1 w2 := (hb.alloc (by omega) _).grown hgrow (by have := hb.size; simp; omega) (fun r hr => (World.ownsRow.lt hown r hr).1)
      have ho2 : OwnPairs w2 (g0 + 1) v' (P ++ [(wrap64 (wrap64 (s + x) - b), wrap64 (wrap64 (wrap64 (s + x) - b) + z))]) := OwnPairs.next (by rw [hP]; simpa using hown')
      clear hown' hgrow hown hb
      go_wp2
      go_roundw
      case rel => exact ⟨k + 1, _, _, by omega, by simp [hP], by go_num, rfl, Hst, ho2, hb2⟩
      case measure => simp [intOf]; omega
    · have hkn : k = n := by omega
      have hki1 : ¬ ((k : Int) + 1 < (n : Int) + 1) := by omega
      have h0 := HK.out
      rw [hkn, List.drop_of_length_le (by rw [List.length_take, HL.out]; omega), zonesW, List.append_nil] at h0
      subst h0
      clear HK
      go_wp2
      go_ret
      exact ⟨_, rfl, hown, by rw [← hg0]; exact hbw⟩
set_option maxHeartbeats 1000000 in
theorem r7Whole_any (L : List Int) (n cap : Nat) (A : Option Addr) (z b : Int) (w : World) (hZ : IntsZ w A n L) (hn : n ≤ 100) :
    Calls Tryz.prog 48 #[.agg #[.slice A n cap, .int .i64 z, .int .i64 b]] w (RetPost (.int .i64 (sumW L 0)) w) := by
  have hni : (n : Int) ≤ 100 := by omega
  have Hn := Lib.hid hZ.1
  obtain ⟨y, hy⟩ : ∃ y, sumW L 0 = y := ⟨_, rfl⟩
  rw [hy]
  have HY : Hid (sumW (L.drop 0) 0 = y) := by rw [← hy]; rfl
  obtain ⟨c0, c1, c2, hgr, hbw, hzr⟩ := RelB.new (cap := cap) (z := z) (b := b) hZ 26
  have H := Lib.hid hzr
  clear hZ hy hzr
  go_enter Tryz.func48, Tryz.ntmps48
  go_wp2
  go_loop [3, 4] (fun s i => ∃ (k : Nat) (v : Int), k ≤ n ∧ i = .int .i64 k ∧ s = .int .i64 v ∧ Hid (sumW (L.drop k) v = y)) (fun _ i => n - (intOf i).toNat)
  case atStart => exact ⟨0, 0, by omega, rfl, rfl, HY⟩
  case round =>
    obtain ⟨k, v, hk, rfl, rfl, HK⟩ := hrel
    by_cases hlt : k < n
    · obtain ⟨b', off, x, rfl, hbl, hx, hc⟩ := H.out.cellAt hlt
      have hki : (k : Int) < (n : Int) := by omega
      have hd : L.drop k = x :: L.drop (k + 1) := by
        have hkl := (List.getElem?_eq_some_iff.1 hx).1
        rw [List.drop_eq_getElem_cons hkl, (List.getElem?_eq_some_iff.1 hx).2]
      have Hst : Hid (sumW (L.drop (k + 1)) (wrap64 (v + x)) = y) := Lib.hid (by have := HK.out; rw [hd] at this; exact this)
      clear HK hx hd
      go_wp2
      exact ⟨⟨k + 1, _, by omega, by go_num, rfl, Hst⟩, by simp [intOf]; omega⟩
    · have hkn : k = n := by omega
      have h0 := HK.out
      rw [hkn, List.drop_of_length_le (by rw [Hn.out]; omega)] at h0
      have h0' : v = y := h0
      subst h0'
      go_wp2
      go_ret
      exact ⟨rfl, hbw⟩
end Go.Mk
