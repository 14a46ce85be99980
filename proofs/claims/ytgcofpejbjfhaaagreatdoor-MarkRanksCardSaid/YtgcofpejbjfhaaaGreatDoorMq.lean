/-
  Proved: the reference's Ranks returns the ranks of a list of marks without an error. Conditions: the list lies where the slice says, its marks have no error and are of one kind or none.
-/
import Derived.Test.YtgcofpejbjfhaaaGreatDoorMp
import Derived.Test.YtgcofpejbjfhaaaGreatDoorRj
import Derived.OwnWalk
import Derived.Deep.DeepCutAuto
set_option linter.unusedVariables false
set_option linter.unusedSimpArgs false
open Go Go.Proofs Go.RowKit
set_option maxRecDepth 100000
namespace Go.Mk
theorem own_below {w w' : World} {base e size n : Nat} {v : Value} {xs : List Value} (h : w.ownsRow base e size v n xs) (hb : Below w.heap.size w w') : w'.ownsRow base e size v n xs := by
  refine ⟨h.1, ?_⟩
  rcases h.2 with ⟨a, b⟩ | ⟨g, cap, cur, a, b, c, d⟩
  · exact .inl ⟨a, b⟩
  · refine .inr ⟨g, cap, cur, a, b, ?_, d⟩
    have hg : g < w.heap.size := by
      rcases Nat.lt_or_ge g w.heap.size with hl | hl
      · exact hl
      · rw [Array.getElem?_eq_none hl] at c; cases c
    exact (hb.block g hg).trans c
/-- All marks have no error, and are of a kind or none. -/
def AllOf (c : ByteArray) (L : List (ByteArray × Int × ByteArray)) : Prop := ∀ m ∈ L, chk m.1 m.2.1 m.2.2 = 0 ∧ (m.1 = sNone ∨ m.1 = c)
theorem comK_all (L : List (ByteArray × Int × ByteArray)) : ∀ c y : ByteArray, comK c L = (y, 0) → AllOf y L ∧ (c = sNone ∨ c = y) := by
  induction L with
  | nil =>
    intro c y h
    have : c = y := by simpa [comK] using h
    exact ⟨fun m hm => (by cases hm), .inr this⟩
  | cons m l ih =>
    obtain ⟨s, v, r⟩ := m
    intro c y h
    unfold comK at h
    by_cases h0 : chk s v r = 0
    · rw [if_neg (by simp [h0])] at h
      by_cases h1 : s = sNone
      · rw [if_pos h1] at h
        obtain ⟨a, b⟩ := ih c y h
        refine ⟨fun m hm => ?_, b⟩
        rcases List.mem_cons.1 hm with rfl | hm
        · exact ⟨h0, .inl h1⟩
        · exact a m hm
      · rw [if_neg h1] at h
        by_cases h2 : c ≠ sNone ∧ c ≠ s
        · rw [if_pos h2] at h; simp at h
        · rw [if_neg h2] at h
          obtain ⟨a, b⟩ := ih s y h
          have hsy : s = y := by rcases b with b | b; exact absurd b h1; exact b
          refine ⟨fun m hm => ?_, ?_⟩
          · rcases List.mem_cons.1 hm with rfl | hm
            · exact ⟨h0, .inr hsy⟩
            · exact a m hm
          · by_cases hc : c = sNone
            · exact .inl hc
            · exact .inr ((Classical.byContradiction fun q => h2 ⟨hc, q⟩ : c = s).trans hsy)
    · rw [if_pos h0] at h
      have := congrArg Prod.snd h
      exact absurd this h0
theorem cmpv_t (a b : Int) : (a < b ∧ cmpv true a b = -1) ∨ (a = b ∧ cmpv true a b = 0) ∨ (b < a ∧ cmpv true a b = 1) := by
  unfold cmpv
  rcases (show a < b ∨ a = b ∨ b < a by omega) with h | h | h
  · exact .inl ⟨h, by rw [if_neg (by omega), if_pos (by simp [h])]⟩
  · exact .inr (.inl ⟨h, by rw [if_pos h]⟩)
  · exact .inr (.inr ⟨h, by rw [if_neg (by omega), if_neg (by simp; omega)]⟩)
theorem cmpv_f (a b : Int) : (b < a ∧ cmpv false a b = -1) ∨ (a = b ∧ cmpv false a b = 0) ∨ (a < b ∧ cmpv false a b = 1) := by
  unfold cmpv
  rcases (show a < b ∨ a = b ∨ b < a by omega) with h | h | h
  · exact .inr (.inr ⟨h, by rw [if_neg (by omega), if_neg (by simp [h])]⟩)
  · exact .inr (.inl ⟨h, by rw [if_pos h]⟩)
  · exact .inl ⟨h, by rw [if_neg (by omega), if_pos (by simp; omega)]⟩
theorem cmp_neg (s' : ByteArray) (v' : Int) (r' s : ByteArray) (v : Int) (r : ByteArray) (h1 : chk s' v' r' = 0) (h2 : chk s v r = 0) (hs : s ≠ sNone) (h : s' = sNone ∨ s' = s) :
    decide ((cmpM s' v' r' s v r).1 < 0) = isBetter (decide (s = sTime)) v (s', v', r') := by
  unfold isBetter
  rw [none_beq]
  by_cases a : s' = sNone
  · have e : (cmpM s' v' r' s v r).1 = 1 := by
      unfold cmpM
      rw [if_neg (by simp [fst2_nil h1 h2]), if_neg (fun q => hs (by rw [← q, a])), if_neg hs, if_pos a]
    rw [e]
    simp [a]
  · have b : s' = s := by rcases h with h | h; exact absurd h a; exact h
    subst b
    rw [cmpM_alike s' v' r' v r h1 h2]
    simp only [a, decide_false, Bool.not_false, Bool.true_and]
    unfold betterB
    by_cases ht : s' = sTime
    · simp only [ht, decide_true, if_true]
      rcases cmpv_t v' v with ⟨i, j⟩ | ⟨i, j⟩ | ⟨i, j⟩ <;> (rw [j]; simp; omega)
    · simp only [ht, decide_false]
      rcases cmpv_f v' v with ⟨i, j⟩ | ⟨i, j⟩ | ⟨i, j⟩ <;> (rw [j]; simp; omega)

theorem Marks.cells {w : World} {B n b off k : Nat} {L : List (ByteArray × Int × ByteArray)} {s r : ByteArray} {v : Int} (h : Marks w B (some ⟨b, off, none⟩) n L) (hL : L[k]? = some (s, v, r)) :
    w.cell? ⟨b, off + k * 3, none⟩ = some (.string s) ∧ w.cell? ⟨b, off + k * 3 + 1, none⟩ = some (.int .i64 v) ∧ w.cell? ⟨b, off + k * 3 + 2, none⟩ = some (.string r) := by
  have hk := (List.getElem?_eq_some_iff.1 hL).1
  rw [h.1] at hk
  obtain ⟨b', off', s', v', r', e1, _, e2, q0, q1, q2⟩ := h.at_ hk
  obtain ⟨rfl, rfl⟩ : b = b' ∧ off = off' := by simpa using e1
  have e3 : (s, v, r) = (s', v', r') := by simpa using hL.symm.trans e2
  obtain ⟨rfl, rfl, rfl⟩ : s = s' ∧ v = v' ∧ r = r' := by simpa using e3
  exact ⟨q0, q1, q2⟩
theorem take_map (f : (ByteArray × Int × ByteArray) → Nat) (L : List (ByteArray × Int × ByteArray)) (k : Nat) (m : ByteArray × Int × ByteArray) (h : L[k]? = some m) : (L.take (k + 1)).map f = (L.take k).map f ++ [f m] := by
  obtain ⟨hk, e⟩ := List.getElem?_eq_some_iff.1 h
  rw [List.take_succ_eq_append_getElem hk, e]
  simp

/-- What the reference's Ranks leaves. -/
def Ranked2 (b : Bool) (L : List (ByteArray × Int × ByteArray)) (n : Nat) (w : World) (e : Ending) (w' : World) : Prop :=
  ∃ v, e = .returned v ∧ w'.ownsRow w.heap.size 3 1 v n ((L.map (rankM b L)).map fun x => Value.int .i64 ((x : Nat) : Int)) ∧ Below w.heap.size w w'

set_option maxHeartbeats 4000000 in
theorem refRanks_any (L : List (ByteArray × Int × ByteArray)) (n cap : Nat) (A : Option Addr) (B : Nat) (w : World) (hM : Marks w B A n L) (hsm : n ≤ 100) (c : ByteArray) (hall : AllOf c L) (bt : Bool) (hbt : c ≠ sNone → decide (c = sTime) = bt) :
    Calls Tryz.prog 30 #[.slice A n cap] w (Ranked2 bt L n w) := by
  have hn0 : (n : Int) ≤ 100 := by omega
  obtain ⟨i0, hi0, hz0, hz1, hz2⟩ := info_parts infoInt
  have HM : Hid (∀ w', Below w.heap.size w w' → Marks w' B A n L) := fun w' hb => hM.below hb hM.2.1
  have hlen := hM.1
  have Hlen := Lib.hid hlen
  have HA : Hid (AllOf c L) := hall
  clear hM hlen hall
  go_enter Tryz.func30, Tryz.ntmps30
  go_wp2
  go_loopw [4, 3] (fun i o wr => ∃ k : Nat, k ≤ n ∧ i = .int .i64 k ∧ wr.ownsRow w.heap.size 3 1 o k (((L.take k).map (rankM bt L)).map fun x => Value.int .i64 ((x : Nat) : Int)) ∧ Below w.heap.size w wr) (fun i _ _ => n - (intOf i).toNat)
  case atStart => exact ⟨0, by omega, rfl, by simpa using World.ownsRow_nil _ _ _ _, Below.refl _ _⟩
  case round =>
    obtain ⟨k, hk, rfl, hown, hb⟩ := hrel
    by_cases hlt : k < n
    · obtain ⟨b, off, s, v, r, rfl, hbl, hL, c0, c1, c2⟩ := (HM.out _ hb).at_ hlt
      cases g1 : (s.toList == [110, 111, 110, 101]) with
      | true =>
        have hrk : rankM bt L (s, v, r) = 0 := by unfold rankM; rw [if_pos g1]
        have hst := take_map (rankM bt L) L k _ hL
        rw [hrk] at hst
        have Hst := Lib.hid hst
        clear hst hrk hL
        go_wp2_with (at_builtin; refine wpList_append_own _ rfl _ _ 22 rfl w.heap.size 3 i0 (.int .i64 0) 1 8 Tryz.underlying22 hi0 hz0 hz1 hz2 rfl (by decide) _ _ _ rfl (hown.alloc _) ⟨wr.heap.size, 0, none⟩ 1 1 [.int .i64 0] rfl rfl ?c1 ?c2 ?c3 ?c4 ?c5 ?_)
        case c1 => intro j u hu; match j, hu with | 0, hu => cases hu; simp [Addr.add]
        case c2 => intro u hu; simp at hu; subst hu; rfl
        case c3 => unfold maxLen; omega
        case c4 => omega
        case c5 => have := hb.size; simp; omega
        intro v' w1 hown' hgrow _
        have hb' := (hb.alloc hb.size (.cells #[.int .i64 0] 3)).grown hgrow (by have := hb.size; simp; omega) (fun g hg => by
          rcases hown.2 with ⟨a, _⟩ | ⟨g', cap', cur, a, b', _⟩
          · subst a; simp [Value.ownBlock] at hg
          · subst a; simp [Value.ownBlock] at hg; omega)
        have hfin : w1.ownsRow w.heap.size 3 1 v' (k + 1) (((L.take (k + 1)).map (rankM bt L)).map fun x => Value.int .i64 ((x : Nat) : Int)) := by
          rw [Hst.out]
          simpa [List.map_take] using hown'
        clear hown hown' hgrow hb
        go_wp2
        exact ⟨⟨k + 1, by omega, by go_num, hfin, hb'⟩, by simp [intOf]; omega⟩
      | false =>
        have hmem : (s, v, r) ∈ L := List.mem_of_getElem? hL
        obtain ⟨hchk, hkind⟩ := HA.out _ hmem
        have hsn : s ≠ sNone := fun e => by rw [none_beq, e] at g1; simp at g1
        have hsc : s = c := by rcases hkind with h | h; exact absurd h hsn; exact h
        have hbt' : decide (s = sTime) = bt := by rw [hsc]; exact hbt (hsc ▸ hsn)
        have hrk : rankM bt L (s, v, r) = 1 + cntB bt v L := by unfold rankM; rw [if_neg (by simp [g1])]
        have hst := take_map (rankM bt L) L k _ hL
        rw [hrk] at hst
        have Hst := Lib.hid hst
        have HL := Lib.hid hL
        have Hsc := Lib.hid hsc
        have Hbt := Lib.hid hbt'
        have Hchk := Lib.hid hchk
        clear hst hrk hL hsc hbt' hchk hkind hmem
        obtain ⟨wo, hwo⟩ : ∃ wo : World, wo = wr := ⟨_, rfl⟩
        subst hwo
        have Hown := Lib.hid hown
        clear hown
        go_wp2
        go_loopw [6, 5] (fun j x wx => ∃ q : Nat, q ≤ n ∧ j = .int .i64 q ∧ x = .int .i64 (1 + (cntB bt v (L.take q) : Int)) ∧ Below wo.heap.size wo wx) (fun j _ _ => n - (intOf j).toNat)
        case atStart => exact ⟨0, by omega, rfl, by simp [cntB], Below.refl _ _⟩
        case round =>
          obtain ⟨q, hq, rfl, rfl, hbx⟩ := hrel
          have hbw := hb.trans (hbx.mono hb.size)
          have hle := cntB_le bt v L q
          obtain ⟨z, hz⟩ : ∃ z, cntB bt v (L.take q) = z := ⟨_, rfl⟩
          rw [hz] at hle ⊢
          have Hz := Lib.hid hz
          clear hz
          by_cases hqn : q < n
          · obtain ⟨d0, d1, d2⟩ := (HM.out _ hbw).cells HL.out
            obtain ⟨b', off', s', v', r', e1, _, hL', p0, p1, p2⟩ := (HM.out _ hbw).at_ hqn
            obtain ⟨rfl, rfl⟩ : b = b' ∧ off = off' := by simpa using e1
            obtain ⟨hchk', hkind'⟩ := HA.out _ (List.mem_of_getElem? hL')
            have hcmp := cmp_neg s' v' r' s v r hchk' Hchk.out hsn (by rw [Hsc.out]; exact hkind')
            rw [Hbt.out] at hcmp
            have hcon := fun w => refCompare_any s' r' s r v' v w hchk' Hchk.out (by rw [Hsc.out]; rcases hkind' with h | h; exact .inr (.inl h); exact .inl h)
            obtain ⟨y, hy⟩ : ∃ y, (cmpM s' v' r' s v r).1 = y := ⟨_, rfl⟩
            rw [hy] at hcmp hcon
            have hct := cntB_take bt v L q _ hL'
            have Hct := Lib.hid hct
            clear hct hy hL' hchk' hkind' e1
            cases g2 : isBetter bt v (s', v', r') with
            | true =>
              rw [g2] at hcmp
              have hyn : y < 0 := by simpa using hcmp
              have HS : Hid (cntB bt v (L.take (q + 1)) = z + 1) := by
                show _ = _
                rw [Hct.out, Hz.out, g2]; rfl
              clear hcmp
              go_wp2_with fail
              go_region_with (go_at_call 23; ((with_reducible refine (hcon _).mono ?_)); rintro e w5 ⟨rfl, hb5⟩)
              all_goals
                have hb6 := (show Below wo.heap.size wo w5 from (by first | exact hbx.trans (hb5.mono hbx.size) | exact hbx.drew.trans (hb5.mono hbx.size)))
                clear hb5 hbx hbw
                go_wp2
                exact ⟨⟨q + 1, by omega, by go_num, by rw [HS.out]; go_num, hb6⟩, by simp [intOf]; omega⟩
            | false =>
              rw [g2] at hcmp
              have hyn : ¬ y < 0 := by simpa using hcmp
              have HS : Hid (cntB bt v (L.take (q + 1)) = z) := by
                show _ = _
                rw [Hct.out, Hz.out, g2]; rfl
              clear hcmp
              go_wp2_with fail
              go_region_with (go_at_call 23; ((with_reducible refine (hcon _).mono ?_)); rintro e w5 ⟨rfl, hb5⟩)
              all_goals
                have hb6 := (show Below wo.heap.size wo w5 from (by first | exact hbx.trans (hb5.mono hbx.size) | exact hbx.drew.trans (hb5.mono hbx.size)))
                clear hb5 hbx hbw
                go_wp2
                exact ⟨⟨q + 1, by omega, by go_num, by rw [HS.out], hb6⟩, by simp [intOf]; omega⟩
          · have hqe : q = n := by omega
            have hz := Hz.out
            rw [hqe, List.take_of_length_le (by rw [Hlen.out]; omega)] at hz
            have HZ := Lib.hid hz
            have hown := own_below Hown.out hbx
            clear hz Hz
            go_wp2_with (at_builtin; refine wpList_append_own _ rfl _ _ 22 rfl w.heap.size 3 i0 (.int .i64 0) 1 8 Tryz.underlying22 hi0 hz0 hz1 hz2 rfl (by decide) _ _ _ rfl (hown.alloc _) ⟨wr.heap.size, 0, none⟩ 1 1 [.int .i64 (1 + (z : Int))] rfl rfl ?c1 ?c2 ?c3 ?c4 ?c5 ?_)
            case c1 => intro j u hu; match j, hu with | 0, hu => cases hu; simp [Addr.add]
            case c2 => intro u hu; simp at hu; subst hu; rfl
            case c3 => unfold maxLen; omega
            case c4 => omega
            case c5 => have := hbw.size; simp; omega
            intro v' w1 hown' hgrow _
            have hb' := (hbw.alloc hbw.size (.cells #[.int .i64 (1 + (z : Int))] 3)).grown hgrow (by have := hbw.size; simp; omega) (fun g hg => by
              rcases hown.2 with ⟨a, _⟩ | ⟨g', cap', cur, a, b', _⟩
              · subst a; simp [Value.ownBlock] at hg
              · subst a; simp [Value.ownBlock] at hg; omega)
            have hfin : w1.ownsRow w.heap.size 3 1 v' (k + 1) (((L.take (k + 1)).map (rankM bt L)).map fun x => Value.int .i64 ((x : Nat) : Int)) := by
              rw [Hst.out, HZ.out]
              simpa [List.map_take] using hown'
            clear hown hown' hgrow hb hbx hbw Hown
            go_wp2
            exact ⟨⟨k + 1, by omega, by go_num, hfin, hb'⟩, by simp [intOf]; omega⟩
    · have hkn : k = n := by omega
      go_wp2
      go_ret
      exact ⟨_, rfl, by rw [hkn, List.take_of_length_le (by rw [Hlen.out]; omega)] at hown; exact hown, hb⟩
end Go.Mk
