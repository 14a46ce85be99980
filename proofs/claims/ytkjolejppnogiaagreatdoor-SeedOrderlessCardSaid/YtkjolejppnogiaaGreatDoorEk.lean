/-
  Proved: the reference's Places, as a plain function. Conditions: the runners lie where the slice says; there are at most 100,000.
  Proved: the reference's ShortRunners says whether heats of runners are few, and their texts moderate; seed.hasTime says whether a runner has a time. Conditions: the runners lie where the slices say.
-/
import Derived.Test.YtkjolejppnogiaaGreatDoorEi
import Derived.Test.YtkjolejppnogiaaGreatDoorEn
section
set_option linter.unusedVariables false
set_option linter.unusedSimpArgs false
open Go Go.Proofs Go.RowKit Go.Maps Go.WideMaps
set_option maxRecDepth 100000
namespace Go.Mk
/-- How many runners have a lesser time. -/
def cntR (v : Int) : List Run → Nat
  | [] => 0
  | y :: l => (if y.kind = sTime ∧ y.value < v then 1 else 0) + cntR v l
theorem cntR_snoc (v : Int) (x : Run) : ∀ l : List Run, cntR v (l ++ [x]) = cntR v l + (if x.kind = sTime ∧ x.value < v then 1 else 0)
  | [] => by simp [cntR]
  | y :: l => by rw [List.cons_append, cntR, cntR_snoc v x l, cntR]; omega
theorem cntR_le (v : Int) : ∀ l : List Run, cntR v l ≤ l.length
  | [] => Nat.le_refl _
  | y :: l => by
    have := cntR_le v l
    rw [cntR, List.length_cons]
    split <;> omega
/-- The place of a runner among runners: 0 without a time. -/
def plc (L : List Run) (x : Run) : Int := if x.kind = sTime then 1 + (cntR x.value L : Int) else 0
/-- A list of integers in new memory. -/
def OwnZ (w : World) (B : Nat) (v : Value) (L : List Int) : Prop := w.ownsRow B 3 1 v L.length (L.map fun z => Value.int .i64 z)
theorem OwnZ.next {w1 : World} {B : Nat} {v' : Value} {L : List Int} {z : Int} (h : w1.ownsRow B 3 1 v' (L.length + 1) ((L.map fun z => Value.int .i64 z) ++ [.int .i64 z])) : OwnZ w1 B v' (L ++ [z]) := by
  unfold OwnZ
  rw [List.length_append, List.map_append]
  exact h
theorem map_snoc {α β : Type} (f : α → β) {L : List α} {k : Nat} {x : α} (h : L[k]? = some x) : (L.take (k + 1)).map f = (L.take k).map f ++ [f x] := by
  rw [List.take_add_one, h]; simp
set_option maxHeartbeats 8000000 in
theorem r4Places_any (L : List Run) (n cap : Nat) (A : Option Addr) (B : Nat) (w : World) (hZ : Runs w B A n L) (hn : n ≤ 100000) :
    Calls Tryz.prog 40 #[.slice A n cap] w (fun e w' => ∃ v, e = .returned v ∧ OwnZ w' w.heap.size v (L.map (plc L)) ∧ Below w.heap.size w w') := by
  obtain ⟨i0, hi, hz0, hz1, hz2⟩ := info_parts infoInt
  have hni : (n : Int) ≤ 100000 := by omega
  have HM : Hid (∀ w', Below w.heap.size w w' → Runs w' B A n L) := fun w' hb => hZ.below hb hZ.2.1
  have Hlen : Hid (L.length = n) := hZ.1
  clear hZ
  go_enter Tryz.func40, Tryz.ntmps40
  go_wp2
  go_loopw [3, 4] (fun v i wr => ∃ k : Nat, k ≤ n ∧ i = .int .i64 k ∧ OwnZ wr w.heap.size v ((L.take k).map (plc L)) ∧ Below w.heap.size w wr) (fun _ i _ => n - (intOf i).toNat)
  case atStart => exact ⟨0, by omega, rfl, World.ownsRow_nil _ _ _ _, Below.refl _ _⟩
  case round =>
    obtain ⟨k, hk, rfl, hown, hb⟩ := hrel
    by_cases hlt : k < n
    · obtain ⟨b, off, x, rfl, hbl, hL, c0, c1, c2, c3⟩ := (HM.out _ hb).at_ hlt
      have HL := Lib.hid hL
      have hki : (k : Int) < (n : Int) := by omega
      have hk0 : (0 : Int) ≤ (k : Int) := by omega
      have hkt : ((k : Int)).toNat = k := by omega
      have hnx := map_snoc (plc L) hL
      have hlk : ((L.take k).map (plc L)).length = k := by rw [List.length_map, List.length_take, Hlen.out]; omega
      obtain ⟨Q, hQ⟩ : ∃ Q, (L.take k).map (plc L) = Q := ⟨_, rfl⟩
      rw [hQ] at hown hnx hlk
      have HN := Lib.hid hnx
      have HK := Lib.hid hlk
      clear hnx hlk hQ
      by_cases g1 : x.kind = sTime
      · have k1 : (x.kind.toList == [116, 105, 109, 101]) = true := by rw [timeB]; simp [g1]
        have hpl : plc L x = 1 + (cntR x.value L : Int) := by unfold plc; rw [if_pos g1]
        have HP := Lib.hid hpl
        clear hpl g1 hL
        obtain ⟨wy, hwy⟩ : ∃ wy : World, wy = wr := ⟨_, rfl⟩
        have HB := Lib.hid hb
        have HO := Lib.hid hown
        go_wp2
        go_loopw [6, 5] (fun i c wx => ∃ j : Nat, j ≤ n ∧ i = .int .i64 j ∧ c = .int .i64 (1 + (cntR x.value (L.take j) : Int)) ∧ Below wy.heap.size wy wx) (fun i _ _ => n - (intOf i).toNat)
        case atStart => exact ⟨0, by omega, rfl, rfl, by rw [hwy]; exact Below.refl _ _⟩
        case round =>
          obtain ⟨j, hj, rfl, rfl, hbx⟩ := hrel
          subst hwy
          clear c0 c1 c2 c3 hown hb
          have hbw : Below w.heap.size w wr := HB.out.trans (hbx.mono HB.out.size)
          obtain ⟨b', off', x', hAq, _, hLq, c0, c1, c2, c3⟩ := (HM.out _ hbw).at_ hlt
          cases hAq
          cases HL.out.symm.trans hLq
          have hcn := cntR_le x.value (L.take j)
          have hcl : (L.take j).length ≤ 100000 := by rw [List.length_take, Hlen.out]; omega
          by_cases hjn : j < n
          · obtain ⟨b', off', y, hAq, _, hy, d0, d1, d2, d3⟩ := (HM.out _ hbw).at_ hjn
            cases hAq
            have hsn := cntR_snoc x.value y (L.take j)
            have htk : L.take (j + 1) = L.take j ++ [y] := by rw [List.take_add_one, hy]; rfl
            rw [← htk] at hsn
            have hji : (j : Int) < (n : Int) := by omega
            have hj0 : (0 : Int) ≤ (j : Int) := by omega
            have hjt : ((j : Int)).toNat = j := by omega
            obtain ⟨c', hc'⟩ : ∃ c', cntR x.value (L.take (j + 1)) = c' := ⟨_, rfl⟩
            rw [hc'] at hsn
            have HC := Lib.hid hc'
            clear hc'
            generalize cntR x.value (L.take j) = c at *
            have hci : (c : Int) ≤ 100000 := by omega
            clear htk hy hLq
            by_cases q1 : y.kind = sTime
            · have k2 : (y.kind.toList == [116, 105, 109, 101]) = true := by rw [timeB]; simp [q1]
              by_cases q2 : y.value < x.value
              · rw [if_pos ⟨q1, q2⟩] at hsn
                have hd : decide (y.value < x.value) = true := decide_eq_true q2
                clear q1
                as_aux_lemma =>
                  go_wp2_with fail
                  go_quiet (fail)
                  go_wp2
                  go_roundw
                  case rel => exact ⟨j + 1, by omega, by go_num, by rw [HC.out]; go_num, below_drewN hbx _⟩
                  case measure => simp [intOf]; omega
              · rw [if_neg (fun q => q2 q.2)] at hsn
                have hd : decide (y.value < x.value) = false := decide_eq_false q2
                clear q1
                as_aux_lemma =>
                  go_wp2_with fail
                  go_quiet (fail)
                  go_wp2
                  go_roundw
                  case rel => exact ⟨j + 1, by omega, by go_num, by rw [HC.out]; go_num, below_drewN hbx _⟩
                  case measure => simp [intOf]; omega
            · have k2 : (y.kind.toList == [116, 105, 109, 101]) = false := by rw [timeB]; simp [q1]
              rw [if_neg (fun q => q1 q.1)] at hsn
              clear q1
              as_aux_lemma =>
                go_wp2_with fail
                go_quiet (fail)
                go_wp2
                go_roundw
                case rel => exact ⟨j + 1, by omega, by go_num, by rw [HC.out]; go_num, below_drewN hbx _⟩
                case measure => simp [intOf]; omega
          · have htk : L.take j = L := List.take_of_length_le (by rw [Hlen.out]; omega)
            rw [htk] at hcn ⊢
            have hpl := HP.out
            generalize (1 + (cntR x.value L : Int)) = z at *
            have hown2 : wr.ownsRow w.heap.size 3 1 _ Q.length (Q.map fun z => Value.int .i64 z) := ownN HO.out hbx
            clear hLq c0 c1 c2 c3 hcn hcl htk
            as_aux_lemma =>
              go_wp2_with (at_builtin; refine wpList_append_own _ rfl _ _ 30 rfl w.heap.size 3 i0 (.int .i64 0) 1 8 Tryz.underlying30 hi hz0 hz1 hz2 rfl (by decide) _ _ _ rfl (World.ownsRow.alloc hown2 _) ⟨wr.heap.size, 0, none⟩ 1 1 [.int .i64 z] rfl rfl ?c1 ?c2 ?c3 ?c4 ?c5 ?_)
              case c1 =>
                intro j u hj
                match j, hj with
                | 0, hj => simp at hj; subst hj; simp [Addr.add]
              case c2 => intro u hu; simp at hu; subst hu; rfl
              case c3 => have := HK.out; unfold maxLen; omega
              case c4 => have := HK.out; omega
              case c5 => have := hbw.size; simp; omega
              · intro v' w1 hown' hgrow _
                have hb1 : Below w.heap.size w w1 := (hbw.alloc hbw.size _).grown hgrow (by have := hbw.size; simp; omega) (fun r hr => (World.ownsRow.lt hown2 r hr).1)
                have ho1 : OwnZ w1 w.heap.size v' ((L.take (k + 1)).map (plc L)) := by
                  rw [HN.out, hpl]
                  exact OwnZ.next (by simpa using hown')
                clear hown' hgrow
                go_wp2
                go_roundw
                case rel => exact ⟨k + 1, by omega, by go_num, ho1, hb1⟩
                case measure => simp [intOf]; omega
      · have k1 : (x.kind.toList == [116, 105, 109, 101]) = false := by rw [timeB]; simp [g1]
        have hpl : plc L x = 0 := by unfold plc; rw [if_neg g1]
        rw [hpl] at HN
        clear hpl g1 hL HL
        as_aux_lemma =>
          go_wp2_with (at_builtin; refine wpList_append_own _ rfl _ _ 30 rfl w.heap.size 3 i0 (.int .i64 0) 1 8 Tryz.underlying30 hi hz0 hz1 hz2 rfl (by decide) _ _ _ rfl (World.ownsRow.alloc hown _) ⟨wr.heap.size, 0, none⟩ 1 1 [.int .i64 0] rfl rfl ?c1 ?c2 ?c3 ?c4 ?c5 ?_)
          case c1 =>
            intro j u hj
            match j, hj with
            | 0, hj => simp at hj; subst hj; simp [Addr.add]
          case c2 => intro u hu; simp at hu; subst hu; rfl
          case c3 => have := HK.out; unfold maxLen; omega
          case c4 => have := HK.out; omega
          case c5 => have := hb.size; simp; omega
          · intro v' w1 hown' hgrow _
            have hb1 : Below w.heap.size w w1 := (hb.alloc hb.size _).grown hgrow (by have := hb.size; simp; omega) (fun r hr => (World.ownsRow.lt hown r hr).1)
            have ho1 : OwnZ w1 w.heap.size v' ((L.take (k + 1)).map (plc L)) := by
              rw [HN.out]
              exact OwnZ.next (by simpa using hown')
            clear hown' hgrow
            go_wp2
            go_roundw
            case rel => exact ⟨k + 1, by omega, by go_num, ho1, hb1⟩
            case measure => simp [intOf]; omega
    · obtain rfl : k = n := by omega
      have htk : L.take k = L := List.take_of_length_le (by rw [Hlen.out]; omega)
      rw [htk] at hown
      have HO := Lib.hid hown
      clear hown htk
      go_wp2
      go_ret
      exact ⟨_, rfl, HO.out, hb⟩
end Go.Mk
end
section
set_option linter.unusedVariables false
set_option linter.unusedSimpArgs false
open Go Go.Proofs Go.RowKit Go.Maps Go.WideMaps
set_option maxRecDepth 100000
namespace Go.Mk
/-- Are the texts of a runner moderate? -/
def shR (x : Run) : Bool := decide (x.name.size ≤ 40) && (decide (x.kind.size ≤ 20) && decide (x.reason.size ≤ 20))
/-- Are the runners of a heat few, or too many, and moderate? -/
def shH (l : List Run) : Bool := (decide (l.length ≤ 12) || (decide (160 < l.length) && decide (l.length ≤ 162))) && l.all shR
theorem hasTime_any (x : Run) (w : World) : Calls Tryz.prog 114 #[x.agg] w (RetPost (.bool (decide (x.kind = sTime))) w) := by
  obtain ⟨nm, k, v, r⟩ := x
  unfold Run.agg
  rw [← timeB]
  go_enter Tryz.func114, Tryz.ntmps114
  go_wp2
  go_ret
  exact ⟨rfl, balloc _ (Below.refl _ _)⟩
theorem r4ShortRunners_long (n cap : Nat) (A : Option Addr) (w : World) (h : 18 < (n : Int)) (hm : (n : Int) ≤ 9223372036854775807) :
    Calls Tryz.prog 36 #[.slice A n cap] w (RetPost (.bool false) w) := by
  go_enter Tryz.func36, Tryz.ntmps36
  go_wp2
  go_ret
  exact ⟨rfl, Below.refl _ _⟩
set_option maxHeartbeats 8000000 in
theorem r4ShortRunners_any (LL : List (List Run)) (n cap : Nat) (A : Option Addr) (B : Nat) (w : World) (hZ : RHeats w B A n LL) (hn : (n : Int) ≤ 18) :
    Calls Tryz.prog 36 #[.slice A n cap] w (RetPost (.bool (LL.all shH)) w) := by
  have HM : Hid (∀ w', Below w.heap.size w w' → RHeats w' B A n LL) := fun w' hb => hZ.below hb hZ.2.1
  have Hlen : Hid (LL.length = n) := hZ.1
  obtain ⟨X, hX⟩ : ∃ X, LL.all shH = X := ⟨_, rfl⟩
  rw [hX]
  have HX : Hid ((LL.drop 0).all shH = X) := (show _ = _ by rw [List.drop_zero, hX])
  clear hX hZ
  go_enter Tryz.func36, Tryz.ntmps36
  go_wp2
  go_loopw [3] (fun i wr => ∃ k : Nat, k ≤ n ∧ i = .int .i64 k ∧ Hid ((LL.drop k).all shH = X) ∧ Below w.heap.size w wr) (fun i _ => n - (intOf i).toNat)
  case atStart => exact ⟨0, by omega, rfl, HX, Below.refl _ _⟩
  case round =>
    obtain ⟨k, hk, rfl, HK, hb⟩ := hrel
    by_cases hlt : k < n
    · obtain ⟨b, off, l, A', c', rfl, hbl, hL, hc, hZl⟩ := (HM.out _ hb).at_ hlt
      have hst := HK.out
      rw [drop_cons hL, List.all_cons] at hst
      have HL := Lib.hid hL
      have hki : (k : Int) < (n : Int) := by omega
      have hk0 : (0 : Int) ≤ (k : Int) := by omega
      have hkt : ((k : Int)).toNat = k := by omega
      have bad : shH l = false → false = X := fun q => by rw [q, Bool.false_and] at hst; exact hst
      have good : shH l = true → (LL.drop (k + 1)).all shH = X := fun q => by rw [q, Bool.true_and] at hst; exact hst
      have BAD := Lib.hid bad
      have GOOD := Lib.hid good
      obtain ⟨m, hm⟩ : ∃ m, l.length = m := ⟨_, rfl⟩
      rw [hm] at hc
      have Hm := Lib.hid hm
      clear hst hL HK bad good hZl
      by_cases g1 : (12 < (m : Int) ∧ (m : Int) ≤ 160) ∨ 162 < (m : Int)
      · have hX := BAD.out (by
          unfold shH
          rw [hm, show (decide (m ≤ 12) || (decide (160 < m) && decide (m ≤ 162))) = false from by simp; omega, Bool.false_and])
        subst hX
        clear hm
        rcases g1 with ⟨q1, q2⟩ | q1
        · as_aux_lemma =>
            go_wp2_with fail
            go_wp2
            go_ret
            exact ⟨rfl, hb⟩
        · have q2 : 12 < (m : Int) := by omega
          have q3 : ¬ (m : Int) ≤ 160 := by omega
          as_aux_lemma =>
            go_wp2_with fail
            go_wp2
            go_ret
            exact ⟨rfl, hb⟩
      · have hlen : (decide (m ≤ 12) || (decide (160 < m) && decide (m ≤ 162))) = true := by simp; omega
        have HG : Hid (shH l = l.all shR) := (show _ = _ by unfold shH; rw [hm, hlen, Bool.true_and])
        obtain ⟨Y, hY⟩ : ∃ Y, l.all shR = Y := ⟨_, rfl⟩
        have HY : Hid ((l.drop 0).all shR = Y) := (show _ = _ by rw [List.drop_zero, hY])
        have HB : Hid (Y = false → false = X) := fun q => BAD.out (by rw [HG.out, hY, q])
        have HGD : Hid (Y = true → (LL.drop (k + 1)).all shH = X) := fun q => GOOD.out (by rw [HG.out, hY, q])
        have q0 : ¬ 162 < (m : Int) := by omega
        have q1 : (m : Int) ≤ 12 ∨ 160 < (m : Int) := by omega
        clear hm hlen hY g1
        have main : ∀ W : World, True := fun _ => trivial
        rcases q1 with q1 | q1
        all_goals
          first
            | have q2 : ¬ 12 < (m : Int) := by omega
            | (have q2 : 12 < (m : Int) := by omega
               have q3 : ¬ (m : Int) ≤ 160 := by omega)
          as_aux_lemma =>
            go_wp2
            go_loopw [4] (fun i wx => ∃ j : Nat, j ≤ m ∧ i = .int .i64 j ∧ Hid ((l.drop j).all shR = Y) ∧ Below w.heap.size w wx) (fun i _ => m - (intOf i).toNat)
            case atStart => exact ⟨0, by omega, rfl, HY, hb⟩
            case round =>
              obtain ⟨j, hj, rfl, HJ, hbx⟩ := hrel
              clear hc
              obtain ⟨b', off', l', A2, c2, hAq, _, hLq, hc2, hZ2⟩ := (HM.out _ hbx).at_ hlt
              cases hAq
              cases HL.out.symm.trans hLq
              rw [Hm.out] at hc2 hZ2
              by_cases hjm : j < m
              · obtain ⟨b2, off2, x, rfl, _, hx, c0, c1, c2', c3⟩ := hZ2.at_ hjm
                have hst := HJ.out
                rw [drop_cons hx, List.all_cons] at hst
                have hji : (j : Int) < (m : Int) := by omega
                have bad : shR x = false → false = X := fun q => HB.out (by rw [q, Bool.false_and] at hst; exact hst.symm)
                have good : shR x = true → (l.drop (j + 1)).all shR = Y := fun q => by rw [q, Bool.true_and] at hst; exact hst
                obtain ⟨nm, kd, v, r⟩ := x
                simp only at c0 c1 c2' c3
                have BAD2 := Lib.hid bad
                have GOOD2 := Lib.hid good
                have hb1 : Below w.heap.size w (wr.alloc (.cells #[.string nm, .string kd, .int .i64 v, .string r] 83)) := balloc _ hbx
                clear hst hx HJ bad good hLq hZ2
                by_cases g1 : 40 < (nm.size : Int)
                · have hX := BAD2.out (by unfold shR; rw [decide_eq_false (by simp only; omega)]; rfl)
                  subst hX
                  as_aux_lemma =>
                    go_wp2_with fail
                    go_wp2
                    go_ret
                    exact ⟨rfl, hb1⟩
                · by_cases g3 : 20 < (kd.size : Int)
                  · have hX := BAD2.out (by unfold shR; rw [show decide ((⟨nm, kd, v, r⟩ : Run).kind.size ≤ 20) = false from decide_eq_false (by simp only; omega)]; simp)
                    subst hX
                    as_aux_lemma =>
                      go_wp2_with fail
                      go_wp2
                      go_ret
                      exact ⟨rfl, hb1⟩
                  · by_cases g4 : 20 < (r.size : Int)
                    · have hX := BAD2.out (by unfold shR; rw [show decide ((⟨nm, kd, v, r⟩ : Run).reason.size ≤ 20) = false from decide_eq_false (by simp only; omega)]; simp)
                      subst hX
                      as_aux_lemma =>
                        go_wp2_with fail
                        go_wp2
                        go_ret
                        exact ⟨rfl, hb1⟩
                    · have HK2 : Hid ((l.drop (j + 1)).all shR = Y) := GOOD2.out (by unfold shR; simp only; rw [decide_eq_true (by omega), decide_eq_true (by omega), decide_eq_true (by omega)]; rfl)
                      as_aux_lemma =>
                        go_wp2_with fail
                        go_wp2
                        go_roundw
                        case rel => exact ⟨j + 1, by omega, by go_num, HK2, hb1⟩
                        case measure => simp [intOf]; omega
              · have hz := HJ.out
                rw [List.drop_of_length_le (by rw [Hm.out]; omega)] at hz
                have HK2 : Hid ((LL.drop (k + 1)).all shH = X) := HGD.out hz.symm
                clear hz hLq hZ2
                as_aux_lemma =>
                  go_wp2
                  go_roundw
                  case rel => exact ⟨k + 1, by omega, by go_num, HK2, hbx⟩
                  case measure => simp [intOf]; omega
    · have hz := HK.out
      rw [List.drop_of_length_le (by rw [Hlen.out]; omega)] at hz
      have hz2 : true = X := hz
      subst hz2
      go_wp2
      go_ret
      exact ⟨rfl, hb⟩
end Go.Mk
end
