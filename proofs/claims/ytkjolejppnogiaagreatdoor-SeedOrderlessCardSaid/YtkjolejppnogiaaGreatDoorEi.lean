/-
  Proved: the reference's CheckRunner, as a plain function. Condition: the texts are no longer than an int says.
  Proved: the reference's CheckRunners returns the same plain error. Conditions: the runners lie where the slices say; the texts are no longer than an int says.
-/
import Derived.Test.YtkjolejppnogiaaGreatDoorEg
import Derived.Test.YtkjolejppnogiaaGreatDoorEe
import Derived.Laws.OwnMore
import Derived.Laws.AppendOwn
import Derived.Lib.SmallJoins
import Derived.Outline
import Derived.Deep.DeepCutAuto
import Derived.Deep.LoopGhost
section
set_option linter.unusedVariables false
set_option linter.unusedSimpArgs false
open Go Go.Proofs Go.RowKit Go.Maps Go.WideMaps
set_option maxRecDepth 100000
namespace Go.Mk
/-- The error of a runner alone. -/
def crE (x : Run) : Int := if isNm x.name then (if chk x.kind x.value x.reason = 0 then tkE x.kind else chk x.kind x.value x.reason) else 8
theorem boxKept {w w2 : World} {x0 x1 x2 x3 : Value} {t : TypeId} (hb : Below (w.alloc (.cells #[x0, x1, x2, x3] t)).heap.size (w.alloc (.cells #[x0, x1, x2, x3] t)) w2) :
    w2.cell? ⟨w.heap.size, 0, none⟩ = some x0 ∧ w2.cell? ⟨w.heap.size, 1, none⟩ = some x1 ∧ w2.cell? ⟨w.heap.size, 2, none⟩ = some x2 ∧ w2.cell? ⟨w.heap.size, 3, none⟩ = some x3 ∧ Below w.heap.size w w2 := by
  refine ⟨(hb.cell (p := ⟨_, _, none⟩) (by simp)).trans (by simp), (hb.cell (p := ⟨_, _, none⟩) (by simp)).trans (by simp), (hb.cell (p := ⟨_, _, none⟩) (by simp)).trans (by simp), (hb.cell (p := ⟨_, _, none⟩) (by simp)).trans (by simp), bstep (balloc _ (Below.refl _ _)) hb⟩
set_option maxHeartbeats 2000000 in
theorem r4CheckRunner_any (x : Run) (w : World) (hz : x.ok) : Calls Tryz.prog 45 #[x.agg] w (RetPost (.int .i64 (crE x)) w) := by
  obtain ⟨nm, k, v, r⟩ := x
  have hz1 : nm.size ≤ maxLen := hz
  unfold Run.agg crE
  simp only
  have hI := fun w => refIsName_any nm w hz1
  have hC := fun w => refCheckMark_any k r v w
  clear hz hz1
  cases g1 : isNm nm with
  | false =>
    rw [g1] at hI
    go_enter Tryz.func45, Tryz.ntmps45
    go_wp2_with fail
    refine (hI _).mono ?_
    rintro e w2 ⟨rfl, rfl⟩
    go_wp2
    go_ret
    exact ⟨rfl, balloc _ (Below.refl _ _)⟩
  | true =>
    rw [g1] at hI
    rw [if_pos rfl]
    by_cases g2 : chk k v r = 0
    · rw [if_pos g2]
      rw [g2] at hC
      clear g2
      by_cases g3 : k = sTime
      · have k1 : (k.toList == [116, 105, 109, 101]) = true := by rw [timeB]; simp [g3]
        rw [show tkE k = 0 by unfold tkE; rw [if_pos (.inl g3)]]
        clear g3
        go_enter Tryz.func45, Tryz.ntmps45
        go_wp2_with fail
        refine (hI _).mono ?_
        rintro e w2 ⟨rfl, rfl⟩
        go_wp2_with fail
        refine (hC _).mono ?_
        rintro e w2 ⟨rfl, hb2⟩
        obtain ⟨x0, x1, x2, x3, hb3⟩ := boxKept hb2
        clear hb2
        go_wp2
        go_ret
        exact ⟨rfl, hb3⟩
      · have k1 : (k.toList == [116, 105, 109, 101]) = false := by rw [timeB]; simp [g3]
        by_cases g4 : k = sNone
        · have k2 : (k.toList == [110, 111, 110, 101]) = true := by rw [noneB]; simp [g4]
          rw [show tkE k = 0 by unfold tkE; rw [if_pos (.inr g4)]]
          clear g3 g4
          go_enter Tryz.func45, Tryz.ntmps45
          go_wp2_with fail
          refine (hI _).mono ?_
          rintro e w2 ⟨rfl, rfl⟩
          go_wp2_with fail
          refine (hC _).mono ?_
          rintro e w2 ⟨rfl, hb2⟩
          obtain ⟨x0, x1, x2, x3, hb3⟩ := boxKept hb2
          clear hb2
          go_wp2
          go_ret
          exact ⟨rfl, hb3⟩
        · have k2 : (k.toList == [110, 111, 110, 101]) = false := by rw [noneB]; simp [g4]
          rw [show tkE k = 13 by unfold tkE; rw [if_neg (fun q => q.elim g3 g4)]]
          clear g3 g4
          go_enter Tryz.func45, Tryz.ntmps45
          go_wp2_with fail
          refine (hI _).mono ?_
          rintro e w2 ⟨rfl, rfl⟩
          go_wp2_with fail
          refine (hC _).mono ?_
          rintro e w2 ⟨rfl, hb2⟩
          obtain ⟨x0, x1, x2, x3, hb3⟩ := boxKept hb2
          clear hb2
          go_wp2
          go_ret
          exact ⟨rfl, hb3⟩
    · rw [if_neg g2]
      have gb : (chk k v r == 0) = false := beq_eq_false_iff_ne.2 g2
      generalize chk k v r = e4 at *
      clear g2
      go_enter Tryz.func45, Tryz.ntmps45
      go_wp2_with fail
      refine (hI _).mono ?_
      rintro e w2 ⟨rfl, rfl⟩
      go_wp2_with fail
      refine (hC _).mono ?_
      rintro e w2 ⟨rfl, hb2⟩
      obtain ⟨x0, x1, x2, x3, hb3⟩ := boxKept hb2
      clear hb2
      go_wp2
      go_ret
      exact ⟨rfl, hb3⟩
/-- The error of a further runner, as the reference asks it. -/
theorem runE_ref (P : List ByteArray) (x : Run) : runE P x = if isNm x.name then (if isIn P x.name then 9 else crE x) else 8 := by
  unfold runE crE twE nmE
  cases isNm x.name <;> cases isIn P x.name <;> simp [fstN]
  all_goals (try split) <;> simp_all
end Go.Mk
end
section
set_option linter.unusedVariables false
set_option linter.unusedSimpArgs false
open Go Go.Proofs Go.RowKit Go.Maps Go.WideMaps
set_option maxRecDepth 100000
namespace Go.Mk
theorem ownN {w w' : World} {base e size n : Nat} {v : Value} {xs : List Value} (h : w.ownsRow base e size v n xs) (hb : Below w.heap.size w w') : w'.ownsRow base e size v n xs := by
  refine ⟨h.1, ?_⟩
  rcases h.2 with ⟨a, b⟩ | ⟨g, cap, cur, a, b, c, d⟩
  · exact .inl ⟨a, b⟩
  · refine .inr ⟨g, cap, cur, a, b, ?_, d⟩
    have hg : g < w.heap.size := by
      rcases Nat.lt_or_ge g w.heap.size with hl | hl
      · exact hl
      · rw [Array.getElem?_eq_none hl] at c; cases c
    exact (hb.block g hg).trans c
theorem ownSome {w : World} {base e size n : Nat} {v : Value} {xs : List Value} (h : w.ownsRow base e size v n xs) (hn : 0 < n) : ∃ g cap, v = .slice (some ⟨g, 0, none⟩) n cap ∧ base ≤ g ∧ g < w.heap.size := by
  rcases h.2 with ⟨_, h0⟩ | ⟨g, cap, cur, hv, hb, hg, _⟩
  · omega
  · refine ⟨g, cap, hv, hb, ?_⟩
    rcases Nat.lt_or_ge g w.heap.size with hlt | hge
    · exact hlt
    · rw [Array.getElem?_eq_none hge] at hg; cases hg
theorem infoS : (Tryz.prog.info? 9).map (fun i => (i.zero, i.size, i.bytes)) = some (some (.string ⟨#[]⟩), 1, 16) := by kernel_rfl
/-- A list of texts in new memory. -/
def OwnNames (w : World) (B : Nat) (v : Value) (L : List ByteArray) : Prop := w.ownsRow B 9 1 v L.length (L.map Value.string)
theorem OwnNames.next {w1 : World} {B : Nat} {v' : Value} {L : List ByteArray} {t : ByteArray} (h : w1.ownsRow B 9 1 v' (L.length + 1) (L.map Value.string ++ [Value.string t])) : OwnNames w1 B v' (L ++ [t]) := by
  unfold OwnNames
  rw [List.length_append, List.map_append]
  exact h
theorem OwnNames.shape {w : World} {B : Nat} {v : Value} {L : List ByteArray} (h : OwnNames w B v L) : ∃ a c, v = .slice a L.length c := by
  rcases h.2 with ⟨hv, h0⟩ | ⟨g, cap, cur, hv, _⟩
  · exact ⟨none, 0, by rw [hv, h0]⟩
  · exact ⟨_, _, hv⟩
theorem OwnNames.at_ {w : World} {B n cap : Nat} {a : Option Addr} {L : List ByteArray} (h : OwnNames w B (.slice a n cap) L) {q : Nat} (hq : q < L.length) : ∃ g s, a = some ⟨g, 0, none⟩ ∧ L[q]? = some s ∧ w.cell? ⟨g, q, none⟩ = some (.string s) := by
  obtain ⟨g, c, hv, _, _⟩ := ownSome h (by omega)
  cases hv
  refine ⟨g, L[q], rfl, List.getElem?_eq_getElem hq, ?_⟩
  have := World.ownsRow.cells h (g := g) rfl q (.string L[q]) (by rw [List.getElem?_map, List.getElem?_eq_getElem hq]; rfl)
  by_cases hq0 : q = 0
  · subst hq0; simpa [Addr.add] using this
  · simpa [Addr.add, hq0] using this
theorem isIn_take {L : List ByteArray} {q : Nat} {s t : ByteArray} (h : L[q]? = some s) : isIn (L.take (q + 1)) t = (isIn (L.take q) t || decide (s = t)) := by
  rw [List.take_add_one, h]
  exact isIn_snoc _ _ _
theorem isIn_at {L : List ByteArray} {q : Nat} {s : ByteArray} (h : L[q]? = some s) : isIn L s = true := by
  unfold isIn
  rw [List.any_eq_true]
  exact ⟨s, List.mem_of_getElem? h, by simp⟩
theorem r4CheckRunners_many (n cap : Nat) (A : Option Addr) (w : World) (h : 16 < (n : Int)) (hm : (n : Int) ≤ 9223372036854775807) :
    Calls Tryz.prog 37 #[.slice A n cap] w (RetPost (.int .i64 5) w) := by
  go_enter Tryz.func37, Tryz.ntmps37
  go_wp2
  go_ret
  exact ⟨rfl, Below.refl _ _⟩
set_option maxHeartbeats 8000000 in
theorem r4CheckRunners_any (LL : List (List Run)) (n cap : Nat) (A : Option Addr) (B : Nat) (w : World) (hZ : RHeats w B A n LL) (hn : n ≤ 16) (hs : ∀ l ∈ LL, l.length ≤ 1000 ∧ ∀ x ∈ l, x.ok) :
    Calls Tryz.prog 37 #[.slice A n cap] w (RetPost (.int .i64 (chkRuns LL)) w) := by
  obtain ⟨i0, hi, hz0, hz1, hz2⟩ := info_parts infoS
  have hni : (n : Int) ≤ 16 := by omega
  have HM : Hid (∀ w', Below w.heap.size w w' → RHeats w' B A n LL) := fun w' hb => hZ.below hb hZ.2.1
  have Hlen : Hid (LL.length = n) := hZ.1
  have HS := Lib.hid hs
  have hl : ¬ 16 < LL.length := by rw [hZ.1]; omega
  obtain ⟨X, hX⟩ : ∃ X, heatsE [] LL = X := ⟨_, rfl⟩
  rw [show chkRuns LL = X by unfold chkRuns; rw [if_neg hl, hX]]
  have HX : Hid (heatsE [] (LL.drop 0) = X) := (show _ = _ by rw [List.drop_zero, hX])
  clear hX hl hZ hs
  go_enter Tryz.func37, Tryz.ntmps37
  go_wp2
  go_loopw [3, 4] (fun v i wr => ∃ (k : Nat) (Q : List ByteArray), k ≤ n ∧ i = .int .i64 k ∧ OwnNames wr w.heap.size v Q ∧ Q.length ≤ 1000 * k ∧ Hid (heatsE Q (LL.drop k) = X) ∧ Below w.heap.size w wr) (fun _ i _ => n - (intOf i).toNat)
  case atStart => exact ⟨0, [], by omega, rfl, World.ownsRow_nil _ _ _ _, by simp, HX, Below.refl _ _⟩
  case round =>
    obtain ⟨k, Q, hk, rfl, hown, hQ, HK, hb⟩ := hrel
    by_cases hlt : k < n
    · obtain ⟨b, off, l, A', c', rfl, hbl, hL, hc, hZl⟩ := (HM.out _ hb).at_ hlt
      have hst := HK.out
      rw [drop_cons hL, heatsE] at hst
      obtain ⟨ok1, ok2⟩ := HS.out l (List.mem_of_getElem? hL)
      have HO := Lib.hid ok2
      have HL := Lib.hid hL
      have hki : (k : Int) < (n : Int) := by omega
      obtain ⟨m, hm⟩ : ∃ m, l.length = m := ⟨_, rfl⟩
      rw [hm] at hc hZl ok1
      have Hm := Lib.hid hm
      clear hL HK ok2
      by_cases g1 : 160 < m
      · have hmi : 160 < (m : Int) := by omega
        have hmi2 : (m : Int) ≤ 1000 := by omega
        rw [show heatE Q l = 5 by unfold heatE; rw [if_pos (by omega)], if_neg (by decide)] at hst
        subst hst
        clear hZl hown hQ hm
        as_aux_lemma =>
          go_wp2
          go_ret
          exact ⟨rfl, hb⟩
      · have hmi : ¬ 160 < (m : Int) := by omega
        have hmi2 : (m : Int) ≤ 160 := by omega
        rw [show heatE Q l = runsE Q l by unfold heatE; rw [if_neg (by omega)]] at hst
        obtain ⟨E, hE⟩ : ∃ E, runsE Q l = E := ⟨_, rfl⟩
        obtain ⟨R, hR⟩ : ∃ R, Q ++ l.map Run.name = R := ⟨_, rfl⟩
        rw [hE, hR] at hst
        have HE : Hid (runsE Q (l.drop 0) = E) := (show _ = _ by rw [List.drop_zero, hE])
        have HR : Hid (Q ++ (l.drop 0).map Run.name = R) := (show _ = _ by rw [List.drop_zero, hR])
        have HX1 : Hid (E ≠ 0 → E = X) := fun q => by rw [if_neg q] at hst; exact hst
        have HX2 : Hid (E = 0 → heatsE R (LL.drop (k + 1)) = X) := fun q => by rw [if_pos q] at hst; exact hst
        clear hst hE hR hZl hm g1
        go_wp2
        go_loopw [3, 5] (fun v i wx => ∃ (j : Nat) (Q' : List ByteArray), j ≤ m ∧ i = .int .i64 j ∧ OwnNames wx w.heap.size v Q' ∧ Q'.length ≤ 1000 * k + j ∧ Hid (runsE Q' (l.drop j) = E) ∧ Hid (Q' ++ (l.drop j).map Run.name = R) ∧ Below w.heap.size w wx) (fun _ i _ => m - (intOf i).toNat)
        case atStart => exact ⟨0, Q, by omega, rfl, hown, by omega, HE, HR, hb⟩
        case round =>
          obtain ⟨j, Q', hj, rfl, hownx, hQx, HEx, HRx, hbx⟩ := hrel
          obtain ⟨b', off', l', A2, c2, hAq, _, hLq, hc2, hZ2⟩ := (HM.out _ hbx).at_ hlt
          cases hAq
          cases HL.out.symm.trans hLq
          rw [Hm.out] at hc2 hZ2
          clear hc
          by_cases hjm : j < m
          · obtain ⟨b2, off2, x, rfl, _, hx, c0, c1, c2', c3⟩ := hZ2.at_ hjm
            have hst := HEx.out
            rw [drop_cons hx, runsE] at hst
            have hr := HRx.out
            rw [drop_cons hx, List.map_cons, List.append_cons] at hr
            have HR2 := Lib.hid hr
            have hok := HO.out x (List.mem_of_getElem? hx)
            have hji : (j : Int) < (m : Int) := by omega
            have hC := fun w => r4CheckRunner_any x w hok
            rw [runE_ref] at hst
            obtain ⟨nm, kd, vv, rr⟩ := x
            unfold Run.agg at hC
            simp only at c0 c1 c2' c3 hst hC hr HR2
            have hI := fun w => refIsName_any nm w hok
            obtain ⟨av, cv, rfl⟩ := hownx.shape
            have hown1 : OwnNames (wr.alloc (.cells #[.string nm, .string kd, .int .i64 vv, .string rr] 83)) w.heap.size (.slice av Q'.length cv) Q' := World.ownsRow.alloc hownx _
            have hb1 : Below w.heap.size w (wr.alloc (.cells #[.string nm, .string kd, .int .i64 vv, .string rr] 83)) := balloc _ hbx
            have HQL : Hid ((Q'.length : Int) ≤ 900000) := (show _ ≤ _ by omega)
            clear hx hr HEx HRx hok hLq hZ2
            cases g2 : isNm nm with
            | false =>
              rw [g2] at hI hst
              simp only [Bool.false_eq_true, if_false] at hst
              rw [if_neg (by decide)] at hst
              have h8 := HX1.out (by rw [← hst]; decide)
              rw [← hst] at h8
              subst h8
              clear hst
              as_aux_lemma =>
                go_wp2_with fail
                refine (hI _).mono ?_
                rintro e w2 ⟨rfl, rfl⟩
                go_wp2
                go_ret
                exact ⟨rfl, hb1⟩
            | true =>
              rw [g2] at hI
              simp only [g2, if_true] at hst
              have HY : Hid (isIn (Q'.take 0) nm = false) := (show _ = _ from rfl)
              obtain ⟨wy, hwy⟩ : ∃ wy : World, wy = wr.alloc (.cells #[.string nm, .string kd, .int .i64 vv, .string rr] 83) := ⟨_, rfl⟩
              have HW := Lib.hid hwy
              have HOW := Lib.hid hown1
              have HB1 := Lib.hid hb1
              have HST := Lib.hid hst
              clear hst hown1 hb1 hwy
              go_wp2_with fail
              refine (hI _).mono ?_
              rintro e w2 ⟨rfl, rfl⟩
              clear c0 c1 c2' c3
              go_wp2
              rw [← HW.out]
              have hp : ∀ w', Below wy.heap.size wy w' → w'.cell? ⟨wr.heap.size, 0, none⟩ = some (.string nm) ∧ w'.cell? ⟨wr.heap.size, 1, none⟩ = some (.string kd) ∧ w'.cell? ⟨wr.heap.size, 2, none⟩ = some (.int .i64 vv) ∧ w'.cell? ⟨wr.heap.size, 3, none⟩ = some (.string rr) ∧ Below wr.heap.size wr w' := fun w' h => boxKept (by rw [HW.out] at h; exact h)
              have HP := Lib.hid hp
              have HOY : Hid (OwnNames wy w.heap.size (.slice av Q'.length cv) Q') := (show OwnNames _ _ _ _ by rw [HW.out]; exact HOW.out)
              have HBY : Hid (Below w.heap.size w wy) := (show Below _ _ _ by rw [HW.out]; exact HB1.out)
              generalize wr.heap.size = p at *
              clear HW HOW HB1 hp hownx hbx hc2
              go_loopw [7] (fun i wz => ∃ q, q ≤ Q'.length ∧ i = .int .i64 q ∧ Hid (isIn (Q'.take q) nm = false) ∧ Below wy.heap.size wy wz) (fun i _ => Q'.length - (intOf i).toNat)
              case atStart => exact ⟨0, Nat.zero_le _, rfl, HY, Below.refl _ _⟩
              case round =>
                obtain ⟨q, hq, rfl, HZ, hbz⟩ := hrel
                obtain ⟨x0, x1, x2, x3, _⟩ := HP.out _ hbz
                have hownz := ownN HOY.out hbz
                have hbw : Below w.heap.size w wr := HBY.out.trans (hbz.mono HBY.out.size)
                have hQi := HQL.out
                by_cases hql : q < Q'.length
                · obtain ⟨g, s, rfl, hsq, hsc⟩ := OwnNames.at_ hownz hql
                  have hqi : (q : Int) < (Q'.length : Int) := by omega
                  have hq0 : (0 : Int) ≤ (q : Int) := by omega
                  have hqt : ((q : Int)).toNat = q := by omega
                  by_cases g3 : s = nm
                  · have hin := isIn_at hsq
                    rw [g3] at hin hsc
                    have hst := HST.out
                    rw [hin, if_pos rfl, if_neg (by decide)] at hst
                    have h9 := HX1.out (by rw [← hst]; decide)
                    rw [← hst] at h9
                    subst h9
                    have gb : (nm.toList == nm.toList) = true := by simp
                    clear hst hin hsq g3 hownz
                    as_aux_lemma =>
                      go_wp2_with fail
                      go_quiet (fail)
                      go_wp2
                      go_ret
                      exact ⟨rfl, below_drewN hbw _⟩
                  · have HZ2 : Hid (isIn (Q'.take (q + 1)) nm = false) := (show _ = _ by rw [isIn_take hsq, HZ.out, decide_eq_false g3]; rfl)
                    have gb : (s.toList == nm.toList) = false := tl_ne g3
                    clear hsq g3 hownz
                    as_aux_lemma =>
                      go_wp2_with fail
                      go_quiet (fail)
                      go_wp2
                      go_roundw
                      case rel => exact ⟨q + 1, by omega, by go_num, HZ2, below_drewN hbz _⟩
                      case measure => simp [intOf]; omega
                · obtain rfl : q = Q'.length := by omega
                  have hnin := HZ.out
                  rw [List.take_length] at hnin
                  have hst := HST.out
                  rw [hnin] at hst
                  simp only [Bool.false_eq_true, if_false] at hst
                  clear hownz
                  by_cases g4 : crE ⟨nm, kd, vv, rr⟩ = 0
                  · rw [if_pos g4] at hst
                    rw [g4] at hC
                    have HE2 := Lib.hid hst
                    clear hst hnin g4
                    as_aux_lemma =>
                      go_wp2_with fail
                      refine (hC _).mono ?_
                      rintro e w4 ⟨rfl, hb4⟩
                      have hby := hbz.trans (hb4.mono hbz.size)
                      obtain ⟨y0, y1, y2, y3, _⟩ := HP.out _ hby
                      have hown4 : w4.ownsRow w.heap.size 9 1 (.slice av Q'.length cv) Q'.length (Q'.map Value.string) := ownN HOY.out hby
                      have hbw4 : Below w.heap.size w w4 := HBY.out.trans (hby.mono HBY.out.size)
                      clear x0 x1 x2 x3 hb4 hbz hbw hby
                      go_wp2_with (at_builtin; refine wpList_append_own _ rfl _ _ 68 rfl w.heap.size 9 i0 (.string ⟨#[]⟩) 1 16 Tryz.underlying68 hi hz0 hz1 hz2 rfl (by decide) _ _ _ rfl (World.ownsRow.alloc hown4 _) ⟨w4.heap.size, 0, none⟩ 1 1 [.string nm] rfl rfl ?c1 ?c2 ?c3 ?c4 ?c5 ?_)
                      case c1 =>
                        intro j u hj
                        match j, hj with
                        | 0, hj => simp at hj; subst hj; simp [Addr.add]
                      case c2 => intro u hu; simp at hu; subst hu; rfl
                      case c3 => unfold maxLen; omega
                      case c4 => omega
                      case c5 => have := hbw4.size; simp; omega
                      · intro v' w1 hown' hgrow _
                        have hb1 : Below w.heap.size w w1 := (hbw4.alloc hbw4.size _).grown hgrow (by have := hbw4.size; simp; omega) (fun r hr => (World.ownsRow.lt hown4 r hr).1)
                        have ho1 : OwnNames w1 w.heap.size v' (Q' ++ [nm]) := OwnNames.next (by simpa using hown')
                        clear hown' hgrow hown4
                        go_wp2
                        go_roundw
                        case rel => exact ⟨j + 1, Q' ++ [nm], by omega, by go_num, ho1, by simp; omega, HE2, HR2, hb1⟩
                        case measure => simp [intOf]; omega
                  · rw [if_neg g4] at hst
                    have gb : (crE ⟨nm, kd, vv, rr⟩ != 0) = true := by rw [bne_iff_ne]; exact g4
                    generalize crE ⟨nm, kd, vv, rr⟩ = e4 at *
                    have h4 := HX1.out (by rw [← hst]; exact g4)
                    rw [← hst] at h4
                    subst h4
                    clear hst hnin
                    as_aux_lemma =>
                      go_wp2_with fail
                      refine (hC _).mono ?_
                      rintro e w4 ⟨rfl, hb4⟩
                      go_wp2
                      go_ret
                      exact ⟨rfl, hbw.trans (hb4.mono hbw.size)⟩
          · have hz := HEx.out
            have hr := HRx.out
            rw [List.drop_of_length_le (by rw [Hm.out]; omega)] at hz hr
            rw [runsE] at hz
            rw [List.map_nil, List.append_nil] at hr
            subst hr
            have HK2 : Hid (heatsE Q' (LL.drop (k + 1)) = X) := HX2.out hz.symm
            obtain rfl : j = m := by omega
            have hQ2 : Q'.length ≤ 1000 * (k + 1) := by omega
            clear hz HEx HRx hZ2 hLq
            as_aux_lemma =>
              go_wp2
              go_roundw
              case rel => exact ⟨k + 1, Q', by omega, by go_num, hownx, hQ2, HK2, hbx⟩
              case measure => simp [intOf]; omega
    · have hz := HK.out
      rw [List.drop_of_length_le (by rw [Hlen.out]; omega), heatsE] at hz
      subst hz
      clear hown
      go_wp2
      go_ret
      exact ⟨rfl, hb⟩
end Go.Mk
end
