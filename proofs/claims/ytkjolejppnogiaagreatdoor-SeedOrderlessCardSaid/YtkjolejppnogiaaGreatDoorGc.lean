/-
  Proved: seed.placesOf, as a plain function. Conditions: the runners lie where the slice says; there are at most 1,000.
-/
import Derived.Test.YtkjolejppnogiaaGreatDoorGb
set_option linter.unusedVariables false
set_option linter.unusedSimpArgs false
open Go Go.Proofs Go.RowKit Go.Sort
set_option maxRecDepth 100000
namespace Go.Mk
/-- The place of a runner among runners, a natural number. -/
def plcN (L : List Run) (x : Run) : Nat := if x.kind = sTime then 1 + cntR x.value L else 0
theorem plcN_cast (L : List Run) (x : Run) : ((plcN L x : Nat) : Int) = plc L x := by
  unfold plcN plc
  split <;> simp
theorem row_step {α : Type} (f : α → Nat) (L : List α) (n k : Nat) (m : α) (hn : L.length = n) (h : L[k]? = some m) :
    ((L.take k).map f ++ List.replicate (n - k) 0).set k (f m) = (L.take (k + 1)).map f ++ List.replicate (n - (k + 1)) 0 := by
  obtain ⟨hk, e⟩ := List.getElem?_eq_some_iff.1 h
  subst hn
  obtain ⟨q, hq⟩ : ∃ q, L.length - k = q + 1 := ⟨L.length - k - 1, by omega⟩
  have hl : ((L.take k).map f).length = k := by simp; omega
  rw [hq, show L.length - (k + 1) = q by omega, List.set_append_right _ _ (by omega), hl, Nat.sub_self, List.replicate_succ, List.set_cons_zero, List.take_succ_eq_append_getElem hk, e]
  simp
theorem row_none {α : Type} (f : α → Nat) (L : List α) (n k : Nat) (m : α) (hn : L.length = n) (h : L[k]? = some m) (hf : f m = 0) :
    (L.take k).map f ++ List.replicate (n - k) 0 = (L.take (k + 1)).map f ++ List.replicate (n - (k + 1)) 0 := by
  obtain ⟨hk, e⟩ := List.getElem?_eq_some_iff.1 h
  subst hn
  obtain ⟨q, hq⟩ : ∃ q, L.length - k = q + 1 := ⟨L.length - k - 1, by omega⟩
  rw [hq, show L.length - (k + 1) = q by omega, List.take_succ_eq_append_getElem hk, e, List.replicate_succ]
  simp [hf]
theorem tms_take {L : List Run} {k : Nat} {x : Run} (h : L[k]? = some x) : tms (L.take (k + 1)) = tms (L.take k) ++ (if x.kind = sTime then [x.value] else []) := by
  rw [List.take_add_one, h]
  exact tms_snoc _ _
/-- What placesOf leaves: a new block of places. -/
def PlPost (L : List Run) (n : Nat) (w : World) (e : Ending) (w' : World) : Prop :=
  ∃ g, e = .returned (.slice (some ⟨g, 0, none⟩) n n) ∧ w.heap.size ≤ g ∧ Row w' g (L.map (plcN L)) ∧ Below w.heap.size w w'
set_option maxHeartbeats 8000000 in
theorem placesOf_any (L : List Run) (n cap : Nat) (A : Option Addr) (B : Nat) (w : World) (hZ : Runs w B A n L) (hn : n ≤ 1000) :
    Calls Tryz.prog 82 #[.slice A n cap] w (PlPost L n w) := by
  obtain ⟨i0, hi, hz0, hz1, hz2⟩ := info_parts infoInt
  have hmk : ∀ w : World, (Instr.makeSlice 30 (.int .i64 (n : Int)) (.int .i64 (n : Int))).run Tryz.prog w = .ok (.slice (some ⟨w.heap.size, 0, none⟩) n n) (w.alloc (.cells (madeCells #[.int .i64 0] n) 3)) := by
    intro w
    have := run_make (P := Tryz.prog) w 30 3 i0 (.int .i64 0) Tryz.underlying30 hi hz0 .i64 .i64 n n (by omega) (by omega) (by rw [hz2]; omega) (by omega)
    rw [hz1] at this
    simpa [Value.cells] using this
  have HMK := Lib.hid hmk
  have hni : (n : Int) ≤ 1000 := by omega
  have HM : Hid (∀ w', Below w.heap.size w w' → Runs w' B A n L) := fun w' hb => hZ.below hb hZ.2.1
  have Hlen : Hid (L.length = n) := hZ.1
  clear hZ hmk
  go_enter Tryz.func82, Tryz.ntmps82
  go_wp2
  go_loopw [3, 13] (fun v i wr => ∃ k : Nat, k ≤ n ∧ i = .int .i64 k ∧ OwnZ wr w.heap.size v (tms (L.take k)) ∧ Below w.heap.size w wr) (fun _ i _ => n - (RowKit.intOf i).toNat)
  case atStart => exact ⟨0, by omega, rfl, World.ownsRow_nil _ _ _ _, Below.refl _ _⟩
  case round =>
    obtain ⟨k, hk, rfl, hown, hb⟩ := hrel
    by_cases hlt : k < n
    · obtain ⟨b, off, x, rfl, hbl, hL, c0, c1, c2, c3⟩ := (HM.out _ hb).at_ hlt
      have htk := tms_take hL
      have hki : (k : Int) < (n : Int) := by omega
      have hk0 : (0 : Int) ≤ (k : Int) := by omega
      have hkt : ((k : Int)).toNat = k := by omega
      have hlk := tms_len (L.take k)
      have hlk2 : (tms (L.take k)).length ≤ 1000 := by rw [List.length_take] at hlk; omega
      have HT := hasTime_any x (wr.alloc (.cells #[.string x.name, .string x.kind, .int .i64 x.value, .string x.reason] 79))
      obtain ⟨nm, kd, v, r⟩ := x
      unfold Run.agg at HT
      simp only at c0 c1 c2 c3 HT htk
      obtain ⟨Q, hQ⟩ : ∃ Q, tms (L.take k) = Q := ⟨_, rfl⟩
      rw [hQ] at hown htk hlk2
      have hown2 : OwnZ (wr.alloc (.cells #[.string nm, .string kd, .int .i64 v, .string r] 79)) w.heap.size _ Q := World.ownsRow.alloc hown _
      have hb2 : Below w.heap.size w (wr.alloc (.cells #[.string nm, .string kd, .int .i64 v, .string r] 79)) := balloc _ hb
      have HK := Lib.hid hlk2
      clear hL hlk hlk2 hQ hown
      by_cases g1 : kd = sTime
      · rw [if_pos g1] at htk
        rw [decide_eq_true g1] at HT
        have HN := Lib.hid htk
        clear htk g1
        as_aux_lemma =>
          go_wp2_with fail
          refine HT.mono ?_
          rintro e w2 ⟨rfl, hbx⟩
          obtain ⟨x0, x1, x2, x3, _⟩ := boxKept hbx
          have hown3 : OwnZ w2 w.heap.size _ Q := ownN hown2 hbx
          have hb3 := hb2.trans (hbx.mono hb2.size)
          clear hbx hb2 hown2 HT c0 c1 c2 c3
          go_wp2_with (at_builtin; refine wpList_append_own _ rfl _ _ 30 rfl w.heap.size 3 i0 (.int .i64 0) 1 8 Tryz.underlying30 hi hz0 hz1 hz2 rfl (by decide) _ _ _ rfl (World.ownsRow.alloc hown3 _) ⟨w2.heap.size, 0, none⟩ 1 1 [.int .i64 v] rfl rfl ?c1 ?c2 ?c3 ?c4 ?c5 ?_)
          case c1 =>
            intro j u hj
            match j, hj with
            | 0, hj => simp at hj; subst hj; simp [Addr.add]
          case c2 => intro u hu; simp at hu; subst hu; rfl
          case c3 => have := HK.out; unfold maxLen; omega
          case c4 => have := HK.out; omega
          case c5 => have := hb3.size; simp; omega
          · intro v' w1 hown' hgrow _
            have hb1 : Below w.heap.size w w1 := (hb3.alloc hb3.size _).grown hgrow (by have := hb3.size; simp; omega) (fun r hr => (World.ownsRow.lt hown3 r hr).1)
            have ho1 : OwnZ w1 w.heap.size v' (tms (L.take (k + 1))) := by
              rw [HN.out]
              exact OwnZ.next (by simpa using hown')
            clear hown' hgrow
            go_wp2
            go_roundw
            case rel => exact ⟨k + 1, by omega, by go_num, ho1, hb1⟩
            case measure => simp [RowKit.intOf]; omega
      · rw [if_neg g1, List.append_nil] at htk
        rw [decide_eq_false g1] at HT
        have HN := Lib.hid htk
        clear htk g1
        as_aux_lemma =>
          go_wp2_with fail
          refine HT.mono ?_
          rintro e w2 ⟨rfl, hbx⟩
          have hown3 : OwnZ w2 w.heap.size _ Q := ownN hown2 hbx
          rw [← HN.out] at hown3
          have hb3 := hb2.trans (hbx.mono hb2.size)
          clear hbx hb2 hown2 HT c0 c1 c2 c3
          go_wp2
          go_roundw
          case rel => exact ⟨k + 1, by omega, by go_num, hown3, hb3⟩
          case measure => simp [RowKit.intOf]; omega
    · obtain rfl : k = n := by omega
      have htk : L.take k = L := List.take_of_length_le (by rw [Hlen.out]; omega)
      rw [htk] at hown
      have hlk := tms_len L
      rw [Hlen.out] at hlk
      have HS := sortInt_any (tms L) _ w.heap.size wr hown (by omega)
      have hcs := sortZ_sorted (tms L)
      have hcl : (sortZ (tms L)).length ≤ 1000 := by rw [sortZ_len]; omega
      have HPS : Hid (∀ x : Run, x.kind = sTime → plcN L x = 1 + (sortZ (tms L)).countP (fun y => decide (y < x.value))) := fun x hx => by
        unfold plcN
        rw [if_pos hx, sortZ_count, cntR_tms]
      generalize sortZ (tms L) = Z at *
      clear htk hlk hown
      go_wp2_with fail
      refine HS.mono ?_
      rintro e w2 ⟨rfl, hown2, hbs⟩
      obtain ⟨A1, c1, rfl, hI⟩ := IntsZ.of_own hown2
      have hb2 := hb.trans hbs
      obtain ⟨m, hm⟩ : ∃ m, Z.length = m := ⟨_, rfl⟩
      rw [hm] at hI hcl ⊢
      have HI := Lib.hid hI
      have HC := Lib.hid hcs
      have hmk := HMK.out
      clear HS hb hbs hown2 hI hcs
      go_wp2
      have hrow : Row (w2.alloc (.cells (madeCells #[.int .i64 0] k) 3)) w2.heap.size (List.replicate k 0) := Row.new w2 k
      have hbw : Below w2.heap.size w2 (w2.alloc (.cells (madeCells #[.int .i64 0] k) 3)) := (Below.refl _ _).alloc (Nat.le_refl _) _
      generalize w2.alloc (.cells (madeCells #[.int .i64 0] k) 3) = w3 at *
      have hsz := hbw.size
      have hsz1 := hrow.1
      have HB2 := Lib.hid hb2
      have hws := hb2.size
      clear hmk HMK hb2
      go_loopw [33] (fun i wr => ∃ j : Nat, j ≤ k ∧ i = .int .i64 j ∧ Row wr w2.heap.size ((L.take j).map (plcN L) ++ List.replicate (k - j) 0) ∧ Below w2.heap.size w2 wr) (fun i _ => k - (RowKit.intOf i).toNat)
      case atStart => exact ⟨0, by omega, rfl, by simpa using hrow, hbw⟩
      case round =>
        obtain ⟨j, hj, rfl, hr, hb⟩ := hrel
        have hbA : Below w.heap.size w wr := HB2.out.trans (hb.mono (by omega))
        clear hrow hbw
        by_cases hlt : j < k
        · obtain ⟨b, off, x, rfl, hbl, hL, c0, c1', c2, c3⟩ := (HM.out _ hbA).at_ hlt
          have hset := row_step (plcN L) L k j _ Hlen.out hL
          have hnon := row_none (plcN L) L k j _ Hlen.out hL
          have hki : (j : Int) < (k : Int) := by omega
          have hk0 : (0 : Int) ≤ (j : Int) := by omega
          have hkt : ((j : Int)).toNat = j := by omega
          have hzr := hb.size
          have hz1 := hr.1
          have HT := hasTime_any x (wr.alloc (.cells #[.string x.name, .string x.kind, .int .i64 x.value, .string x.reason] 79))
          obtain ⟨nm, kd, v, r⟩ := x
          unfold Run.agg at HT
          simp only at c0 c1' c2 c3 HT
          have hbn : Below w2.heap.size w2 (wr.alloc (.cells #[.string nm, .string kd, .int .i64 v, .string r] 79)) := hb.alloc (by omega) _
          have hrn : Row (wr.alloc (.cells #[.string nm, .string kd, .int .i64 v, .string r] 79)) w2.heap.size ((L.take j).map (plcN L) ++ List.replicate (k - j) 0) := hr.alloc _
          have hll : j < ((L.take j).map (plcN L) ++ List.replicate (k - j) 0).length := by simp; rw [Hlen.out]; omega
          have Hset := Lib.hid hset
          have Hnon := Lib.hid hnon
          have HLL := Lib.hid hll
          clear hset hnon hL hr hb hll
          by_cases g1 : kd = sTime
          · have hp := HPS.out ⟨nm, kd, v, r⟩ g1
            simp only at hp
            have hcp : Z.countP (fun y => decide (y < v)) ≤ 1000 := Nat.le_trans List.countP_le_length (by omega)
            have HBS := fun w hI => bsInt_any Z A1 m c1 v w hI HC.out (by omega)
            obtain ⟨q, hq⟩ : ∃ q, Z.countP (fun y => decide (y < v)) = q := ⟨_, rfl⟩
            rw [hq] at hp hcp HBS
            have hS := Hset.out
            rw [hp] at hS
            have HS := Lib.hid hS
            rw [decide_eq_true g1] at HT
            have hqi : (q : Int) ≤ 1000 := by omega
            clear hp hcp hq hS Hset Hnon g1
            as_aux_lemma =>
              go_wp2_with fail
              refine HT.mono ?_
              rintro e w4 ⟨rfl, hbx⟩
              obtain ⟨x0, x1, x2, x3, _⟩ := boxKept hbx
              have hb4 := hbn.trans (hbx.mono (by have := hbn.size; omega))
              have hr4 := hrn.below hbx hrn.1 hbx.size
              have hB := HBS w4 (HI.out.below hb4)
              clear hbx hbn hrn HT HBS c0 c1' c2 c3
              go_wp2_with fail
              refine hB.mono ?_
              rintro e w5 ⟨b5, rfl, hb5⟩
              have hr5 := hr4.below hb5 hr4.1 hb5.size
              have hb6 := hb4.trans (hb5.mono (by have := hb4.size; omega))
              obtain ⟨j0, j1⟩ := hr5.at_ HLL.out
              have hfin : Row (w5.setCell ⟨w2.heap.size, j, none⟩ (.int .i64 (1 + (q : Int)))) w2.heap.size ((L.take (j + 1)).map (plcN L) ++ List.replicate (k - (j + 1)) 0) := by
                have := hr5.set_ HLL.out (1 + q)
                rw [HS.out] at this
                rwa [show ((1 + q : Nat) : Int) = 1 + (q : Int) by omega] at this
              have hbfin : Below w2.heap.size w2 (w5.setCell ⟨w2.heap.size, j, none⟩ (.int .i64 (1 + (q : Int)))) := hb6.setCell (Nat.le_refl _) _
              obtain ⟨y, hy⟩ : ∃ y, ((L.take j).map (plcN L) ++ List.replicate (k - j) 0).getD j 0 = y := ⟨_, rfl⟩
              rw [hy] at j0
              clear hb4 hr4 hb5 hB hb6 hr5 HS hy x0 x1 x2 x3
              go_wp2
              go_roundw
              case rel => exact ⟨j + 1, by omega, by go_num, hfin, hbfin⟩
              case measure => simp [RowKit.intOf]; omega
          · have hf : plcN L ⟨nm, kd, v, r⟩ = 0 := by unfold plcN; rw [if_neg g1]
            have HS := Lib.hid (Hnon.out hf)
            rw [decide_eq_false g1] at HT
            clear hf Hset Hnon g1
            as_aux_lemma =>
              go_wp2_with fail
              refine HT.mono ?_
              rintro e w4 ⟨rfl, hbx⟩
              have hb4 := hbn.trans (hbx.mono (by have := hbn.size; omega))
              have hr4 := hrn.below hbx hrn.1 hbx.size
              rw [HS.out] at hr4
              clear hbx hbn hrn HT c0 c1' c2 c3
              go_wp2
              go_roundw
              case rel => exact ⟨j + 1, by omega, by go_num, hr4, hb4⟩
              case measure => simp [RowKit.intOf]; omega
        · have hjk : j = k := by omega
          have htk : L.take j = L := List.take_of_length_le (by rw [Hlen.out]; omega)
          rw [htk, hjk, Nat.sub_self, List.replicate_zero, List.append_nil] at hr
          have HR := Lib.hid hr
          clear hr htk
          go_wp2
          go_ret
          exact ⟨_, rfl, hws, HR.out, hbA⟩
end Go.Mk
