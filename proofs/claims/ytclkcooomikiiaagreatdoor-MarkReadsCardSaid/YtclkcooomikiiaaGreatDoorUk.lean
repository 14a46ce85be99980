/-
  Proved: mark.parseFields returns the numbers of the parts of a text between its colons and whether they are at most three, or nothing and false. Conditions: the text has at most 60 bytes; the heap holds the program's tables.
-/
import Derived.Test.YtclkcooomikiiaaGreatDoorUj
import Derived.RangeFuncFrom
import Derived.Maps.AppendAt
set_option linter.unusedVariables false
set_option linter.unusedSimpArgs false
open Go Go.Proofs Go.RowKit Go.Sort Go.Shelf
set_option maxRecDepth 100000
namespace Go.Mk
attribute [local go_sem] Oper.semAt_some
theorem scaled_two (f : ByteArray) : scaled f 2 2 = if f.size = 2 then digits f else -1 := by
  unfold scaled
  by_cases h : f.size = 2
  · rw [if_pos h]
    have := (digits_bound f).1
    by_cases hd : digits f < 0
    · rw [if_pos (by omega)]; omega
    · rw [if_neg (by omega), h]; simp
  · rw [if_neg h, if_pos (by omega)]
/-- The numbers of the parts, from the place i on. -/
def valsFrom : Nat → List ByteArray → List Int
  | _, [] => []
  | i, f :: l => fv i f :: valsFrom (i + 1) l
def okF : Nat → List ByteArray → Bool
  | _, [] => true
  | i, f :: l => decide (0 ≤ fv i f) && okF (i + 1) l
theorem valsFrom_length (i : Nat) (L : List ByteArray) : (valsFrom i L).length = L.length := by
  induction L generalizing i with
  | nil => rfl
  | cons f l ih => simp [valsFrom, ih]
theorem valsFrom_snoc (i : Nat) (L : List ByteArray) (x : ByteArray) : valsFrom i (L ++ [x]) = valsFrom i L ++ [fv (i + L.length) x] := by
  induction L generalizing i with
  | nil => simp [valsFrom]
  | cons f l ih => rw [List.cons_append, valsFrom, ih, valsFrom, List.length_cons, show i + 1 + l.length = i + (l.length + 1) from by omega]; rfl
theorem okF_append (i : Nat) (L M : List ByteArray) : okF i (L ++ M) = (okF i L && okF (i + L.length) M) := by
  induction L generalizing i with
  | nil => simp [okF]
  | cons f l ih => rw [List.cons_append, okF, ih, okF, List.length_cons, show i + 1 + l.length = i + (l.length + 1) from by omega, Bool.and_assoc]
theorem okF_snoc (L : List ByteArray) (x : ByteArray) : okF 0 (L ++ [x]) = (okF 0 L && decide (0 ≤ fv L.length x)) := by
  rw [okF_append, okF, okF, Bool.and_true, Nat.zero_add]
set_option maxHeartbeats 1000000 in
theorem parseTwoDigits_any (f : ByteArray) (hz : f.size ≤ maxLen) (w : World) : Calls Tryz.prog 182 #[.string f] w (RetPost (.tuple #[.int .i64 (if scaled f 2 2 < 0 then 0 else scaled f 2 2), .bool (decide (0 ≤ scaled f 2 2))]) w) := by
  have h := parseDigits_any f 2 2 (by decide) (by decide) hz w
  generalize scaled f 2 2 = n at *
  generalize (if n < 0 then (0 : Int) else n) = a at *
  generalize decide (0 ≤ n) = b at *
  go_enter Tryz.func182, Tryz.ntmps182
  go_wp2_with fail
  refine h.mono ?_
  rintro e w2 ⟨rfl, hb⟩
  go_wp2
  go_ret2
  exact ⟨rfl, hb⟩
theorem splitFields_any (s : ByteArray) (w : World) : Calls Tryz.prog 181 #[.string s] w fun e w' => e = .returned (.func (.func 214) #[] #[.pointer (some ⟨w.heap.size, 0, none⟩)]) ∧ w' = w.alloc (.cells #[.string s] 9) := by
  go_enter Tryz.func181, Tryz.ntmps181
  go_wp2
  go_ret
  exact ⟨rfl, rfl⟩
theorem parts_stops (n : Nat) (hn : 1 ≤ n) (Bn : Nat) (s : ByteArray) (hz : s.size ≤ 60) (w0 w : World) (hG : Gd w0) (hW : Below w0.heap.size w0 w) (hlt : Bn < w.heap.size) (hBn : w.cell? ⟨Bn, 0, none⟩ = some (.string s)) :
    SeqStopsK Fence.wide n Tryz.prog 214 #[.pointer (some ⟨Bn, 0, none⟩)] (fun x : Part => #[Value.string x.1]) (Below w0.heap.size) (fun ys => ys.map (·.1) = split 58 s) (fun pre => pre.map (·.1) <+: split 58 s) (split 58 s).length w :=
  fun l J Jx W hWW hJ _ hY h0 => iter_in n hn l Bn s hz w0 hG J Jx (fun pre A B hA hb => hJ pre A B none hA (grown_of_below hb) (fun r e => by cases e)) hY W ((hWW.cell (p := ⟨Bn, 0, none⟩) hlt).trans hBn) (hW.trans (hWW.mono hW.size)) h0
theorem infoI : (Tryz.prog.info? 3).map (fun i => (i.zero, i.size, i.bytes)) = some (some (.int .i64 0), 1, 8) := by kernel_rfl
/-- What mark.parseFields does with the parts. -/
def FieldsPost (L : List ByteArray) (w : World) (e : Ending) (w' : World) : Prop :=
  (okF 0 L = true ∧ ∃ v, e = .returned (.tuple #[v, .bool (decide (L.length ≤ 3))]) ∧ w'.ownsRow w.heap.size 3 1 v L.length ((valsFrom 0 L).map (Value.int .i64)) ∧ Below w.heap.size w w') ∨
  (okF 0 L = false ∧ e = .returned (.tuple #[.slice none 0 0, .bool false]) ∧ Below w.heap.size w w')
/-- Behind the parts pre: what the cells of the call hold. -/
def FI (w : World) (pre : List Part) (W : World) : Prop :=
  (((∃ v, Boxed W (w.heap.size + 1 + 1) 43 v ∧ W.ownsRow w.heap.size 3 1 v (valsFrom 0 (pre.map (·.1))).length ((valsFrom 0 (pre.map (·.1))).map (Value.int .i64)) ∧ okF 0 (pre.map (·.1)) = true) ∧
  Boxed W w.heap.size 43 (.slice none 0 0)) ∧ Boxed W (w.heap.size + 1) 4 (.bool false)) ∧ Below w.heap.size w W
theorem FI.own (w : World) (B : Nat) (hB : w.heap.size ≤ B) : OwnFrom B (FI w) :=
  OwnFrom.and (OwnFrom.and (OwnFrom.and (Own.from (holdsRow_own w.heap.size (w.heap.size + 1 + 1) 43 3 1 (fun (pre : List Part) => (valsFrom 0 (pre.map (·.1))).length) (fun (pre : List Part) => (valsFrom 0 (pre.map (·.1))).map (Value.int .i64)) (fun (pre : List Part) _ => okF 0 (pre.map (·.1)) = true)) _)
    (Own.from (boxed_own w.heap.size 43 (fun _ => .slice none 0 0)) _)) (Own.from (boxed_own (w.heap.size + 1) 4 (fun _ => .bool false)) _)) (ownFrom_below (Nat.le_refl _) hB)
/-- A part was no number. -/
def FX (w : World) (c : Code) (pre : List Part) (W : World) : Prop :=
  ((((fun (_ : List Part) (_ : World) => c = .ret ∧ okF 0 (pre.map (·.1)) = false) pre W) ∧ Boxed W w.heap.size 43 (.slice none 0 0)) ∧ Boxed W (w.heap.size + 1) 4 (.bool false)) ∧ Below w.heap.size w W
theorem FX.own (w : World) (c : Code) (B : Nat) (hB : w.heap.size ≤ B) : OwnFrom B (FX w c) := fun s A C row hs hg hr =>
  ⟨⟨⟨hs.1.1.1, (Own.from (boxed_own w.heap.size 43 (fun (_ : List Part) => .slice none 0 0)) B) s A C row hs.1.1.2 hg hr⟩, (Own.from (boxed_own (w.heap.size + 1) 4 (fun (_ : List Part) => .bool false)) B) s A C row hs.1.2 hg hr⟩, (ownFrom_below (β := List Part) (Nat.le_refl _) hB) s A C row hs.2 hg hr⟩
theorem keeps_of_below {W W' : World} (h : Below W.heap.size W W') : KeepsOthers W W' := ⟨h.size, fun k o hk _ => (h.block k (Array.getElem?_eq_some_iff.1 hk).1).trans hk⟩
theorem Boxed.below {W W' : World} {B K : Nat} {t : TypeId} {v : Value} (h : Boxed W B t v) (hb : Below K W W') (hK : B < K) : Boxed W' B t v := (hb.block B hK).trans h
set_option maxHeartbeats 4000000 in
theorem parseFields_any (s : ByteArray) (hz : s.size ≤ 60) (w : World) (hG : Gd w) : Calls Tryz.prog 123 #[.string s] w (FieldsPost (split 58 s) w) := by
  obtain ⟨i0, hi, hz0, hz1, hz2⟩ := info_parts infoI
  have hSF := splitFields_any s
  have hsl : (split 58 s).length ≤ 61 := by
    have : ∀ l cur, (splitGo 58 cur l).length ≤ l.length + 1 := by
      intro l
      induction l with
      | nil => intro cur; simp [splitGo]
      | cons a l ih => intro cur; rw [splitGo]; split
                       · simp; exact ih []
                       · have := ih (cur ++ [a]); simp; omega
    have h2 := this s.data.toList []
    have h3 : s.data.toList.length = s.size := Array.length_toList
    unfold split
    rw [List.length_map]; omega
  refine (callsIn_wide (n := 3)).1 ?_
  refine callsIn_of_wp_marks Tryz.func123 rfl trivial ?_ rfl
  simp only [Tryz.ntmps123, List.size_toArray, List.length_cons, List.length_nil, Nat.reduceAdd, Nat.reduceSub, Array.replicate_succ, Array.replicate_zero, List.push_toArray, List.append_toArray, List.nil_append, List.cons_append]
  gi_wp2_with (refine ⟨trivial, ?_⟩; gi_at_call 181; refine (callsIn_wide.2 (hSF _)).mono ?_; rintro e w' ⟨rfl, rfl⟩)
  have b0 := Boxed.new w 43 (.slice none 0 0)
  have b1 := Boxed.new (w.alloc (.cells #[.slice none 0 0] 43)) 4 (.bool false)
  have b2 := Boxed.new ((w.alloc (.cells #[.slice none 0 0] 43)).alloc (.cells #[.bool false] 4)) 43 (.slice none 0 0)
  have b3 := Boxed.new (((w.alloc (.cells #[.slice none 0 0] 43)).alloc (.cells #[.bool false] 4)).alloc (.cells #[.slice none 0 0] 43)) 9 (.string s)
  simp only [World.size_alloc] at b1 b2 b3
  have hB0 : Below w.heap.size w ((((w.alloc (.cells #[.slice none 0 0] 43)).alloc (.cells #[.bool false] 4)).alloc (.cells #[.slice none 0 0] 43)).alloc (.cells #[.string s] 9)) := ((((Below.refl _ w).alloc (Nat.le_refl _) _).alloc (by simp) _).alloc (by simp; omega) _).alloc (by simp; omega) _
  refine wpIn_rangeFunc_ownF rfl (by omega) (gf := 214) (lb := #[.pointer (some ⟨w.heap.size + 1 + 1 + 1, 0, none⟩)]) rfl trivial (enters_of Tryz.func214 (by kernel_rfl) rfl)
    (parts_stops _ (by omega) (w.heap.size + 1 + 1 + 1) s hz w _ hG hB0 (by simp) b3.cell) belowK_t (belowK_b (by simp; omega)) (Below.refl _ _) (fun _ => rfl)
    (FI w) (FX w) (FI.own w _ (by simp; omega)) (fun c => FX.own w c _ (by simp; omega))
    ⟨⟨⟨⟨_, b2.alloc _, World.ownsRow_nil _ _ _ _, rfl⟩, ((b0.alloc _).alloc _).alloc _⟩, (b1.alloc _).alloc _⟩, hB0⟩
    (fun x => { tmps := #[.string s, undef, .pointer (some ⟨w.heap.size, 0, none⟩), .pointer (some ⟨w.heap.size + 1, 0, none⟩), .pointer (some ⟨w.heap.size + 1 + 1, 0, none⟩), .string x.1, undef, undef, undef, .string s, .func (.func 214) #[] #[.pointer (some ⟨w.heap.size + 1 + 1 + 1, 0, none⟩)], .string x.1, undef, undef, undef, undef, undef, undef, undef, undef, undef, undef, undef, undef, undef, undef, undef, undef, undef, undef, undef], defers := [] }) ?assign ?body ?done ?stop
  case assign =>
    intro l x W K hK
    gi_wp2
    exact hK
  case body =>
    rintro l pre x W ⟨⟨⟨⟨v, hv, hrow, hok⟩, hv0⟩, hv1⟩, hB⟩ hlt
    have hxz : x.1.size ≤ maxLen := by have := x.2; unfold maxLen; omega
    have HOK := Lib.hid hok
    have HO : Hid (okF 0 ((pre ++ [x]).map (·.1)) = (okF 0 (pre.map (·.1)) && decide (0 ≤ fv pre.length x.1))) := Lib.hid (by rw [List.map_append, List.map_singleton, okF_snoc, List.length_map])
    have HV : Hid (valsFrom 0 ((pre ++ [x]).map (·.1)) = valsFrom 0 (pre.map (·.1)) ++ [fv pre.length x.1]) := Lib.hid (by rw [List.map_append, List.map_singleton, valsFrom_snoc, List.length_map, Nat.zero_add])
    have hlenV : (valsFrom 0 (pre.map (·.1))).length = pre.length := by rw [valsFrom_length, List.length_map]
    obtain ⟨a, cap, rfl⟩ : ∃ a cap, v = .slice a pre.length cap := by
      rcases Joins.ownsRow_forms hrow with ⟨h, h0⟩ | ⟨g, cap, h⟩
      · rw [hlenV] at h0; exact ⟨none, 0, by rw [h, h0]⟩
      · rw [hlenV] at h; exact ⟨_, _, h⟩
    rw [hlenV] at hrow
    have hcell := hv.cell
    have hpl : pre.length < 61 := Nat.lt_of_lt_of_le hlt hsl
    generalize valsFrom 0 (pre.map (·.1)) = V at *
    clear hok hlt
    rcases Nat.eq_zero_or_pos pre.length with hk0 | hk0
    · have hPI := fun w => parseInteger_any x.1 hxz w
      have hfe : fv pre.length x.1 = front x.1 := if_pos hk0
      rw [hfe] at HO HV
      generalize front x.1 = c at *
      rw [hk0] at hcell hrow hv hlenV hpl
      clear hfe
      by_cases hc : c < 0
      · rw [if_pos hc, decide_eq_false (by omega)] at hPI
        have HOF : Hid (okF 0 ((pre ++ [x]).map (·.1)) = false) := Lib.hid (by rw [HO.out, decide_eq_false (by omega)]; simp)
        as_aux_lemma =>
          gi_wp2_with (refine ⟨trivial, ?_⟩; gi_at_call 125; refine (CallsIn.inRound l (callsIn_wide.2 (hPI _))).mono ?_; rintro e w2 ⟨rfl, hb2⟩; have hv2 := Boxed.below hv hb2 hv.lt; have hrow2 := World.ownsRow.kept hrow (grown_of_below hb2) (Decidable.em _); have hc2 := hv2.cell; have g0 := (Boxed.below hv0 hb2 hv0.lt); have g1 := (Boxed.below hv1 hb2 hv1.lt); have d0 := g0.cell; have d1 := g1.cell; have e0 := g0.frozen; have e1 := g1.frozen; have hB2 := hB.trans (hb2.mono hB.size))
          exact ⟨(keeps_of_below hb2).trans ((KeepsOthers.setCell _ _ _).trans (KeepsOthers.setCell _ _ _)), ⟨⟨⟨rfl, HOF.out⟩, (g0.set _).other (by omega) _⟩, (g1.other (by omega) _).set _⟩, (hB2.setCell (p := ⟨w.heap.size, 0, none⟩) (Nat.le_refl _) _).setCell (p := ⟨w.heap.size + 1, 0, none⟩) (by simp) _⟩
      · rw [if_neg hc, decide_eq_true (by omega)] at hPI
        have HOT : Hid (okF 0 ((pre ++ [x]).map (·.1)) = true) := Lib.hid (by rw [HO.out, HOK.out, decide_eq_true (by omega)]; rfl)
        as_aux_lemma =>
          gi_wp2_with (first | (refine ⟨trivial, ?_⟩; gi_at_call 125; refine (CallsIn.inRound l (callsIn_wide.2 (hPI _))).mono ?_; rintro e w2 ⟨rfl, hb2⟩; have hv2 := Boxed.below hv hb2 hv.lt; have hrow2 := World.ownsRow.kept hrow (grown_of_below hb2) (Decidable.em _); have hc2 := hv2.cell; have g0 := (Boxed.below hv0 hb2 hv0.lt); have g1 := (Boxed.below hv1 hb2 hv1.lt); have d0 := g0.cell; have d1 := g1.cell; have e0 := g0.frozen; have e1 := g1.frozen; have hB2 := hB.trans (hb2.mono hB.size)) | (gi_at_builtin; refine wpListIn_append_own _ rfl _ _ 43 rfl w.heap.size 3 i0 (.int .i64 0) 1 8 Tryz.underlying43 hi hz0 hz1 hz2 rfl (by decide) _ _ _ rfl (hrow2.alloc _) ⟨w2.heap.size, 0, none⟩ 1 1 [.int .i64 c] rfl rfl (cell_one_new _ _ _) (by simp [Value.oneCell']) (by unfold maxLen; omega) (by omega) (by have := hB2.size; simp; omega) ?_; intro v' w3 hown' hgrow _; obtain ⟨g', cap', rfl⟩ := ownsRow_succ hown'; obtain ⟨hq1, hq2, hr2, hk2, hb3⟩ := hv2.appended (by decide) hrow2 hB2.size (by omega) hown' hgrow; have hc1 := hq1.cell; have hf1 := hq1.frozen))
          exact ⟨(keeps_of_below hb2).trans hk2, (hb2.mono hB.size).trans hb3, ⟨⟨⟨_, hq2, by rw [HV.out, List.length_append, hlenV, List.map_append]; exact hr2, HOT.out⟩, ((g0.alloc _).kept hgrow (g0.not_row (by decide) hrow2)).other (by omega) _⟩, ((g1.alloc _).kept hgrow (g1.not_row (by decide) hrow2)).other (by omega) _⟩, hB2.trans hb3⟩
    · have hPI := fun w => parseTwoDigits_any x.1 hxz w
      have hfe : fv pre.length x.1 = scaled x.1 2 2 := by rw [scaled_two]; exact if_neg (by omega)
      rw [hfe] at HO HV
      generalize scaled x.1 2 2 = c at *
      have hki : (0 : Int) < pre.length := by omega
      generalize pre.length = k at *
      clear hfe
      by_cases hc : c < 0
      · rw [if_pos hc, decide_eq_false (by omega)] at hPI
        have HOF : Hid (okF 0 ((pre ++ [x]).map (·.1)) = false) := Lib.hid (by rw [HO.out, decide_eq_false (by omega)]; simp)
        as_aux_lemma =>
          gi_wp2_with (refine ⟨trivial, ?_⟩; gi_at_call 182; refine (CallsIn.inRound l (callsIn_wide.2 (hPI _))).mono ?_; rintro e w2 ⟨rfl, hb2⟩; have hv2 := Boxed.below hv hb2 hv.lt; have hrow2 := World.ownsRow.kept hrow (grown_of_below hb2) (Decidable.em _); have hc2 := hv2.cell; have g0 := (Boxed.below hv0 hb2 hv0.lt); have g1 := (Boxed.below hv1 hb2 hv1.lt); have d0 := g0.cell; have d1 := g1.cell; have e0 := g0.frozen; have e1 := g1.frozen; have hB2 := hB.trans (hb2.mono hB.size))
          exact ⟨(keeps_of_below hb2).trans ((KeepsOthers.setCell _ _ _).trans (KeepsOthers.setCell _ _ _)), ⟨⟨⟨rfl, HOF.out⟩, (g0.set _).other (by omega) _⟩, (g1.other (by omega) _).set _⟩, (hB2.setCell (p := ⟨w.heap.size, 0, none⟩) (Nat.le_refl _) _).setCell (p := ⟨w.heap.size + 1, 0, none⟩) (by simp) _⟩
      · rw [if_neg hc, decide_eq_true (by omega)] at hPI
        have HOT : Hid (okF 0 ((pre ++ [x]).map (·.1)) = true) := Lib.hid (by rw [HO.out, HOK.out, decide_eq_true (by omega)]; rfl)
        as_aux_lemma =>
          gi_wp2_with (first | (refine ⟨trivial, ?_⟩; gi_at_call 182; refine (CallsIn.inRound l (callsIn_wide.2 (hPI _))).mono ?_; rintro e w2 ⟨rfl, hb2⟩; have hv2 := Boxed.below hv hb2 hv.lt; have hrow2 := World.ownsRow.kept hrow (grown_of_below hb2) (Decidable.em _); have hc2 := hv2.cell; have g0 := (Boxed.below hv0 hb2 hv0.lt); have g1 := (Boxed.below hv1 hb2 hv1.lt); have d0 := g0.cell; have d1 := g1.cell; have e0 := g0.frozen; have e1 := g1.frozen; have hB2 := hB.trans (hb2.mono hB.size)) | (gi_at_builtin; refine wpListIn_append_own _ rfl _ _ 43 rfl w.heap.size 3 i0 (.int .i64 0) 1 8 Tryz.underlying43 hi hz0 hz1 hz2 rfl (by decide) _ _ _ rfl (hrow2.alloc _) ⟨w2.heap.size, 0, none⟩ 1 1 [.int .i64 c] rfl rfl (cell_one_new _ _ _) (by simp [Value.oneCell']) (by unfold maxLen; omega) (by omega) (by have := hB2.size; simp; omega) ?_; intro v' w3 hown' hgrow _; obtain ⟨g', cap', rfl⟩ := ownsRow_succ hown'; obtain ⟨hq1, hq2, hr2, hk2, hb3⟩ := hv2.appended (by decide) hrow2 hB2.size (by omega) hown' hgrow; have hc1 := hq1.cell; have hf1 := hq1.frozen))
          exact ⟨(keeps_of_below hb2).trans hk2, (hb2.mono hB.size).trans hb3, ⟨⟨⟨_, hq2, by rw [HV.out, List.length_append, hlenV, List.map_append]; exact hr2, HOT.out⟩, ((g0.alloc _).kept hgrow (g0.not_row (by decide) hrow2)).other (by omega) _⟩, ((g1.alloc _).kept hgrow (g1.not_row (by decide) hrow2)).other (by omega) _⟩, hB2.trans hb3⟩
  case done =>
    rintro D ys W hD hys ⟨⟨⟨⟨v, hv, hrow, hok⟩, hv0⟩, hv1⟩, hB⟩ hK
    obtain ⟨a, cap, rfl⟩ : ∃ a cap, v = .slice a (split 58 s).length cap := by
      rw [hys, valsFrom_length] at hrow
      rcases Joins.ownsRow_forms hrow with ⟨h, h0⟩ | ⟨g, cap, h⟩
      · exact ⟨none, 0, by rw [h, h0]⟩
      · exact ⟨_, _, h⟩
    rw [hys] at hrow hok
    rw [valsFrom_length] at hrow
    have hc := hv.cell
    have d0 := hv0.cell
    have d1 := hv1.cell
    have e0 := hv0.frozen
    have e1 := hv1.frozen
    have HOK := Lib.hid hok
    obtain ⟨V, hVe⟩ : ∃ V, valsFrom 0 (split 58 s) = V := ⟨_, rfl⟩
    rw [hVe] at hrow
    have HVe := Lib.hid hVe
    clear hVe
    generalize hnn : (split 58 s).length = n at *
    clear hok
    gi_wp2
    gi_region
    gi_wp2
    have r0 : Boxed (W.setCell ⟨w.heap.size, 0, none⟩ (.slice a n cap)) w.heap.size 43 (.slice a n cap) := hv0.set _
    have r1 : Boxed (W.setCell ⟨w.heap.size, 0, none⟩ (.slice a n cap)) (w.heap.size + 1) 4 (.bool false) := hv1.other (by omega) _
    have q0 : Boxed ((W.setCell ⟨w.heap.size, 0, none⟩ (.slice a n cap)).setCell ⟨w.heap.size + 1, 0, none⟩ (.bool (decide ((n : Int) ≤ 3)))).drew w.heap.size 43 (.slice a n cap) := r0.other (by omega) _
    have q1 : Boxed ((W.setCell ⟨w.heap.size, 0, none⟩ (.slice a n cap)).setCell ⟨w.heap.size + 1, 0, none⟩ (.bool (decide ((n : Int) ≤ 3)))).drew (w.heap.size + 1) 4 (.bool (decide ((n : Int) ≤ 3))) := r1.set _
    have hrow1 := World.ownsRow.kept hrow (grownBy_setCell' W w.heap.size (.slice a n cap)) (.inr (hv0.not_row (by decide) hrow).symm)
    have hrow2 : ((W.setCell ⟨w.heap.size, 0, none⟩ (.slice a n cap)).setCell ⟨w.heap.size + 1, 0, none⟩ (.bool (decide ((n : Int) ≤ 3)))).drew.ownsRow w.heap.size 3 1 (.slice a n cap) n (V.map (Value.int .i64)) := World.ownsRow.drew (World.ownsRow.kept hrow1 (grownBy_setCell' (W.setCell ⟨w.heap.size, 0, none⟩ (.slice a n cap)) (w.heap.size + 1) (.bool (decide ((n : Int) ≤ 3)))) (.inr (r1.not_row (by decide) hrow1).symm))
    have hBf : Below w.heap.size w ((W.setCell ⟨w.heap.size, 0, none⟩ (.slice a n cap)).setCell ⟨w.heap.size + 1, 0, none⟩ (.bool (decide ((n : Int) ≤ 3)))).drew := ((hB.setCell (p := ⟨w.heap.size, 0, none⟩) (Nat.le_refl _) _).setCell (p := ⟨w.heap.size + 1, 0, none⟩) (by simp) _).drew
    have hK' : ((W.setCell ⟨w.heap.size, 0, none⟩ (.slice a n cap)).setCell ⟨w.heap.size + 1, 0, none⟩ (.bool (decide ((n : Int) ≤ 3)))).drew.heap[D]? = some (.deferred (some [])) := ((KeepsOthers.setCell _ _ _).trans (KeepsOthers.setCell _ _ _)).same D _ hK rfl
    clear hrow hrow1 r0 r1 hv0 hv1 hc d0 d1 e0 e1 hB hv hK
    generalize ((W.setCell ⟨w.heap.size, 0, none⟩ (.slice a n cap)).setCell ⟨w.heap.size + 1, 0, none⟩ (.bool (decide ((n : Int) ≤ 3)))).drew = W2 at *
    refine ⟨by simp, .inl ⟨_, _, rfl, run_takeDeferred hK', ?_⟩⟩
    have hc0 := cell_kept q0.cell (grownBy_putObj' _ D (.deferred none)) (fun r e => by cases e; exact ⟨_, hK', rfl⟩)
    have hc1 := cell_kept q1.cell (grownBy_putObj' _ D (.deferred none)) (fun r e => by cases e; exact ⟨_, hK', rfl⟩)
    refine ⟨.tuple #[.slice a n cap, .bool (decide ((n : Int) ≤ 3))], ?_, .inl ⟨HOK.out, .slice a n cap, ?_, ?_, hBf.trans (belowK_b (w := w) (Nat.le_refl _) W2 D _ _ (by simp at hD; omega) hK' rfl rfl)⟩⟩
    · simp [results, Tryz.results123, go_sem, hc0, hc1]
    · rw [hnn, show decide ((n : Int) ≤ 3) = decide (n ≤ 3) from decide_eq_decide.2 (by omega)]
    · rw [hnn, HVe.out]
      exact ownsRow_putObj hrow2 _ hK' rfl
  case stop =>
    rintro D c pre W hD hpre ⟨⟨⟨⟨rfl, hok⟩, hv0⟩, hv1⟩, hB⟩ hK
    gi_wp2
    refine ⟨by simp, .inl ⟨_, _, rfl, run_takeDeferred hK, ?_⟩⟩
    have hc0 := cell_kept hv0.cell (grownBy_putObj' _ D (.deferred none)) (fun r e => by cases e; exact ⟨_, hK, rfl⟩)
    have hc1 := cell_kept hv1.cell (grownBy_putObj' _ D (.deferred none)) (fun r e => by cases e; exact ⟨_, hK, rfl⟩)
    refine ⟨.tuple #[.slice none 0 0, .bool false], ?_, .inr ⟨?_, rfl, hB.trans (belowK_b (w := w) (Nat.le_refl _) W D _ _ (by simp at hD; omega) hK rfl rfl)⟩⟩
    · simp [results, Tryz.results123, go_sem, hc0, hc1]
    · obtain ⟨r, hr⟩ := hpre
      rw [← hr, okF_append, hok, Bool.false_and]
end Go.Mk
