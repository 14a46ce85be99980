/-
  Proved: the statement of FieldStands (its row, and its tied card): for every input the law returns true, and
-/
import Derived.Test.YthgkaojplomapaaGreatDoorXaw
import Derived.Test.YthgkaojplomapaaGreatDoorFhk
import Derived.Test.YthgkaojplomapaaGreatDoorFs
set_option maxHeartbeats 32000000
namespace Go.Proofs.YthgkaojplomapaaGreatDoor.fieldStands
open Go.ChangeShapes Go.WideShapes Go.ChangeAt Go.RowKit Go.Joins Go.ChangeMaps
set_option linter.unusedVariables false

set_option maxRecDepth 100000 in
theorem contract (H : Type) (enc : TypeId × Value → H) (W : World) (base : Nat) (args : Array Value) (ds gs : List (DataW H)) (before : List MemPlace)
  (hval : ∀ (j : Nat) t v, Tryz.f3.params[j]? = some t → args[j]? = some v → Value.okWide Tryz.prog W .any base t v)
  (hW : DataW.Whole enc Tryz.prog Tryz.f3.params.toList Rows.fieldStandsSpec.vars false W args.toList ds gs before) (hL : laidMetH Tryz.prog Rows.fieldStandsRow.laid W) (hs : W.ShapedOpen Tryz.prog) :
  Calls Tryz.prog 3 args W fun e W' => ∃ v, e = .returned v ∧ Rows.fieldStandsSpec.post enc Tryz.prog Tryz.f3 false true false false W args v W' := by
 have hW' := hW
 obtain ⟨p, q, hA0, hV, rfl, hfz, hnd⟩ := hW
 have hA : DataW.TrodAll enc Tryz.prog W 0 (fun _ => true) true Tryz.f3.params.toList args.toList ds p := hA0
 rw [Tryz.params3] at hA hval
 obtain ⟨v0, vs0, d0, ds0, p0, q0, hargs, rfl, rfl, h0, r0⟩ := trodAll_cons hA
 obtain ⟨v1, vs1, d1, ds1, p1, q1, rfl, rfl, rfl, h1, r1⟩ := trodAll_cons r0
 obtain ⟨rfl, rfl, rfl⟩ := trodAll_nil r1
 obtain rfl : args = #[v0, v1] := by cases args; simp_all
 obtain ⟨rfl, rfl⟩ := trodVars_none hV
 obtain ⟨AN, nN, cN, N0, AG, m0, cG, G0, x0, rfl, ⟨l1, k1, M1⟩, ⟨l2, k2, M2⟩, sh0⟩ := Mk.open_vertical (hval 0 25 v0 rfl rfl) h0
 obtain ⟨A0, n0, c0, L0, rfl, l0, M0, e0, sh1⟩ := Mk.open_cards (hval 1 26 v1 rfl rfl) h1
 clear hA0
 simp only [List.append_nil] at hW'
 have hmx : maxLen = 9223372036854775807 := rfl
 refine (Mk.sta6_any N0 nN cN AN G0 AG m0 cG x0 L0 n0 c0 A0 W M1 l1 (by omega) M2 (by omega) M0 l0 e0 (tabs_of hL hs)).mono fun e W' ⟨he, hb⟩ => ?_
 subst he
 exact ⟨_, rfl, _, _, _, [], _, [], hW', trodAll_cons_mk (shut_bool Tryz.underlying4 _) trodAll_mk0, (trodAll_cons_mk (sh0 (fun b => decide (b < W.heap.size)) W' (fun q hq => by simpa using hq) hb) (trodAll_cons_mk (sh1 (fun b => decide (b < W.heap.size)) W' (fun q hq => by simpa using hq) hb) trodAll_mk0)), rfl, hb.frame _, fun h => by cases h⟩

theorem shaped0 (os : Os) : ((World.laidAll Tryz.prog os laidL).forCall (fun _ _ => 0) ⟨#[], #[.agg #[.slice none 0 0, .slice none 0 0, .int .i64 0], .slice none 0 0], []⟩).Shaped Tryz.prog := World.shaped_of_ZipB (by kernel_rfl) (by kernel_rfl)
theorem okB (os : Os) : Input.okWideB Tryz.prog ((World.laidAll Tryz.prog os laidL).forCall (fun _ _ => 0) ⟨#[], #[.agg #[.slice none 0 0, .slice none 0 0, .int .i64 0], .slice none 0 0], []⟩) 3 ⟨#[], #[.agg #[.slice none 0 0, .slice none 0 0, .int .i64 0], .slice none 0 0], []⟩ = true := by kernel_rfl
theorem reads0 (os : Os) {H : Type} (enc : TypeId × Value → H) : DataW.whole enc Tryz.prog ((World.laidAll Tryz.prog os laidL).forCall (fun _ _ => 0) ⟨#[], #[.agg #[.slice none 0 0, .slice none 0 0, .int .i64 0], .slice none 0 0], []⟩).memory Tryz.f3.params.toList Rows.fieldStandsSpec.vars false (#[.agg #[.slice none 0 0, .slice none 0 0, .int .i64 0], .slice none 0 0] : Array Value).toList 8 = some ([.agg [.nil, .nil, .lit (.int .i64 0)], .nil], [], []) := by kernel_rfl

set_option maxRecDepth 100000 in
theorem lifted (os : Os) (started : os.Started) (H : Type) (enc : TypeId × Value → H) (F : Stop.Interp) :
  ReturnsInHanded {} Tryz.checked os 3 .any ((OpenSpec.ofChange Rows.fieldStandsSpec).preRow enc Tryz.prog Tryz.f3 Rows.fieldStandsRow.domain false Rows.fieldStandsRow.laid) (((OpenSpec.ofChange Rows.fieldStandsSpec).at F).post enc Tryz.prog Tryz.f3 false true false false) := by
 refine returnsInHanded_of_row (C := Tryz.checked) (s := OpenSpec.ofChange Rows.fieldStandsSpec) own started (by kernel_rfl) Tryz.func3 ?_ ?_
 ·refine ⟨World.laidAll Tryz.prog os laidL, fun _ _ => 0, ⟨#[], #[.agg #[.slice none 0 0, .slice none 0 0, .int .i64 0], .slice none 0 0], []⟩, World.laidAll_os _ _ _, shaped0 os, rfl, (Input.okWide_of_okWideB (okB os)).2, ?_, ?_⟩
  ·exact OpenSpec.preRow_of_cond 8 (reads0 os enc) (by kernel_rfl) (fun k hk => by cases hk) (by kernel_rfl) (laid0 os _)
  ·simp only [Assume.holds]
   exact ⟨by simp, by simp, fun h => (by cases h), by simp, by simp⟩
 ·intro W base args ds gs before hval hW _ _ _ hL hs _
  exact contract H enc W base args ds gs before hval hW hL hs

theorem k2 : laidOutB Tryz.pinned.checked.prog = true := by kernel_rfl
theorem k3 : mapsRowed Tryz.pinned.checked.prog = true := by kernel_rfl
theorem k5 : namedTie Tryz.pinned.checked.prog Rows.fieldStandsRow.named (OpenSpec.ofChange Rows.fieldStandsSpec).bare.vars = true := by kernel_rfl
theorem k10 : (Rows.fieldStandsRow.inPlace == Tryz.pinned.checked.prog.inPlace 3) = true := by kernel_rfl
theorem k11 : (Rows.fieldStandsRow.unfollowed == Tryz.pinned.checked.prog.unfollowed 3) = true := by kernel_rfl
theorem k12 : (Rows.fieldStandsRow.recurses == Tryz.pinned.checked.prog.recurses 3) = true := by kernel_rfl
theorem k13 : (Rows.fieldStandsRow.named == Tryz.pinned.checked.prog.varsNamed 3) = true := by kernel_rfl
theorem k22 : (Rows.fieldStandsRow.plainKeys == Tryz.pinned.checked.prog.plainKeys) = true := by kernel_rfl
theorem k23 : Tryz.pinned.checked.prog.stopsHeard = true := by kernel_rfl
theorem k24 : Tryz.pinned.checked.prog.mayEnter = true := by kernel_rfl
theorem k25 : (Rows.fieldStandsRow.lifted == Tryz.pinned.checked.prog.liftsFinal) = true := by kernel_rfl
theorem closed : joinedFacts Tryz.pinned.checked.prog 3 Tryz.f3 (OpenSpec.ofChange Rows.fieldStandsSpec).bare Rows.fieldStandsRow = true := by
 unfold joinedFacts
 rw [k2, k3, k5, k10, k11, k12, k13, k22, k23, k24, k25]
 kernel_rfl
theorem said : Rows.FieldStandsSaid :=
 OpenClaim.holds_of_cond 3 Tryz.f3 rfl rfl rfl rfl rfl rfl rfl ⟨rfl, rfl, rfl, rfl, rfl⟩ rfl rfl rfl rfl rfl (by kernel_rfl) Tryz.func3 closed
  (of_decide_eq_true (by kernel_rfl)) (by unfold Func.isWrapper; first | (rw [if_pos (by decide +kernel)]; kernel_rfl) | (rw [if_neg (by decide +kernel)]; exact ⟨rfl, rfl⟩))
  (fun os started H enc _ F => by rw [OpenClaim.pre_eq_preRow]; exact lifted os started H enc F)

theorem plain (f : FuncId) (fn : Func) (hf : Tryz.pinned.checked.prog.funcNamed "stadion/stadionlaw06.FieldStands" = some f) (hfn : Tryz.pinned.checked.prog.funcs[f]? = some fn) :
  true = Tryz.pinned.checked.prog.looks [] ∧ ∀ (j : Nat) t, fn.params[j]? = some t → Tryz.pinned.checked.prog.wantsStandIn t = false := by
 obtain rfl : f = 3 := Option.some.inj ((show Tryz.prog.funcNamed "stadion/stadionlaw06.FieldStands" = some 3 by kernel_rfl).symm.trans hf) |>.symm
 obtain rfl : fn = Tryz.f3 := (Option.some.inj (Tryz.func3.symm.trans hfn)).symm
 refine ⟨by kernel_rfl, fun j t ht => ?_⟩
 rw [Tryz.params3] at ht
 have hm : t ∈ [25, 26] := by simpa using Array.mem_of_getElem? ht
 have hall : ([25, 26].all fun u => !Tryz.prog.wantsStandIn u) = true := by kernel_rfl
 exact (show Tryz.prog.wantsStandIn t = false by simpa using List.all_eq_true.1 hall t hm)

theorem wfT : Rows.fieldStandsRow.wfByText (OpenSpec.ofChange Rows.fieldStandsSpec) = true := by kernel_rfl
theorem mainT : Tryz.pinned.checked.prog.mainIs = some (true, ("95729a56e62e79d854c293736f4049fe8f50b7fbfd7b6f2e82bd50572fd16414" : String).toList) := by kernel_rfl
theorem goesT : false = Rows.fieldStandsRow.goesBy Tryz.pinned.checked.prog := by kernel_rfl
theorem card : Rows.FieldStandsCardSaid :=
 Claim7.holds_tied_plain_at .later [] _ _ _ _ said (fun _ h => by cases h) wfT (fun _ h => by cases h) fieldStands_row_tie rfl ⟨rfl, rfl⟩ mainT rfl plain goesT
#print axioms card
end Go.Proofs.YthgkaojplomapaaGreatDoor.fieldStands
