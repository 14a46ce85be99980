/-
  Proved: the statement of FieldFinalists (its row, and its tied card): for every input the law returns true, and the arguments read as before. Conditions: those of the given row (the listed variables read as the program lays them).
-/
import Derived.Test.YtclapdfkgafenaaGreatDoorXaw
import Derived.Test.YtclapdfkgafenaaGreatDoorFuh
import Derived.Test.YtclapdfkgafenaaGreatDoorFrn
namespace Go.Proofs.YtclapdfkgafenaaGreatDoor.fieldFinalists
open Go.ChangeShapes Go.WideShapes Go.ChangeAt Go.RowKit Go.Joins Go.ChangeMaps
set_option linter.unusedVariables false

set_option maxRecDepth 100000 in
theorem contract (H : Type) (enc : TypeId × Value → H) (W : World) (base : Nat) (args : Array Value) (ds gs : List (DataW H)) (before : List MemPlace)
    (hval : ∀ (j : Nat) t v, Tryz.f4.params[j]? = some t → args[j]? = some v → Value.okWide Tryz.prog W .any base t v)
    (hW : DataW.Whole enc Tryz.prog Tryz.f4.params.toList Rows.fieldFinalistsSpec.vars false W args.toList ds gs before) (hL : laidMetH Tryz.prog Rows.fieldFinalistsRow.laid W) (hs : W.ShapedOpen Tryz.prog) :
    Calls Tryz.prog 4 args W fun e W' => ∃ v, e = .returned v ∧ Rows.fieldFinalistsSpec.post enc Tryz.prog Tryz.f4 false true false false W args v W' := by
  have hW' := hW
  obtain ⟨p, q, hA0, hV, rfl, hfz, hnd⟩ := hW
  have hA : DataW.TrodAll enc Tryz.prog W 0 (fun _ => true) true Tryz.f4.params.toList args.toList ds p := hA0
  rw [Tryz.params4] at hA hval
  obtain ⟨v0, vs0, d0, ds0, p0, q0, hargs, rfl, rfl, h0, r0⟩ := trodAll_cons hA
  obtain ⟨v1, vs1, d1, ds1, p1, q1, rfl, rfl, rfl, h1, r1⟩ := trodAll_cons r0
  obtain ⟨rfl, rfl, rfl⟩ := trodAll_nil r1
  obtain rfl : args = #[v0, v1] := by cases args; simp_all
  obtain ⟨rfl, rfl⟩ := trodVars_none hV
  obtain ⟨A0, n0, c0, x0, x1, x2, L0, rfl, l0, k0, M0, sh0⟩ := Mk.open_contest (hval 0 48 v0 rfl rfl) h0
  obtain ⟨A1, n1, c1, L1, rfl, l1, M1, e1, sh1⟩ := Mk.open_rows (hval 1 22 v1 rfl rfl) h1
  clear hA0
  simp only [List.append_nil] at hW'
  have hmx : maxLen = 9223372036854775807 := rfl
  refine (Mk.fin6_any L0 n0 c0 n1 c1 A0 A1 x0 x1 x2 L1 W ⟨M0, l0, k0, M1, l1, e1⟩ (tabs_of hL hs)).mono fun e W' ⟨he, hb⟩ => ?_
  subst he
  exact ⟨_, rfl, _, _, _, [], _, [], hW', trodAll_cons_mk (shut_bool Tryz.underlying4 _) trodAll_mk0, (trodAll_cons_mk (sh0 (fun b => decide (b < W.heap.size)) W' (fun q hq => by simpa using hq) hb) (trodAll_cons_mk (sh1 (fun b => decide (b < W.heap.size)) W' (fun q hq => by simpa using hq) hb) trodAll_mk0)), rfl, hb.frame _, fun h => by cases h⟩

theorem shaped0 (os : Os) : ((World.laidAll Tryz.prog os laidL).forCall (fun _ _ => 0) ⟨#[], #[.agg #[.slice none 0 0, .int .i64 0, .int .i64 0, .int .i64 0], .slice none 0 0], []⟩).Shaped Tryz.prog := World.shaped_of_ZipB (by kernel_rfl) (by kernel_rfl)
theorem okB (os : Os) : Input.okWideB Tryz.prog ((World.laidAll Tryz.prog os laidL).forCall (fun _ _ => 0) ⟨#[], #[.agg #[.slice none 0 0, .int .i64 0, .int .i64 0, .int .i64 0], .slice none 0 0], []⟩) 4 ⟨#[], #[.agg #[.slice none 0 0, .int .i64 0, .int .i64 0, .int .i64 0], .slice none 0 0], []⟩ = true := by kernel_rfl
theorem reads0 (os : Os) {H : Type} (enc : TypeId × Value → H) : DataW.whole enc Tryz.prog ((World.laidAll Tryz.prog os laidL).forCall (fun _ _ => 0) ⟨#[], #[.agg #[.slice none 0 0, .int .i64 0, .int .i64 0, .int .i64 0], .slice none 0 0], []⟩).memory Tryz.f4.params.toList Rows.fieldFinalistsSpec.vars false (#[.agg #[.slice none 0 0, .int .i64 0, .int .i64 0, .int .i64 0], .slice none 0 0] : Array Value).toList 8 = some ([.agg [.nil, .lit (.int .i64 0), .lit (.int .i64 0), .lit (.int .i64 0)], .nil], [], []) := by kernel_rfl

set_option maxRecDepth 100000 in
theorem lifted (os : Os) (started : os.Started) (H : Type) (enc : TypeId × Value → H) (F : Stop.Interp) :
    ReturnsInHanded {} Tryz.checked os 4 .any ((OpenSpec.ofChange Rows.fieldFinalistsSpec).preRow enc Tryz.prog Tryz.f4 Rows.fieldFinalistsRow.domain false Rows.fieldFinalistsRow.laid) (((OpenSpec.ofChange Rows.fieldFinalistsSpec).at F).post enc Tryz.prog Tryz.f4 false true false false) := by
  refine returnsInHanded_of_row (C := Tryz.checked) (s := OpenSpec.ofChange Rows.fieldFinalistsSpec) own started (by kernel_rfl) Tryz.func4 ?_ ?_
  · refine ⟨World.laidAll Tryz.prog os laidL, fun _ _ => 0, ⟨#[], #[.agg #[.slice none 0 0, .int .i64 0, .int .i64 0, .int .i64 0], .slice none 0 0], []⟩, World.laidAll_os _ _ _, shaped0 os, rfl, (Input.okWide_of_okWideB (okB os)).2, ?_, ?_⟩
    · exact OpenSpec.preRow_of_cond 8 (reads0 os enc) (by kernel_rfl) (fun k hk => by cases hk) (by kernel_rfl) (laid0 os _)
    · simp only [Assume.holds]
      exact ⟨by simp, by simp, fun h => (by cases h), by simp, by simp⟩
  · intro W base args ds gs before hval hW _ _ _ hL hs _
    exact contract H enc W base args ds gs before hval hW hL hs

theorem k2 : laidOutB Tryz.pinned.checked.prog = true := by kernel_rfl
theorem k3 : mapsRowed Tryz.pinned.checked.prog = true := by kernel_rfl
theorem k5 : namedTie Tryz.pinned.checked.prog Rows.fieldFinalistsRow.named (OpenSpec.ofChange Rows.fieldFinalistsSpec).bare.vars = true := by kernel_rfl
theorem k10 : (Rows.fieldFinalistsRow.inPlace == Tryz.pinned.checked.prog.inPlace 4) = true := by kernel_rfl
theorem k11 : (Rows.fieldFinalistsRow.unfollowed == Tryz.pinned.checked.prog.unfollowed 4) = true := by kernel_rfl
theorem k12 : (Rows.fieldFinalistsRow.recurses == Tryz.pinned.checked.prog.recurses 4) = true := by kernel_rfl
theorem k13 : (Rows.fieldFinalistsRow.named == Tryz.pinned.checked.prog.varsNamed 4) = true := by kernel_rfl
theorem k22 : (Rows.fieldFinalistsRow.plainKeys == Tryz.pinned.checked.prog.plainKeys) = true := by kernel_rfl
theorem k23 : Tryz.pinned.checked.prog.stopsHeard = true := by kernel_rfl
theorem k24 : Tryz.pinned.checked.prog.mayEnter = true := by kernel_rfl
theorem k25 : (Rows.fieldFinalistsRow.lifted == Tryz.pinned.checked.prog.liftsFinal) = true := by kernel_rfl
theorem closed : joinedFacts Tryz.pinned.checked.prog 4 Tryz.f4 (OpenSpec.ofChange Rows.fieldFinalistsSpec).bare Rows.fieldFinalistsRow = true := by
  unfold joinedFacts
  rw [k2, k3, k5, k10, k11, k12, k13, k22, k23, k24, k25]
  kernel_rfl
theorem said : Rows.FieldFinalistsSaid :=
  OpenClaim.holds_of_cond 4 Tryz.f4 rfl rfl rfl rfl rfl rfl rfl ⟨rfl, rfl, rfl, rfl, rfl⟩ rfl rfl rfl rfl rfl (by kernel_rfl) Tryz.func4 closed
    (of_decide_eq_true (by kernel_rfl)) (by unfold Func.isWrapper; first | (rw [if_pos (by decide +kernel)]; kernel_rfl) | (rw [if_neg (by decide +kernel)]; exact ⟨rfl, rfl⟩))
    (fun os started H enc _ F => by rw [OpenClaim.pre_eq_preRow]; exact lifted os started H enc F)

theorem plain (f : FuncId) (fn : Func) (hf : Tryz.pinned.checked.prog.funcNamed "stadion/stadionlaw06.FieldFinalists" = some f) (hfn : Tryz.pinned.checked.prog.funcs[f]? = some fn) :
    true = Tryz.pinned.checked.prog.looks [] ∧ ∀ (j : Nat) t, fn.params[j]? = some t → Tryz.pinned.checked.prog.wantsStandIn t = false := by
  obtain rfl : f = 4 := Option.some.inj ((show Tryz.prog.funcNamed "stadion/stadionlaw06.FieldFinalists" = some 4 by kernel_rfl).symm.trans hf) |>.symm
  obtain rfl : fn = Tryz.f4 := (Option.some.inj (Tryz.func4.symm.trans hfn)).symm
  refine ⟨by kernel_rfl, fun j t ht => ?_⟩
  rw [Tryz.params4] at ht
  have hm : t ∈ [48, 22] := by simpa using Array.mem_of_getElem? ht
  have hall : ([48, 22].all fun u => !Tryz.prog.wantsStandIn u) = true := by kernel_rfl
  exact (show Tryz.prog.wantsStandIn t = false by simpa using List.all_eq_true.1 hall t hm)

theorem wfT : Rows.fieldFinalistsRow.wfByText (OpenSpec.ofChange Rows.fieldFinalistsSpec) = true := by kernel_rfl
theorem mainT : Tryz.pinned.checked.prog.mainIs = some (true, ("05a5a87cbcf80019d8fcbfd6572243cf777d4a5e440eea546240bf69baaca9e8" : String).toList) := by kernel_rfl
theorem goesT : false = Rows.fieldFinalistsRow.goesBy Tryz.pinned.checked.prog := by kernel_rfl
theorem card : Rows.FieldFinalistsCardSaid :=
  Claim7.holds_tied_plain_at .later [] _ _ _ _ said (fun _ h => by cases h) wfT (fun _ h => by cases h) fieldFinalists_row_tie rfl ⟨rfl, rfl⟩ mainT rfl plain goesT
#print axioms card
end Go.Proofs.YtclapdfkgafenaaGreatDoor.fieldFinalists
