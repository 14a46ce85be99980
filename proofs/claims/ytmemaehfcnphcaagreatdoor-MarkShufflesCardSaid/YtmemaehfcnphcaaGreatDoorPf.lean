/-
  Proved: the statement of MarkShuffles (its row, and its tied card): for every key and every number the law returns true, and the arguments read as before. Conditions: those of the given row (the listed variables read as the program lays them).
-/
import Derived.Test.YtmemaehfcnphcaaGreatDoorCards
import Derived.Test.YtmemaehfcnphcaaGreatDoorTie
import Derived.Test.YtmemaehfcnphcaaGreatDoorLaw
import Derived.ProofKit
import Derived.OpenShut
import Derived.Deep.DeepHandedRow
import Derived.Lib.LaidTab
import Derived.Lib.LaidU8
import Derived.Stop.LaidErr
import Derived.Lay
import Derived.SevenTiedAt
namespace Go.Proofs.YtmemaehfcnphcaaGreatDoor.markShuffles
open Go.ChangeShapes Go.WideShapes Go.ChangeAt Go.RowKit
set_option linter.unusedVariables false

theorem own : ownKnob Tryz.prog.godebug = none := by kernel_rfl
theorem gTen : Tryz.prog.globalNamed "internal/strconv.uint64pow10" = some 5 := by kernel_rfl
theorem gBru : Tryz.prog.globalNamed "math/bits.deBruijn64tab" = some 9 := by kernel_rfl
theorem tTen : (Tryz.prog.globals[5]?).map (·.type) = some 274 := by kernel_rfl
theorem tBru : (Tryz.prog.globals[9]?).map (·.type) = some 285 := by kernel_rfl
theorem cTen : Tryz.prog.cellsOf 274 = 20 := by kernel_rfl
theorem cBru : Tryz.prog.cellsOf 285 = 64 := by kernel_rfl
theorem c92 : Tryz.prog.cellsOf 92 = 1 := by kernel_rfl
theorem c5 : Tryz.prog.cellsOf 5 = 1 := by kernel_rfl

/-- A listed array of integers holds its numbers. -/
theorem tabIs_of_reads {P : Program} {W : World} {name : String} {k : IntKind} {zs : List Int} {g : Nat} {t e : TypeId} {n : Nat}
    (hg : P.globalNamed name = some g) (hty : (P.globals[g]?).map (·.type) = some t) (ht : P.underlying t = some (.array n e)) (he : P.underlying e = some (.int k)) (hce : P.cellsOf e = 1) (hct : P.cellsOf t = n)
    (h : Lib.VarReads P W name (Lib.tabData k zs)) : Lib.TabIs P W name k zs := by
  obtain ⟨g', t', cs, fuel, p, hg', ht', hvar, hd⟩ := h
  obtain rfl := Option.some.inj (hg.symm.trans hg')
  obtain rfl := Option.some.inj (hty.symm.trans ht')
  unfold Lib.TabIs
  rw [hvar, ← Lib.cells_of_tab ht he hce hct hd]

theorem tab_cell {P : Program} {W : World} {name : String} {k : IntKind} {zs : List Int} {g i : Nat} {v : Value} (h : Lib.TabIs P W name k zs) (hg : P.globalNamed name = some g)
    (hv : (zs.map fun z => Value.int k z)[i]? = some v) : W.cell? ⟨g, i, none⟩ = some v ∧ Ev.plainN 0 v = true := by
  rw [List.getElem?_map, Option.map_eq_some_iff] at hv
  obtain ⟨z, hz, rfl⟩ := hv
  have hi := (List.getElem?_eq_some_iff.1 hz).1
  have := h.cell hg i hi
  rw [List.getD_eq_getElem?_getD, hz] at this
  exact ⟨this, rfl⟩
theorem tabTen : ((List.range 20).map fun i => Value.int .u64 (10 ^ i)) = ((List.range 20).map fun i => ((10 ^ i : Nat) : Int)).map fun z => Value.int .u64 z := by
  rw [List.map_map]
  apply List.map_congr_left
  intro i _
  simp
theorem size0 : (begin Tryz.prog (fun _ _ => 0) default).world.heap.size = 15 := by kernel_rfl
theorem globals10 : Tryz.prog.globals.size = 10 := by kernel_rfl

theorem tabs_of {W : World} (hL : laidMetH Tryz.prog Rows.markShufflesRow.laid W) (hs : W.ShapedOpen Tryz.prog) : Mk.Tabs W := by
  rw [MakeChecks.laidMetH_plain _ _ _ (by kernel_rfl)] at hL
  have h1 := tabIs_of_reads gTen tTen Tryz.underlying274 Tryz.underlying92 c92 cTen (zs := (List.range 20).map fun i => ((10 ^ i : Nat) : Int)) (Lib.laidMet.reads hL (.tail _ (.tail _ (.head _))))
  have h2 := tabIs_of_reads gBru tBru Tryz.underlying285 Tryz.underlying5 c5 cBru (zs := [0,1,56,2,57,49,28,3,61,58,42,50,38,29,17,4,62,47,59,36,45,43,51,22,53,39,33,30,24,18,12,5,63,55,48,27,60,41,37,16,46,35,44,21,52,32,23,11,54,26,40,15,34,20,31,10,25,14,19,9,13,8,7,6]) (Lib.laidMet.reads hL (.tail _ (.head _)))
  refine ⟨?_, ?_⟩
  · obtain ⟨o, _, h, _⟩ := hs.2 14 (by rw [globals10]; omega) (by rw [size0]; omega)
    exact (Array.getElem?_eq_some_iff.1 h).1
  · intro y hy
    simp only [Snap.tabs, List.mem_cons, List.mem_nil_iff, or_false] at hy
    rcases hy with rfl | rfl
    · exact ⟨by decide, fun i v hv => tab_cell h1 gTen (by rw [← tabTen]; exact hv)⟩
    · exact ⟨by decide, fun i v hv => tab_cell h2 gBru hv⟩

set_option maxRecDepth 100000 in
/-- WHAT THE WALK GIVES, FOR EVERY ARGUMENT AND EVERY WORLD THAT HOLDS THE TABLES. -/
theorem contract (H : Type) (enc : TypeId × Value → H) (W : World) (base : Nat) (args : Array Value) (ds gs : List (DataW H)) (before : List MemPlace)
    (hval : ∀ (j : Nat) t v, Tryz.f3.params[j]? = some t → args[j]? = some v → Value.okWide Tryz.prog W .any base t v)
    (hW : DataW.Whole enc Tryz.prog Tryz.f3.params.toList Rows.markShufflesSpec.vars false W args.toList ds gs before) (hL : laidMetH Tryz.prog Rows.markShufflesRow.laid W) (hs : W.ShapedOpen Tryz.prog) :
    Calls Tryz.prog 3 args W fun e W' => ∃ v, e = .returned v ∧ Rows.markShufflesSpec.post enc Tryz.prog Tryz.f3 false true false false W args v W' := by
  have hW' := hW
  obtain ⟨p, q, hA0, hV, rfl, hfz, hnd⟩ := hW
  have hA : DataW.TrodAll enc Tryz.prog W 0 (fun _ => true) true Tryz.f3.params.toList args.toList ds p := hA0
  rw [Tryz.params3] at hA hval
  obtain ⟨v0, vs0, d0, ds0, p0, q0, hargs, rfl, rfl, h0, r0⟩ := trodAll_cons hA
  obtain ⟨v1, vs1, d1, ds1, p1, q1, rfl, rfl, rfl, h1, r1⟩ := trodAll_cons r0
  obtain ⟨rfl, rfl, rfl⟩ := trodAll_nil r1
  obtain rfl : args = #[v0, v1] := by cases args; simp_all
  obtain ⟨rfl, rfl⟩ := trodVars_none hV
  obtain ⟨a0, rfl, rfl, rfl, w0⟩ := open_int Tryz.underlying3 (hval 0 3 v0 rfl rfl) h0
  obtain ⟨a1, rfl, rfl, rfl, w1⟩ := open_int Tryz.underlying3 (hval 1 3 v1 rfl rfl) h1
  clear hA0
  simp only [List.append_nil] at hW'
  refine (Mk.law_any a0 a1 W (tabs_of hL hs)).mono fun e W' ⟨he, hb⟩ => ?_
  subst he
  exact ⟨_, rfl, _, _, _, [], [], [], hW', trodAll_cons_mk (shut_bool Tryz.underlying4 _) trodAll_mk0, trodAll_cons_mk (shut_int Tryz.underlying3 w0) (trodAll_cons_mk (shut_int Tryz.underlying3 w1) trodAll_mk0), rfl, hb.frame _, fun h => by cases h⟩

theorem shaped0 (os : Os) : ((World.laidAll Tryz.prog os Rows.markShufflesRow.laid).forCall (fun _ _ => 0) ⟨#[], #[.int .i64 1, .int .i64 0], []⟩).Shaped Tryz.prog := World.shaped_of_ZipB (by kernel_rfl) (by kernel_rfl)
theorem okB (os : Os) : Input.okWideB Tryz.prog ((World.laidAll Tryz.prog os Rows.markShufflesRow.laid).forCall (fun _ _ => 0) ⟨#[], #[.int .i64 1, .int .i64 0], []⟩) 3 ⟨#[], #[.int .i64 1, .int .i64 0], []⟩ = true := by kernel_rfl
theorem laid0 (os : Os) : laidMetH Tryz.prog Rows.markShufflesRow.laid ((World.laidAll Tryz.prog os Rows.markShufflesRow.laid).forCall (fun _ _ => 0) ⟨#[], #[.int .i64 1, .int .i64 0], []⟩).memory := by
  rw [MakeChecks.laidMetH_plain _ _ _ (by kernel_rfl)]
  exact laidMet_laidAll _ (by kernel_rfl) (by kernel_rfl)
theorem reads0 (os : Os) {H : Type} (enc : TypeId × Value → H) : DataW.whole enc Tryz.prog ((World.laidAll Tryz.prog os Rows.markShufflesRow.laid).forCall (fun _ _ => 0) ⟨#[], #[.int .i64 1, .int .i64 0], []⟩).memory Tryz.f3.params.toList Rows.markShufflesSpec.vars false #[Value.int .i64 1, .int .i64 0].toList 8 = some ([.lit (.int .i64 1), .lit (.int .i64 0)], [], []) := by kernel_rfl

set_option maxRecDepth 100000 in
theorem lifted (os : Os) (started : os.Started) (H : Type) (enc : TypeId × Value → H) (F : Stop.Interp) :
    ReturnsInHanded {} Tryz.checked os 3 .any ((OpenSpec.ofChange Rows.markShufflesSpec).preRow enc Tryz.prog Tryz.f3 Rows.markShufflesRow.domain false Rows.markShufflesRow.laid) (((OpenSpec.ofChange Rows.markShufflesSpec).at F).post enc Tryz.prog Tryz.f3 false true false false) := by
  refine returnsInHanded_of_row (C := Tryz.checked) (s := OpenSpec.ofChange Rows.markShufflesSpec) own started (by kernel_rfl) Tryz.func3 ?_ ?_
  · refine ⟨World.laidAll Tryz.prog os Rows.markShufflesRow.laid, fun _ _ => 0, ⟨#[], #[.int .i64 1, .int .i64 0], []⟩, World.laidAll_os _ _ _, shaped0 os, rfl, (Input.okWide_of_okWideB (okB os)).2, ?_, ?_⟩
    · exact OpenSpec.preRow_of_cond 8 (reads0 os enc) (by kernel_rfl) (fun k hk => by cases hk) (by kernel_rfl) (laid0 os)
    · simp only [Assume.holds]
      exact ⟨by simp, by simp, fun h => (by cases h), by simp, by simp⟩
  · intro W base args ds gs before hval hW _ _ _ hL hs _
    exact contract H enc W base args ds gs before hval hW hL hs

theorem said : Rows.MarkShufflesSaid :=
  OpenClaim.holds_of_cond 3 Tryz.f3 rfl rfl rfl rfl rfl rfl rfl ⟨rfl, rfl, rfl, rfl, rfl⟩ rfl rfl rfl rfl rfl (by kernel_rfl) Tryz.func3 (by kernel_rfl)
    (of_decide_eq_true (by kernel_rfl)) (by unfold Func.isWrapper; first | (rw [if_pos (by decide +kernel)]; kernel_rfl) | (rw [if_neg (by decide +kernel)]; exact ⟨rfl, rfl⟩))
    (fun os started H enc _ F => by rw [OpenClaim.pre_eq_preRow]; exact lifted os started H enc F)

/-- No parameter wants a stand-in; the program's own looks are off. -/
theorem plain (f : FuncId) (fn : Func) (hf : Tryz.pinned.checked.prog.funcNamed "stadion/stadionlaw01.MarkShuffles" = some f) (hfn : Tryz.pinned.checked.prog.funcs[f]? = some fn) :
    true = Tryz.pinned.checked.prog.looks [] ∧ ∀ (j : Nat) t, fn.params[j]? = some t → Tryz.pinned.checked.prog.wantsStandIn t = false := by
  obtain rfl : f = 3 := Option.some.inj ((show Tryz.prog.funcNamed "stadion/stadionlaw01.MarkShuffles" = some 3 by kernel_rfl).symm.trans hf) |>.symm
  obtain rfl : fn = Tryz.f3 := (Option.some.inj (Tryz.func3.symm.trans hfn)).symm
  refine ⟨by kernel_rfl, fun j t ht => ?_⟩
  rw [Tryz.params3] at ht
  have hm : t ∈ [3, 3] := by simpa using Array.mem_of_getElem? ht
  obtain rfl : t = 3 := by simpa using hm
  exact (show Tryz.prog.wantsStandIn 3 = false by kernel_rfl)

theorem card : Rows.MarkShufflesCardSaid :=
  Claim7.holds_tied_plain_at .later [] _ _ _ _ said (fun _ h => by cases h) (by kernel_rfl) (fun _ h => by cases h) markShuffles_row_tie rfl ⟨rfl, rfl⟩ (by kernel_rfl) rfl plain (by kernel_rfl)
#print axioms card
end Go.Proofs.YtmemaehfcnphcaaGreatDoor.markShuffles
