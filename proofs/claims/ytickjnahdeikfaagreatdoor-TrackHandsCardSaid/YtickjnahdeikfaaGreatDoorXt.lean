/-
  Proved: what the rows' list gives the walks (the three tables that awake reads), and a start that meets it. Condition: the listed variables read as the program lays them.
-/
import Derived.Test.YtickjnahdeikfaaGreatDoorCards
import Derived.Test.YtickjnahdeikfaaGreatDoorTie
import Derived.Test.YtickjnahdeikfaaGreatDoorXaw
import Derived.ChangeSame
import Derived.ProofKit
import Derived.OpenShut
import Derived.Deep.DeepHandedRow
import Derived.Lib.LaidTab
import Derived.Lib.LaidU8
import Derived.Stop.LaidErr
import Derived.Lay
import Derived.SevenTiedAt
import Derived.Lib.SmallJoins
import Derived.ChangeMaps5
namespace Go.Proofs.YtickjnahdeikfaaGreatDoor
open Go.ChangeShapes Go.WideShapes Go.ChangeAt Go.RowKit
set_option linter.unusedVariables false

theorem own : ownKnob Tryz.prog.godebug = none := by kernel_rfl
theorem gTen : Tryz.prog.globalNamed "internal/strconv.uint64pow10" = some 3 := by kernel_rfl
theorem gBru : Tryz.prog.globalNamed "math/bits.deBruijn64tab" = some 8 := by kernel_rfl
theorem tTen : (Tryz.prog.globals[3]?).map (·.type) = some 277 := by kernel_rfl
theorem tBru : (Tryz.prog.globals[8]?).map (·.type) = some 286 := by kernel_rfl
theorem cTen : Tryz.prog.cellsOf 277 = 20 := by kernel_rfl
theorem cBru : Tryz.prog.cellsOf 286 = 64 := by kernel_rfl
theorem cU64 : Tryz.prog.cellsOf 195 = 1 := by kernel_rfl
theorem cU8 : Tryz.prog.cellsOf 5 = 1 := by kernel_rfl

/-- A listed array of integers holds its numbers. -/
theorem tabIs_of_reads {P : Program} {W : World} {name : String} {k : IntKind} {zs : List Int} {g : Nat} {t e : TypeId} {n : Nat}
    (hg : P.globalNamed name = some g) (hty : (P.globals[g]?).map (·.type) = some t) (ht : P.underlying t = some (.array n e)) (he : P.underlying e = some (.int k)) (hce : P.cellsOf e = 1) (hct : P.cellsOf t = n)
    (h : Lib.VarReads P W name (Lib.tabData k zs)) : Lib.TabIs P W name k zs := by
  obtain ⟨g', t', cs, fuel, p, hg', ht', hvar, hd⟩ := h
  obtain rfl := Option.some.inj (hg.symm.trans hg')
  obtain rfl := Option.some.inj (hty.symm.trans ht')
  unfold Lib.TabIs
  rw [hvar, ← Lib.cells_of_tab ht he hce hct hd]
theorem tab_cell {P : Program} {W : World} {name : String} {k : IntKind} {zs : List Int} {g i : Nat} {v : Value} (h : Lib.TabIs P W name k zs) (hg : P.globalNamed name = some g)
    (hv : (zs.map fun z => Value.int k z)[i]? = some v) : W.cell? ⟨g, i, none⟩ = some v ∧ Ev.plainN 0 v = true := by
  rw [List.getElem?_map, Option.map_eq_some_iff] at hv
  obtain ⟨z, hz, rfl⟩ := hv
  have hi := (List.getElem?_eq_some_iff.1 hz).1
  have := h.cell hg i hi
  rw [List.getD_eq_getElem?_getD, hz] at this
  exact ⟨this, rfl⟩
theorem tabTen : ((List.range 20).map fun i => Value.int .u64 (10 ^ i)) = ((List.range 20).map fun i => ((10 ^ i : Nat) : Int)).map fun z => Value.int .u64 z := by
  rw [List.map_map]
  apply List.map_congr_left
  intro i _
  simp
theorem gPar : Tryz.prog.globalNamed "stadion/track.parts" = some 0 := by kernel_rfl
theorem tPar : (Tryz.prog.globals[0]?).map (·.type) = some 152 := by kernel_rfl
theorem cPar : Tryz.prog.cellsOf 152 = 8 := by kernel_rfl
theorem cPart : Tryz.prog.cellsOf 151 = 2 := by kernel_rfl
theorem cInt : Tryz.prog.cellsOf 3 = 1 := by kernel_rfl
theorem list2 {α : Type} {l : List α} (h : l.length = 2) : ∃ a b, l = [a, b] := by
  match l, h with
  | [a, b], _ => exact ⟨a, b, rfl⟩
theorem list4 {α : Type} {l : List α} (h : l.length = 4) : ∃ a b c d, l = [a, b, c, d] := by
  match l, h with
  | [a, b, c, d], _ => exact ⟨a, b, c, d, rfl⟩
theorem list8 {α : Type} {l : List α} (h : l.length = 8) : ∃ a b c d e f g k, l = [a, b, c, d, e, f, g, k] := by
  match l, h with
  | [a, b, c, d, e, f, g, k], _ => exact ⟨a, b, c, d, e, f, g, k, rfl⟩
/-- The two cells of a part of a lap. -/
theorem part_cells {H : Type} {enc : TypeId × Value → H} {W : World} {base : Nat} {sp : Nat → Bool} {held : Bool} {fuel : Nat} {l : List Value} {y : DataW H × List MemPlace} {a b : Int}
    (h : DataW.trod enc Tryz.prog W base sp held fuel 151 l = some y) (hy : y.1 = .agg [.lit (.int .i64 a), .lit (.int .i64 b)]) : l = [.int .i64 a, .int .i64 b] := by
  obtain ⟨y0, y1, n, hx, hl, h0, h1⟩ := trod_struct2 Tryz.underlying151 h
  obtain ⟨m0, e0, rfl, _⟩ := DataW.trod_int Tryz.underlying3 h0
  obtain ⟨m1, e1, rfl, _⟩ := DataW.trod_int Tryz.underlying3 h1
  rw [cPart] at hl
  obtain ⟨c0, c1, rfl⟩ := list2 hl
  rw [hx] at hy
  rw [cInt] at e0 e1
  simp only [DataW.agg.injEq, List.cons.injEq, and_true, DataW.lit.injEq, Lit.int.injEq, true_and] at hy
  have f0 : c0 = .int .i64 m0 := by simpa using e0
  have f1 : c1 = .int .i64 m1 := by simpa using e1
  rw [f0, f1, hy.1, hy.2]
theorem partsIs {W : World} (h : Lib.VarReads Tryz.prog W "stadion/track.parts" Rows.laid_stadion_track_parts) : Lib.TabIs Tryz.prog W "stadion/track.parts" .i64 [0, 1, 1, 0, 0, 1, 1, 0] := by
  obtain ⟨g', t', cs, fuel, p, hg', ht', hvar, hd⟩ := h
  obtain rfl := Option.some.inj (gPar.symm.trans hg')
  obtain rfl := Option.some.inj (tPar.symm.trans ht')
  obtain ⟨xs, m, _, hx, hl, hlen, hf⟩ := DataW.trod_array Tryz.underlying152 hd
  obtain ⟨y0, y1, y2, y3, rfl⟩ := list4 hlen
  rw [cPar] at hl
  obtain ⟨c0, c1, c2, c3, c4, c5, c6, c7, hc⟩ := list8 hl
  have hx1 := congrArg Prod.fst hx
  simp only [Rows.laid_stadion_track_parts, List.map_cons, List.map_nil, DataW.agg.injEq, List.cons.injEq, and_true] at hx1
  obtain ⟨q0, q1, q2, q3⟩ := hx1
  rw [cPart] at hf
  have p0 := part_cells (hf 0 (by decide)) q0.symm
  have p1 := part_cells (hf 1 (by decide)) q1.symm
  have p2 := part_cells (hf 2 (by decide)) q2.symm
  have p3 := part_cells (hf 3 (by decide)) q3.symm
  rw [hc] at p0 p1 p2 p3
  simp at p0 p1 p2 p3
  unfold Lib.TabIs
  rw [hvar]
  have : cs = #[c0, c1, c2, c3, c4, c5, c6, c7] := by
    apply Array.toList_inj.1
    rw [hc]
  rw [this, p0.1, p0.2, p1.1, p1.2, p2.1, p2.2, p3.1, p3.2]
  rfl
theorem size0 : (begin Tryz.prog (fun _ _ => 0) default).world.heap.size = 14 := by kernel_rfl
theorem globals10 : Tryz.prog.globals.size = 9 := by kernel_rfl

/-- The rows of this seat list the same variables. -/
def laidL : List (String × DataW Unit) := [("math/bits.deBruijn32tab", Rows.laid_math_bits_deBruijn32tab), ("math/bits.deBruijn64tab", Rows.laid_math_bits_deBruijn64tab), ("internal/strconv.uint64pow10", Rows.laid_internal_strconv_uint64pow10), ("unicode/utf8.acceptRanges", Rows.laid_unicode_utf8_acceptRanges), ("stadion/track.parts", Rows.laid_stadion_track_parts), ("unicode/utf8.first", Rows.laid_unicode_utf8_first)]

theorem tabs_of {W : World} (hL : laidMetH Tryz.prog laidL W) (hs : W.ShapedOpen Tryz.prog) : Mk.Tabs W := by
  rw [MakeChecks.laidMetH_plain _ _ _ (by kernel_rfl)] at hL
  have h1 := tabIs_of_reads gTen tTen Tryz.underlying277 Tryz.underlying195 cU64 cTen (zs := (List.range 20).map fun i => ((10 ^ i : Nat) : Int)) (Lib.laidMet.reads hL (.tail _ (.tail _ (.head _))))
  have h2 := tabIs_of_reads gBru tBru Tryz.underlying286 Tryz.underlying5 cU8 cBru (zs := [0,1,56,2,57,49,28,3,61,58,42,50,38,29,17,4,62,47,59,36,45,43,51,22,53,39,33,30,24,18,12,5,63,55,48,27,60,41,37,16,46,35,44,21,52,32,23,11,54,26,40,15,34,20,31,10,25,14,19,9,13,8,7,6]) (Lib.laidMet.reads hL (.tail _ (.head _)))
  have h3 := partsIs (Lib.laidMet.reads hL (.tail _ (.tail _ (.tail _ (.tail _ (.head _))))))
  refine ⟨?_, ?_⟩
  · obtain ⟨o, _, h, _⟩ := hs.2 13 (by rw [globals10]; omega) (by rw [size0]; omega)
    exact (Array.getElem?_eq_some_iff.1 h).1
  · intro y hy
    simp only [Snap.tabs, List.mem_cons, List.mem_nil_iff, or_false] at hy
    rcases hy with rfl | rfl | rfl
    · exact ⟨by decide, fun i v hv => tab_cell h1 gTen (by rw [← tabTen]; exact hv)⟩
    · exact ⟨by decide, fun i v hv => tab_cell h2 gBru hv⟩
    · exact ⟨by decide, fun i v hv => tab_cell h3 gPar hv⟩

/-- A start that meets the list. -/
theorem laid0 (os : Os) (args : Array Value) : laidMetH Tryz.prog laidL ((World.laidAll Tryz.prog os laidL).forCall (fun _ _ => 0) ⟨#[], args, []⟩).memory := by
  rw [MakeChecks.laidMetH_plain _ _ _ (by kernel_rfl)]
  exact laidMet_laidAll _ (by kernel_rfl) (by kernel_rfl)
end Go.Proofs.YtickjnahdeikfaaGreatDoor
