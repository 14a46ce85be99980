/-
  Proved: awake returns true in any world in which the tables lie where they are laid. Condition: the tables
  Proved: what the rows' list gives the walks (the two tables that awake reads), and a start that meets it.
-/
import Derived.Test.YthgkaojplomapaaGreatDoorAw
import Derived.Test.YthgkaojplomapaaGreatDoorYa
import Derived.Test.YthgkaojplomapaaGreatDoorCards
import Derived.Test.YthgkaojplomapaaGreatDoorTie
import Derived.ProofKit
import Derived.OpenShut
import Derived.Deep.DeepHandedRow
import Derived.Lib.LaidTab
import Derived.Lib.LaidU8
import Derived.Stop.LaidErr
import Derived.Lay
import Derived.SevenTiedAt
import Derived.Lib.SmallJoins
import Derived.ChangeMaps5
set_option maxHeartbeats 32000000
set_option linter.unusedVariables false
set_option linter.unusedSimpArgs false
open Go Go.Proofs Go.RowKit
set_option maxRecDepth 100000
section
namespace Go.Mk
def Tabs (w : World) : Prop := 15 ≤ w.heap.size ∧ ∀ y ∈ Snap.tabs, y.1 < 15 ∧ ∀ (i : Nat) (v : Value), y.2[i]? = some v → w.cell? ⟨y.1, i, none⟩ = some v ∧ Ev.plainN 0 v = true
theorem Tabs.below {w w' : World} {B : Nat} (h : Tabs w) (hb : Below B w w') (hB : 15 ≤ B) : Tabs w' :=
 ⟨by have := hb.size; have := h.1; omega, fun y hy => by
  obtain ⟨h1, h2⟩ := h.2 y hy
  refine ⟨h1, fun i v hv => ?_⟩
  obtain ⟨h3, h4⟩ := h2 i v hv
  exact ⟨(hb.cell (p := ⟨y.1, i, none⟩) (by show y.1 < B; omega)).trans h3, h4⟩⟩
theorem aw (w : World) (h : Tabs w) : Calls Tryz.prog 7 #[] w (RetPost (.bool true) w) := Snap.awake_any w h.1 h.2
def Yes (w : World) (e : Ending) (w' : World) : Prop := e = .returned (.bool true) ∧ Below w.heap.size w w'
theorem Tabs.grow {w w' : World} (h : Tabs w) (hb : Below w.heap.size w w') : Tabs w' := h.below hb h.1
end Go.Mk
end
section
namespace Go.Proofs.YthgkaojplomapaaGreatDoor
open Go.ChangeShapes Go.WideShapes Go.ChangeAt Go.RowKit

theorem own : ownKnob Tryz.prog.godebug = none := by kernel_rfl
theorem gTen : Tryz.prog.globalNamed "internal/strconv.uint64pow10" = some 3 := by kernel_rfl
theorem gBru : Tryz.prog.globalNamed "math/bits.deBruijn64tab" = some 7 := by kernel_rfl
theorem tTen : (Tryz.prog.globals[3]?).map (·.type) = some 403 := by kernel_rfl
theorem tBru : (Tryz.prog.globals[7]?).map (·.type) = some 430 := by kernel_rfl
theorem cTen : Tryz.prog.cellsOf 403 = 20 := by kernel_rfl
theorem cBru : Tryz.prog.cellsOf 430 = 64 := by kernel_rfl
theorem cU64 : Tryz.prog.cellsOf 295 = 1 := by kernel_rfl
theorem cU8 : Tryz.prog.cellsOf 5 = 1 := by kernel_rfl

theorem tabIs_of_reads {P : Program} {W : World} {name : String} {k : IntKind} {zs : List Int} {g : Nat} {t e : TypeId} {n : Nat}
  (hg : P.globalNamed name = some g) (hty : (P.globals[g]?).map (·.type) = some t) (ht : P.underlying t = some (.array n e)) (he : P.underlying e = some (.int k)) (hce : P.cellsOf e = 1) (hct : P.cellsOf t = n)
  (h : Lib.VarReads P W name (Lib.tabData k zs)) : Lib.TabIs P W name k zs := by
 obtain ⟨g', t', cs, fuel, p, hg', ht', hvar, hd⟩ := h
 obtain rfl := Option.some.inj (hg.symm.trans hg')
 obtain rfl := Option.some.inj (hty.symm.trans ht')
 unfold Lib.TabIs
 rw [hvar, ← Lib.cells_of_tab ht he hce hct hd]
theorem tab_cell {P : Program} {W : World} {name : String} {k : IntKind} {zs : List Int} {g i : Nat} {v : Value} (h : Lib.TabIs P W name k zs) (hg : P.globalNamed name = some g)
  (hv : (zs.map fun z => Value.int k z)[i]? = some v) : W.cell? ⟨g, i, none⟩ = some v ∧ Ev.plainN 0 v = true := by
 rw [List.getElem?_map, Option.map_eq_some_iff] at hv
 obtain ⟨z, hz, rfl⟩ := hv
 have hi := (List.getElem?_eq_some_iff.1 hz).1
 have := h.cell hg i hi
 rw [List.getD_eq_getElem?_getD, hz] at this
 exact ⟨this, rfl⟩
theorem tabTen : ((List.range 20).map fun i => Value.int .u64 (10 ^ i)) = ((List.range 20).map fun i => ((10 ^ i : Nat) : Int)).map fun z => Value.int .u64 z := by
 rw [List.map_map]
 apply List.map_congr_left
 intro i _
 simp
theorem size0 : (begin Tryz.prog (fun _ _ => 0) default).world.heap.size = 15 := by kernel_rfl
theorem globals10 : Tryz.prog.globals.size = 10 := by kernel_rfl

def laidL : List (String × DataW Unit) := [("math/bits.deBruijn32tab", Rows.laid_math_bits_deBruijn32tab), ("math/bits.deBruijn64tab", Rows.laid_math_bits_deBruijn64tab), ("internal/strconv.uint64pow10", Rows.laid_internal_strconv_uint64pow10), ("unicode/utf8.acceptRanges", Rows.laid_unicode_utf8_acceptRanges), ("strconv.ErrRange", Rows.laid_strconv_ErrRange), ("strconv.ErrSyntax", Rows.laid_strconv_ErrSyntax), ("unicode/utf8.first", Rows.laid_unicode_utf8_first)]

theorem tabs_of {W : World} (hL : laidMetH Tryz.prog laidL W) (hs : W.ShapedOpen Tryz.prog) : Mk.Tabs W := by
 rw [MakeChecks.laidMetH_plain _ _ _ (by kernel_rfl)] at hL
 have h1 := tabIs_of_reads gTen tTen Tryz.underlying403 Tryz.underlying295 cU64 cTen (zs := (List.range 20).map fun i => ((10 ^ i : Nat) : Int)) (Lib.laidMet.reads hL (.tail _ (.tail _ (.head _))))
 have h2 := tabIs_of_reads gBru tBru Tryz.underlying430 Tryz.underlying5 cU8 cBru (zs := [0,1,56,2,57,49,28,3,61,58,42,50,38,29,17,4,62,47,59,36,45,43,51,22,53,39,33,30,24,18,12,5,63,55,48,27,60,41,37,16,46,35,44,21,52,32,23,11,54,26,40,15,34,20,31,10,25,14,19,9,13,8,7,6]) (Lib.laidMet.reads hL (.tail _ (.head _)))
 refine ⟨?_, ?_⟩
 ·obtain ⟨o, _, h, _⟩ := hs.2 14 (by rw [globals10]; omega) (by rw [size0]; omega)
  exact (Array.getElem?_eq_some_iff.1 h).1
 ·intro y hy
  simp only [Snap.tabs, List.mem_cons, List.mem_nil_iff, or_false] at hy
  rcases hy with rfl | rfl
  ·exact ⟨by decide, fun i v hv => tab_cell h1 gTen (by rw [← tabTen]; exact hv)⟩
  ·exact ⟨by decide, fun i v hv => tab_cell h2 gBru hv⟩

theorem laid0 (os : Os) (args : Array Value) : laidMetH Tryz.prog laidL ((World.laidAll Tryz.prog os laidL).forCall (fun _ _ => 0) ⟨#[], args, []⟩).memory := by
 rw [MakeChecks.laidMetH_plain _ _ _ (by kernel_rfl)]
 exact laidMet_laidAll _ (by kernel_rfl) (by kernel_rfl)
end Go.Proofs.YthgkaojplomapaaGreatDoor
end
