/-
  Proved: mark.kinds returns a new map of the four kinds, and what is looked up in it. Conditions: the heap holds the program's variables; the map's block is as kinds made it.
-/
import Derived.Test.YtkjolejppnogiaaGreatDoorAwE
import Derived.Test.YtkjolejppnogiaaGreatDoorRow
import Derived.OwnWalk
import Derived.Lib.Hide
set_option linter.unusedVariables false
set_option linter.unusedSimpArgs false
open Go Go.Proofs Go.RowKit
set_option maxRecDepth 100000
namespace Go.Mk
def str (l : List UInt8) : Value := .string ⟨l.toArray⟩
def fnV (k : Nat) : Value := .func (.func k) #[] #[]
def kTime : Value := .agg #[.int .i64 1, .int .i64 863999999, fnV 129, fnV 130, fnV 131, fnV 132, fnV 133]
def kLength : Value := .agg #[.int .i64 0, .int .i64 999999, fnV 129, fnV 134, fnV 135, fnV 136, fnV 137]
def kPoints : Value := .agg #[.int .i64 0, .int .i64 99999, fnV 129, fnV 134, fnV 135, fnV 138, fnV 139]
def kNone : Value := .agg #[.int .i64 0, .int .i64 0, fnV 140, fnV 134, fnV 135, fnV 141, fnV 142]
def sTime : ByteArray := ⟨#[116, 105, 109, 101]⟩
def sLength : ByteArray := ⟨#[108, 101, 110, 103, 116, 104]⟩
def sPoints : ByteArray := ⟨#[112, 111, 105, 110, 116, 115]⟩
def sNone : ByteArray := ⟨#[110, 111, 110, 101]⟩
def entries : Array MapEntry := #[⟨.string sTime, kTime, 0⟩, ⟨.string sLength, kLength, 1⟩, ⟨.string sPoints, kPoints, 2⟩, ⟨.string sNone, kNone, 3⟩]

/-- Block B is the map of the kinds. -/
def Kinds (w : World) (B : Nat) : Prop := w.heap[B]? = some (.map entries 4)

noncomputable def F106k : Ev.CF := ⟨106, 7, .leaf, [.code (Snap.at_ 106 [])], [], none⟩
theorem enterK : Ev.CF.enter Tryz.prog 106 #[] = some F106k := by kernel_rfl
theorem goK : (Ev.goF Snap.E0 (Ev.regC Snap.E0) 1000 F106k [] (Ev.startW 13 [])).map (fun x => (x.1, x.2.get 13)) = some (.map (some 13), some (true, .map entries 4)) := by kernel_rfl

theorem kinds_any (w : World) (hg : 13 ≤ w.heap.size) :
    Calls Tryz.prog 106 #[] w fun e w' => ∃ B, e = .returned (.map (some B)) ∧ w.heap.size ≤ B ∧ Kinds w' B ∧ Below w.heap.size w w' := by
  have hE := Snap.envOK w
  have hR := Ev.rel_start (E := Ev.withW Snap.E0 w) rfl (fun _ _ h => h) hg [] (fun y hy => by cases hy)
  obtain ⟨x, h1, h2⟩ := Option.map_eq_some_iff.1 goK
  obtain ⟨v, C'⟩ := x
  simp only [Prod.mk.injEq] at h2
  obtain ⟨rfl, h2⟩ := h2
  have hs := Ev.StepS.last hE h1
  refine (Ev.calls_of_steps (E := Ev.withW Snap.E0 w) (K := ⟨fun b => b, fun _ => 0, Ev.startW 13 []⟩) enterK hs hR (Ev.RA.empty _)).mono fun e w' hh => ?_
  obtain ⟨K', v', k1, k2, k3, k4, k5⟩ := hh
  cases k5 with
  | map r hr =>
    subst k1
    obtain ⟨o', ho, hro⟩ := k3.obj 13 _ _ h2
    refine ⟨K'.σ 13, k2, k3.own 13 _ (Nat.le_refl _) h2, ?_, k3.below⟩
    unfold Kinds
    rw [ho]
    cases hro with
    | map _ es' _ hs h =>
      have : es' = entries := by
        apply Array.ext_getElem?
        intro i
        by_cases hi : i < entries.size
        · obtain ⟨x', e1, e2, e3, e4⟩ := h i _ (Array.getElem?_eq_getElem hi)
          rw [e1, Array.getElem?_eq_getElem hi]
          have hp : ∀ (i : Nat) (h : i < entries.size), Ev.plainN 0 entries[i].key = true ∧ Ev.plainN 2 entries[i].val = true := by decide
          obtain ⟨p1, p2⟩ := hp i hi
          have q1 := Ev.RV.plain_eq K' 0 _ _ p1 e2
          have q2 := Ev.RV.plain_eq K' 2 _ _ p2 e3
          obtain ⟨a, b, c⟩ := x'
          simp only at q1 q2 e4
          rw [q1, q2, e4]
        · rw [Array.getElem?_eq_none (by omega), Array.getElem?_eq_none (by omega)]
      rw [this]
end Go.Mk
