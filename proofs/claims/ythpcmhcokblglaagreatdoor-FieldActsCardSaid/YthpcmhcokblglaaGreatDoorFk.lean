/-
  Proved: field.kindsOf returns a new map of the kinds of acts with their greatest values, and what a look-up in it gives. Conditions: the heap holds the program's variables; the map's block is as kindsOf made it.
-/
import Derived.Test.YthpcmhcokblglaaGreatDoorAwE
import Derived.Test.YthpcmhcokblglaaGreatDoorXb
import Derived.WalkSpells
import Derived.WalkLawsBesides
set_option linter.unusedVariables false
set_option linter.unusedSimpArgs false
open Go Go.Proofs Go.RowKit
set_option maxRecDepth 100000
namespace Go.Mk
noncomputable def FkT : Ev.CF := ⟨51, 25, (Ev.T.leaf : Ev.T Value).set 0 (some (.bool true)), [.code (Snap.at_ 51 [])], [], none⟩
theorem enterKT : Ev.CF.enter Tryz.prog 51 #[.bool true] = some FkT := by kernel_rfl
noncomputable def FkF : Ev.CF := ⟨51, 25, (Ev.T.leaf : Ev.T Value).set 0 (some (.bool false)), [.code (Snap.at_ 51 [])], [], none⟩
theorem enterKF : Ev.CF.enter Tryz.prog 51 #[.bool false] = some FkF := by kernel_rfl
def sClear : ByteArray := ⟨#[99, 108, 101, 97, 114]⟩
def sFail : ByteArray := ⟨#[102, 97, 105, 108]⟩
def sPass : ByteArray := ⟨#[112, 97, 115, 115]⟩
def sRetire : ByteArray := ⟨#[114, 101, 116, 105, 114, 101]⟩
def sMark : ByteArray := ⟨#[109, 97, 114, 107]⟩
def sFoul : ByteArray := ⟨#[102, 111, 117, 108]⟩
def sm (n b : Nat) : Value := .agg #[.int .i64 0, .func (.func n) #[] #[.pointer (some ⟨b, 0, none⟩)]]
def entT : Array MapEntry := #[⟨.string sClear, sm 177 (15 + 1), 0⟩, ⟨.string sFail, sm 177 (15 + 3), 1⟩, ⟨.string sPass, sm 177 (15 + 5), 2⟩, ⟨.string sRetire, sm 177 (15 + 7), 3⟩]
def entF : Array MapEntry := #[⟨.string sMark, .agg #[.int .i64 999999, .func (.func 106) #[] #[]], 0⟩, ⟨.string sFoul, sm 177 (15 + 1), 1⟩, ⟨.string sPass, sm 177 (15 + 3), 2⟩, ⟨.string sRetire, sm 177 (15 + 5), 3⟩]
theorem goKT : (Ev.goF Snap.E0 (Ev.regC Snap.E0) 10000 FkT [] (Ev.startW 15 [])).map (fun x => (x.1, x.2.get 15)) = some (.map (some 15), some (true, .map entT 4)) := by kernel_rfl
theorem goKF : (Ev.goF Snap.E0 (Ev.regC Snap.E0) 10000 FkF [] (Ev.startW 15 [])).map (fun x => (x.1, x.2.get 15)) = some (.map (some 15), some (true, .map entF 4)) := by kernel_rfl
/-- A function's value. -/
def IsFn (v : Value) : Prop := ∃ f x y, v = .func f x y
/-- Block B is a map of four kinds with these keys and greatest values. -/
def KMap4 (w : World) (B : Nat) (k0 k1 k2 k3 : ByteArray) (m0 m1 m2 m3 : Int) : Prop :=
  ∃ f0 f1 f2 f3 : Value, (IsFn f0 ∧ IsFn f1 ∧ IsFn f2 ∧ IsFn f3) ∧ w.heap[B]? = some (.map #[⟨.string k0, .agg #[.int .i64 m0, f0], 0⟩, ⟨.string k1, .agg #[.int .i64 m1, f1], 1⟩, ⟨.string k2, .agg #[.int .i64 m2, f2], 2⟩, ⟨.string k3, .agg #[.int .i64 m3, f3], 3⟩] 4)
/-- Block B is the map of the kinds over heights, or in trials. -/
def KMap (h : Bool) (w : World) (B : Nat) : Prop := if h then KMap4 w B sClear sFail sPass sRetire 0 0 0 0 else KMap4 w B sMark sFoul sPass sRetire 999999 0 0 0
theorem KMap.below {h : Bool} {w w' : World} {B : Nat} (k : KMap h w B) (hB : B < w.heap.size) (hb : Below w.heap.size w w') : KMap h w' B := by
  unfold KMap KMap4 at *
  rw [hb.block B hB]
  exact k
theorem rv_kind {K : Ev.Kr} {m : Int} {f : Fn} {x y : Array Value} {v : Value} (h : Ev.RV K (.agg #[.int .i64 m, .func f x y]) v) : ∃ g, IsFn g ∧ v = .agg #[.int .i64 m, g] := by
  cases h with
  | agg _ x' hx hi =>
    obtain ⟨l⟩ := x'
    have hl : l.length = 2 := by simpa using hx.symm
    match l, hl with
    | [a, b], _ =>
      have h0 := hi 0 (by simp)
      have h1 := hi 1 (by simp)
      have h0 : Ev.RV K (.int .i64 m) a := h0
      have h1 : Ev.RV K (.func f x y) b := h1
      cases h0
      cases h1
      exact ⟨_, ⟨_, _, _, rfl⟩, rfl⟩
theorem rv_str {K : Ev.Kr} {s : ByteArray} {v : Value} (h : Ev.RV K (.string s) v) : v = .string s := by cases h; rfl
theorem kmap_of {K : Ev.Kr} {w' : World} {r : Nat} {es : Array MapEntry} {k0 k1 k2 k3 : ByteArray} {m0 m1 m2 m3 : Int} {f0 f1 f2 f3 : Fn} {x0 x1 x2 x3 y0 y1 y2 y3 : Array Value}
    (he : es = #[⟨.string k0, .agg #[.int .i64 m0, .func f0 x0 y0], 0⟩, ⟨.string k1, .agg #[.int .i64 m1, .func f1 x1 y1], 1⟩, ⟨.string k2, .agg #[.int .i64 m2, .func f2 x2 y2], 2⟩, ⟨.string k3, .agg #[.int .i64 m3, .func f3 x3 y3], 3⟩])
    {o' : Obj} (ho : w'.heap[r]? = some o') (hro : Ev.RO K true (.map es 4) o') : KMap4 w' r k0 k1 k2 k3 m0 m1 m2 m3 := by
  subst he
  cases hro with
  | map _ es' _ hs h =>
    obtain ⟨l⟩ := es'
    have hl : l.length = 4 := by simpa using hs.symm
    match l, hl with
    | [a, b, c, d], _ =>
      obtain ⟨z0, e0, p0, q0, r0⟩ := h 0 _ rfl
      obtain ⟨z1, e1, p1, q1, r1⟩ := h 1 _ rfl
      obtain ⟨z2, e2, p2, q2, r2⟩ := h 2 _ rfl
      obtain ⟨z3, e3, p3, q3, r3⟩ := h 3 _ rfl
      obtain rfl : a = z0 := by simpa using e0
      obtain rfl : b = z1 := by simpa using e1
      obtain rfl : c = z2 := by simpa using e2
      obtain rfl : d = z3 := by simpa using e3
      obtain ⟨g0, hg0, t0⟩ := rv_kind q0
      obtain ⟨g1, hg1, t1⟩ := rv_kind q1
      obtain ⟨g2, hg2, t2⟩ := rv_kind q2
      obtain ⟨g3, hg3, t3⟩ := rv_kind q3
      refine ⟨g0, g1, g2, g3, ⟨hg0, hg1, hg2, hg3⟩, ?_⟩
      rw [ho]
      obtain ⟨a1, a2, a3⟩ := a
      obtain ⟨b1, b2, b3⟩ := b
      obtain ⟨c1, c2, c3⟩ := c
      obtain ⟨d1, d2, d3⟩ := d
      have p0 : Ev.RV K (.string k0) a1 := p0
      have p1 : Ev.RV K (.string k1) b1 := p1
      have p2 : Ev.RV K (.string k2) c1 := p2
      have p3 : Ev.RV K (.string k3) d1 := p3
      have r0 : a3 = 0 := r0
      have r1 : b3 = 1 := r1
      have r2 : c3 = 2 := r2
      have r3 : d3 = 3 := r3
      have t0 : a2 = _ := t0
      have t1 : b2 = _ := t1
      have t2 : c2 = _ := t2
      have t3 : d2 = _ := t3
      rw [rv_str p0, rv_str p1, rv_str p2, rv_str p3, t0, t1, t2, t3, r0, r1, r2, r3]
theorem fdKindsOf_any (h : Bool) (w : World) (hg : 15 ≤ w.heap.size) :
    Calls Tryz.prog 51 #[.bool h] w fun e w' => ∃ B, e = .returned (.map (some B)) ∧ B < w'.heap.size ∧ KMap h w' B ∧ Below w.heap.size w w' := by
  have hE := Snap.envOK w
  have hR := Ev.rel_start (E := Ev.withW Snap.E0 w) rfl (fun _ _ h => h) hg [] (fun y hy => by cases hy)
  cases h with
  | true =>
    obtain ⟨x, h1, h2⟩ := Option.map_eq_some_iff.1 goKT
    obtain ⟨v, C'⟩ := x
    simp only [Prod.mk.injEq] at h2
    obtain ⟨rfl, h2⟩ := h2
    have hs := Ev.StepS.last hE h1
    refine (Ev.calls_of_steps (E := Ev.withW Snap.E0 w) (K := ⟨fun b => b, fun _ => 0, Ev.startW 15 []⟩) enterKT hs hR (Ev.RA.one (.bool true))).mono fun e w' hh => ?_
    obtain ⟨K', v', k1, k2, k3, k4, k5⟩ := hh
    cases k5 with
    | map r hr =>
      subst k1
      obtain ⟨o', ho, hro⟩ := k3.obj 15 _ _ h2
      exact ⟨K'.σ 15, k2, (Array.getElem?_eq_some_iff.1 ho).1, kmap_of rfl ho hro, k3.below⟩
  | false =>
    obtain ⟨x, h1, h2⟩ := Option.map_eq_some_iff.1 goKF
    obtain ⟨v, C'⟩ := x
    simp only [Prod.mk.injEq] at h2
    obtain ⟨rfl, h2⟩ := h2
    have hs := Ev.StepS.last hE h1
    refine (Ev.calls_of_steps (E := Ev.withW Snap.E0 w) (K := ⟨fun b => b, fun _ => 0, Ev.startW 15 []⟩) enterKF hs hR (Ev.RA.one (.bool false))).mono fun e w' hh => ?_
    obtain ⟨K', v', k1, k2, k3, k4, k5⟩ := hh
    cases k5 with
    | map r hr =>
      subst k1
      obtain ⟨o', ho, hro⟩ := k3.obj 15 _ _ h2
      exact ⟨K'.σ 15, k2, (Array.getElem?_eq_some_iff.1 ho).1, kmap_of rfl ho hro, k3.below⟩
end Go.Mk
