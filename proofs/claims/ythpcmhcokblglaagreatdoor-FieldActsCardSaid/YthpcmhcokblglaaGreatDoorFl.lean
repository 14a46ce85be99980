/-
  Proved: what a look-up in the map of the kinds of acts gives; a condition on the world may be made stronger in the midst of a region. Conditions: the map's block is as kindsOf made it.
-/
import Derived.Test.YthpcmhcokblglaaGreatDoorFk
import Derived.Test.YthpcmhcokblglaaGreatDoorFa
import Derived.Deep.RegionHeld3
set_option linter.unusedVariables false
set_option linter.unusedSimpArgs false
open Go Go.Proofs Go.RowKit
set_option maxRecDepth 100000
namespace Go.Mk
/-- Is this the kind of an act? -/
def kFound (h : Bool) (s : ByteArray) : Bool := if h then decide (s = sClear) || decide (s = sFail) || decide (s = sPass) || decide (s = sRetire) else decide (s = sMark) || decide (s = sFoul) || decide (s = sPass) || decide (s = sRetire)
/-- The greatest value of an act of this kind. -/
def kMost (h : Bool) (s : ByteArray) : Int := if h = false ∧ s = sMark then 999999 else 0
theorem ba_beq (a b : ByteArray) : (a == b) = decide (a = b) := by
  obtain ⟨x⟩ := a
  obtain ⟨y⟩ := b
  show (x == y) = _
  rw [Bool.eq_iff_iff]
  simp
theorem ba_ne {a b : ByteArray} (h : a ≠ b) : (a == b) = false := by rw [ba_beq]; exact decide_eq_false h
theorem ba_eq (a : ByteArray) : (a == a) = true := by rw [ba_beq]; exact decide_eq_true rfl
theorem zeroFK (w : World) : (zeroValue 116).run Tryz.prog w = .ok (.agg #[.int .i64 0, .nilFunc]) w := by kernel_rfl
theorem run_find {w : World} {B : Nat} {es : Array MapEntry} {n : Nat} (hB : w.heap[B]? = some (.map es n)) {s : ByteArray} {v : Value} {b : Bool}
    (he : (Instr.findNow .string (.string s) es.toList 0 = some none ∧ v = .agg #[.int .i64 0, .nilFunc] ∧ b = false) ∨ ∃ i, Instr.findNow .string (.string s) es.toList 0 = some (some (i, v)) ∧ b = true) :
    (Instr.lookup 118 (.map (some B)) (.string s) true).run Tryz.prog w = .ok (.tuple #[v, .bool b]) w := by
  unfold Instr.lookup
  rw [Sem.run_bind, Ev.run_underlying Tryz.underlying118]
  simp only [Result.andThen_ok]
  rw [Sem.run_bind, Ev.run_getObj_map hB]
  simp only [Result.andThen_ok, Sem.run_pure, Sem.run_bind]
  rw [Ev.run_checkKey Tryz.underlying9 rfl]
  simp only [Result.andThen_ok]
  rcases he with ⟨h, rfl, rfl⟩ | ⟨i, h, rfl⟩
  · rw [Ev.run_findKey Tryz.underlying9 h]
    simp only [Result.andThen_ok, Sem.run_bind, zeroFK, Sem.run_pure, if_true]
  · rw [Ev.run_findKey Tryz.underlying9 h]
    simp only [Result.andThen_ok, Sem.run_bind, Sem.run_pure, if_true]
theorem find4 {s k0 k1 k2 k3 : ByteArray} {v0 v1 v2 v3 : Value} : Instr.findNow .string (.string s) [⟨.string k0, v0, 0⟩, ⟨.string k1, v1, 1⟩, ⟨.string k2, v2, 2⟩, ⟨.string k3, v3, 3⟩] 0 =
    if s = k0 then some (some (0, v0)) else if s = k1 then some (some (1, v1)) else if s = k2 then some (some (2, v2)) else if s = k3 then some (some (3, v3)) else some none := by
  by_cases h0 : s = k0
  · subst h0; rw [if_pos rfl]; simp [Instr.findNow, Instr.sameNow, ba_eq]
  · rw [if_neg h0]
    by_cases h1 : s = k1
    · subst h1; rw [if_pos rfl]; simp [Instr.findNow, Instr.sameNow, ba_ne h0, ba_eq]
    · rw [if_neg h1]
      by_cases h2 : s = k2
      · subst h2; rw [if_pos rfl]; simp [Instr.findNow, Instr.sameNow, ba_ne h0, ba_ne h1, ba_eq]
      · rw [if_neg h2]
        by_cases h3 : s = k3
        · subst h3; rw [if_pos rfl]; simp [Instr.findNow, Instr.sameNow, ba_ne h0, ba_ne h1, ba_ne h2, ba_eq]
        · rw [if_neg h3]; simp [Instr.findNow, Instr.sameNow, ba_ne h0, ba_ne h1, ba_ne h2, ba_ne h3]
theorem IsFn.one {v : Value} (h : IsFn v) : v.oneCell' = true := by obtain ⟨f, x, y, rfl⟩ := h; rfl
theorem KMap4.look {w : World} {B : Nat} {k0 k1 k2 k3 : ByteArray} {m0 m1 m2 m3 : Int} (k : KMap4 w B k0 k1 k2 k3 m0 m1 m2 m3) (s : ByteArray) :
    ∃ (O : Obj) (x : Value), w.heap[B]? = some O ∧ (x.oneCell' = true ∧ ∃ es n, O = .map es n) ∧ ∀ w', w'.heap[B]? = some O → (Instr.lookup 118 (.map (some B)) (.string s) true).run Tryz.prog w' =
      .ok (.tuple #[.agg #[.int .i64 (if s = k0 then m0 else if s = k1 then m1 else if s = k2 then m2 else if s = k3 then m3 else 0), x], .bool (decide (s = k0) || decide (s = k1) || decide (s = k2) || decide (s = k3))]) w' := by
  obtain ⟨f0, f1, f2, f3, ⟨h0, h1, h2, h3⟩, ho⟩ := k
  refine ⟨_, if s = k0 then f0 else if s = k1 then f1 else if s = k2 then f2 else if s = k3 then f3 else .nilFunc, ho, ⟨?_, _, _, rfl⟩, fun w' hw => run_find hw ?_⟩
  · split
    · exact h0.one
    · split
      · exact h1.one
      · split
        · exact h2.one
        · split
          · exact h3.one
          · rfl
  · show (Instr.findNow .string (.string s) [⟨.string k0, _, 0⟩, ⟨.string k1, _, 1⟩, ⟨.string k2, _, 2⟩, ⟨.string k3, _, 3⟩] 0 = some none ∧ _) ∨ ∃ i, Instr.findNow .string (.string s) [⟨.string k0, _, 0⟩, ⟨.string k1, _, 1⟩, ⟨.string k2, _, 2⟩, ⟨.string k3, _, 3⟩] 0 = _ ∧ _
    rw [find4]
    by_cases e0 : s = k0
    · simp only [if_pos e0]; exact .inr ⟨0, rfl, by simp [e0]⟩
    · simp only [if_neg e0]
      by_cases e1 : s = k1
      · simp only [if_pos e1]; exact .inr ⟨1, rfl, by simp [e1]⟩
      · simp only [if_neg e1]
        by_cases e2 : s = k2
        · simp only [if_pos e2]; exact .inr ⟨2, rfl, by simp [e2]⟩
        · simp only [if_neg e2]
          by_cases e3 : s = k3
          · simp only [if_pos e3]; exact .inr ⟨3, rfl, by simp [e3]⟩
          · simp only [if_neg e3]
            exact .inl (by simp [e0, e1, e2, e3])
theorem KMap.look {h : Bool} {w : World} {B : Nat} (k : KMap h w B) (s : ByteArray) :
    ∃ (O : Obj) (x : Value), w.heap[B]? = some O ∧ (x.oneCell' = true ∧ ∃ es n, O = .map es n) ∧ ∀ w', w'.heap[B]? = some O → (Instr.lookup 118 (.map (some B)) (.string s) true).run Tryz.prog w' =
      .ok (.tuple #[.agg #[.int .i64 (kMost h s), x], .bool (kFound h s)]) w' := by
  cases h with
  | true =>
    obtain ⟨O, x, h1, h2, h3⟩ := KMap4.look k s
    refine ⟨O, x, h1, h2, fun w' hw => ?_⟩
    have := h3 w' hw
    simp only [ite_self] at this
    exact this
  | false =>
    obtain ⟨O, x, h1, h2, h3⟩ := KMap4.look k s
    refine ⟨O, x, h1, h2, fun w' hw => ?_⟩
    have := h3 w' hw
    simp only [ite_self] at this
    rw [this]
    unfold kMost kFound
    simp
theorem set_block {w : World} {B g j : Nat} {u : Value} (h : B ≠ g) : (w.setCell ⟨g, j, none⟩ u).heap[B]? = w.heap[B]? := by
  unfold World.setCell
  simp only
  split <;> rw [Array.getElem?_modify, if_neg (Ne.symm h)]
/-- A block with a map has no cells. -/
theorem not_cell {w : World} {B j : Nat} {O : Obj} {v : Value} (h : w.heap[B]? = some O) (hm : ∃ es n, O = .map es n) (hc : w.cell? ⟨B, j, none⟩ = some v) : False := by
  obtain ⟨es, n, rfl⟩ := hm
  unfold World.cell? at hc
  simp [h] at hc
/-- A look-up as an operation. -/
theorem exec_look {P : Program} {w : World} {ρ : Operand → Value} {o : Oper} {T : TypeId} {x i : Operand} {ok : Bool} {m k v : Value} (hop : o.op = Op.lookup T x i ok) (hx : ρ x = m) (hi : ρ i = k)
    (h : (Instr.lookup T m k ok).run P w = .ok v w) : (execOp ρ o).run P w = .ok (.value v) w := by
  unfold execOp
  simp only [hop, hx, hi, Sem.run_bind, h, Result.andThen_ok, Sem.run_pure]
/-- The condition may be made stronger. -/
theorem wpAnyH_more {P : Program} {md : Region.Mode} {ops : Array Oper} {Q : Exit → Act → World → Prop} {S S' : World → Prop} (hS : ∀ w, S' w → S w) :
    ∀ (fuel : Nat) (listed : Array Bool) (a : Act) (w : World), wpAnyH P md ops Q S' fuel listed a w → wpAnyH P md ops Q S fuel listed a w
  | 0, _, _, _, h => h
  | fuel + 1, _, _, _, h => ⟨h.1, fun i hi => wpOp_mono (fun a' w' h' => ⟨hS _ h'.1, wpAnyH_more hS fuel _ a' w' h'.2⟩) (h.2 i hi)⟩
/-- The error of an act. -/
def actE (h : Bool) (s k : ByteArray) (v : Int) : Int := fstN [nmE s, if kFound h k then 0 else 13, rngE v 0 (kMost h k)]
end Go.Mk
