/-
  Proved: a row of places of package field of the caller's own: its cells, an element stored, two exchanged. No condition beside those named.
-/
import Derived.Test.YtclapdfkgafenaaGreatDoorFpa
set_option linter.unusedVariables false
set_option linter.unusedSimpArgs false
open Go Go.Proofs Go.RowKit
set_option maxRecDepth 100000
namespace Go.Mk
structure Plc where
  nm : ByteArray
  rk : Int
  kd : ByteArray
  vl : Int
  rs : ByteArray
def Plc.cells (p : Plc) : List Value := [.string p.nm, .int .i64 p.rk, .string p.kd, .int .i64 p.vl, .string p.rs]
def Plc.val (p : Plc) : Value := .agg #[.string p.nm, .int .i64 p.rk, .string p.kd, .int .i64 p.vl, .string p.rs]
theorem plc_at : ∀ (L : List Plc) (i : Nat) (p : Plc) (c : Nat), L[i]? = some p → c < 5 → (L.flatMap Plc.cells)[i * 5 + c]? = p.cells[c]?
  | [], i, p, c, h, _ => by simp at h
  | x :: L, 0, p, c, h, hc => by
    obtain rfl : x = p := by simpa using h
    rw [List.flatMap_cons, List.getElem?_append_left (by simp [Plc.cells]; omega)]
    simp
  | x :: L, i + 1, p, c, h, hc => by
    rw [List.flatMap_cons, List.getElem?_append_right (by simp [Plc.cells]; omega), show (i + 1) * 5 + c - x.cells.length = i * 5 + c by simp [Plc.cells]; omega]
    exact plc_at L i p c (by simpa using h) hc
theorem plc_set : ∀ (L : List Plc) (i : Nat) (p : Plc), i < L.length → (((((L.flatMap Plc.cells).set (i * 5) (.string p.nm)).set (i * 5 + 1) (.int .i64 p.rk)).set (i * 5 + 2) (.string p.kd)).set (i * 5 + 3) (.int .i64 p.vl)).set (i * 5 + 4) (.string p.rs) = (L.set i p).flatMap Plc.cells
  | [], i, p, h => by simp at h
  | x :: L, 0, p, h => by simp [Plc.cells]
  | x :: L, i + 1, p, h => by
    rw [List.flatMap_cons, List.set_cons_succ, List.flatMap_cons, ← plc_set L i p (by simpa using h)]
    simp [Plc.cells, show (i + 1) * 5 = i * 5 + 1 + 1 + 1 + 1 + 1 by omega]
def set5 (w : World) (g o : Nat) (p : Plc) : World := ((((w.setCell ⟨g, o, none⟩ (.string p.nm)).setCell ⟨g, o + 1, none⟩ (.int .i64 p.rk)).setCell ⟨g, o + 2, none⟩ (.string p.kd)).setCell ⟨g, o + 3, none⟩ (.int .i64 p.vl)).setCell ⟨g, o + 4, none⟩ (.string p.rs)
def Cel5 (w : World) (g o : Nat) (p : Plc) : Prop := w.cell? ⟨g, o, none⟩ = some (.string p.nm) ∧ w.cell? ⟨g, o + 1, none⟩ = some (.int .i64 p.rk) ∧ w.cell? ⟨g, o + 2, none⟩ = some (.string p.kd) ∧ w.cell? ⟨g, o + 3, none⟩ = some (.int .i64 p.vl) ∧ w.cell? ⟨g, o + 4, none⟩ = some (.string p.rs)
def RowP (F : Int → Plc) (w : World) (B g n cap : Nat) (L : List Int) : Prop := L.length = n ∧ w.ownsRow B 63 5 (.slice (some ⟨g, 0, none⟩) n cap) n ((L.map F).flatMap Plc.cells)
theorem RowP.cell {F : Int → Plc} {w : World} {B g n cap : Nat} {L : List Int} (h : RowP F w B g n cap L) {i : Nat} (hi : i < n) : Cel5 w g (i * 5) (F (ga L i)) := by
  have hp : (L.map F)[i]? = some (F (ga L i)) := by rw [List.getElem?_map, ga_at (by rw [h.1]; exact hi)]; rfl
  refine ⟨?_, ?_, ?_, ?_, ?_⟩
  · rw [World.ownsRow.cellAt h.2 (i * 5) (by omega)]; exact (plc_at _ i _ 0 hp (by decide)).trans rfl
  · rw [World.ownsRow.cellAt h.2 (i * 5 + 1) (by omega)]; exact (plc_at _ i _ 1 hp (by decide)).trans rfl
  · rw [World.ownsRow.cellAt h.2 (i * 5 + 2) (by omega)]; exact (plc_at _ i _ 2 hp (by decide)).trans rfl
  · rw [World.ownsRow.cellAt h.2 (i * 5 + 3) (by omega)]; exact (plc_at _ i _ 3 hp (by decide)).trans rfl
  · rw [World.ownsRow.cellAt h.2 (i * 5 + 4) (by omega)]; exact (plc_at _ i _ 4 hp (by decide)).trans rfl
theorem RowP.froz {F : Int → Plc} {w : World} {B g n cap : Nat} {L : List Int} (h : RowP F w B g n cap L) (i : Nat) : w.frozen? ⟨g, i, none⟩ = false := World.ownsRow.frozenAt h.2 i
theorem RowP.below {F : Int → Plc} {w w' : World} {B g n cap : Nat} {L : List Int} (h : RowP F w B g n cap L) (hb : Below w.heap.size w w') : RowP F w' B g n cap L := ⟨h.1, ownN h.2 hb⟩
theorem RowP.lt {F : Int → Plc} {w : World} {B g n cap : Nat} {L : List Int} (h : RowP F w B g n cap L) : B ≤ g ∧ g < w.heap.size := World.ownsRow.lt h.2 g rfl
theorem RowP.set {F : Int → Plc} {w : World} {B g n cap : Nat} {L : List Int} (h : RowP F w B g n cap L) (i : Nat) (x : Int) (hi : i < n) : RowP F (set5 w g (i * 5) (F x)) B g n cap (L.set i x) := by
  refine ⟨by rw [List.length_set]; exact h.1, ?_⟩
  have o1 := (World.ownsRow.stored h.2 (i * 5) (.string (F x).nm)).1
  have o2 := (World.ownsRow.stored o1 (i * 5 + 1) (.int .i64 (F x).rk)).1
  have o3 := (World.ownsRow.stored o2 (i * 5 + 2) (.string (F x).kd)).1
  have o4 := (World.ownsRow.stored o3 (i * 5 + 3) (.int .i64 (F x).vl)).1
  have o5 := (World.ownsRow.stored o4 (i * 5 + 4) (.string (F x).rs)).1
  rw [plc_set _ i (F x) (by rw [List.length_map, h.1]; exact hi)] at o5
  rw [List.map_set]
  exact o5
theorem RowP.swapD {F : Int → Plc} {w : World} {B g n cap : Nat} {L : List Int} (h : RowP F w B g n cap L) {i j : Nat} (hij : i < j) (hj : j < n) : RowP F (set5 (set5 w g (j * 5) (F (ga L i))) g (i * 5) (F (ga L j))) B g n cap (swp L i j) := by
  have := (h.set j (ga L i) hj).set i (ga L j) (by omega)
  unfold swp
  rw [List.set_comm _ _ (by omega : i ≠ j)]
  exact this
theorem RowP.swapU {F : Int → Plc} {w : World} {B g n cap : Nat} {L : List Int} (h : RowP F w B g n cap L) (i j : Nat) (hi : i < n) (hj : j < n) : RowP F (set5 (set5 w g (i * 5) (F (ga L j))) g (j * 5) (F (ga L i))) B g n cap (swp L i j) := (h.set i (ga L j) hi).set j (ga L i) hj
theorem grown5 {w a : World} {g : Nat} (h : w.grownBy a (some g)) (o : Nat) (p : Plc) : w.grownBy (set5 a g o p) (some g) :=
  (((((h.trans (grown_set _ g o _)).trans (grown_set _ g (o + 1) _)).trans (grown_set _ g (o + 2) _)).trans (grown_set _ g (o + 3) _)).trans (grown_set _ g (o + 4) _))
def cmpP (bx : Nat) : Value := .func (.func 102) #[] #[.pointer (some ⟨bx, 0, none⟩)]
def CmpP (F : Int → Plc) (w : World) (g bx : Nat) (cm : Int → Int → Int) (L : List Int) : Prop :=
  ∀ w' : World, w.grownBy w' (some g) → ∀ x y : Int, x ∈ L → y ∈ L → Calls Tryz.prog 102 #[(F x).val, (F y).val, .pointer (some ⟨bx, 0, none⟩)] w' (RetPost (.int .i64 (cm x y)) w')
def SortP (F : Int → Plc) (w : World) (B g n cap : Nat) (lt : Int → Int → Prop) (L : List Int) (a b : Nat) (e : Ending) (w' : World) : Prop :=
  ∃ M, e = .returned (.tuple #[]) ∧ PermIn a b L M ∧ Srt lt M a b ∧ RowP F w' B g n cap M ∧ w.grownBy w' (some g)
def RowPostP (F : Int → Plc) (w : World) (B g n cap : Nat) (R : List Int → Prop) (e : Ending) (w' : World) : Prop := ∃ M, e = .returned (.tuple #[]) ∧ R M ∧ RowP F w' B g n cap M ∧ w.grownBy w' (some g)
end Go.Mk
