/-
  Proved: rows of texts in new memory, and strings.Join of such a row with a blank. Conditions: the row has one text or more, at most 20,000, each of at most 5,000 bytes.
-/
import Derived.Test.YthpcmhcokblglaaGreatDoorFca
import Derived.Test.YthpcmhcokblglaaGreatDoorFcx
import Derived.Test.YthpcmhcokblglaaGreatDoorXga
import Derived.Lib.AppendZeros
import Derived.Lib.SliceRun
import Derived.Shelf.Strings.OnBuilder
set_option linter.unusedVariables false
set_option linter.unusedSimpArgs false
open Go Go.Proofs Go.RowKit Go.Shelf
set_option maxRecDepth 100000
namespace Go.Mk
/-- A list of texts in new memory. -/
def OwnNames (w : World) (B : Nat) (v : Value) (L : List ByteArray) : Prop := w.ownsRow B 9 1 v L.length (L.map Value.string)
theorem infoStr : (Tryz.prog.info? 9).map (fun i => (i.zero, i.size, i.bytes)) = some (some (.string ⟨#[]⟩), 1, 16) := by kernel_rfl
theorem OwnNames.next {w1 : World} {B : Nat} {v' : Value} {L : List ByteArray} {t : ByteArray} (h : w1.ownsRow B 9 1 v' (L.length + 1) (L.map Value.string ++ [Value.string t])) : OwnNames w1 B v' (L ++ [t]) := by
  unfold OwnNames
  rw [List.length_append, List.map_append]
  exact h
theorem TextsZ.of_own {w : World} {base : Nat} {v : Value} {L : List ByteArray} (h : OwnNames w base v L) : ∃ A c, v = .slice A L.length c ∧ L.length ≤ c ∧ (A = none → c = 0) ∧ TextsZ w A L.length L := by
  rcases h.2 with ⟨a, b⟩ | ⟨g, cap, cur, a, b, c, d, e1, f, hx⟩
  · exact ⟨none, 0, by rw [a, b], by omega, fun _ => rfl, rfl, fun hn => absurd hn (by omega)⟩
  · refine ⟨_, cap, a, d, fun q => (by cases q), rfl, fun _ => ⟨g, 0, rfl, (Array.getElem?_eq_some_iff.1 c).1, fun j x hj => ?_⟩⟩
    have := World.ownsRow.cells h (g := g) (by rw [a]; rfl) j (.string x) (by simp [hj])
    rwa [show (⟨g, 0, none⟩ : Addr).add j = ⟨g, 0 + j, none⟩ from by unfold Addr.add; split <;> simp_all] at this
theorem add_atX (g o i : Nat) : (⟨g, o, none⟩ : Addr).add i = ⟨g, o + i, none⟩ := by unfold Addr.add; split <;> simp_all
theorem strs_one (L : List ByteArray) : ∀ u ∈ L.map Value.string, u.oneCell' = true := by
  intro u hu
  obtain ⟨z, _, rfl⟩ := List.mem_map.1 hu
  rfl
theorem texts_cell {w : World} {A : Option Addr} {n : Nat} {L : List ByteArray} (h : TextsZ w A n L) (ad : Addr) (hA : A = some ad) (j : Nat) (u : Value) (hu : (L.map Value.string)[j]? = some u) : w.cell? (ad.add j) = some u := by
  rw [List.getElem?_map] at hu
  cases hx : L[j]? with
  | none => rw [hx] at hu; cases hu
  | some x =>
    rw [hx] at hu
    obtain rfl : Value.string x = u := Option.some.inj hu
    have hj := (List.getElem?_eq_some_iff.1 hx).1
    obtain ⟨g, off, e, _, hc⟩ := h.2 (by have := h.1; omega)
    rw [hA] at e
    obtain rfl : ad = ⟨g, off, none⟩ := Option.some.inj e
    rw [add_atX]
    exact hc j x hx
theorem OwnNames.at0 {w : World} {B : Nat} {v : Value} {L : List ByteArray} (h : OwnNames w B v L) (h0 : 0 < L.length) : ∃ g c, v = .slice (some ⟨g, 0, none⟩) L.length c ∧ g < w.heap.size ∧ L.length ≤ c ∧ ∀ (i : Nat) (x : ByteArray), L[i]? = some x → w.cell? ⟨g, i, none⟩ = some (.string x) := by
  obtain ⟨g, c, hv, _, hg⟩ := ownSome h h0
  refine ⟨g, c, hv, hg, ?_, fun i x hx => ?_⟩
  · rcases h.2 with ⟨_, h1⟩ | ⟨g', cap, cur, a, b, c', d, e1, _⟩
    · omega
    · rw [hv] at a
      cases a
      exact d
  · have := World.ownsRow.cells h (g := g) (by rw [hv]; rfl) i (.string x) (by simp [hx])
    rwa [add_atX, Nat.zero_add] at this
theorem joinX : Builder.Extra Tryz.prog Tryz.join_ren := {
  sizeBuilder := by kernel_rfl
  liesBuilder := by kernel_rfl
  t5 := Tryz.underlying5
  a5 := Tryz.isAgg5
  z5 := Tryz.sizeOf5
  v5 := Tryz.zeroValue5
  infoByte := by kernel_rfl
  cellsByte := by kernel_rfl
  sizeByte := by kernel_rfl
  neB5 := by decide }
theorem joinTail_le (m : Nat) : ∀ (r : List (List UInt8)), (∀ x ∈ r, x.length ≤ m) → (Lib.joinTail [32] r).length ≤ r.length * (m + 1)
  | [], _ => by simp [Lib.joinTail]
  | x :: r, h => by
    have h1 := h x (by simp)
    have h2 := joinTail_le m r (fun y hy => h y (by simp [hy]))
    have e : (Lib.joinTail [32] (x :: r)).length = 1 + x.length + (Lib.joinTail [32] r).length := by simp [Lib.joinTail]; omega
    rw [e, List.length_cons, Nat.add_mul]
    omega
theorem join_le (m : Nat) (L : List (List UInt8)) (h : ∀ x ∈ L, x.length ≤ m) : (Lib.join L [32]).length ≤ L.length * (m + 1) := by
  cases L with
  | nil => simp [Lib.join_nil]
  | cons x r =>
    rw [Lib.join_cons, List.length_append, List.length_cons, Nat.add_mul]
    have := joinTail_le m r (fun y hy => h y (by simp [hy]))
    have := h x (by simp)
    omega
/-- The texts of a list with blanks between them. -/
def joinB (L : List ByteArray) : ByteArray := ⟨(Lib.join (L.map (·.data.toList)) [32]).toArray⟩
theorem naJoin_any (L : List ByteArray) (B : Nat) (v : Value) (w : World) (hO : OwnNames w B v L) (h0 : 0 < L.length) (hn : L.length ≤ 20000) (hs : ∀ x ∈ L, x.size ≤ 5000) :
    Calls Tryz.prog 57 #[v, .string ⟨#[32]⟩] w (RetPost (.string (joinB L)) w) := by
  obtain ⟨g, c, rfl, hg, hc, hcell⟩ := hO.at0 h0
  refine (Any.strings_Join Tryz.join joinX g 0 c L ⟨#[32]⟩ w (fun j x hx => by rw [Nat.zero_add]; exact hcell j x hx) hg (by omega) hc ?_).mono ?_
  · have h1 := join_le 5000 (L.map (·.data.toList)) (fun x hx => by
      obtain ⟨y, hy, rfl⟩ := List.mem_map.1 hx
      rw [Array.length_toList]
      exact hs y hy)
    rw [List.length_map] at h1
    have h2 : L.length * (5000 + 1) ≤ 20000 * 5001 := Nat.mul_le_mul_right _ hn
    show (Lib.join _ [32]).length ≤ _
    omega
  · rintro e w' ⟨rfl, hb⟩
    exact ⟨rfl, hb⟩
end Go.Mk
