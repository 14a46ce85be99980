/-
  Proved: the law's shortRows, and its copies of rows in new memory. Conditions: the rows lie where the slice says.
  Proved: the law's copies of places, the reference's SamePlaces on what is the same, and how results compare. Conditions: at most 1,000 places, where the slices say.
-/
import Derived.Test.YthgkaojplomapaaGreatDoorFc
set_option linter.unusedVariables false
set_option linter.unusedSimpArgs false
open Go Go.Proofs Go.RowKit
set_option maxRecDepth 100000
section
namespace Go.Mk
def shR (L : List RowR) : Bool := decide (L.length ≤ 35) && L.all fun r => decide (r.s.size ≤ 40) && decide (r.n ≤ 10)
def nrm (r : RowR) : RowR := { r with A := none, c := 0 }
def rowC (r : RowR) : List Value := [.string r.s, .slice r.A r.n r.c, .bool r.rt]
def OwnRows (w : World) (B : Nat) (v : Value) (L : List RowR) : Prop := w.ownsRow B 55 3 v L.length (L.flatMap rowC) ∧ ∀ r ∈ L, w.ownsRow B 3 1 (.slice r.A r.n r.c) r.n (r.T.map fun z => Value.int .i64 z)
theorem rowC_at : ∀ (L : List RowR) (i : Nat) (r : RowR) (c : Nat), L[i]? = some r → c < 3 → (L.flatMap rowC)[i * 3 + c]? = (rowC r)[c]?
 | [], i, p, c, h, _ => by simp at h
 | x :: L, 0, p, c, h, hc => by
  obtain rfl : x = p := by simpa using h
  rw [List.flatMap_cons, List.getElem?_append_left (by simp [rowC]; omega)]
  simp
 | x :: L, i + 1, p, c, h, hc => by
  rw [List.flatMap_cons, List.getElem?_append_right (by simp [rowC]; omega), show (i + 1) * 3 + c - (rowC x).length = i * 3 + c by simp [rowC]; omega]
  exact rowC_at L i p c (by simpa using h) hc
theorem ints_of_row {w : World} {B : Nat} {A : Option Addr} {n c : Nat} {T : List Int} (h : w.ownsRow B 3 1 (.slice A n c) n (T.map fun z => Value.int .i64 z)) : IntsZ w A n T ∧ n ≤ c ∧ c ≤ maxLen ∧ T.length = n := by
 have hl : T.length = n := by have := h.1; simpa using this
 have ho : OwnZ w B (.slice A n c) T := by unfold OwnZ; rw [hl]; exact h
 obtain ⟨A', c', e, hI⟩ := IntsZ.of_own ho
 rw [hl] at e hI
 cases e
 refine ⟨hI, ?_, ?_, hl⟩
 ·rcases h.2 with ⟨e, _⟩ | ⟨g, cap, cur, e, _, _, d, _⟩
  ·cases e; exact Nat.le_refl _
  ·cases e; exact d
 ·rcases h.2 with ⟨e, _⟩ | ⟨g, cap, cur, e, _, _, _, d, _⟩
  ·cases e; exact Nat.zero_le _
  ·cases e; exact d
theorem OwnRows.below {w w' : World} {B : Nat} {v : Value} {L : List RowR} (h : OwnRows w B v L) (hb : Below w.heap.size w w') : OwnRows w' B v L := ⟨ownN h.1 hb, fun r hr => ownN (h.2 r hr) hb⟩
theorem Rows.of_own {w : World} {B : Nat} {v : Value} {L : List RowR} (h : OwnRows w B v L) : ∃ A c, v = .slice A L.length c ∧ Rows w A L.length L := by
 rcases h.1.2 with ⟨a, b⟩ | ⟨g, cap, cur, a, b, c, d, e1, f, hx⟩
 ·exact ⟨none, 0, by rw [a, b], rfl, fun hn => absurd hn (by omega)⟩
 ·refine ⟨_, cap, a, rfl, fun _ => ⟨g, 0, rfl, (Array.getElem?_eq_some_iff.1 c).1, fun j p hp => ?_⟩⟩
  have hj := (List.getElem?_eq_some_iff.1 hp).1
  have h1 := h.1
  rw [a] at h1
  obtain ⟨q1, q2, _, _⟩ := ints_of_row (h.2 p (List.mem_of_getElem? hp))
  refine ⟨?_, ?_, ?_, q1, q2⟩ <;> rw [Nat.zero_add]
  ·rw [World.ownsRow.cellAt h1 (j * 3) (by omega)]; exact (rowC_at _ j _ 0 hp (by decide)).trans rfl
  ·rw [World.ownsRow.cellAt h1 (j * 3 + 1) (by omega)]; exact (rowC_at _ j _ 1 hp (by decide)).trans rfl
  ·rw [World.ownsRow.cellAt h1 (j * 3 + 2) (by omega)]; exact (rowC_at _ j _ 2 hp (by decide)).trans rfl
def AprR (P : List RowR) : Prop := P.Pairwise fun r q => ∀ g, (Value.slice q.A q.n q.c).ownBlock = some g → (Value.slice r.A r.n r.c).ownBlock ≠ some g
end Go.Mk
end
section
namespace Go.Mk
theorem eqMark (m : Nat) (k : ByteArray) (v : Int) (r : ByteArray) (w : World) : (Op.equalIn (m + 2) 59 (.agg #[.string k, .int .i64 v, .string r]) (.agg #[.string k, .int .i64 v, .string r])).run Tryz.prog w = .ok true w := by
  rw [run_equalIn_struct w (m + 1) 59 _ _ (by kernel_rfl) (by kernel_rfl)]
  obtain ⟨fs, hfs⟩ : ∃ fs, (Tryz.prog.fieldsOf 59).toList = fs := ⟨_, rfl⟩
  have h : (Tryz.prog.fieldsOf 59).toList.map (fun f => (f.type, f.offset, f.name == "_")) = [(9, 0, false), (3, 1, false), (9, 2, false)] := by kernel_rfl
  rw [hfs] at h ⊢
  match fs, h with
  | [f0, f1, f2], h =>
    simp only [List.map_cons, List.map_nil, List.cons.injEq, Prod.mk.injEq, and_true] at h
    obtain ⟨⟨t0, o0, n0⟩, ⟨t1, o1, n1⟩, ⟨t2, o2, n2⟩⟩ := h
    have p0 : (part 9 #[.string k, .int .i64 v, .string r] 0).run Tryz.prog w = .ok (.string k) w := run_part_plain w (by kernel_rfl) rfl
    have p1 : (part 3 #[.string k, .int .i64 v, .string r] 1).run Tryz.prog w = .ok (.int .i64 v) w := run_part_plain w (by kernel_rfl) rfl
    have p2 : (part 9 #[.string k, .int .i64 v, .string r] 2).run Tryz.prog w = .ok (.string r) w := run_part_plain w (by kernel_rfl) rfl
    have e0 : (Op.equalIn (m + 1) 9 (.string k) (.string k)).run Tryz.prog w = .ok (k.toList == k.toList) w := run_equalIn_string w m 9 k k Tryz.underlying9
    have e1 : (Op.equalIn (m + 1) 3 (.int .i64 v) (.int .i64 v)).run Tryz.prog w = .ok (v == v) w := run_equalIn_int w m 3 .i64 .i64 v v Tryz.underlying3
    have e2 : (Op.equalIn (m + 1) 9 (.string r) (.string r)).run Tryz.prog w = .ok (r.toList == r.toList) w := run_equalIn_string w m 9 r r Tryz.underlying9
    simp [Op.eqFields, t0, o0, n0, t1, o1, n1, t2, o2, n2, p0, p1, p2, e0, e1, e2, Sem.run_bind, Result.andThen_ok]
end Go.Mk
end
