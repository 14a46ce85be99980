/-
  Proved: the law's copies of places, the reference's SamePlaces on what is the same, and how results compare. Conditions: at most 1,000 places, where the slices say.
-/
import Derived.Test.YthgkaojplomapaaGreatDoorFrk
set_option linter.unusedVariables false
set_option linter.unusedSimpArgs false
open Go Go.Proofs Go.RowKit
set_option maxRecDepth 100000
namespace Go.Mk
theorem eqMark (m : Nat) (k : ByteArray) (v : Int) (r : ByteArray) (w : World) : (Op.equalIn (m + 2) 59 (.agg #[.string k, .int .i64 v, .string r]) (.agg #[.string k, .int .i64 v, .string r])).run Tryz.prog w = .ok true w := by
  rw [run_equalIn_struct w (m + 1) 59 _ _ (by kernel_rfl) (by kernel_rfl)]
  obtain ⟨fs, hfs⟩ : ∃ fs, (Tryz.prog.fieldsOf 59).toList = fs := ⟨_, rfl⟩
  have h : (Tryz.prog.fieldsOf 59).toList.map (fun f => (f.type, f.offset, f.name == "_")) = [(9, 0, false), (3, 1, false), (9, 2, false)] := by kernel_rfl
  rw [hfs] at h ⊢
  match fs, h with
  | [f0, f1, f2], h =>
    simp only [List.map_cons, List.map_nil, List.cons.injEq, Prod.mk.injEq, and_true] at h
    obtain ⟨⟨t0, o0, n0⟩, ⟨t1, o1, n1⟩, ⟨t2, o2, n2⟩⟩ := h
    have p0 : (part 9 #[.string k, .int .i64 v, .string r] 0).run Tryz.prog w = .ok (.string k) w := run_part_plain w (by kernel_rfl) rfl
    have p1 : (part 3 #[.string k, .int .i64 v, .string r] 1).run Tryz.prog w = .ok (.int .i64 v) w := run_part_plain w (by kernel_rfl) rfl
    have p2 : (part 9 #[.string k, .int .i64 v, .string r] 2).run Tryz.prog w = .ok (.string r) w := run_part_plain w (by kernel_rfl) rfl
    have e0 : (Op.equalIn (m + 1) 9 (.string k) (.string k)).run Tryz.prog w = .ok (k.toList == k.toList) w := run_equalIn_string w m 9 k k Tryz.underlying9
    have e1 : (Op.equalIn (m + 1) 3 (.int .i64 v) (.int .i64 v)).run Tryz.prog w = .ok (v == v) w := run_equalIn_int w m 3 .i64 .i64 v v Tryz.underlying3
    have e2 : (Op.equalIn (m + 1) 9 (.string r) (.string r)).run Tryz.prog w = .ok (r.toList == r.toList) w := run_equalIn_string w m 9 r r Tryz.underlying9
    simp [Op.eqFields, t0, o0, n0, t1, o1, n1, t2, o2, n2, p0, p1, p2, e0, e1, e2, Sem.run_bind, Result.andThen_ok]
end Go.Mk
