/-
  Proved: the closure of the law TrackChanges: the turned team with one name put in. Conditions: the team lies where its box says; there are at most 100 names, at least one.
-/
import Derived.Test.YtnknmplepgmfmaaGreatDoorXu
import Derived.Test.YtnknmplepgmfmaaGreatDoorXga
set_option linter.unusedVariables false
set_option linter.unusedSimpArgs false
open Go Go.Proofs Go.RowKit Go.Maps Go.Sort Go.WideMaps
set_option maxRecDepth 100000
namespace Go.Mk
theorem add_atX (g o i : Nat) : (⟨g, o, none⟩ : Addr).add i = ⟨g, o + i, none⟩ := by unfold Addr.add; split <;> simp_all
theorem strs_one (L : List ByteArray) : ∀ u ∈ L.map Value.string, u.oneCell' = true := by
  intro u hu
  obtain ⟨z, _, rfl⟩ := List.mem_map.1 hu
  rfl
theorem wrapX8 (x : Int) (h : -1000 ≤ x ∧ x ≤ 1000000) : IntKind.i64.wrap x = x := by
  simp [IntKind.wrap, IntKind.bits, IntKind.signed]
  omega
set_option maxHeartbeats 4000000 in
theorem l7ChangesC_any (U : List ByteArray) (n c g9 gu p : Nat) (s : ByteArray) (w : World) (hn0 : 0 < n) (hn : n ≤ 100) (hc : w.cell? ⟨g9, 0, none⟩ = some (.slice (some ⟨gu, 0, none⟩) n c)) (hg9 : g9 < w.heap.size) (hgu : gu < w.heap.size) (hl : U.length = n) (hU : ∀ (i : Nat) (x : ByteArray), U[i]? = some x → w.cell? ⟨gu, i, none⟩ = some (.string x)) (hp : p < 256) :
    Calls Tryz.prog 35 #[.int .u8 (p : Int), .string s, .pointer (some ⟨g9, 0, none⟩)] w (fun e w' => ∃ v, e = .returned v ∧ OwnNames w' w.heap.size v (U.set (p % n) s) ∧ Below w.heap.size w w') := by
  obtain ⟨i0, hi, hz0, hz1, hz2⟩ := info_parts infoStr
  have hni : (n : Int) ≤ 100 := by omega
  have hrow0 : (w.alloc (.cells #[] 9)).ownsRow w.heap.size 9 1 (.slice (some ⟨w.heap.size, 0, none⟩) 0 0) 0 [] := World.ownsRow_lit w #[] 0 (Nat.le_refl _) (by decide) rfl
  have hb1 : Below w.heap.size w (w.alloc (.cells #[] 9)) := (Below.refl _ _).alloc (Nat.le_refl _) _
  have hc1 : (w.alloc (.cells #[] 9)).cell? ⟨g9, 0, none⟩ = some (.slice (some ⟨gu, 0, none⟩) n c) := (hb1.cell (p := ⟨g9, 0, none⟩) hg9).trans hc
  have HU : Hid (∀ (i : Nat) (x : ByteArray), U[i]? = some x → (w.alloc (.cells #[] 9)).cell? ⟨gu, i, none⟩ = some (.string x)) := Lib.hid fun i x hx => (hb1.cell (p := ⟨gu, i, none⟩) hgu).trans (hU i x hx)
  have HL := Lib.hid hl
  obtain ⟨q, hq⟩ : ∃ q, p % n = q := ⟨_, rfl⟩
  rw [hq]
  have hqn : q < n := by rw [← hq]; exact Nat.mod_lt _ hn0
  have hqe : (p : Int) % (n : Int) = (q : Int) := by rw [← hq]; exact (Int.natCast_emod _ _).symm
  have hqt : Int.tmod (p : Int) (n : Int) = (q : Int) := by rw [Int.tmod_eq_emod_of_nonneg (by omega)]; exact hqe
  have HQ := Lib.hid hqe
  clear hc hU hl hq hqe hqt
  go_enter Tryz.func35, Tryz.ntmps35
  obtain ⟨y, hy⟩ : ∃ y, U[q]? = some y := ⟨U[q]'(by rw [HL.out]; exact hqn), List.getElem?_eq_getElem _⟩
  have HYQ : Hid ((U.map Value.string)[q]? = some (.string y)) := Lib.hid (by rw [List.getElem?_map, hy]; rfl)
  have hqi : (q : Int) < (n : Int) := by omega
  have hq0 : (0 : Int) ≤ (q : Int) := by omega
  have hqt : ((q : Int)).toNat = q := by omega
  have hqq : (0 : Int) ≤ (q : Int) ∧ (q : Int) < (n : Int) := ⟨hq0, hqi⟩
  have hqw : IntKind.i64.wrap (q : Int) = (q : Int) := wrapX8 _ (by omega)
  have hne : ¬ (n : Int) = 0 := by omega
  have hnb : ((n : Int) == 0) = false := by simp; omega
  have hm1 : (p : Int) % (n : Int) = (q : Int) := HQ.out
  have hm2 : Int.tmod (p : Int) (n : Int) = (q : Int) := by rw [Int.tmod_eq_emod_of_nonneg (by omega)]; exact hm1
  clear hy
  go_wp2_with (at_builtin; refine wpList_append_src _ rfl _ _ 54 rfl w.heap.size 9 i0 (.string ⟨#[]⟩) 1 16 Tryz.underlying54 hi hz0 hz1 hz2 rfl (by decide) _ _ _ rfl hrow0 _ _ _ (U.map Value.string) rfl (by rw [List.length_map, HL.out]; omega) (fun q => by cases q) (fun ad had i u hu => by cases had; rw [List.getElem?_map] at hu; cases hq1 : U[i]? with | none => (rw [hq1] at hu; cases hu) | some y => (rw [hq1] at hu; cases hu; rw [add_atX, Nat.zero_add]; exact HU.out i y hq1)) (strs_one _) (by unfold maxLen; omega) (by omega) hb1.size ?_; intro v8 w8 hrow hgrow _; rw [List.nil_append, Nat.zero_add] at hrow; obtain ⟨gv, cv, rfl, hgv, hgv2⟩ := ownSome hrow hn0; have hfz := World.ownsRow.frozenAt hrow q; have hcl := (World.ownsRow.cellAt hrow q (by omega)).trans HYQ.out)
  have hb8 := hb1.grown hgrow hb1.size (fun r hr => (World.ownsRow.lt hrow0 r hr).1)
  obtain ⟨hs1, hs2⟩ := World.ownsRow.stored hrow q (.string s)
  have hb9 := hb8.grown hs2 hb8.size (fun r hr => by cases hr; exact hgv)
  go_ret
  refine ⟨_, rfl, ?_, hb9⟩
  unfold OwnNames
  rw [List.length_set, HL.out, List.map_set]
  exact hs1
end Go.Mk
