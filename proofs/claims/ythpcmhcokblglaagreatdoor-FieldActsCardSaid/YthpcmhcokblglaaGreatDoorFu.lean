/-
  Proved: the law FieldActs returns true and leaves all that was there. Conditions: the tables that awake reads lie where the program lays them; the acts lie where the slice says, each name no longer than an int says; the number is an int.
-/
import Derived.Test.YthpcmhcokblglaaGreatDoorFr
import Derived.Test.YthpcmhcokblglaaGreatDoorXaw
import Derived.Great.BuildSlice
set_option linter.unusedVariables false
set_option linter.unusedSimpArgs false
open Go Go.Proofs Go.RowKit
set_option maxRecDepth 100000
namespace Go.Mk
theorem fst3_ne {a b c : Int} (h : fstN [a, b] ≠ 0) : fstN [a, b, c] = fstN [a, b] := by
  simp only [fstN] at *
  split at h <;> simp_all
theorem fst3_eq {a b c : Int} (h : fstN [a, b] = 0) : fstN [a, b, c] = c := by
  simp only [fstN] at *
  split at h
  · rename_i ha
    rw [if_pos ha]
    split at h
    · rename_i hb; rw [if_pos hb]; split <;> simp_all
    · rename_i hb; exact absurd h hb
  · rename_i ha; exact absurd h ha
theorem fdCorrected_bad (h : Bool) (L : List ActR) (n cap : Nat) (A : Option Addr) (num : Int) (a : ActR) (w : World) (hG : 15 ≤ w.heap.size) (hZ : Acts w A n L) (hn : n ≤ 2000) (hs : ∀ a ∈ L, a.s.size ≤ maxLen) (hz : a.s.size ≤ maxLen) (he : corE h L num a ≠ 0) :
    Calls Tryz.prog 16 #[.slice A n cap, .int .i64 num, .agg #[.string a.s, .string a.k, .int .i64 a.v], .bool h] w (RetPost (.tuple #[.slice none 0 0, .int .i64 (corE h L num a)]) w) := by
  by_cases hl : num < 1
  · exact fdCorrected_low h L n cap A num a w hG hZ hn hs hz hl
  · exact fdCorrected_err h L n cap A num a w hG hZ hn hs hz hl he
theorem acts1 {w : World} {g : Nat} {a : ActR} {t : TypeId} (hw : w.heap[g]? = some (.cells #[.string a.s, .string a.k, .int .i64 a.v] t (0, 0))) : Acts w (some ⟨g, 0, none⟩) 1 [a] := by
  refine ⟨rfl, fun _ => ⟨g, 0, rfl, (Array.getElem?_eq_some_iff.1 hw).1, fun j b hb => ?_⟩⟩
  have hj : j = 0 := by have := (List.getElem?_eq_some_iff.1 hb).1; simp at this; exact this
  subst hj
  obtain rfl : a = b := by simpa using hb
  unfold World.cell?
  simp [hw]
theorem equalAct (a : ActR) (w : World) : (Op.equal 40 (.agg #[.string a.s, .string a.k, .int .i64 a.v]) (.agg #[.string a.s, .string a.k, .int .i64 a.v])).run Tryz.prog w = .ok true w := by
  show (Op.equalIn (9999 + 1) 40 _ _).run Tryz.prog w = _
  rw [run_equalIn_struct w 9999 40 _ _ (by kernel_rfl) (by kernel_rfl)]
  obtain ⟨fs, hfs⟩ : ∃ fs, (Tryz.prog.fieldsOf 40).toList = fs := ⟨_, rfl⟩
  have h : (Tryz.prog.fieldsOf 40).toList.map (fun f => (f.type, f.offset, f.name == "_")) = [(9, 0, false), (9, 1, false), (3, 2, false)] := by kernel_rfl
  rw [hfs] at h ⊢
  match fs, h with
  | [f0, f1, f2], h =>
    simp only [List.map_cons, List.map_nil, List.cons.injEq, Prod.mk.injEq, and_true] at h
    obtain ⟨⟨t0, o0, n0⟩, ⟨t1, o1, n1⟩, ⟨t2, o2, n2⟩⟩ := h
    have p0 : (part 9 #[.string a.s, .string a.k, .int .i64 a.v] 0).run Tryz.prog w = .ok (.string a.s) w := run_part_plain w (by kernel_rfl) rfl
    have p1 : (part 9 #[.string a.s, .string a.k, .int .i64 a.v] 1).run Tryz.prog w = .ok (.string a.k) w := run_part_plain w (by kernel_rfl) rfl
    have p2 : (part 3 #[.string a.s, .string a.k, .int .i64 a.v] 2).run Tryz.prog w = .ok (.int .i64 a.v) w := run_part_plain w (by kernel_rfl) rfl
    have e0 : (Op.equalIn 9999 9 (.string a.s) (.string a.s)).run Tryz.prog w = .ok (a.s.toList == a.s.toList) w := run_equalIn_string w 9998 9 a.s a.s Tryz.underlying9
    have e1 : (Op.equalIn 9999 9 (.string a.k) (.string a.k)).run Tryz.prog w = .ok (a.k.toList == a.k.toList) w := run_equalIn_string w 9998 9 a.k a.k Tryz.underlying9
    have e2 : (Op.equalIn 9999 3 (.int .i64 a.v) (.int .i64 a.v)).run Tryz.prog w = .ok (a.v == a.v) w := run_equalIn_int w 9998 3 .i64 .i64 a.v a.v Tryz.underlying3
    simp [Op.eqFields, t0, o0, n0, t1, o1, n1, t2, o2, n2, p0, p1, p2, e0, e1, e2, Sem.run_bind, Result.andThen_ok]
theorem neqAct (a : ActR) (w : World) : (binOp .neq 40 (.agg #[.string a.s, .string a.k, .int .i64 a.v]) (.agg #[.string a.s, .string a.k, .int .i64 a.v])).run Tryz.prog w = .ok (.bool false) w := by
  have h := equalAct a w
  simp only [binOp, Sem.run_bind, h, Result.andThen_ok, Sem.run_pure, Bool.not_true]
theorem exec_bin {P : Program} {w : World} {ρ : Operand → Value} {o : Oper} {op : BinOp} {T T2 : TypeId} {x y : Operand} {m k v : Value} (hop : o.op = Op.binOp op T x y T2) (hx : ρ x = m) (hi : ρ y = k) (hgd : (eqGuard op T x y m k).run P w = Go.Result.ok () w)
    (h : (binOp op T m k).run P w = Go.Result.ok v w) : (execOp ρ o).run P w = .ok (.value v) w := by
  unfold execOp
  simp only [hop, hx, hi, hgd, Sem.run_bind, h, Result.andThen_ok, Sem.run_pure]
theorem cell_ltU {w : World} {a : Addr} {v : Value} (h : w.cell? a = some v) : a.block < w.heap.size := by
  unfold World.cell? at h
  split at h
  case h_1 c x y e => exact (Array.getElem?_eq_some_iff.1 e).1
  case h_2 => cases h
theorem set3U {w : World} {g : Nat} {x y z x' y' z' : Value} (h0 : w.cell? ⟨g, 0, none⟩ = some x') (h1 : w.cell? ⟨g, 1, none⟩ = some y') (h2 : w.cell? ⟨g, 2, none⟩ = some z') :
    (((w.setCell ⟨g, 0, none⟩ x).setCell ⟨g, 1, none⟩ y).setCell ⟨g, 2, none⟩ z).cell? ⟨g, 0, none⟩ = some x ∧ (((w.setCell ⟨g, 0, none⟩ x).setCell ⟨g, 1, none⟩ y).setCell ⟨g, 2, none⟩ z).cell? ⟨g, 1, none⟩ = some y ∧ (((w.setCell ⟨g, 0, none⟩ x).setCell ⟨g, 1, none⟩ y).setCell ⟨g, 2, none⟩ z).cell? ⟨g, 2, none⟩ = some z :=
  ⟨(World.cell?_setCell_other _ _ _ _ (by simp)).trans ((World.cell?_setCell_other _ _ _ _ (by simp)).trans (World.cell?_setCell_same _ _ _ h0)),
   (World.cell?_setCell_other _ _ _ _ (by simp)).trans (World.cell?_setCell_same _ _ _ ((World.cell?_setCell_other _ _ _ _ (by simp)).trans h1)),
   World.cell?_setCell_same _ _ _ ((World.cell?_setCell_other _ _ _ _ (by simp)).trans ((World.cell?_setCell_other _ _ _ _ (by simp)).trans h2))⟩
theorem set3o {w : World} {g b i : Nat} {x y z : Value} (h : b ≠ g) : (((w.setCell ⟨g, 0, none⟩ x).setCell ⟨g, 1, none⟩ y).setCell ⟨g, 2, none⟩ z).cell? ⟨b, i, none⟩ = w.cell? ⟨b, i, none⟩ := by
  rw [World.cell?_setCell_other _ _ _ _ (by simp [h]), World.cell?_setCell_other _ _ _ _ (by simp [h]), World.cell?_setCell_other _ _ _ _ (by simp [h])]
theorem guardAct (x y : Operand) (fs gs : Array Value) (w : World) : (eqGuard .neq 40 x y (.agg fs) (.agg gs)).run Tryz.prog w = .ok () w := by kernel_rfl
theorem meas7 {n q : Nat} (h : q < n) : n - (((q : Int) + 1)).toNat < n - ((q : Int)).toNat := by omega
theorem meas6 {n q : Nat} (h : q < n) : n - (intOf (.int .i64 ((q : Int) + 1))).toNat < n - (intOf (.int .i64 (q : Int))).toNat := by simp only [intOf]; exact meas7 h
theorem neqI0 {q i0 : Nat} {num : Int} (h : num = (i0 : Int) + 1) (hn : q ≠ i0) : ((q : Int) + 1 == num) = false := by rw [beq_eq_false_iff_ne, h]; omega
theorem infoBool : (Tryz.prog.info? 4).map (fun i => (i.zero, i.size, i.bytes)) = some (some (.bool false), 1, 1) := by kernel_rfl
theorem short_max6 {L : List ActR} {m : Nat} (h : shAct L m = true) : ∀ a ∈ L, a.s.size ≤ maxLen := fun a ha => by
  have := ((shAct_all h).2 a ha).1
  unfold maxLen; omega
set_option maxHeartbeats 8000000 in
theorem acts6_ex1 (L : List ActR) (n cap : Nat) (A : Option Addr) (num : Int) (a : ActR) (w : World)
    (hZ : Acts w A n L) (hn : (n : Int) ≤ 9223372036854775807) (ht : Tabs w) (h1 : shAct L 30 = false) : Calls Tryz.prog 4 #[.slice A n cap, .int .i64 num, .agg #[.string a.s, .string a.k, .int .i64 a.v]] w (Yes w) := by
  obtain ⟨w1, hw1⟩ : ∃ w1, w.alloc (.cells #[.string a.s, .string a.k, .int .i64 a.v] 40) = w1 := ⟨_, rfl⟩
  have hb1 : Below w.heap.size w w1 := by rw [← hw1]; exact balloc _ (Below.refl _ _)
  have hs1 : w1.heap.size = w.heap.size + 1 := by rw [← hw1]; simp
  have c0 : w1.cell? ⟨w.heap.size, 0, none⟩ = some (.string a.s) := by rw [← hw1]; simp
  have c1 : w1.cell? ⟨w.heap.size, 1, none⟩ = some (.string a.k) := by rw [← hw1]; simp
  have c2 : w1.cell? ⟨w.heap.size, 2, none⟩ = some (.int .i64 a.v) := by rw [← hw1]; simp
  obtain ⟨w2, hw2⟩ : ∃ w2, w1.alloc (.cells #[.string a.s, .string a.k, .int .i64 a.v] 40) = w2 := ⟨_, rfl⟩
  have hb2 : Below w1.heap.size w1 w2 := by rw [← hw2]; exact balloc _ (Below.refl _ _)
  have hs2 : w2.heap.size = w1.heap.size + 1 := by rw [← hw2]; simp
  have HB1 := Lib.hid hb1
  have HB2 := Lib.hid (bstep hb1 hb2)
  have hS1 : Calls Tryz.prog 13 #[.slice A n cap, .int .i64 30] w1 (RetSame (.bool (shAct L 30)) w1) := r6ShortActs_any L n cap 30 A w1 (hZ.below hb1) hn (by decide)
  have hS2 : Calls Tryz.prog 13 #[.slice (some ⟨w1.heap.size, 0, none⟩) 1 1, .int .i64 1] w2 (RetSame (.bool (shAct [a] 1)) w2) := r6ShortActs_any [a] 1 1 1 _ w2 (acts1 (g := w1.heap.size) (t := 40) (by rw [← hw2]; show (w1.heap.push _)[w1.heap.size]? = _; rw [Array.getElem?_push_size])) (by decide) (by decide)
  have HAW : Hid (∀ w', Below w.heap.size w w' → Calls Tryz.prog 8 #[] w' (RetPost (.bool true) w')) := Lib.hid fun w' hb => aw w' (ht.grow hb)
  rw [h1] at hS1
  clear hZ hS2 ht hb1 h1 hb2 hn
  clear hs1 hs2
  go_enter Tryz.func4, Tryz.ntmps4
  go_wp2_with fail
  with_reducible refine hS1.mono ?_
  rintro e w2 ⟨rfl, rfl⟩
  go_wp2_with fail
  refine (HAW.out _ HB1.out).mono ?_
  rintro e w9 ⟨rfl, hb9⟩
  have hfin := bstep HB1.out hb9
  clear hb9
  go_wp2
  go_ret
  exact ⟨rfl, hfin⟩
set_option maxHeartbeats 8000000 in
theorem acts6_ex2 (L : List ActR) (n cap : Nat) (A : Option Addr) (num : Int) (a : ActR) (w : World)
    (hZ : Acts w A n L) (hn : (n : Int) ≤ 9223372036854775807) (ht : Tabs w) (h1 : shAct L 30 = true) (h2 : shAct [a] 1 = false) : Calls Tryz.prog 4 #[.slice A n cap, .int .i64 num, .agg #[.string a.s, .string a.k, .int .i64 a.v]] w (Yes w) := by
  obtain ⟨w1, hw1⟩ : ∃ w1, w.alloc (.cells #[.string a.s, .string a.k, .int .i64 a.v] 40) = w1 := ⟨_, rfl⟩
  have hb1 : Below w.heap.size w w1 := by rw [← hw1]; exact balloc _ (Below.refl _ _)
  have hs1 : w1.heap.size = w.heap.size + 1 := by rw [← hw1]; simp
  have c0 : w1.cell? ⟨w.heap.size, 0, none⟩ = some (.string a.s) := by rw [← hw1]; simp
  have c1 : w1.cell? ⟨w.heap.size, 1, none⟩ = some (.string a.k) := by rw [← hw1]; simp
  have c2 : w1.cell? ⟨w.heap.size, 2, none⟩ = some (.int .i64 a.v) := by rw [← hw1]; simp
  obtain ⟨w2, hw2⟩ : ∃ w2, w1.alloc (.cells #[.string a.s, .string a.k, .int .i64 a.v] 40) = w2 := ⟨_, rfl⟩
  have hb2 : Below w1.heap.size w1 w2 := by rw [← hw2]; exact balloc _ (Below.refl _ _)
  have hs2 : w2.heap.size = w1.heap.size + 1 := by rw [← hw2]; simp
  have HB1 := Lib.hid hb1
  have HB2 := Lib.hid (bstep hb1 hb2)
  have hS1 : Calls Tryz.prog 13 #[.slice A n cap, .int .i64 30] w1 (RetSame (.bool (shAct L 30)) w1) := r6ShortActs_any L n cap 30 A w1 (hZ.below hb1) hn (by decide)
  have hS2 : Calls Tryz.prog 13 #[.slice (some ⟨w1.heap.size, 0, none⟩) 1 1, .int .i64 1] w2 (RetSame (.bool (shAct [a] 1)) w2) := r6ShortActs_any [a] 1 1 1 _ w2 (acts1 (g := w1.heap.size) (t := 40) (by rw [← hw2]; show (w1.heap.push _)[w1.heap.size]? = _; rw [Array.getElem?_push_size])) (by decide) (by decide)
  have HAW : Hid (∀ w', Below w.heap.size w w' → Calls Tryz.prog 8 #[] w' (RetPost (.bool true) w')) := Lib.hid fun w' hb => aw w' (ht.grow hb)
  rw [h1] at hS1
  rw [h2] at hS2
  clear hZ ht hb1 h1 h2 hb2 hn
  clear hs1 hs2
  go_enter Tryz.func4, Tryz.ntmps4
  go_wp2_with fail
  with_reducible refine hS1.mono ?_
  rintro e w2 ⟨rfl, rfl⟩
  go_wp2_with fail
  with_reducible refine hS2.mono ?_
  rintro e w2 ⟨rfl, rfl⟩
  go_wp2_with fail
  refine (HAW.out _ HB2.out).mono ?_
  rintro e w9 ⟨rfl, hb9⟩
  have hfin := bstep HB2.out hb9
  clear hb9
  go_wp2
  go_ret
  exact ⟨rfl, hfin⟩
set_option maxHeartbeats 32000000 in
theorem acts6_main (L : List ActR) (n cap : Nat) (A : Option Addr) (num : Int) (a : ActR) (w : World)
    (hZ : Acts w A n L) (hn : (n : Int) ≤ 9223372036854775807) (ht : Tabs w) (h1 : shAct L 30 = true) (h2 : shAct [a] 1 = true) : Calls Tryz.prog 4 #[.slice A n cap, .int .i64 num, .agg #[.string a.s, .string a.k, .int .i64 a.v]] w (Yes w) := by
  obtain ⟨w1, hw1⟩ : ∃ w1, w.alloc (.cells #[.string a.s, .string a.k, .int .i64 a.v] 40) = w1 := ⟨_, rfl⟩
  have hb1 : Below w.heap.size w w1 := by rw [← hw1]; exact balloc _ (Below.refl _ _)
  have hs1 : w1.heap.size = w.heap.size + 1 := by rw [← hw1]; simp
  have c0 : w1.cell? ⟨w.heap.size, 0, none⟩ = some (.string a.s) := by rw [← hw1]; simp
  have c1 : w1.cell? ⟨w.heap.size, 1, none⟩ = some (.string a.k) := by rw [← hw1]; simp
  have c2 : w1.cell? ⟨w.heap.size, 2, none⟩ = some (.int .i64 a.v) := by rw [← hw1]; simp
  obtain ⟨w2, hw2⟩ : ∃ w2, w1.alloc (.cells #[.string a.s, .string a.k, .int .i64 a.v] 40) = w2 := ⟨_, rfl⟩
  have hb2 : Below w1.heap.size w1 w2 := by rw [← hw2]; exact balloc _ (Below.refl _ _)
  have hs2 : w2.heap.size = w1.heap.size + 1 := by rw [← hw2]; simp
  have HB1 := Lib.hid hb1
  have HB2 := Lib.hid (bstep hb1 hb2)
  have hS1 : Calls Tryz.prog 13 #[.slice A n cap, .int .i64 30] w1 (RetSame (.bool (shAct L 30)) w1) := r6ShortActs_any L n cap 30 A w1 (hZ.below hb1) hn (by decide)
  have hS2 : Calls Tryz.prog 13 #[.slice (some ⟨w1.heap.size, 0, none⟩) 1 1, .int .i64 1] w2 (RetSame (.bool (shAct [a] 1)) w2) := r6ShortActs_any [a] 1 1 1 _ w2 (acts1 (g := w1.heap.size) (t := 40) (by rw [← hw2]; show (w1.heap.push _)[w1.heap.size]? = _; rw [Array.getElem?_push_size])) (by decide) (by decide)
  have HAW : Hid (∀ w', Below w.heap.size w w' → Calls Tryz.prog 8 #[] w' (RetPost (.bool true) w')) := Lib.hid fun w' hb => aw w' (ht.grow hb)
  rw [h1] at hS1
  rw [h2] at hS2
  have hsz := short_max6 h1
  have hza := short_max6 h2 a (by simp)
  have hn2 : n ≤ 2000 := by have := (shAct_all h1).1; rw [hZ.1] at this; omega
  have HLn := Lib.hid hZ.1
  have hni : (n : Int) ≤ 2000 := by omega
  obtain ⟨ib, hib, hib0, hib1, hib2⟩ := info_parts infoBool
  obtain ⟨w3, hw3⟩ : ∃ w3, w2.alloc (.cells #[.bool false, .bool true] 4) = w3 := ⟨_, rfl⟩
  have hb23 : Below w2.heap.size w2 w3 := by rw [← hw3]; exact balloc _ (Below.refl _ _)
  have hs3 : w3.heap.size = w2.heap.size + 1 := by rw [← hw3]; simp
  have t0 : w3.cell? ⟨w2.heap.size, 0, none⟩ = some (.bool false) := by rw [← hw3]; simp
  have t1 : w3.cell? ⟨w2.heap.size, 1, none⟩ = some (.bool true) := by rw [← hw3]; simp
  have hb3 := bstep HB2.out hb23
  have hb13 := bstep hb2 hb23
  have HB3 := Lib.hid hb3
  have HG3 : Hid (15 ≤ w3.heap.size) := Lib.hid (Nat.le_trans ht.1 hb3.size)
  have HX3 : Hid (∀ w', Below w3.heap.size w3 w' → w'.cell? ⟨w.heap.size, 0, none⟩ = some (.string a.s) ∧ w'.cell? ⟨w.heap.size, 1, none⟩ = some (.string a.k) ∧ w'.cell? ⟨w.heap.size, 2, none⟩ = some (.int .i64 a.v) ∧ Below w.heap.size w w' ∧ Acts w' A n L) := Lib.hid fun w' hb => by
    have b1 := bstep hb13 hb
    have b0 := bstep hb3 hb
    exact ⟨(b1.cell (p := ⟨w.heap.size, 0, none⟩) (by show w.heap.size < _; omega)).trans c0, (b1.cell (p := ⟨w.heap.size, 1, none⟩) (by show w.heap.size < _; omega)).trans c1, (b1.cell (p := ⟨w.heap.size, 2, none⟩) (by show w.heap.size < _; omega)).trans c2, b0, hZ.below b0⟩
  have HH3 : Hid (∀ w', Below w3.heap.size w3 w' → w'.cell? ⟨w2.heap.size, 0, none⟩ = some (.bool false) ∧ w'.cell? ⟨w2.heap.size, 1, none⟩ = some (.bool true)) := Lib.hid fun w' hb => ⟨(hb.cell (p := ⟨w2.heap.size, 0, none⟩) (by show w2.heap.size < _; omega)).trans t0, (hb.cell (p := ⟨w2.heap.size, 1, none⟩) (by show w2.heap.size < _; omega)).trans t1⟩
  have HN := Lib.hid hn
  clear hZ ht hb1 h1 h2 hb2 hb23 t0 t1 hb3 hb13 hn hs3
  clear hs1 hs2
  go_enter Tryz.func4, Tryz.ntmps4
  go_wp2_with fail
  with_reducible refine hS1.mono ?_
  rintro e w9 ⟨rfl, rfl⟩
  go_wp2_with fail
  with_reducible refine hS2.mono ?_
  rintro e w9 ⟨rfl, rfl⟩
  clear hw1 hw2 hS1 hS2 c0 c1 c2
  go_wp2_with fail
  clear hw3
  go_loopw [26] (fun i wr => ∃ j : Nat, j ≤ 2 ∧ i = .int .i64 j ∧ Below w3.heap.size w3 wr) (fun i _ => 2 - (intOf i).toNat)
  case atStart => exact ⟨0, by omega, rfl, Below.refl _ _⟩
  case round =>
    obtain ⟨j, hj, rfl, hb⟩ := hrel
    have HBr := Lib.hid hb
    by_cases hj2 : j < 2
    · obtain ⟨h, hh⟩ : ∃ h : Bool, wr.cell? ⟨w2.heap.size, j, none⟩ = some (.bool h) := by
        obtain ⟨x0, x1⟩ := HH3.out _ hb
        rcases (by omega : j = 0 ∨ j = 1) with rfl | rfl
        · exact ⟨_, x0⟩
        · exact ⟨_, x1⟩
      have hji : (j : Int) < 2 := by omega
      have hj0 : (0 : Int) ≤ (j : Int) := by omega
      have hjt : ((j : Int)).toNat = j := by omega
      obtain ⟨a0, a1, a2, _⟩ := HX3.out _ hb
      clear hb
      by_cases hc12 : fstN [actsE h L, actE h a.s a.k a.v] = 0
      · by_cases hl : num < 1
        · have hcor : corE h L num a = 10 := by unfold corE; rw [fst3_eq hc12, if_pos (.inl hl)]
          have hcorne : corE h L num a ≠ 0 := by rw [hcor]; decide
          have hl' := hl
          have HXr : Hid (∀ w', Below wr.heap.size wr w' → w'.cell? ⟨w.heap.size, 0, none⟩ = some (.string a.s) ∧ w'.cell? ⟨w.heap.size, 1, none⟩ = some (.string a.k) ∧ w'.cell? ⟨w.heap.size, 2, none⟩ = some (.int .i64 a.v) ∧ Below wr.heap.size wr w') := Lib.hid fun w' hb => ⟨(HX3.out _ (HBr.out.trans (hb.mono HBr.out.size))).1, (HX3.out _ (HBr.out.trans (hb.mono HBr.out.size))).2.1, (HX3.out _ (HBr.out.trans (hb.mono HBr.out.size))).2.2.1, hb⟩
          have hGr : 15 ≤ wr.heap.size := by have := HBr.out.size; have := HG3.out; omega
          have HC1 := Lib.hid fun w' (hb : Below wr.heap.size wr w') => fdCheckAct_any h a.s a.k a.v w' hza (Nat.le_trans hGr hb.size)
          have HC2 := Lib.hid fun w' => r6CheckAct_any h a.s a.k a.v w' hza
          have HC3 := Lib.hid fun w' (hb : Below wr.heap.size wr w') => r6CheckActs_any h L n cap A w' (HX3.out _ (HBr.out.trans (hb.mono HBr.out.size))).2.2.2.2 HN.out hsz
          have HAc := Lib.hid fun w' (hb : Below wr.heap.size wr w') => l6acts_any L n cap A w' (HX3.out _ (HBr.out.trans (hb.mono HBr.out.size))).2.2.2.2 hn2
          have HCo := Lib.hid fun w' (hb : Below wr.heap.size wr w') Ax cx (hA : Acts w' Ax n L) => fdCorrected_bad h L n cx Ax num a w' (Nat.le_trans hGr hb.size) hA hn2 hsz hza hcorne
          obtain ⟨e1, he1⟩ : ∃ e1, actsE h L = e1 := ⟨_, rfl⟩
          obtain ⟨e2, he2⟩ : ∃ e2, actE h a.s a.k a.v = e2 := ⟨_, rfl⟩
          rw [he1] at HC3
          rw [he2] at HC1 HC2
          rw [hcor] at HCo
          have hF : ∀ g w, Es w g [e1, e2] → Calls Tryz.prog 18 #[.slice (some ⟨g, 0, none⟩) 2 2] w (RetSame (.int .i64 (fstN [e1, e2])) w) := fun g w h => l6first_any [e1, e2] 2 rfl (by decide) g w h
          rw [he1, he2] at hc12
          rw [hc12] at hF
          have HF := Lib.hid hF
          clear hF he1 he2 hc12 hcor hcorne hsz
          go_wp2_with fail
          refine wp_region_held_drew (S := (fun w' => w'.cell? ⟨w.heap.size, 0, none⟩ = some (.string a.s) ∧ w'.cell? ⟨w.heap.size, 1, none⟩ = some (.string a.k) ∧ w'.cell? ⟨w.heap.size, 2, none⟩ = some (.int .i64 a.v) ∧ Below wr.heap.size wr w')) (by kernel_rfl) ?_ (fun hHeld => ?_)
          · exact HXr.out _ (Below.drew (Below.refl _ _))
          refine wpAnyH_take (i := 0) (oi := _) (v := ?_) rfl (by kernel_rfl) (by kernel_rfl) (by kernel_rfl) (fun _ _ _ h => h) (Or.inl ⟨by kernel_rfl, ?_⟩) (by assumption) ?_
          rotate_left
          · rintro w ⟨s1, s2, s3, s4⟩
            go_simp
            try with_reducible rfl
          try simp only [Act.put, List.setIfInBounds_toArray, List.set_cons_zero, List.set_cons_succ, List.getElem_toArray, List.getElem_cons_zero, List.getElem_cons_succ]
          refine wpAnyH_take (i := 1) (oi := _) (v := ?_) rfl (by kernel_rfl) (by kernel_rfl) (by kernel_rfl) (fun _ _ _ h => h) (Or.inl ⟨by kernel_rfl, ?_⟩) (by assumption) ?_
          rotate_left
          · rintro w ⟨s1, s2, s3, s4⟩
            go_simp
            try with_reducible rfl
          try simp only [Act.put, List.setIfInBounds_toArray, List.set_cons_zero, List.set_cons_succ, List.getElem_toArray, List.getElem_cons_zero, List.getElem_cons_succ]
          refine wpAnyH_take (i := 3) (oi := _) (v := ?_) rfl (by kernel_rfl) (by kernel_rfl) (by kernel_rfl) (fun _ _ _ h => h) (Or.inl ⟨by kernel_rfl, ?_⟩) (by assumption) ?_
          rotate_left
          · rintro w ⟨s1, s2, s3, s4⟩
            go_simp
            try with_reducible rfl
          try simp only [Act.put, List.setIfInBounds_toArray, List.set_cons_zero, List.set_cons_succ, List.getElem_toArray, List.getElem_cons_zero, List.getElem_cons_succ]
          refine wpAnyH_take (i := 4) (oi := _) (v := ?_) rfl (by kernel_rfl) (by kernel_rfl) (by kernel_rfl) (fun _ _ _ h => h) (Or.inl ⟨by kernel_rfl, ?_⟩) (by assumption) ?_
          rotate_left
          · rintro w ⟨s1, s2, s3, s4⟩
            go_simp
            try with_reducible rfl
          try simp only [Act.put, List.setIfInBounds_toArray, List.set_cons_zero, List.set_cons_succ, List.getElem_toArray, List.getElem_cons_zero, List.getElem_cons_succ]
          refine wpAnyH_ready (rs := [2]) (by kernel_rfl) (by simp) ?_
          refine AllReadyH.cons (o := _) rfl (fun K hKK => ?_) AllReadyH.nil
          go_simp
          go_at_call 14
          with_reducible refine (HC1.out _ hHeld.2.2.2).mono ?_
          rintro e' w' ⟨rfl, hbz⟩
          go_wp2_with fail
          refine hKK.out _ _ ?_ (fun hHeld => ?_)
          · exact HXr.out _ (bstep hHeld.2.2.2 hbz)
          clear hKK K
          try simp only [Act.put, List.setIfInBounds_toArray, List.set_cons_zero, List.set_cons_succ, List.getElem_toArray, List.getElem_cons_zero, List.getElem_cons_succ]
          clear hbz
          refine wpAnyH_ready (rs := [5]) (by kernel_rfl) (by simp) ?_
          refine AllReadyH.cons (o := _) rfl (fun K hKK => ?_) AllReadyH.nil
          go_simp
          go_at_call 15
          with_reducible refine (HC2.out _).mono ?_
          rintro e' w' ⟨rfl, hbz⟩
          go_wp2_with fail
          refine hKK.out _ _ ?_ (fun hHeld => ?_)
          · exact HXr.out _ (bstep hHeld.2.2.2 hbz)
          clear hKK K
          try simp only [Act.put, List.setIfInBounds_toArray, List.set_cons_zero, List.set_cons_succ, List.getElem_toArray, List.getElem_cons_zero, List.getElem_cons_succ]
          clear hbz
          refine wpAnyH_take (i := 6) (oi := _) (v := ?_) rfl (by kernel_rfl) (by kernel_rfl) (by kernel_rfl) (fun _ _ _ h => h) (Or.inl ⟨by kernel_rfl, ?_⟩) (by assumption) ?_
          rotate_left
          · rintro w ⟨s1, s2, s3, s4⟩
            go_simp
            try simp only [bne_self_eq_false]
            try with_reducible rfl
          try simp only [Act.put, List.setIfInBounds_toArray, List.set_cons_zero, List.set_cons_succ, List.getElem_toArray, List.getElem_cons_zero, List.getElem_cons_succ]
          refine wpAnyH_done (by kernel_rfl) ?_ _
          go_wp2_with fail
          refine wp_region_held_drew (S := (fun w' => w'.cell? ⟨w.heap.size, 0, none⟩ = some (.string a.s) ∧ w'.cell? ⟨w.heap.size, 1, none⟩ = some (.string a.k) ∧ w'.cell? ⟨w.heap.size, 2, none⟩ = some (.int .i64 a.v) ∧ Below wr.heap.size wr w')) (by kernel_rfl) ?_ (fun hHeld => ?_)
          · exact HXr.out _ (hHeld.2.2.2.drew)
          refine wpAnyH_take (i := 0) (oi := _) (v := ?_) rfl (by kernel_rfl) (by kernel_rfl) (by kernel_rfl) (fun _ _ _ h => h) (Or.inl ⟨by kernel_rfl, ?_⟩) (by assumption) ?_
          rotate_left
          · rintro w ⟨s1, s2, s3, s4⟩
            go_simp
            try with_reducible rfl
          try simp only [Act.put, List.setIfInBounds_toArray, List.set_cons_zero, List.set_cons_succ, List.getElem_toArray, List.getElem_cons_zero, List.getElem_cons_succ]
          refine wpAnyH_take (i := 2) (oi := _) (v := ?_) rfl (by kernel_rfl) (by kernel_rfl) (by kernel_rfl) (fun _ _ _ h => h) (Or.inl ⟨by kernel_rfl, ?_⟩) (by assumption) ?_
          rotate_left
          · rintro w ⟨s1, s2, s3, s4⟩
            go_simp
            try with_reducible rfl
          try simp only [Act.put, List.setIfInBounds_toArray, List.set_cons_zero, List.set_cons_succ, List.getElem_toArray, List.getElem_cons_zero, List.getElem_cons_succ]
          refine wpAnyH_take (i := 3) (oi := _) (v := ?_) rfl (by kernel_rfl) (by kernel_rfl) (by kernel_rfl) (fun _ _ _ h => h) (Or.inl ⟨by kernel_rfl, ?_⟩) (by assumption) ?_
          rotate_left
          · rintro w ⟨s1, s2, s3, s4⟩
            go_simp
            try with_reducible rfl
          try simp only [Act.put, List.setIfInBounds_toArray, List.set_cons_zero, List.set_cons_succ, List.getElem_toArray, List.getElem_cons_zero, List.getElem_cons_succ]
          refine wpAnyH_take (i := 4) (oi := _) (v := ?_) rfl (by kernel_rfl) (by kernel_rfl) (by kernel_rfl) (fun _ _ _ h => h) (Or.inl ⟨by kernel_rfl, ?_⟩) (by assumption) ?_
          rotate_left
          · rintro w ⟨s1, s2, s3, s4⟩
            go_simp
            try with_reducible rfl
          try simp only [Act.put, List.setIfInBounds_toArray, List.set_cons_zero, List.set_cons_succ, List.getElem_toArray, List.getElem_cons_zero, List.getElem_cons_succ]
          refine wpAnyH_ready (rs := [1]) (by kernel_rfl) (by simp) ?_
          refine AllReadyH.cons (o := _) rfl (fun K hKK => ?_) AllReadyH.nil
          go_simp
          go_at_call 17
          refine (HAc.out _ hHeld.2.2.2).mono ?_
          rintro e' w5 ⟨vx, rfl, hox, hbz⟩
          obtain ⟨Ax, cx, rfl, hAx⟩ := Acts.of_own hox
          rw [HLn.out] at hAx ⊢
          go_wp2_with fail
          refine hKK.out _ _ ?_ (fun hHeld => ?_)
          · exact HXr.out _ (bstep hHeld.2.2.2 hbz)
          clear hKK K
          try simp only [Act.put, List.setIfInBounds_toArray, List.set_cons_zero, List.set_cons_succ, List.getElem_toArray, List.getElem_cons_zero, List.getElem_cons_succ]
          clear hbz hox
          refine wpAnyH_ready (rs := [5]) (by kernel_rfl) (by simp) ?_
          refine AllReadyH.cons (o := _) rfl (fun K hKK => ?_) AllReadyH.nil
          go_simp
          go_at_call 16
          refine (HCo.out _ hHeld.2.2.2 Ax cx hAx).mono ?_
          rintro e' w6 ⟨rfl, hbz⟩
          go_wp2_with fail
          refine hKK.out _ _ ?_ (fun hHeld => ?_)
          · exact HXr.out _ (bstep hHeld.2.2.2 hbz)
          clear hKK K
          try simp only [Act.put, List.setIfInBounds_toArray, List.set_cons_zero, List.set_cons_succ, List.getElem_toArray, List.getElem_cons_zero, List.getElem_cons_succ]
          clear hbz hAx
          refine wpAnyH_take (i := 6) (oi := _) (v := ?_) rfl (by kernel_rfl) (by kernel_rfl) (by kernel_rfl) (fun _ _ _ h => h) (Or.inl ⟨by kernel_rfl, ?_⟩) (by assumption) ?_
          rotate_left
          · rintro w ⟨s1, s2, s3, s4⟩
            go_simp
            try with_reducible rfl
          try simp only [Act.put, List.setIfInBounds_toArray, List.set_cons_zero, List.set_cons_succ, List.getElem_toArray, List.getElem_cons_zero, List.getElem_cons_succ]
          refine wpAnyH_take (i := 7) (oi := _) (v := ?_) rfl (by kernel_rfl) (by kernel_rfl) (by kernel_rfl) (fun _ _ _ h => h) (Or.inl ⟨by kernel_rfl, ?_⟩) (by assumption) ?_
          rotate_left
          · rintro w ⟨s1, s2, s3, s4⟩
            go_simp
            try with_reducible rfl
          try simp only [Act.put, List.setIfInBounds_toArray, List.set_cons_zero, List.set_cons_succ, List.getElem_toArray, List.getElem_cons_zero, List.getElem_cons_succ]
          refine wpAnyH_take (i := 8) (oi := _) (v := ?_) rfl (by kernel_rfl) (by kernel_rfl) (by kernel_rfl) (fun _ _ _ h => h) (Or.inl ⟨by kernel_rfl, ?_⟩) (by assumption) ?_
          rotate_left
          · rintro w ⟨s1, s2, s3, s4⟩
            go_simp
            try with_reducible rfl
          try simp only [Act.put, List.setIfInBounds_toArray, List.set_cons_zero, List.set_cons_succ, List.getElem_toArray, List.getElem_cons_zero, List.getElem_cons_succ]
          refine wpAnyH_take (i := 9) (oi := _) (v := ?_) rfl (by kernel_rfl) (by kernel_rfl) (by kernel_rfl) (fun _ _ _ h => h) (Or.inl ⟨by kernel_rfl, ?_⟩) (by assumption) ?_
          rotate_left
          · rintro w ⟨s1, s2, s3, s4⟩
            go_simp
            try with_reducible rfl
          try simp only [Act.put, List.setIfInBounds_toArray, List.set_cons_zero, List.set_cons_succ, List.getElem_toArray, List.getElem_cons_zero, List.getElem_cons_succ]
          refine wpAnyH_take (i := 10) (oi := _) (v := ?_) rfl (by kernel_rfl) (by kernel_rfl) (by kernel_rfl) (fun _ _ _ h => h) (Or.inl ⟨by kernel_rfl, ?_⟩) (by assumption) ?_
          rotate_left
          · rintro w ⟨s1, s2, s3, s4⟩
            go_simp
            try with_reducible rfl
          try simp only [Act.put, List.setIfInBounds_toArray, List.set_cons_zero, List.set_cons_succ, List.getElem_toArray, List.getElem_cons_zero, List.getElem_cons_succ]
          refine wpAnyH_done (by kernel_rfl) ?_ _
          have hb6 := hHeld.2.2.2
          have HB6 := Lib.hid hb6
          have HX6 : Hid (∀ w', Below w6.heap.size w6 w' → w'.cell? ⟨w.heap.size, 0, none⟩ = some (.string a.s) ∧ w'.cell? ⟨w.heap.size, 1, none⟩ = some (.string a.k) ∧ w'.cell? ⟨w.heap.size, 2, none⟩ = some (.int .i64 a.v) ∧ Below w6.heap.size w6 w') := Lib.hid fun w' hb => ⟨(HXr.out _ (hb6.trans (hb.mono hb6.size))).1, (HXr.out _ (hb6.trans (hb.mono hb6.size))).2.1, (HXr.out _ (hb6.trans (hb.mono hb6.size))).2.2.1, hb⟩
          clear hHeld hb6
          go_wp2_with fail
          refine wp_region_held_drew (S := (fun w' => w'.cell? ⟨w.heap.size, 0, none⟩ = some (.string a.s) ∧ w'.cell? ⟨w.heap.size, 1, none⟩ = some (.string a.k) ∧ w'.cell? ⟨w.heap.size, 2, none⟩ = some (.int .i64 a.v) ∧ Below w6.heap.size w6 w')) (by kernel_rfl) ?_ (fun hHeld => ?_)
          · exact HX6.out _ (Below.drew (Below.refl _ _))
          refine wpAnyH_take (i := 0) (oi := _) (v := ?_) rfl (by kernel_rfl) (by kernel_rfl) (by kernel_rfl) (fun _ _ _ h => h) (Or.inl ⟨by kernel_rfl, ?_⟩) (by assumption) ?_
          rotate_left
          · rintro w ⟨s1, s2, s3, s4⟩
            go_simp
            try with_reducible rfl
          try simp only [Act.put, List.setIfInBounds_toArray, List.set_cons_zero, List.set_cons_succ, List.getElem_toArray, List.getElem_cons_zero, List.getElem_cons_succ]
          refine wpAnyH_take (i := 1) (oi := _) (v := ?_) rfl (by kernel_rfl) (by kernel_rfl) (by kernel_rfl) (fun _ _ _ h => h) (Or.inl ⟨by kernel_rfl, ?_⟩) (by assumption) ?_
          rotate_left
          · rintro w ⟨s1, s2, s3, s4⟩
            go_simp
            try with_reducible rfl
          try simp only [Act.put, List.setIfInBounds_toArray, List.set_cons_zero, List.set_cons_succ, List.getElem_toArray, List.getElem_cons_zero, List.getElem_cons_succ]
          refine wpAnyH_take (i := 3) (oi := _) (v := ?_) rfl (by kernel_rfl) (by kernel_rfl) (by kernel_rfl) (fun _ _ _ h => h) (Or.inl ⟨by kernel_rfl, ?_⟩) (by assumption) ?_
          rotate_left
          · rintro w ⟨s1, s2, s3, s4⟩
            go_simp
            try with_reducible rfl
          try simp only [Act.put, List.setIfInBounds_toArray, List.set_cons_zero, List.set_cons_succ, List.getElem_toArray, List.getElem_cons_zero, List.getElem_cons_succ]
          refine wpAnyH_take (i := 4) (oi := _) (v := ?_) rfl (by kernel_rfl) (by kernel_rfl) (by kernel_rfl) (fun _ _ _ h => h) (Or.inl ⟨by kernel_rfl, ?_⟩) (by assumption) ?_
          rotate_left
          · rintro w ⟨s1, s2, s3, s4⟩
            go_simp
            try with_reducible rfl
          try simp only [Act.put, List.setIfInBounds_toArray, List.set_cons_zero, List.set_cons_succ, List.getElem_toArray, List.getElem_cons_zero, List.getElem_cons_succ]
          refine wpAnyH_ready (rs := [2]) (by kernel_rfl) (by simp) ?_
          refine AllReadyH.cons (o := _) rfl (fun K hKK => ?_) AllReadyH.nil
          go_simp
          go_at_call 19
          with_reducible refine (HC3.out _ (HB6.out.trans (hHeld.2.2.2.mono HB6.out.size))).mono ?_
          rintro e' w' ⟨rfl, hbz⟩
          go_wp2_with fail
          refine hKK.out _ _ ?_ (fun hHeld => ?_)
          · exact HX6.out _ (bstep hHeld.2.2.2 hbz)
          clear hKK K
          try simp only [Act.put, List.setIfInBounds_toArray, List.set_cons_zero, List.set_cons_succ, List.getElem_toArray, List.getElem_cons_zero, List.getElem_cons_succ]
          clear hbz
          refine wpAnyH_ready (rs := [5]) (by kernel_rfl) (by simp) ?_
          refine AllReadyH.cons (o := _) rfl (fun K hKK => ?_) AllReadyH.nil
          go_simp
          go_at_call 15
          with_reducible refine (HC2.out _).mono ?_
          rintro e' w' ⟨rfl, hbz⟩
          go_wp2_with fail
          refine hKK.out _ _ ?_ (fun hHeld => ?_)
          · exact HX6.out _ (bstep hHeld.2.2.2 hbz)
          clear hKK K
          try simp only [Act.put, List.setIfInBounds_toArray, List.set_cons_zero, List.set_cons_succ, List.getElem_toArray, List.getElem_cons_zero, List.getElem_cons_succ]
          clear hbz
          refine wpAnyH_ready (rs := [6]) (by kernel_rfl) (by simp) ?_
          refine AllReadyH.cons (o := _) rfl (fun K hKK => ?_) AllReadyH.nil
          go_simp
          refine hKK.out _ _ ?_ (fun hHeld => ?_)
          · exact HX6.out _ (balloc _ hHeld.2.2.2)
          clear hKK K
          try simp only [Act.put, List.setIfInBounds_toArray, List.set_cons_zero, List.set_cons_succ, List.getElem_toArray, List.getElem_cons_zero, List.getElem_cons_succ]
          refine wpAnyH_ready (rs := [7]) (by kernel_rfl) (by simp) ?_
          refine AllReadyH.cons (o := _) rfl (fun K hKK => ?_) AllReadyH.nil
          go_simp
          go_at_call 18
          refine (HF.out _ _ ?_).mono ?_
          · exact es2 _ _ _ _
          rintro e' w7 ⟨rfl, rfl⟩
          go_wp2_with fail
          refine hKK.out _ _ ?_ (fun hHeld => ?_)
          · exact hHeld
          clear hKK K
          try simp only [Act.put, List.setIfInBounds_toArray, List.set_cons_zero, List.set_cons_succ, List.getElem_toArray, List.getElem_cons_zero, List.getElem_cons_succ]
          refine wpAnyH_take (i := 8) (oi := _) (v := ?_) rfl (by kernel_rfl) (by kernel_rfl) (by kernel_rfl) (fun _ _ _ h => h) (Or.inl ⟨by kernel_rfl, ?_⟩) (by assumption) ?_
          rotate_left
          · rintro w ⟨s1, s2, s3, s4⟩
            go_simp
            try with_reducible rfl
          try simp only [Act.put, List.setIfInBounds_toArray, List.set_cons_zero, List.set_cons_succ, List.getElem_toArray, List.getElem_cons_zero, List.getElem_cons_succ]
          refine wpAnyH_done (by kernel_rfl) ?_ _
          have HB7 := Lib.hid hHeld.2.2.2
          clear hHeld
          go_wp2_with fail
          go_loopw [91] (fun i wz => i = .int .i64 0 ∧ Below wr.heap.size wr wz) (fun _ _ => 0)
          case atStart => exact ⟨rfl, HB6.out.trans (HB7.out.mono HB6.out.size)⟩
          case round =>
            obtain ⟨rfl, hbz⟩ := hrel
            have hb9 := HBr.out.trans (hbz.mono HBr.out.size)
            go_wp2
            go_roundw
            case rel => exact ⟨j + 1, by omega, by go_num, hb9⟩
            case measure => simp [intOf]; omega
        · by_cases hu : (n : Int) < num
          · have hcor : corE h L num a = 10 := by unfold corE; rw [fst3_eq hc12, HLn.out, if_pos (.inr hu)]
            have hcorne : corE h L num a ≠ 0 := by rw [hcor]; decide
            have HXr : Hid (∀ w', Below wr.heap.size wr w' → w'.cell? ⟨w.heap.size, 0, none⟩ = some (.string a.s) ∧ w'.cell? ⟨w.heap.size, 1, none⟩ = some (.string a.k) ∧ w'.cell? ⟨w.heap.size, 2, none⟩ = some (.int .i64 a.v) ∧ Below wr.heap.size wr w') := Lib.hid fun w' hb => ⟨(HX3.out _ (HBr.out.trans (hb.mono HBr.out.size))).1, (HX3.out _ (HBr.out.trans (hb.mono HBr.out.size))).2.1, (HX3.out _ (HBr.out.trans (hb.mono HBr.out.size))).2.2.1, hb⟩
            have hGr : 15 ≤ wr.heap.size := by have := HBr.out.size; have := HG3.out; omega
            have HC1 := Lib.hid fun w' (hb : Below wr.heap.size wr w') => fdCheckAct_any h a.s a.k a.v w' hza (Nat.le_trans hGr hb.size)
            have HC2 := Lib.hid fun w' => r6CheckAct_any h a.s a.k a.v w' hza
            have HC3 := Lib.hid fun w' (hb : Below wr.heap.size wr w') => r6CheckActs_any h L n cap A w' (HX3.out _ (HBr.out.trans (hb.mono HBr.out.size))).2.2.2.2 HN.out hsz
            have HAc := Lib.hid fun w' (hb : Below wr.heap.size wr w') => l6acts_any L n cap A w' (HX3.out _ (HBr.out.trans (hb.mono HBr.out.size))).2.2.2.2 hn2
            have HCo := Lib.hid fun w' (hb : Below wr.heap.size wr w') Ax cx (hA : Acts w' Ax n L) => fdCorrected_bad h L n cx Ax num a w' (Nat.le_trans hGr hb.size) hA hn2 hsz hza hcorne
            obtain ⟨e1, he1⟩ : ∃ e1, actsE h L = e1 := ⟨_, rfl⟩
            obtain ⟨e2, he2⟩ : ∃ e2, actE h a.s a.k a.v = e2 := ⟨_, rfl⟩
            rw [he1] at HC3
            rw [he2] at HC1 HC2
            rw [hcor] at HCo
            have hF : ∀ g w, Es w g [e1, e2] → Calls Tryz.prog 18 #[.slice (some ⟨g, 0, none⟩) 2 2] w (RetSame (.int .i64 (fstN [e1, e2])) w) := fun g w h => l6first_any [e1, e2] 2 rfl (by decide) g w h
            rw [he1, he2] at hc12
            rw [hc12] at hF
            have HF := Lib.hid hF
            clear hF he1 he2 hc12 hcor hcorne hsz
            go_wp2_with fail
            refine wp_region_held_drew (S := (fun w' => w'.cell? ⟨w.heap.size, 0, none⟩ = some (.string a.s) ∧ w'.cell? ⟨w.heap.size, 1, none⟩ = some (.string a.k) ∧ w'.cell? ⟨w.heap.size, 2, none⟩ = some (.int .i64 a.v) ∧ Below wr.heap.size wr w')) (by kernel_rfl) ?_ (fun hHeld => ?_)
            · exact HXr.out _ (Below.drew (Below.refl _ _))
            refine wpAnyH_take (i := 0) (oi := _) (v := ?_) rfl (by kernel_rfl) (by kernel_rfl) (by kernel_rfl) (fun _ _ _ h => h) (Or.inl ⟨by kernel_rfl, ?_⟩) (by assumption) ?_
            rotate_left
            · rintro w ⟨s1, s2, s3, s4⟩
              go_simp
              try with_reducible rfl
            try simp only [Act.put, List.setIfInBounds_toArray, List.set_cons_zero, List.set_cons_succ, List.getElem_toArray, List.getElem_cons_zero, List.getElem_cons_succ]
            refine wpAnyH_take (i := 1) (oi := _) (v := ?_) rfl (by kernel_rfl) (by kernel_rfl) (by kernel_rfl) (fun _ _ _ h => h) (Or.inl ⟨by kernel_rfl, ?_⟩) (by assumption) ?_
            rotate_left
            · rintro w ⟨s1, s2, s3, s4⟩
              go_simp
              try with_reducible rfl
            try simp only [Act.put, List.setIfInBounds_toArray, List.set_cons_zero, List.set_cons_succ, List.getElem_toArray, List.getElem_cons_zero, List.getElem_cons_succ]
            refine wpAnyH_take (i := 3) (oi := _) (v := ?_) rfl (by kernel_rfl) (by kernel_rfl) (by kernel_rfl) (fun _ _ _ h => h) (Or.inl ⟨by kernel_rfl, ?_⟩) (by assumption) ?_
            rotate_left
            · rintro w ⟨s1, s2, s3, s4⟩
              go_simp
              try with_reducible rfl
            try simp only [Act.put, List.setIfInBounds_toArray, List.set_cons_zero, List.set_cons_succ, List.getElem_toArray, List.getElem_cons_zero, List.getElem_cons_succ]
            refine wpAnyH_take (i := 4) (oi := _) (v := ?_) rfl (by kernel_rfl) (by kernel_rfl) (by kernel_rfl) (fun _ _ _ h => h) (Or.inl ⟨by kernel_rfl, ?_⟩) (by assumption) ?_
            rotate_left
            · rintro w ⟨s1, s2, s3, s4⟩
              go_simp
              try with_reducible rfl
            try simp only [Act.put, List.setIfInBounds_toArray, List.set_cons_zero, List.set_cons_succ, List.getElem_toArray, List.getElem_cons_zero, List.getElem_cons_succ]
            refine wpAnyH_ready (rs := [2]) (by kernel_rfl) (by simp) ?_
            refine AllReadyH.cons (o := _) rfl (fun K hKK => ?_) AllReadyH.nil
            go_simp
            go_at_call 14
            with_reducible refine (HC1.out _ hHeld.2.2.2).mono ?_
            rintro e' w' ⟨rfl, hbz⟩
            go_wp2_with fail
            refine hKK.out _ _ ?_ (fun hHeld => ?_)
            · exact HXr.out _ (bstep hHeld.2.2.2 hbz)
            clear hKK K
            try simp only [Act.put, List.setIfInBounds_toArray, List.set_cons_zero, List.set_cons_succ, List.getElem_toArray, List.getElem_cons_zero, List.getElem_cons_succ]
            clear hbz
            refine wpAnyH_ready (rs := [5]) (by kernel_rfl) (by simp) ?_
            refine AllReadyH.cons (o := _) rfl (fun K hKK => ?_) AllReadyH.nil
            go_simp
            go_at_call 15
            with_reducible refine (HC2.out _).mono ?_
            rintro e' w' ⟨rfl, hbz⟩
            go_wp2_with fail
            refine hKK.out _ _ ?_ (fun hHeld => ?_)
            · exact HXr.out _ (bstep hHeld.2.2.2 hbz)
            clear hKK K
            try simp only [Act.put, List.setIfInBounds_toArray, List.set_cons_zero, List.set_cons_succ, List.getElem_toArray, List.getElem_cons_zero, List.getElem_cons_succ]
            clear hbz
            refine wpAnyH_take (i := 6) (oi := _) (v := ?_) rfl (by kernel_rfl) (by kernel_rfl) (by kernel_rfl) (fun _ _ _ h => h) (Or.inl ⟨by kernel_rfl, ?_⟩) (by assumption) ?_
            rotate_left
            · rintro w ⟨s1, s2, s3, s4⟩
              go_simp
              try simp only [bne_self_eq_false]
              try with_reducible rfl
            try simp only [Act.put, List.setIfInBounds_toArray, List.set_cons_zero, List.set_cons_succ, List.getElem_toArray, List.getElem_cons_zero, List.getElem_cons_succ]
            refine wpAnyH_done (by kernel_rfl) ?_ _
            go_wp2_with fail
            refine wp_region_held_drew (S := (fun w' => w'.cell? ⟨w.heap.size, 0, none⟩ = some (.string a.s) ∧ w'.cell? ⟨w.heap.size, 1, none⟩ = some (.string a.k) ∧ w'.cell? ⟨w.heap.size, 2, none⟩ = some (.int .i64 a.v) ∧ Below wr.heap.size wr w')) (by kernel_rfl) ?_ (fun hHeld => ?_)
            · exact HXr.out _ (hHeld.2.2.2.drew)
            refine wpAnyH_take (i := 0) (oi := _) (v := ?_) rfl (by kernel_rfl) (by kernel_rfl) (by kernel_rfl) (fun _ _ _ h => h) (Or.inl ⟨by kernel_rfl, ?_⟩) (by assumption) ?_
            rotate_left
            · rintro w ⟨s1, s2, s3, s4⟩
              go_simp
              try with_reducible rfl
            try simp only [Act.put, List.setIfInBounds_toArray, List.set_cons_zero, List.set_cons_succ, List.getElem_toArray, List.getElem_cons_zero, List.getElem_cons_succ]
            refine wpAnyH_take (i := 2) (oi := _) (v := ?_) rfl (by kernel_rfl) (by kernel_rfl) (by kernel_rfl) (fun _ _ _ h => h) (Or.inl ⟨by kernel_rfl, ?_⟩) (by assumption) ?_
            rotate_left
            · rintro w ⟨s1, s2, s3, s4⟩
              go_simp
              try with_reducible rfl
            try simp only [Act.put, List.setIfInBounds_toArray, List.set_cons_zero, List.set_cons_succ, List.getElem_toArray, List.getElem_cons_zero, List.getElem_cons_succ]
            refine wpAnyH_take (i := 3) (oi := _) (v := ?_) rfl (by kernel_rfl) (by kernel_rfl) (by kernel_rfl) (fun _ _ _ h => h) (Or.inl ⟨by kernel_rfl, ?_⟩) (by assumption) ?_
            rotate_left
            · rintro w ⟨s1, s2, s3, s4⟩
              go_simp
              try with_reducible rfl
            try simp only [Act.put, List.setIfInBounds_toArray, List.set_cons_zero, List.set_cons_succ, List.getElem_toArray, List.getElem_cons_zero, List.getElem_cons_succ]
            refine wpAnyH_take (i := 4) (oi := _) (v := ?_) rfl (by kernel_rfl) (by kernel_rfl) (by kernel_rfl) (fun _ _ _ h => h) (Or.inl ⟨by kernel_rfl, ?_⟩) (by assumption) ?_
            rotate_left
            · rintro w ⟨s1, s2, s3, s4⟩
              go_simp
              try with_reducible rfl
            try simp only [Act.put, List.setIfInBounds_toArray, List.set_cons_zero, List.set_cons_succ, List.getElem_toArray, List.getElem_cons_zero, List.getElem_cons_succ]
            refine wpAnyH_ready (rs := [1]) (by kernel_rfl) (by simp) ?_
            refine AllReadyH.cons (o := _) rfl (fun K hKK => ?_) AllReadyH.nil
            go_simp
            go_at_call 17
            refine (HAc.out _ hHeld.2.2.2).mono ?_
            rintro e' w5 ⟨vx, rfl, hox, hbz⟩
            obtain ⟨Ax, cx, rfl, hAx⟩ := Acts.of_own hox
            rw [HLn.out] at hAx ⊢
            go_wp2_with fail
            refine hKK.out _ _ ?_ (fun hHeld => ?_)
            · exact HXr.out _ (bstep hHeld.2.2.2 hbz)
            clear hKK K
            try simp only [Act.put, List.setIfInBounds_toArray, List.set_cons_zero, List.set_cons_succ, List.getElem_toArray, List.getElem_cons_zero, List.getElem_cons_succ]
            clear hbz hox
            refine wpAnyH_ready (rs := [5]) (by kernel_rfl) (by simp) ?_
            refine AllReadyH.cons (o := _) rfl (fun K hKK => ?_) AllReadyH.nil
            go_simp
            go_at_call 16
            refine (HCo.out _ hHeld.2.2.2 Ax cx hAx).mono ?_
            rintro e' w6 ⟨rfl, hbz⟩
            go_wp2_with fail
            refine hKK.out _ _ ?_ (fun hHeld => ?_)
            · exact HXr.out _ (bstep hHeld.2.2.2 hbz)
            clear hKK K
            try simp only [Act.put, List.setIfInBounds_toArray, List.set_cons_zero, List.set_cons_succ, List.getElem_toArray, List.getElem_cons_zero, List.getElem_cons_succ]
            clear hbz hAx
            refine wpAnyH_take (i := 6) (oi := _) (v := ?_) rfl (by kernel_rfl) (by kernel_rfl) (by kernel_rfl) (fun _ _ _ h => h) (Or.inl ⟨by kernel_rfl, ?_⟩) (by assumption) ?_
            rotate_left
            · rintro w ⟨s1, s2, s3, s4⟩
              go_simp
              try with_reducible rfl
            try simp only [Act.put, List.setIfInBounds_toArray, List.set_cons_zero, List.set_cons_succ, List.getElem_toArray, List.getElem_cons_zero, List.getElem_cons_succ]
            refine wpAnyH_take (i := 7) (oi := _) (v := ?_) rfl (by kernel_rfl) (by kernel_rfl) (by kernel_rfl) (fun _ _ _ h => h) (Or.inl ⟨by kernel_rfl, ?_⟩) (by assumption) ?_
            rotate_left
            · rintro w ⟨s1, s2, s3, s4⟩
              go_simp
              try with_reducible rfl
            try simp only [Act.put, List.setIfInBounds_toArray, List.set_cons_zero, List.set_cons_succ, List.getElem_toArray, List.getElem_cons_zero, List.getElem_cons_succ]
            refine wpAnyH_take (i := 8) (oi := _) (v := ?_) rfl (by kernel_rfl) (by kernel_rfl) (by kernel_rfl) (fun _ _ _ h => h) (Or.inl ⟨by kernel_rfl, ?_⟩) (by assumption) ?_
            rotate_left
            · rintro w ⟨s1, s2, s3, s4⟩
              go_simp
              try with_reducible rfl
            try simp only [Act.put, List.setIfInBounds_toArray, List.set_cons_zero, List.set_cons_succ, List.getElem_toArray, List.getElem_cons_zero, List.getElem_cons_succ]
            refine wpAnyH_take (i := 9) (oi := _) (v := ?_) rfl (by kernel_rfl) (by kernel_rfl) (by kernel_rfl) (fun _ _ _ h => h) (Or.inl ⟨by kernel_rfl, ?_⟩) (by assumption) ?_
            rotate_left
            · rintro w ⟨s1, s2, s3, s4⟩
              go_simp
              try with_reducible rfl
            try simp only [Act.put, List.setIfInBounds_toArray, List.set_cons_zero, List.set_cons_succ, List.getElem_toArray, List.getElem_cons_zero, List.getElem_cons_succ]
            refine wpAnyH_take (i := 10) (oi := _) (v := ?_) rfl (by kernel_rfl) (by kernel_rfl) (by kernel_rfl) (fun _ _ _ h => h) (Or.inl ⟨by kernel_rfl, ?_⟩) (by assumption) ?_
            rotate_left
            · rintro w ⟨s1, s2, s3, s4⟩
              go_simp
              try with_reducible rfl
            try simp only [Act.put, List.setIfInBounds_toArray, List.set_cons_zero, List.set_cons_succ, List.getElem_toArray, List.getElem_cons_zero, List.getElem_cons_succ]
            refine wpAnyH_done (by kernel_rfl) ?_ _
            have hb6 := hHeld.2.2.2
            have HB6 := Lib.hid hb6
            have HX6 : Hid (∀ w', Below w6.heap.size w6 w' → w'.cell? ⟨w.heap.size, 0, none⟩ = some (.string a.s) ∧ w'.cell? ⟨w.heap.size, 1, none⟩ = some (.string a.k) ∧ w'.cell? ⟨w.heap.size, 2, none⟩ = some (.int .i64 a.v) ∧ Below w6.heap.size w6 w') := Lib.hid fun w' hb => ⟨(HXr.out _ (hb6.trans (hb.mono hb6.size))).1, (HXr.out _ (hb6.trans (hb.mono hb6.size))).2.1, (HXr.out _ (hb6.trans (hb.mono hb6.size))).2.2.1, hb⟩
            clear hHeld hb6
            go_wp2_with fail
            refine wp_region_held_drew (S := (fun w' => w'.cell? ⟨w.heap.size, 0, none⟩ = some (.string a.s) ∧ w'.cell? ⟨w.heap.size, 1, none⟩ = some (.string a.k) ∧ w'.cell? ⟨w.heap.size, 2, none⟩ = some (.int .i64 a.v) ∧ Below w6.heap.size w6 w')) (by kernel_rfl) ?_ (fun hHeld => ?_)
            · exact HX6.out _ (Below.drew (Below.refl _ _))
            refine wpAnyH_take (i := 0) (oi := _) (v := ?_) rfl (by kernel_rfl) (by kernel_rfl) (by kernel_rfl) (fun _ _ _ h => h) (Or.inl ⟨by kernel_rfl, ?_⟩) (by assumption) ?_
            rotate_left
            · rintro w ⟨s1, s2, s3, s4⟩
              go_simp
              try with_reducible rfl
            try simp only [Act.put, List.setIfInBounds_toArray, List.set_cons_zero, List.set_cons_succ, List.getElem_toArray, List.getElem_cons_zero, List.getElem_cons_succ]
            refine wpAnyH_take (i := 1) (oi := _) (v := ?_) rfl (by kernel_rfl) (by kernel_rfl) (by kernel_rfl) (fun _ _ _ h => h) (Or.inl ⟨by kernel_rfl, ?_⟩) (by assumption) ?_
            rotate_left
            · rintro w ⟨s1, s2, s3, s4⟩
              go_simp
              try with_reducible rfl
            try simp only [Act.put, List.setIfInBounds_toArray, List.set_cons_zero, List.set_cons_succ, List.getElem_toArray, List.getElem_cons_zero, List.getElem_cons_succ]
            refine wpAnyH_take (i := 3) (oi := _) (v := ?_) rfl (by kernel_rfl) (by kernel_rfl) (by kernel_rfl) (fun _ _ _ h => h) (Or.inl ⟨by kernel_rfl, ?_⟩) (by assumption) ?_
            rotate_left
            · rintro w ⟨s1, s2, s3, s4⟩
              go_simp
              try with_reducible rfl
            try simp only [Act.put, List.setIfInBounds_toArray, List.set_cons_zero, List.set_cons_succ, List.getElem_toArray, List.getElem_cons_zero, List.getElem_cons_succ]
            refine wpAnyH_take (i := 4) (oi := _) (v := ?_) rfl (by kernel_rfl) (by kernel_rfl) (by kernel_rfl) (fun _ _ _ h => h) (Or.inl ⟨by kernel_rfl, ?_⟩) (by assumption) ?_
            rotate_left
            · rintro w ⟨s1, s2, s3, s4⟩
              go_simp
              try with_reducible rfl
            try simp only [Act.put, List.setIfInBounds_toArray, List.set_cons_zero, List.set_cons_succ, List.getElem_toArray, List.getElem_cons_zero, List.getElem_cons_succ]
            refine wpAnyH_ready (rs := [2]) (by kernel_rfl) (by simp) ?_
            refine AllReadyH.cons (o := _) rfl (fun K hKK => ?_) AllReadyH.nil
            go_simp
            go_at_call 19
            with_reducible refine (HC3.out _ (HB6.out.trans (hHeld.2.2.2.mono HB6.out.size))).mono ?_
            rintro e' w' ⟨rfl, hbz⟩
            go_wp2_with fail
            refine hKK.out _ _ ?_ (fun hHeld => ?_)
            · exact HX6.out _ (bstep hHeld.2.2.2 hbz)
            clear hKK K
            try simp only [Act.put, List.setIfInBounds_toArray, List.set_cons_zero, List.set_cons_succ, List.getElem_toArray, List.getElem_cons_zero, List.getElem_cons_succ]
            clear hbz
            refine wpAnyH_ready (rs := [5]) (by kernel_rfl) (by simp) ?_
            refine AllReadyH.cons (o := _) rfl (fun K hKK => ?_) AllReadyH.nil
            go_simp
            go_at_call 15
            with_reducible refine (HC2.out _).mono ?_
            rintro e' w' ⟨rfl, hbz⟩
            go_wp2_with fail
            refine hKK.out _ _ ?_ (fun hHeld => ?_)
            · exact HX6.out _ (bstep hHeld.2.2.2 hbz)
            clear hKK K
            try simp only [Act.put, List.setIfInBounds_toArray, List.set_cons_zero, List.set_cons_succ, List.getElem_toArray, List.getElem_cons_zero, List.getElem_cons_succ]
            clear hbz
            refine wpAnyH_ready (rs := [6]) (by kernel_rfl) (by simp) ?_
            refine AllReadyH.cons (o := _) rfl (fun K hKK => ?_) AllReadyH.nil
            go_simp
            refine hKK.out _ _ ?_ (fun hHeld => ?_)
            · exact HX6.out _ (balloc _ hHeld.2.2.2)
            clear hKK K
            try simp only [Act.put, List.setIfInBounds_toArray, List.set_cons_zero, List.set_cons_succ, List.getElem_toArray, List.getElem_cons_zero, List.getElem_cons_succ]
            refine wpAnyH_ready (rs := [7]) (by kernel_rfl) (by simp) ?_
            refine AllReadyH.cons (o := _) rfl (fun K hKK => ?_) AllReadyH.nil
            go_simp
            go_at_call 18
            refine (HF.out _ _ ?_).mono ?_
            · exact es2 _ _ _ _
            rintro e' w7 ⟨rfl, rfl⟩
            go_wp2_with fail
            refine hKK.out _ _ ?_ (fun hHeld => ?_)
            · exact hHeld
            clear hKK K
            try simp only [Act.put, List.setIfInBounds_toArray, List.set_cons_zero, List.set_cons_succ, List.getElem_toArray, List.getElem_cons_zero, List.getElem_cons_succ]
            refine wpAnyH_take (i := 8) (oi := _) (v := ?_) rfl (by kernel_rfl) (by kernel_rfl) (by kernel_rfl) (fun _ _ _ h => h) (Or.inl ⟨by kernel_rfl, ?_⟩) (by assumption) ?_
            rotate_left
            · rintro w ⟨s1, s2, s3, s4⟩
              go_simp
              try with_reducible rfl
            try simp only [Act.put, List.setIfInBounds_toArray, List.set_cons_zero, List.set_cons_succ, List.getElem_toArray, List.getElem_cons_zero, List.getElem_cons_succ]
            refine wpAnyH_done (by kernel_rfl) ?_ _
            have HB7 := Lib.hid hHeld.2.2.2
            clear hHeld
            go_wp2_with fail
            go_loopw [91] (fun i wz => i = .int .i64 0 ∧ Below wr.heap.size wr wz) (fun _ _ => 0)
            case atStart => exact ⟨rfl, HB6.out.trans (HB7.out.mono HB6.out.size)⟩
            case round =>
              obtain ⟨rfl, hbz⟩ := hrel
              have hb9 := HBr.out.trans (hbz.mono HBr.out.size)
              go_wp2
              go_roundw
              case rel => exact ⟨j + 1, by omega, by go_num, hb9⟩
              case measure => simp [intOf]; omega
          · have hcor : corE h L num a = 0 := by unfold corE; rw [fst3_eq hc12, HLn.out, if_neg (by omega)]
            obtain ⟨i0, hi0n⟩ : ∃ i0 : Nat, num = (i0 : Int) + 1 := ⟨(num - 1).toNat, by omega⟩
            have hi0l : i0 < n := by omega
            have HXr : Hid (∀ w', Below wr.heap.size wr w' → w'.cell? ⟨w.heap.size, 0, none⟩ = some (.string a.s) ∧ w'.cell? ⟨w.heap.size, 1, none⟩ = some (.string a.k) ∧ w'.cell? ⟨w.heap.size, 2, none⟩ = some (.int .i64 a.v) ∧ Below wr.heap.size wr w') := Lib.hid fun w' hb => ⟨(HX3.out _ (HBr.out.trans (hb.mono HBr.out.size))).1, (HX3.out _ (HBr.out.trans (hb.mono HBr.out.size))).2.1, (HX3.out _ (HBr.out.trans (hb.mono HBr.out.size))).2.2.1, hb⟩
            have hGr : 15 ≤ wr.heap.size := by have := HBr.out.size; have := HG3.out; omega
            have HC1 := Lib.hid fun w' (hb : Below wr.heap.size wr w') => fdCheckAct_any h a.s a.k a.v w' hza (Nat.le_trans hGr hb.size)
            have HC2 := Lib.hid fun w' => r6CheckAct_any h a.s a.k a.v w' hza
            have HC3 := Lib.hid fun w' (hb : Below wr.heap.size wr w') => r6CheckActs_any h L n cap A w' (HX3.out _ (HBr.out.trans (hb.mono HBr.out.size))).2.2.2.2 HN.out hsz
            have HAc := Lib.hid fun w' (hb : Below wr.heap.size wr w') => l6acts_any L n cap A w' (HX3.out _ (HBr.out.trans (hb.mono HBr.out.size))).2.2.2.2 hn2
            have HCo := Lib.hid fun w' (hb : Below wr.heap.size wr w') Ax cx (hA : Acts w' Ax n L) => fdCorrected_ok h L n cx Ax num a w' (Nat.le_trans hGr hb.size) hA hn2 hsz hza i0 hi0n hi0l hcor
            obtain ⟨e1, he1⟩ : ∃ e1, actsE h L = e1 := ⟨_, rfl⟩
            obtain ⟨e2, he2⟩ : ∃ e2, actE h a.s a.k a.v = e2 := ⟨_, rfl⟩
            rw [he1] at HC3
            rw [he2] at HC1 HC2
            have hF : ∀ g w, Es w g [e1, e2] → Calls Tryz.prog 18 #[.slice (some ⟨g, 0, none⟩) 2 2] w (RetSame (.int .i64 (fstN [e1, e2])) w) := fun g w h => l6first_any [e1, e2] 2 rfl (by decide) g w h
            rw [he1, he2] at hc12
            rw [hc12] at hF
            have HF := Lib.hid hF
            clear hF he1 he2 hc12 hcor hsz
            have HI0 := Lib.hid hi0n
            clear hi0n
            go_wp2_with fail
            refine wp_region_held_drew (S := (fun w' => w'.cell? ⟨w.heap.size, 0, none⟩ = some (.string a.s) ∧ w'.cell? ⟨w.heap.size, 1, none⟩ = some (.string a.k) ∧ w'.cell? ⟨w.heap.size, 2, none⟩ = some (.int .i64 a.v) ∧ Below wr.heap.size wr w')) (by kernel_rfl) ?_ (fun hHeld => ?_)
            · exact HXr.out _ (Below.drew (Below.refl _ _))
            refine wpAnyH_take (i := 0) (oi := _) (v := ?_) rfl (by kernel_rfl) (by kernel_rfl) (by kernel_rfl) (fun _ _ _ h => h) (Or.inl ⟨by kernel_rfl, ?_⟩) (by assumption) ?_
            rotate_left
            · rintro w ⟨s1, s2, s3, s4⟩
              go_simp
              try with_reducible rfl
            try simp only [Act.put, List.setIfInBounds_toArray, List.set_cons_zero, List.set_cons_succ, List.getElem_toArray, List.getElem_cons_zero, List.getElem_cons_succ]
            refine wpAnyH_take (i := 1) (oi := _) (v := ?_) rfl (by kernel_rfl) (by kernel_rfl) (by kernel_rfl) (fun _ _ _ h => h) (Or.inl ⟨by kernel_rfl, ?_⟩) (by assumption) ?_
            rotate_left
            · rintro w ⟨s1, s2, s3, s4⟩
              go_simp
              try with_reducible rfl
            try simp only [Act.put, List.setIfInBounds_toArray, List.set_cons_zero, List.set_cons_succ, List.getElem_toArray, List.getElem_cons_zero, List.getElem_cons_succ]
            refine wpAnyH_take (i := 3) (oi := _) (v := ?_) rfl (by kernel_rfl) (by kernel_rfl) (by kernel_rfl) (fun _ _ _ h => h) (Or.inl ⟨by kernel_rfl, ?_⟩) (by assumption) ?_
            rotate_left
            · rintro w ⟨s1, s2, s3, s4⟩
              go_simp
              try with_reducible rfl
            try simp only [Act.put, List.setIfInBounds_toArray, List.set_cons_zero, List.set_cons_succ, List.getElem_toArray, List.getElem_cons_zero, List.getElem_cons_succ]
            refine wpAnyH_take (i := 4) (oi := _) (v := ?_) rfl (by kernel_rfl) (by kernel_rfl) (by kernel_rfl) (fun _ _ _ h => h) (Or.inl ⟨by kernel_rfl, ?_⟩) (by assumption) ?_
            rotate_left
            · rintro w ⟨s1, s2, s3, s4⟩
              go_simp
              try with_reducible rfl
            try simp only [Act.put, List.setIfInBounds_toArray, List.set_cons_zero, List.set_cons_succ, List.getElem_toArray, List.getElem_cons_zero, List.getElem_cons_succ]
            refine wpAnyH_ready (rs := [2]) (by kernel_rfl) (by simp) ?_
            refine AllReadyH.cons (o := _) rfl (fun K hKK => ?_) AllReadyH.nil
            go_simp
            go_at_call 14
            with_reducible refine (HC1.out _ hHeld.2.2.2).mono ?_
            rintro e' w' ⟨rfl, hbz⟩
            go_wp2_with fail
            refine hKK.out _ _ ?_ (fun hHeld => ?_)
            · exact HXr.out _ (bstep hHeld.2.2.2 hbz)
            clear hKK K
            try simp only [Act.put, List.setIfInBounds_toArray, List.set_cons_zero, List.set_cons_succ, List.getElem_toArray, List.getElem_cons_zero, List.getElem_cons_succ]
            clear hbz
            refine wpAnyH_ready (rs := [5]) (by kernel_rfl) (by simp) ?_
            refine AllReadyH.cons (o := _) rfl (fun K hKK => ?_) AllReadyH.nil
            go_simp
            go_at_call 15
            with_reducible refine (HC2.out _).mono ?_
            rintro e' w' ⟨rfl, hbz⟩
            go_wp2_with fail
            refine hKK.out _ _ ?_ (fun hHeld => ?_)
            · exact HXr.out _ (bstep hHeld.2.2.2 hbz)
            clear hKK K
            try simp only [Act.put, List.setIfInBounds_toArray, List.set_cons_zero, List.set_cons_succ, List.getElem_toArray, List.getElem_cons_zero, List.getElem_cons_succ]
            clear hbz
            refine wpAnyH_take (i := 6) (oi := _) (v := ?_) rfl (by kernel_rfl) (by kernel_rfl) (by kernel_rfl) (fun _ _ _ h => h) (Or.inl ⟨by kernel_rfl, ?_⟩) (by assumption) ?_
            rotate_left
            · rintro w ⟨s1, s2, s3, s4⟩
              go_simp
              try simp only [bne_self_eq_false]
              try with_reducible rfl
            try simp only [Act.put, List.setIfInBounds_toArray, List.set_cons_zero, List.set_cons_succ, List.getElem_toArray, List.getElem_cons_zero, List.getElem_cons_succ]
            refine wpAnyH_done (by kernel_rfl) ?_ _
            go_wp2_with fail
            refine wp_region_held_drew (S := (fun w' => w'.cell? ⟨w.heap.size, 0, none⟩ = some (.string a.s) ∧ w'.cell? ⟨w.heap.size, 1, none⟩ = some (.string a.k) ∧ w'.cell? ⟨w.heap.size, 2, none⟩ = some (.int .i64 a.v) ∧ Below wr.heap.size wr w')) (by kernel_rfl) ?_ (fun hHeld => ?_)
            · exact HXr.out _ (hHeld.2.2.2.drew)
            refine wpAnyH_take (i := 0) (oi := _) (v := ?_) rfl (by kernel_rfl) (by kernel_rfl) (by kernel_rfl) (fun _ _ _ h => h) (Or.inl ⟨by kernel_rfl, ?_⟩) (by assumption) ?_
            rotate_left
            · rintro w ⟨s1, s2, s3, s4⟩
              go_simp
              try with_reducible rfl
            try simp only [Act.put, List.setIfInBounds_toArray, List.set_cons_zero, List.set_cons_succ, List.getElem_toArray, List.getElem_cons_zero, List.getElem_cons_succ]
            refine wpAnyH_take (i := 2) (oi := _) (v := ?_) rfl (by kernel_rfl) (by kernel_rfl) (by kernel_rfl) (fun _ _ _ h => h) (Or.inl ⟨by kernel_rfl, ?_⟩) (by assumption) ?_
            rotate_left
            · rintro w ⟨s1, s2, s3, s4⟩
              go_simp
              try with_reducible rfl
            try simp only [Act.put, List.setIfInBounds_toArray, List.set_cons_zero, List.set_cons_succ, List.getElem_toArray, List.getElem_cons_zero, List.getElem_cons_succ]
            refine wpAnyH_take (i := 3) (oi := _) (v := ?_) rfl (by kernel_rfl) (by kernel_rfl) (by kernel_rfl) (fun _ _ _ h => h) (Or.inl ⟨by kernel_rfl, ?_⟩) (by assumption) ?_
            rotate_left
            · rintro w ⟨s1, s2, s3, s4⟩
              go_simp
              try with_reducible rfl
            try simp only [Act.put, List.setIfInBounds_toArray, List.set_cons_zero, List.set_cons_succ, List.getElem_toArray, List.getElem_cons_zero, List.getElem_cons_succ]
            refine wpAnyH_take (i := 4) (oi := _) (v := ?_) rfl (by kernel_rfl) (by kernel_rfl) (by kernel_rfl) (fun _ _ _ h => h) (Or.inl ⟨by kernel_rfl, ?_⟩) (by assumption) ?_
            rotate_left
            · rintro w ⟨s1, s2, s3, s4⟩
              go_simp
              try with_reducible rfl
            try simp only [Act.put, List.setIfInBounds_toArray, List.set_cons_zero, List.set_cons_succ, List.getElem_toArray, List.getElem_cons_zero, List.getElem_cons_succ]
            refine wpAnyH_ready (rs := [1]) (by kernel_rfl) (by simp) ?_
            refine AllReadyH.cons (o := _) rfl (fun K hKK => ?_) AllReadyH.nil
            go_simp
            go_at_call 17
            refine (HAc.out _ hHeld.2.2.2).mono ?_
            rintro e' w5 ⟨vx, rfl, hox, hbz⟩
            obtain ⟨Ax, cx, rfl, hAx⟩ := Acts.of_own hox
            rw [HLn.out] at hAx ⊢
            go_wp2_with fail
            refine hKK.out _ _ ?_ (fun hHeld => ?_)
            · exact HXr.out _ (bstep hHeld.2.2.2 hbz)
            clear hKK K
            try simp only [Act.put, List.setIfInBounds_toArray, List.set_cons_zero, List.set_cons_succ, List.getElem_toArray, List.getElem_cons_zero, List.getElem_cons_succ]
            clear hbz hox
            refine wpAnyH_ready (rs := [5]) (by kernel_rfl) (by simp) ?_
            refine AllReadyH.cons (o := _) rfl (fun K hKK => ?_) AllReadyH.nil
            go_simp
            go_at_call 16
            refine (HCo.out _ hHeld.2.2.2 Ax cx hAx).mono ?_
            rintro e' w6 ⟨v9, rfl, ho9, hbz⟩
            obtain ⟨A9, c9, rfl, hA9⟩ := Acts.of_own ho9
            rw [List.length_set, HLn.out] at hA9 ⊢
            go_wp2_with fail
            refine hKK.out _ _ ?_ (fun hHeld => ?_)
            · exact HXr.out _ (bstep hHeld.2.2.2 hbz)
            clear hKK K
            try simp only [Act.put, List.setIfInBounds_toArray, List.set_cons_zero, List.set_cons_succ, List.getElem_toArray, List.getElem_cons_zero, List.getElem_cons_succ]
            clear hbz hAx ho9
            refine wpAnyH_take (i := 6) (oi := _) (v := ?_) rfl (by kernel_rfl) (by kernel_rfl) (by kernel_rfl) (fun _ _ _ h => h) (Or.inl ⟨by kernel_rfl, ?_⟩) (by assumption) ?_
            rotate_left
            · rintro w ⟨s1, s2, s3, s4⟩
              go_simp
              try with_reducible rfl
            try simp only [Act.put, List.setIfInBounds_toArray, List.set_cons_zero, List.set_cons_succ, List.getElem_toArray, List.getElem_cons_zero, List.getElem_cons_succ]
            refine wpAnyH_take (i := 7) (oi := _) (v := ?_) rfl (by kernel_rfl) (by kernel_rfl) (by kernel_rfl) (fun _ _ _ h => h) (Or.inl ⟨by kernel_rfl, ?_⟩) (by assumption) ?_
            rotate_left
            · rintro w ⟨s1, s2, s3, s4⟩
              go_simp
              try with_reducible rfl
            try simp only [Act.put, List.setIfInBounds_toArray, List.set_cons_zero, List.set_cons_succ, List.getElem_toArray, List.getElem_cons_zero, List.getElem_cons_succ]
            refine wpAnyH_take (i := 8) (oi := _) (v := ?_) rfl (by kernel_rfl) (by kernel_rfl) (by kernel_rfl) (fun _ _ _ h => h) (Or.inl ⟨by kernel_rfl, ?_⟩) (by assumption) ?_
            rotate_left
            · rintro w ⟨s1, s2, s3, s4⟩
              go_simp
              try with_reducible rfl
            try simp only [Act.put, List.setIfInBounds_toArray, List.set_cons_zero, List.set_cons_succ, List.getElem_toArray, List.getElem_cons_zero, List.getElem_cons_succ]
            refine wpAnyH_take (i := 9) (oi := _) (v := ?_) rfl (by kernel_rfl) (by kernel_rfl) (by kernel_rfl) (fun _ _ _ h => h) (Or.inl ⟨by kernel_rfl, ?_⟩) (by assumption) ?_
            rotate_left
            · rintro w ⟨s1, s2, s3, s4⟩
              go_simp
              try with_reducible rfl
            try simp only [Act.put, List.setIfInBounds_toArray, List.set_cons_zero, List.set_cons_succ, List.getElem_toArray, List.getElem_cons_zero, List.getElem_cons_succ]
            refine wpAnyH_take (i := 10) (oi := _) (v := ?_) rfl (by kernel_rfl) (by kernel_rfl) (by kernel_rfl) (fun _ _ _ h => h) (Or.inl ⟨by kernel_rfl, ?_⟩) (by assumption) ?_
            rotate_left
            · rintro w ⟨s1, s2, s3, s4⟩
              go_simp
              try with_reducible rfl
            try simp only [Act.put, List.setIfInBounds_toArray, List.set_cons_zero, List.set_cons_succ, List.getElem_toArray, List.getElem_cons_zero, List.getElem_cons_succ]
            refine wpAnyH_done (by kernel_rfl) ?_ _
            have hb6 := hHeld.2.2.2
            have HB6 := Lib.hid hb6
            have HA9 : Hid (∀ w', Below w6.heap.size w6 w' → Acts w' A9 n (L.set i0 a)) := Lib.hid fun w' hb => hA9.below hb
            have HX6 : Hid (∀ w', Below w6.heap.size w6 w' → w'.cell? ⟨w.heap.size, 0, none⟩ = some (.string a.s) ∧ w'.cell? ⟨w.heap.size, 1, none⟩ = some (.string a.k) ∧ w'.cell? ⟨w.heap.size, 2, none⟩ = some (.int .i64 a.v) ∧ Below w6.heap.size w6 w') := Lib.hid fun w' hb => ⟨(HXr.out _ (hb6.trans (hb.mono hb6.size))).1, (HXr.out _ (hb6.trans (hb.mono hb6.size))).2.1, (HXr.out _ (hb6.trans (hb.mono hb6.size))).2.2.1, hb⟩
            clear hHeld hb6 hA9
            go_wp2_with fail
            refine wp_region_held_drew (S := (fun w' => w'.cell? ⟨w.heap.size, 0, none⟩ = some (.string a.s) ∧ w'.cell? ⟨w.heap.size, 1, none⟩ = some (.string a.k) ∧ w'.cell? ⟨w.heap.size, 2, none⟩ = some (.int .i64 a.v) ∧ Below w6.heap.size w6 w')) (by kernel_rfl) ?_ (fun hHeld => ?_)
            · exact HX6.out _ (Below.drew (Below.refl _ _))
            refine wpAnyH_take (i := 0) (oi := _) (v := ?_) rfl (by kernel_rfl) (by kernel_rfl) (by kernel_rfl) (fun _ _ _ h => h) (Or.inl ⟨by kernel_rfl, ?_⟩) (by assumption) ?_
            rotate_left
            · rintro w ⟨s1, s2, s3, s4⟩
              go_simp
              try with_reducible rfl
            try simp only [Act.put, List.setIfInBounds_toArray, List.set_cons_zero, List.set_cons_succ, List.getElem_toArray, List.getElem_cons_zero, List.getElem_cons_succ]
            refine wpAnyH_take (i := 1) (oi := _) (v := ?_) rfl (by kernel_rfl) (by kernel_rfl) (by kernel_rfl) (fun _ _ _ h => h) (Or.inl ⟨by kernel_rfl, ?_⟩) (by assumption) ?_
            rotate_left
            · rintro w ⟨s1, s2, s3, s4⟩
              go_simp
              try with_reducible rfl
            try simp only [Act.put, List.setIfInBounds_toArray, List.set_cons_zero, List.set_cons_succ, List.getElem_toArray, List.getElem_cons_zero, List.getElem_cons_succ]
            refine wpAnyH_take (i := 3) (oi := _) (v := ?_) rfl (by kernel_rfl) (by kernel_rfl) (by kernel_rfl) (fun _ _ _ h => h) (Or.inl ⟨by kernel_rfl, ?_⟩) (by assumption) ?_
            rotate_left
            · rintro w ⟨s1, s2, s3, s4⟩
              go_simp
              try with_reducible rfl
            try simp only [Act.put, List.setIfInBounds_toArray, List.set_cons_zero, List.set_cons_succ, List.getElem_toArray, List.getElem_cons_zero, List.getElem_cons_succ]
            refine wpAnyH_take (i := 4) (oi := _) (v := ?_) rfl (by kernel_rfl) (by kernel_rfl) (by kernel_rfl) (fun _ _ _ h => h) (Or.inl ⟨by kernel_rfl, ?_⟩) (by assumption) ?_
            rotate_left
            · rintro w ⟨s1, s2, s3, s4⟩
              go_simp
              try with_reducible rfl
            try simp only [Act.put, List.setIfInBounds_toArray, List.set_cons_zero, List.set_cons_succ, List.getElem_toArray, List.getElem_cons_zero, List.getElem_cons_succ]
            refine wpAnyH_ready (rs := [2]) (by kernel_rfl) (by simp) ?_
            refine AllReadyH.cons (o := _) rfl (fun K hKK => ?_) AllReadyH.nil
            go_simp
            go_at_call 19
            with_reducible refine (HC3.out _ (HB6.out.trans (hHeld.2.2.2.mono HB6.out.size))).mono ?_
            rintro e' w' ⟨rfl, hbz⟩
            go_wp2_with fail
            refine hKK.out _ _ ?_ (fun hHeld => ?_)
            · exact HX6.out _ (bstep hHeld.2.2.2 hbz)
            clear hKK K
            try simp only [Act.put, List.setIfInBounds_toArray, List.set_cons_zero, List.set_cons_succ, List.getElem_toArray, List.getElem_cons_zero, List.getElem_cons_succ]
            clear hbz
            refine wpAnyH_ready (rs := [5]) (by kernel_rfl) (by simp) ?_
            refine AllReadyH.cons (o := _) rfl (fun K hKK => ?_) AllReadyH.nil
            go_simp
            go_at_call 15
            with_reducible refine (HC2.out _).mono ?_
            rintro e' w' ⟨rfl, hbz⟩
            go_wp2_with fail
            refine hKK.out _ _ ?_ (fun hHeld => ?_)
            · exact HX6.out _ (bstep hHeld.2.2.2 hbz)
            clear hKK K
            try simp only [Act.put, List.setIfInBounds_toArray, List.set_cons_zero, List.set_cons_succ, List.getElem_toArray, List.getElem_cons_zero, List.getElem_cons_succ]
            clear hbz
            refine wpAnyH_ready (rs := [6]) (by kernel_rfl) (by simp) ?_
            refine AllReadyH.cons (o := _) rfl (fun K hKK => ?_) AllReadyH.nil
            go_simp
            refine hKK.out _ _ ?_ (fun hHeld => ?_)
            · exact HX6.out _ (balloc _ hHeld.2.2.2)
            clear hKK K
            try simp only [Act.put, List.setIfInBounds_toArray, List.set_cons_zero, List.set_cons_succ, List.getElem_toArray, List.getElem_cons_zero, List.getElem_cons_succ]
            refine wpAnyH_ready (rs := [7]) (by kernel_rfl) (by simp) ?_
            refine AllReadyH.cons (o := _) rfl (fun K hKK => ?_) AllReadyH.nil
            go_simp
            go_at_call 18
            refine (HF.out _ _ ?_).mono ?_
            · exact es2 _ _ _ _
            rintro e' w7 ⟨rfl, rfl⟩
            go_wp2_with fail
            refine hKK.out _ _ ?_ (fun hHeld => ?_)
            · exact hHeld
            clear hKK K
            try simp only [Act.put, List.setIfInBounds_toArray, List.set_cons_zero, List.set_cons_succ, List.getElem_toArray, List.getElem_cons_zero, List.getElem_cons_succ]
            refine wpAnyH_take (i := 8) (oi := _) (v := ?_) rfl (by kernel_rfl) (by kernel_rfl) (by kernel_rfl) (fun _ _ _ h => h) (Or.inl ⟨by kernel_rfl, ?_⟩) (by assumption) ?_
            rotate_left
            · rintro w ⟨s1, s2, s3, s4⟩
              go_simp
              try with_reducible rfl
            try simp only [Act.put, List.setIfInBounds_toArray, List.set_cons_zero, List.set_cons_succ, List.getElem_toArray, List.getElem_cons_zero, List.getElem_cons_succ]
            refine wpAnyH_done (by kernel_rfl) ?_ _
            have HB7 := Lib.hid hHeld.2.2.2
            clear hHeld
            go_wp2_with fail
            have hb67 := HB6.out.trans (HB7.out.mono HB6.out.size)
            have HB67 := Lib.hid hb67
            obtain ⟨wk, hwk⟩ : ∃ wk, wk = wr := ⟨_, rfl⟩
            go_loopw [91] (fun i wz => ∃ q : Nat, q ≤ n ∧ i = .int .i64 q ∧ Below w6.heap.size w6 wz) (fun i _ => n - (intOf i).toNat)
            case atStart => exact ⟨0, by omega, rfl, HB7.out⟩
            case round =>
              obtain ⟨q, hq, rfl, hbz⟩ := hrel
              have hbrz := HB6.out.trans (hbz.mono HB6.out.size)
              have hb3z := HBr.out.trans (hbrz.mono HBr.out.size)
              by_cases hql : q < n
              · obtain ⟨b5, o5, x5, rfl, _, hx5, q0, q1, q2⟩ := (HX3.out _ hb3z).2.2.2.2.at_ hql
                obtain ⟨b9, o9, x9, rfl, hb9l, hx9, r0, r1, r2⟩ := (HA9.out _ hbz).at_ hql
                obtain ⟨a0, a1, a2, _⟩ := HX6.out _ hbz
                have hqi : (q : Int) < (n : Int) := by omega
                have hq0 : (0 : Int) ≤ (q : Int) := by omega
                have hqt : ((q : Int)).toNat = q := by omega
                have hqw : IntKind.i64.wrap ((q : Int) + 1) = (q : Int) + 1 := IntWalk.i64_in _ (by omega)
                have hqw' : wrap64 ((q : Int) + 1) = (q : Int) + 1 := IntWalk.wrap64_in _ (by omega)
                have HBZ := Lib.hid hbz
                have HB3Z := Lib.hid hb3z
                obtain ⟨gw, hgw⟩ : ∃ gw, wr.heap.size = gw := ⟨_, rfl⟩
                obtain ⟨wa, hwa⟩ : ∃ wa, wr.alloc (.cells #[.string x5.s, .string x5.k, .int .i64 x5.v] 40) = wa := ⟨_, rfl⟩
                have hba : Below wr.heap.size wr wa := by rw [← hwa]; exact balloc _ (Below.refl _ _)
                have hsa : wa.heap.size = gw + 1 := by rw [← hwa, ← hgw]; simp
                have p0 : wa.cell? ⟨gw, 0, none⟩ = some (.string x5.s) := by rw [← hwa, ← hgw]; simp
                have z0 : wa.frozen? ⟨gw, 0, none⟩ = false := by rw [← hwa, ← hgw]; simp
                have p1 : wa.cell? ⟨gw, 1, none⟩ = some (.string x5.k) := by rw [← hwa, ← hgw]; simp
                have z1 : wa.frozen? ⟨gw, 1, none⟩ = false := by rw [← hwa, ← hgw]; simp
                have p2 : wa.cell? ⟨gw, 2, none⟩ = some (.int .i64 x5.v) := by rw [← hwa, ← hgw]; simp
                have z2 : wa.frozen? ⟨gw, 2, none⟩ = false := by rw [← hwa, ← hgw]; simp
                have lw : w.heap.size < gw := by rw [← hgw]; exact cell_ltU a0
                rw [hgw] at hb9l hba
                replace a0 := (hba.cell (p := ⟨w.heap.size, 0, none⟩) lw).trans a0
                replace a1 := (hba.cell (p := ⟨w.heap.size, 1, none⟩) lw).trans a1
                replace a2 := (hba.cell (p := ⟨w.heap.size, 2, none⟩) lw).trans a2
                replace r0 := (hba.cell (p := ⟨b9, o9 + q * 3, none⟩) hb9l).trans r0
                replace r1 := (hba.cell (p := ⟨b9, o9 + q * 3 + 1, none⟩) hb9l).trans r1
                replace r2 := (hba.cell (p := ⟨b9, o9 + q * 3 + 2, none⟩) hb9l).trans r2
                have hbwa : Below wr.heap.size wr wa := by rw [hgw]; exact hba
                have HB6a := Lib.hid (hbz.trans (hbwa.mono hbz.size))
                have hb9g : b9 ≠ gw := by omega
                have lwn : w.heap.size ≠ gw := by omega
                have HSA := Lib.hid hsa
                have HB9G := Lib.hid hb9g
                clear hsa hba hbwa hb9g lwn lw
                by_cases hqe : q = i0
                · have hx : x9 = a := by rw [hqe, List.getElem?_set_self (by rw [HLn.out]; exact hi0l)] at hx9; exact (Option.some.inj hx9).symm
                  subst hx
                  have hne : ((q : Int) + 1 == num) = true := by rw [beq_iff_eq, HI0.out, hqe]
                  obtain ⟨ws, hws⟩ : ∃ ws, ((wa.setCell ⟨gw, 0, none⟩ (.string x9.s)).setCell ⟨gw, 1, none⟩ (.string x9.k)).setCell ⟨gw, 2, none⟩ (.int .i64 x9.v) = ws := ⟨_, rfl⟩
                  obtain ⟨y0, y1, y2⟩ := set3U (x := .string x9.s) (y := .string x9.k) (z := .int .i64 x9.v) p0 p1 p2
                  rw [hws] at y0 y1 y2
                  have v0 : ws.cell? ⟨b9, o9 + q * 3, none⟩ = some (.string x9.s) := by rw [← hws, set3o HB9G.out]; exact r0
                  have v1 : ws.cell? ⟨b9, o9 + q * 3 + 1, none⟩ = some (.string x9.k) := by rw [← hws, set3o HB9G.out]; exact r1
                  have v2 : ws.cell? ⟨b9, o9 + q * 3 + 2, none⟩ = some (.int .i64 x9.v) := by rw [← hws, set3o HB9G.out]; exact r2
                  have hsz : ws.heap.size = wa.heap.size := by rw [← hws]; simp
                  have l6 : w6.heap.size ≤ gw := by rw [← hgw]; exact hbz.size
                  have HB6b : Hid (Below w6.heap.size w6 ws) := Lib.hid (by rw [← hws]; exact ((HB6a.out.setCell (p := ⟨gw, 0, none⟩) l6 _).setCell (p := ⟨gw, 1, none⟩) l6 _).setCell (p := ⟨gw, 2, none⟩) l6 _)
                  have HK : Hid (∀ w', Below ws.heap.size ws w' → w'.cell? ⟨b9, o9 + q * 3, none⟩ = some (.string x9.s) ∧ w'.cell? ⟨b9, o9 + q * 3 + 1, none⟩ = some (.string x9.k) ∧ w'.cell? ⟨b9, o9 + q * 3 + 2, none⟩ = some (.int .i64 x9.v) ∧ w'.cell? ⟨gw, 0, none⟩ = some (.string x9.s) ∧ w'.cell? ⟨gw, 1, none⟩ = some (.string x9.k) ∧ w'.cell? ⟨gw, 2, none⟩ = some (.int .i64 x9.v) ∧ Below ws.heap.size ws w') := Lib.hid fun w' hb => ⟨(hb.cell (p := ⟨b9, _, none⟩) (by show b9 < _; rw [hsz, HSA.out]; omega)).trans v0, (hb.cell (p := ⟨b9, _, none⟩) (by show b9 < _; rw [hsz, HSA.out]; omega)).trans v1, (hb.cell (p := ⟨b9, _, none⟩) (by show b9 < _; rw [hsz, HSA.out]; omega)).trans v2, (hb.cell (p := ⟨gw, _, none⟩) (by show gw < _; rw [hsz, HSA.out]; omega)).trans y0, (hb.cell (p := ⟨gw, _, none⟩) (by show gw < _; rw [hsz, HSA.out]; omega)).trans y1, (hb.cell (p := ⟨gw, _, none⟩) (by show gw < _; rw [hsz, HSA.out]; omega)).trans y2, hb⟩
                  clear hbz hbrz hb3z hx5 hx9 hqe hsz y0 y1 y2 v0 v1 v2 r0 r1 r2
                  go_wp2_with fail
                  clear hwa hws q0 q1 q2 a0 a1 a2 p0 p1 p2 z0 z1 z2
                  refine wp_region_held_drew (S := (fun w' => w'.cell? ⟨b9, o9 + q * 3, none⟩ = some (.string x9.s) ∧ w'.cell? ⟨b9, o9 + q * 3 + 1, none⟩ = some (.string x9.k) ∧ w'.cell? ⟨b9, o9 + q * 3 + 2, none⟩ = some (.int .i64 x9.v) ∧ w'.cell? ⟨gw, 0, none⟩ = some (.string x9.s) ∧ w'.cell? ⟨gw, 1, none⟩ = some (.string x9.k) ∧ w'.cell? ⟨gw, 2, none⟩ = some (.int .i64 x9.v) ∧ Below ws.heap.size ws w')) (by kernel_rfl) ?_ (fun hHeld => ?_)
                  · exact HK.out _ (Below.drew (Below.refl _ _))
                  refine wpAnyH_take (i := 0) (oi := _) (v := ?_) rfl (by kernel_rfl) (by kernel_rfl) (by kernel_rfl) (fun _ _ _ h => h) (Or.inl ⟨by kernel_rfl, ?_⟩) (by assumption) ?_
                  rotate_left
                  · rintro w ⟨s1, s2, s3, s4, s5, s6, s7⟩
                    go_simp
                    try with_reducible rfl
                  try simp only [Act.put, List.setIfInBounds_toArray, List.set_cons_zero, List.set_cons_succ, List.getElem_toArray, List.getElem_cons_zero, List.getElem_cons_succ]
                  refine wpAnyH_take (i := 1) (oi := _) (v := ?_) rfl (by kernel_rfl) (by kernel_rfl) (by kernel_rfl) (fun _ _ _ h => h) (Or.inl ⟨by kernel_rfl, ?_⟩) (by assumption) ?_
                  rotate_left
                  · rintro w ⟨s1, s2, s3, s4, s5, s6, s7⟩
                    go_simp
                    try with_reducible rfl
                  try simp only [Act.put, List.setIfInBounds_toArray, List.set_cons_zero, List.set_cons_succ, List.getElem_toArray, List.getElem_cons_zero, List.getElem_cons_succ]
                  refine wpAnyH_take (i := 2) (oi := _) (v := ?_) rfl (by kernel_rfl) (by kernel_rfl) (by kernel_rfl) (fun _ _ _ h => h) (Or.inl ⟨by kernel_rfl, ?_⟩) (by assumption) ?_
                  rotate_left
                  · rintro w ⟨s1, s2, s3, s4, s5, s6, s7⟩
                    go_simp
                    try with_reducible rfl
                  try simp only [Act.put, List.setIfInBounds_toArray, List.set_cons_zero, List.set_cons_succ, List.getElem_toArray, List.getElem_cons_zero, List.getElem_cons_succ]
                  refine wpAnyH_take (i := 3) (oi := _) (v := ?_) rfl (by kernel_rfl) (by kernel_rfl) (by kernel_rfl) (fun _ _ _ h => h) (Or.inl ⟨by kernel_rfl, ?_⟩) (by assumption) ?_
                  rotate_left
                  · rintro w ⟨s1, s2, s3, s4, s5, s6, s7⟩
                    go_simp
                    try with_reducible rfl
                  try simp only [Act.put, List.setIfInBounds_toArray, List.set_cons_zero, List.set_cons_succ, List.getElem_toArray, List.getElem_cons_zero, List.getElem_cons_succ]
                  refine wpAnyH_take (i := 4) (oi := _) (v := ?_) rfl (by kernel_rfl) (by kernel_rfl) (by kernel_rfl) (fun _ _ _ h => h) (Or.inl ⟨by kernel_rfl, ?_⟩) (by assumption) ?_
                  rotate_left
                  · rintro w ⟨s1, s2, s3, s4, s5, s6, s7⟩
                    go_simp
                    try with_reducible rfl
                  try simp only [Act.put, List.setIfInBounds_toArray, List.set_cons_zero, List.set_cons_succ, List.getElem_toArray, List.getElem_cons_zero, List.getElem_cons_succ]
                  refine wpAnyH_take (i := 5) (oi := _) (v := .bool false) rfl (by kernel_rfl) (by kernel_rfl) (by kernel_rfl) (fun _ _ _ h => h) (Or.inl ⟨by kernel_rfl, ?_⟩) (by assumption) ?_
                  · intro w' _; exact exec_bin (m := .agg #[.string x9.s, .string x9.k, .int .i64 x9.v]) (k := .agg #[.string x9.s, .string x9.k, .int .i64 x9.v]) rfl rfl rfl (guardAct _ _ _ _ w') (neqAct x9 w')
                  try simp only [Act.put, List.setIfInBounds_toArray, List.set_cons_zero, List.set_cons_succ, List.getElem_toArray, List.getElem_cons_zero, List.getElem_cons_succ]
                  refine wpAnyH_done (by kernel_rfl) ?_ _
                  have hbend := HB6b.out.trans (hHeld.2.2.2.2.2.2.mono HB6b.out.size)
                  clear hHeld
                  go_wp2
                  go_roundw
                  case rel => exact ⟨q + 1, hql, by first | rfl | go_num, hbend⟩
                  case measure => first | exact meas6 hql | (simp only [intOf]; exact meas7 hql) | (simp [intOf]; exact meas7 hql)
                · have hx : x9 = x5 := by rw [List.getElem?_set_ne (Ne.symm hqe), hx5] at hx9; exact (Option.some.inj hx9).symm
                  subst hx
                  have hne : ((q : Int) + 1 == num) = false := neqI0 HI0.out hqe
                  have HB6b := HB6a
                  have HK : Hid (∀ w', Below wa.heap.size wa w' → w'.cell? ⟨b9, o9 + q * 3, none⟩ = some (.string x9.s) ∧ w'.cell? ⟨b9, o9 + q * 3 + 1, none⟩ = some (.string x9.k) ∧ w'.cell? ⟨b9, o9 + q * 3 + 2, none⟩ = some (.int .i64 x9.v) ∧ w'.cell? ⟨gw, 0, none⟩ = some (.string x9.s) ∧ w'.cell? ⟨gw, 1, none⟩ = some (.string x9.k) ∧ w'.cell? ⟨gw, 2, none⟩ = some (.int .i64 x9.v) ∧ Below wa.heap.size wa w') := Lib.hid fun w' hb => ⟨(hb.cell (p := ⟨b9, _, none⟩) (by show b9 < _; rw [HSA.out]; omega)).trans r0, (hb.cell (p := ⟨b9, _, none⟩) (by show b9 < _; rw [HSA.out]; omega)).trans r1, (hb.cell (p := ⟨b9, _, none⟩) (by show b9 < _; rw [HSA.out]; omega)).trans r2, (hb.cell (p := ⟨gw, _, none⟩) (by show gw < _; rw [HSA.out]; omega)).trans p0, (hb.cell (p := ⟨gw, _, none⟩) (by show gw < _; rw [HSA.out]; omega)).trans p1, (hb.cell (p := ⟨gw, _, none⟩) (by show gw < _; rw [HSA.out]; omega)).trans p2, hb⟩
                  clear hbz hbrz hb3z hx5 hx9 hqe r0 r1 r2
                  go_wp2_with fail
                  clear hwa q0 q1 q2 a0 a1 a2 p0 p1 p2 z0 z1 z2
                  refine wp_region_held_drew (S := (fun w' => w'.cell? ⟨b9, o9 + q * 3, none⟩ = some (.string x9.s) ∧ w'.cell? ⟨b9, o9 + q * 3 + 1, none⟩ = some (.string x9.k) ∧ w'.cell? ⟨b9, o9 + q * 3 + 2, none⟩ = some (.int .i64 x9.v) ∧ w'.cell? ⟨gw, 0, none⟩ = some (.string x9.s) ∧ w'.cell? ⟨gw, 1, none⟩ = some (.string x9.k) ∧ w'.cell? ⟨gw, 2, none⟩ = some (.int .i64 x9.v) ∧ Below wa.heap.size wa w')) (by kernel_rfl) ?_ (fun hHeld => ?_)
                  · exact HK.out _ (Below.drew (Below.refl _ _))
                  refine wpAnyH_take (i := 0) (oi := _) (v := ?_) rfl (by kernel_rfl) (by kernel_rfl) (by kernel_rfl) (fun _ _ _ h => h) (Or.inl ⟨by kernel_rfl, ?_⟩) (by assumption) ?_
                  rotate_left
                  · rintro w ⟨s1, s2, s3, s4, s5, s6, s7⟩
                    go_simp
                    try with_reducible rfl
                  try simp only [Act.put, List.setIfInBounds_toArray, List.set_cons_zero, List.set_cons_succ, List.getElem_toArray, List.getElem_cons_zero, List.getElem_cons_succ]
                  refine wpAnyH_take (i := 1) (oi := _) (v := ?_) rfl (by kernel_rfl) (by kernel_rfl) (by kernel_rfl) (fun _ _ _ h => h) (Or.inl ⟨by kernel_rfl, ?_⟩) (by assumption) ?_
                  rotate_left
                  · rintro w ⟨s1, s2, s3, s4, s5, s6, s7⟩
                    go_simp
                    try with_reducible rfl
                  try simp only [Act.put, List.setIfInBounds_toArray, List.set_cons_zero, List.set_cons_succ, List.getElem_toArray, List.getElem_cons_zero, List.getElem_cons_succ]
                  refine wpAnyH_take (i := 2) (oi := _) (v := ?_) rfl (by kernel_rfl) (by kernel_rfl) (by kernel_rfl) (fun _ _ _ h => h) (Or.inl ⟨by kernel_rfl, ?_⟩) (by assumption) ?_
                  rotate_left
                  · rintro w ⟨s1, s2, s3, s4, s5, s6, s7⟩
                    go_simp
                    try with_reducible rfl
                  try simp only [Act.put, List.setIfInBounds_toArray, List.set_cons_zero, List.set_cons_succ, List.getElem_toArray, List.getElem_cons_zero, List.getElem_cons_succ]
                  refine wpAnyH_take (i := 3) (oi := _) (v := ?_) rfl (by kernel_rfl) (by kernel_rfl) (by kernel_rfl) (fun _ _ _ h => h) (Or.inl ⟨by kernel_rfl, ?_⟩) (by assumption) ?_
                  rotate_left
                  · rintro w ⟨s1, s2, s3, s4, s5, s6, s7⟩
                    go_simp
                    try with_reducible rfl
                  try simp only [Act.put, List.setIfInBounds_toArray, List.set_cons_zero, List.set_cons_succ, List.getElem_toArray, List.getElem_cons_zero, List.getElem_cons_succ]
                  refine wpAnyH_take (i := 4) (oi := _) (v := ?_) rfl (by kernel_rfl) (by kernel_rfl) (by kernel_rfl) (fun _ _ _ h => h) (Or.inl ⟨by kernel_rfl, ?_⟩) (by assumption) ?_
                  rotate_left
                  · rintro w ⟨s1, s2, s3, s4, s5, s6, s7⟩
                    go_simp
                    try with_reducible rfl
                  try simp only [Act.put, List.setIfInBounds_toArray, List.set_cons_zero, List.set_cons_succ, List.getElem_toArray, List.getElem_cons_zero, List.getElem_cons_succ]
                  refine wpAnyH_take (i := 5) (oi := _) (v := .bool false) rfl (by kernel_rfl) (by kernel_rfl) (by kernel_rfl) (fun _ _ _ h => h) (Or.inl ⟨by kernel_rfl, ?_⟩) (by assumption) ?_
                  · intro w' _; exact exec_bin (m := .agg #[.string x9.s, .string x9.k, .int .i64 x9.v]) (k := .agg #[.string x9.s, .string x9.k, .int .i64 x9.v]) rfl rfl rfl (guardAct _ _ _ _ w') (neqAct x9 w')
                  try simp only [Act.put, List.setIfInBounds_toArray, List.set_cons_zero, List.set_cons_succ, List.getElem_toArray, List.getElem_cons_zero, List.getElem_cons_succ]
                  refine wpAnyH_done (by kernel_rfl) ?_ _
                  have hbend := HB6b.out.trans (hHeld.2.2.2.2.2.2.mono HB6b.out.size)
                  clear hHeld
                  go_wp2
                  go_roundw
                  case rel => exact ⟨q + 1, hql, by first | rfl | go_num, hbend⟩
                  case measure => first | exact meas6 hql | (simp only [intOf]; exact meas7 hql) | (simp [intOf]; exact meas7 hql)
              · obtain rfl : q = n := by omega
                have hb9 := hb3z
                go_wp2
                go_roundw
                case rel => exact ⟨j + 1, by omega, by go_num, hb9⟩
                case measure => simp [intOf]; omega
      · have hcor : corE h L num a = fstN [actsE h L, actE h a.s a.k a.v] := by unfold corE; exact fst3_ne hc12
        have hcorne : corE h L num a ≠ 0 := by rw [hcor]; exact hc12
        have HXr : Hid (∀ w', Below wr.heap.size wr w' → w'.cell? ⟨w.heap.size, 0, none⟩ = some (.string a.s) ∧ w'.cell? ⟨w.heap.size, 1, none⟩ = some (.string a.k) ∧ w'.cell? ⟨w.heap.size, 2, none⟩ = some (.int .i64 a.v) ∧ Below wr.heap.size wr w') := Lib.hid fun w' hb => ⟨(HX3.out _ (HBr.out.trans (hb.mono HBr.out.size))).1, (HX3.out _ (HBr.out.trans (hb.mono HBr.out.size))).2.1, (HX3.out _ (HBr.out.trans (hb.mono HBr.out.size))).2.2.1, hb⟩
        have hGr : 15 ≤ wr.heap.size := by have := HBr.out.size; have := HG3.out; omega
        have HC1 := Lib.hid fun w' (hb : Below wr.heap.size wr w') => fdCheckAct_any h a.s a.k a.v w' hza (Nat.le_trans hGr hb.size)
        have HC2 := Lib.hid fun w' => r6CheckAct_any h a.s a.k a.v w' hza
        have HC3 := Lib.hid fun w' (hb : Below wr.heap.size wr w') => r6CheckActs_any h L n cap A w' (HX3.out _ (HBr.out.trans (hb.mono HBr.out.size))).2.2.2.2 HN.out hsz
        have HAc := Lib.hid fun w' (hb : Below wr.heap.size wr w') => l6acts_any L n cap A w' (HX3.out _ (HBr.out.trans (hb.mono HBr.out.size))).2.2.2.2 hn2
        have HCo := Lib.hid fun w' (hb : Below wr.heap.size wr w') Ax cx (hA : Acts w' Ax n L) => fdCorrected_bad h L n cx Ax num a w' (Nat.le_trans hGr hb.size) hA hn2 hsz hza hcorne
        obtain ⟨e1, he1⟩ : ∃ e1, actsE h L = e1 := ⟨_, rfl⟩
        obtain ⟨e2, he2⟩ : ∃ e2, actE h a.s a.k a.v = e2 := ⟨_, rfl⟩
        rw [he1] at HC3
        rw [he2] at HC1 HC2
        rw [hcor] at HCo
        have hF : ∀ g w, Es w g [e1, e2] → Calls Tryz.prog 18 #[.slice (some ⟨g, 0, none⟩) 2 2] w (RetSame (.int .i64 (fstN [e1, e2])) w) := fun g w h => l6first_any [e1, e2] 2 rfl (by decide) g w h
        obtain ⟨y, hy⟩ : ∃ y, fstN [e1, e2] = y := ⟨_, rfl⟩
        rw [he1, he2, hy] at HCo
        rw [hy] at hF
        rw [he1, he2, hy] at hc12
        have hyb : (y == 0) = false := by rw [beq_eq_false_iff_ne]; exact hc12
        have hyn : (y != 0) = true := by rw [bne_iff_ne]; exact hc12
        clear hy
        have HF := Lib.hid hF
        clear hF he1 he2 hc12 hcor hcorne hsz
        go_wp2_with fail
        refine wp_region_held_drew (S := (fun w' => w'.cell? ⟨w.heap.size, 0, none⟩ = some (.string a.s) ∧ w'.cell? ⟨w.heap.size, 1, none⟩ = some (.string a.k) ∧ w'.cell? ⟨w.heap.size, 2, none⟩ = some (.int .i64 a.v) ∧ Below wr.heap.size wr w')) (by kernel_rfl) ?_ (fun hHeld => ?_)
        · exact HXr.out _ (Below.drew (Below.refl _ _))
        refine wpAnyH_take (i := 0) (oi := _) (v := ?_) rfl (by kernel_rfl) (by kernel_rfl) (by kernel_rfl) (fun _ _ _ h => h) (Or.inl ⟨by kernel_rfl, ?_⟩) (by assumption) ?_
        rotate_left
        · rintro w ⟨s1, s2, s3, s4⟩
          go_simp
          try with_reducible rfl
        try simp only [Act.put, List.setIfInBounds_toArray, List.set_cons_zero, List.set_cons_succ, List.getElem_toArray, List.getElem_cons_zero, List.getElem_cons_succ]
        refine wpAnyH_take (i := 1) (oi := _) (v := ?_) rfl (by kernel_rfl) (by kernel_rfl) (by kernel_rfl) (fun _ _ _ h => h) (Or.inl ⟨by kernel_rfl, ?_⟩) (by assumption) ?_
        rotate_left
        · rintro w ⟨s1, s2, s3, s4⟩
          go_simp
          try with_reducible rfl
        try simp only [Act.put, List.setIfInBounds_toArray, List.set_cons_zero, List.set_cons_succ, List.getElem_toArray, List.getElem_cons_zero, List.getElem_cons_succ]
        refine wpAnyH_take (i := 3) (oi := _) (v := ?_) rfl (by kernel_rfl) (by kernel_rfl) (by kernel_rfl) (fun _ _ _ h => h) (Or.inl ⟨by kernel_rfl, ?_⟩) (by assumption) ?_
        rotate_left
        · rintro w ⟨s1, s2, s3, s4⟩
          go_simp
          try with_reducible rfl
        try simp only [Act.put, List.setIfInBounds_toArray, List.set_cons_zero, List.set_cons_succ, List.getElem_toArray, List.getElem_cons_zero, List.getElem_cons_succ]
        refine wpAnyH_take (i := 4) (oi := _) (v := ?_) rfl (by kernel_rfl) (by kernel_rfl) (by kernel_rfl) (fun _ _ _ h => h) (Or.inl ⟨by kernel_rfl, ?_⟩) (by assumption) ?_
        rotate_left
        · rintro w ⟨s1, s2, s3, s4⟩
          go_simp
          try with_reducible rfl
        try simp only [Act.put, List.setIfInBounds_toArray, List.set_cons_zero, List.set_cons_succ, List.getElem_toArray, List.getElem_cons_zero, List.getElem_cons_succ]
        refine wpAnyH_ready (rs := [2]) (by kernel_rfl) (by simp) ?_
        refine AllReadyH.cons (o := _) rfl (fun K hKK => ?_) AllReadyH.nil
        go_simp
        go_at_call 14
        with_reducible refine (HC1.out _ hHeld.2.2.2).mono ?_
        rintro e' w' ⟨rfl, hbz⟩
        go_wp2_with fail
        refine hKK.out _ _ ?_ (fun hHeld => ?_)
        · exact HXr.out _ (bstep hHeld.2.2.2 hbz)
        clear hKK K
        try simp only [Act.put, List.setIfInBounds_toArray, List.set_cons_zero, List.set_cons_succ, List.getElem_toArray, List.getElem_cons_zero, List.getElem_cons_succ]
        clear hbz
        refine wpAnyH_ready (rs := [5]) (by kernel_rfl) (by simp) ?_
        refine AllReadyH.cons (o := _) rfl (fun K hKK => ?_) AllReadyH.nil
        go_simp
        go_at_call 15
        with_reducible refine (HC2.out _).mono ?_
        rintro e' w' ⟨rfl, hbz⟩
        go_wp2_with fail
        refine hKK.out _ _ ?_ (fun hHeld => ?_)
        · exact HXr.out _ (bstep hHeld.2.2.2 hbz)
        clear hKK K
        try simp only [Act.put, List.setIfInBounds_toArray, List.set_cons_zero, List.set_cons_succ, List.getElem_toArray, List.getElem_cons_zero, List.getElem_cons_succ]
        clear hbz
        refine wpAnyH_take (i := 6) (oi := _) (v := ?_) rfl (by kernel_rfl) (by kernel_rfl) (by kernel_rfl) (fun _ _ _ h => h) (Or.inl ⟨by kernel_rfl, ?_⟩) (by assumption) ?_
        rotate_left
        · rintro w ⟨s1, s2, s3, s4⟩
          go_simp
          try simp only [bne_self_eq_false]
          try with_reducible rfl
        try simp only [Act.put, List.setIfInBounds_toArray, List.set_cons_zero, List.set_cons_succ, List.getElem_toArray, List.getElem_cons_zero, List.getElem_cons_succ]
        refine wpAnyH_done (by kernel_rfl) ?_ _
        go_wp2_with fail
        refine wp_region_held_drew (S := (fun w' => w'.cell? ⟨w.heap.size, 0, none⟩ = some (.string a.s) ∧ w'.cell? ⟨w.heap.size, 1, none⟩ = some (.string a.k) ∧ w'.cell? ⟨w.heap.size, 2, none⟩ = some (.int .i64 a.v) ∧ Below wr.heap.size wr w')) (by kernel_rfl) ?_ (fun hHeld => ?_)
        · exact HXr.out _ (hHeld.2.2.2.drew)
        refine wpAnyH_take (i := 0) (oi := _) (v := ?_) rfl (by kernel_rfl) (by kernel_rfl) (by kernel_rfl) (fun _ _ _ h => h) (Or.inl ⟨by kernel_rfl, ?_⟩) (by assumption) ?_
        rotate_left
        · rintro w ⟨s1, s2, s3, s4⟩
          go_simp
          try with_reducible rfl
        try simp only [Act.put, List.setIfInBounds_toArray, List.set_cons_zero, List.set_cons_succ, List.getElem_toArray, List.getElem_cons_zero, List.getElem_cons_succ]
        refine wpAnyH_take (i := 2) (oi := _) (v := ?_) rfl (by kernel_rfl) (by kernel_rfl) (by kernel_rfl) (fun _ _ _ h => h) (Or.inl ⟨by kernel_rfl, ?_⟩) (by assumption) ?_
        rotate_left
        · rintro w ⟨s1, s2, s3, s4⟩
          go_simp
          try with_reducible rfl
        try simp only [Act.put, List.setIfInBounds_toArray, List.set_cons_zero, List.set_cons_succ, List.getElem_toArray, List.getElem_cons_zero, List.getElem_cons_succ]
        refine wpAnyH_take (i := 3) (oi := _) (v := ?_) rfl (by kernel_rfl) (by kernel_rfl) (by kernel_rfl) (fun _ _ _ h => h) (Or.inl ⟨by kernel_rfl, ?_⟩) (by assumption) ?_
        rotate_left
        · rintro w ⟨s1, s2, s3, s4⟩
          go_simp
          try with_reducible rfl
        try simp only [Act.put, List.setIfInBounds_toArray, List.set_cons_zero, List.set_cons_succ, List.getElem_toArray, List.getElem_cons_zero, List.getElem_cons_succ]
        refine wpAnyH_take (i := 4) (oi := _) (v := ?_) rfl (by kernel_rfl) (by kernel_rfl) (by kernel_rfl) (fun _ _ _ h => h) (Or.inl ⟨by kernel_rfl, ?_⟩) (by assumption) ?_
        rotate_left
        · rintro w ⟨s1, s2, s3, s4⟩
          go_simp
          try with_reducible rfl
        try simp only [Act.put, List.setIfInBounds_toArray, List.set_cons_zero, List.set_cons_succ, List.getElem_toArray, List.getElem_cons_zero, List.getElem_cons_succ]
        refine wpAnyH_ready (rs := [1]) (by kernel_rfl) (by simp) ?_
        refine AllReadyH.cons (o := _) rfl (fun K hKK => ?_) AllReadyH.nil
        go_simp
        go_at_call 17
        refine (HAc.out _ hHeld.2.2.2).mono ?_
        rintro e' w5 ⟨vx, rfl, hox, hbz⟩
        obtain ⟨Ax, cx, rfl, hAx⟩ := Acts.of_own hox
        rw [HLn.out] at hAx ⊢
        go_wp2_with fail
        refine hKK.out _ _ ?_ (fun hHeld => ?_)
        · exact HXr.out _ (bstep hHeld.2.2.2 hbz)
        clear hKK K
        try simp only [Act.put, List.setIfInBounds_toArray, List.set_cons_zero, List.set_cons_succ, List.getElem_toArray, List.getElem_cons_zero, List.getElem_cons_succ]
        clear hbz hox
        refine wpAnyH_ready (rs := [5]) (by kernel_rfl) (by simp) ?_
        refine AllReadyH.cons (o := _) rfl (fun K hKK => ?_) AllReadyH.nil
        go_simp
        go_at_call 16
        refine (HCo.out _ hHeld.2.2.2 Ax cx hAx).mono ?_
        rintro e' w6 ⟨rfl, hbz⟩
        go_wp2_with fail
        refine hKK.out _ _ ?_ (fun hHeld => ?_)
        · exact HXr.out _ (bstep hHeld.2.2.2 hbz)
        clear hKK K
        try simp only [Act.put, List.setIfInBounds_toArray, List.set_cons_zero, List.set_cons_succ, List.getElem_toArray, List.getElem_cons_zero, List.getElem_cons_succ]
        clear hbz hAx
        refine wpAnyH_take (i := 6) (oi := _) (v := ?_) rfl (by kernel_rfl) (by kernel_rfl) (by kernel_rfl) (fun _ _ _ h => h) (Or.inl ⟨by kernel_rfl, ?_⟩) (by assumption) ?_
        rotate_left
        · rintro w ⟨s1, s2, s3, s4⟩
          go_simp
          try with_reducible rfl
        try simp only [Act.put, List.setIfInBounds_toArray, List.set_cons_zero, List.set_cons_succ, List.getElem_toArray, List.getElem_cons_zero, List.getElem_cons_succ]
        refine wpAnyH_take (i := 7) (oi := _) (v := ?_) rfl (by kernel_rfl) (by kernel_rfl) (by kernel_rfl) (fun _ _ _ h => h) (Or.inl ⟨by kernel_rfl, ?_⟩) (by assumption) ?_
        rotate_left
        · rintro w ⟨s1, s2, s3, s4⟩
          go_simp
          try with_reducible rfl
        try simp only [Act.put, List.setIfInBounds_toArray, List.set_cons_zero, List.set_cons_succ, List.getElem_toArray, List.getElem_cons_zero, List.getElem_cons_succ]
        refine wpAnyH_take (i := 8) (oi := _) (v := ?_) rfl (by kernel_rfl) (by kernel_rfl) (by kernel_rfl) (fun _ _ _ h => h) (Or.inl ⟨by kernel_rfl, ?_⟩) (by assumption) ?_
        rotate_left
        · rintro w ⟨s1, s2, s3, s4⟩
          go_simp
          try with_reducible rfl
        try simp only [Act.put, List.setIfInBounds_toArray, List.set_cons_zero, List.set_cons_succ, List.getElem_toArray, List.getElem_cons_zero, List.getElem_cons_succ]
        refine wpAnyH_take (i := 9) (oi := _) (v := ?_) rfl (by kernel_rfl) (by kernel_rfl) (by kernel_rfl) (fun _ _ _ h => h) (Or.inl ⟨by kernel_rfl, ?_⟩) (by assumption) ?_
        rotate_left
        · rintro w ⟨s1, s2, s3, s4⟩
          go_simp
          try with_reducible rfl
        try simp only [Act.put, List.setIfInBounds_toArray, List.set_cons_zero, List.set_cons_succ, List.getElem_toArray, List.getElem_cons_zero, List.getElem_cons_succ]
        refine wpAnyH_take (i := 10) (oi := _) (v := ?_) rfl (by kernel_rfl) (by kernel_rfl) (by kernel_rfl) (fun _ _ _ h => h) (Or.inl ⟨by kernel_rfl, ?_⟩) (by assumption) ?_
        rotate_left
        · rintro w ⟨s1, s2, s3, s4⟩
          go_simp
          try with_reducible rfl
        try simp only [Act.put, List.setIfInBounds_toArray, List.set_cons_zero, List.set_cons_succ, List.getElem_toArray, List.getElem_cons_zero, List.getElem_cons_succ]
        refine wpAnyH_done (by kernel_rfl) ?_ _
        have hb6 := hHeld.2.2.2
        have HB6 := Lib.hid hb6
        have HX6 : Hid (∀ w', Below w6.heap.size w6 w' → w'.cell? ⟨w.heap.size, 0, none⟩ = some (.string a.s) ∧ w'.cell? ⟨w.heap.size, 1, none⟩ = some (.string a.k) ∧ w'.cell? ⟨w.heap.size, 2, none⟩ = some (.int .i64 a.v) ∧ Below w6.heap.size w6 w') := Lib.hid fun w' hb => ⟨(HXr.out _ (hb6.trans (hb.mono hb6.size))).1, (HXr.out _ (hb6.trans (hb.mono hb6.size))).2.1, (HXr.out _ (hb6.trans (hb.mono hb6.size))).2.2.1, hb⟩
        clear hHeld hb6
        go_wp2_with fail
        refine wp_region_held_drew (S := (fun w' => w'.cell? ⟨w.heap.size, 0, none⟩ = some (.string a.s) ∧ w'.cell? ⟨w.heap.size, 1, none⟩ = some (.string a.k) ∧ w'.cell? ⟨w.heap.size, 2, none⟩ = some (.int .i64 a.v) ∧ Below w6.heap.size w6 w')) (by kernel_rfl) ?_ (fun hHeld => ?_)
        · exact HX6.out _ (Below.drew (Below.refl _ _))
        refine wpAnyH_take (i := 0) (oi := _) (v := ?_) rfl (by kernel_rfl) (by kernel_rfl) (by kernel_rfl) (fun _ _ _ h => h) (Or.inl ⟨by kernel_rfl, ?_⟩) (by assumption) ?_
        rotate_left
        · rintro w ⟨s1, s2, s3, s4⟩
          go_simp
          try with_reducible rfl
        try simp only [Act.put, List.setIfInBounds_toArray, List.set_cons_zero, List.set_cons_succ, List.getElem_toArray, List.getElem_cons_zero, List.getElem_cons_succ]
        refine wpAnyH_take (i := 1) (oi := _) (v := ?_) rfl (by kernel_rfl) (by kernel_rfl) (by kernel_rfl) (fun _ _ _ h => h) (Or.inl ⟨by kernel_rfl, ?_⟩) (by assumption) ?_
        rotate_left
        · rintro w ⟨s1, s2, s3, s4⟩
          go_simp
          try with_reducible rfl
        try simp only [Act.put, List.setIfInBounds_toArray, List.set_cons_zero, List.set_cons_succ, List.getElem_toArray, List.getElem_cons_zero, List.getElem_cons_succ]
        refine wpAnyH_take (i := 3) (oi := _) (v := ?_) rfl (by kernel_rfl) (by kernel_rfl) (by kernel_rfl) (fun _ _ _ h => h) (Or.inl ⟨by kernel_rfl, ?_⟩) (by assumption) ?_
        rotate_left
        · rintro w ⟨s1, s2, s3, s4⟩
          go_simp
          try with_reducible rfl
        try simp only [Act.put, List.setIfInBounds_toArray, List.set_cons_zero, List.set_cons_succ, List.getElem_toArray, List.getElem_cons_zero, List.getElem_cons_succ]
        refine wpAnyH_take (i := 4) (oi := _) (v := ?_) rfl (by kernel_rfl) (by kernel_rfl) (by kernel_rfl) (fun _ _ _ h => h) (Or.inl ⟨by kernel_rfl, ?_⟩) (by assumption) ?_
        rotate_left
        · rintro w ⟨s1, s2, s3, s4⟩
          go_simp
          try with_reducible rfl
        try simp only [Act.put, List.setIfInBounds_toArray, List.set_cons_zero, List.set_cons_succ, List.getElem_toArray, List.getElem_cons_zero, List.getElem_cons_succ]
        refine wpAnyH_ready (rs := [2]) (by kernel_rfl) (by simp) ?_
        refine AllReadyH.cons (o := _) rfl (fun K hKK => ?_) AllReadyH.nil
        go_simp
        go_at_call 19
        with_reducible refine (HC3.out _ (HB6.out.trans (hHeld.2.2.2.mono HB6.out.size))).mono ?_
        rintro e' w' ⟨rfl, hbz⟩
        go_wp2_with fail
        refine hKK.out _ _ ?_ (fun hHeld => ?_)
        · exact HX6.out _ (bstep hHeld.2.2.2 hbz)
        clear hKK K
        try simp only [Act.put, List.setIfInBounds_toArray, List.set_cons_zero, List.set_cons_succ, List.getElem_toArray, List.getElem_cons_zero, List.getElem_cons_succ]
        clear hbz
        refine wpAnyH_ready (rs := [5]) (by kernel_rfl) (by simp) ?_
        refine AllReadyH.cons (o := _) rfl (fun K hKK => ?_) AllReadyH.nil
        go_simp
        go_at_call 15
        with_reducible refine (HC2.out _).mono ?_
        rintro e' w' ⟨rfl, hbz⟩
        go_wp2_with fail
        refine hKK.out _ _ ?_ (fun hHeld => ?_)
        · exact HX6.out _ (bstep hHeld.2.2.2 hbz)
        clear hKK K
        try simp only [Act.put, List.setIfInBounds_toArray, List.set_cons_zero, List.set_cons_succ, List.getElem_toArray, List.getElem_cons_zero, List.getElem_cons_succ]
        clear hbz
        refine wpAnyH_ready (rs := [6]) (by kernel_rfl) (by simp) ?_
        refine AllReadyH.cons (o := _) rfl (fun K hKK => ?_) AllReadyH.nil
        go_simp
        refine hKK.out _ _ ?_ (fun hHeld => ?_)
        · exact HX6.out _ (balloc _ hHeld.2.2.2)
        clear hKK K
        try simp only [Act.put, List.setIfInBounds_toArray, List.set_cons_zero, List.set_cons_succ, List.getElem_toArray, List.getElem_cons_zero, List.getElem_cons_succ]
        refine wpAnyH_ready (rs := [7]) (by kernel_rfl) (by simp) ?_
        refine AllReadyH.cons (o := _) rfl (fun K hKK => ?_) AllReadyH.nil
        go_simp
        go_at_call 18
        refine (HF.out _ _ ?_).mono ?_
        · exact es2 _ _ _ _
        rintro e' w7 ⟨rfl, rfl⟩
        go_wp2_with fail
        refine hKK.out _ _ ?_ (fun hHeld => ?_)
        · exact hHeld
        clear hKK K
        try simp only [Act.put, List.setIfInBounds_toArray, List.set_cons_zero, List.set_cons_succ, List.getElem_toArray, List.getElem_cons_zero, List.getElem_cons_succ]
        refine wpAnyH_take (i := 8) (oi := _) (v := ?_) rfl (by kernel_rfl) (by kernel_rfl) (by kernel_rfl) (fun _ _ _ h => h) (Or.inl ⟨by kernel_rfl, ?_⟩) (by assumption) ?_
        rotate_left
        · rintro w ⟨s1, s2, s3, s4⟩
          go_simp
          try with_reducible rfl
        try simp only [Act.put, List.setIfInBounds_toArray, List.set_cons_zero, List.set_cons_succ, List.getElem_toArray, List.getElem_cons_zero, List.getElem_cons_succ]
        refine wpAnyH_done (by kernel_rfl) ?_ _
        have HB7 := Lib.hid hHeld.2.2.2
        clear hHeld
        go_wp2_with fail
        go_loopw [91] (fun i wz => i = .int .i64 0 ∧ Below wr.heap.size wr wz) (fun _ _ => 0)
        case atStart => exact ⟨rfl, HB6.out.trans (HB7.out.mono HB6.out.size)⟩
        case round =>
          obtain ⟨rfl, hbz⟩ := hrel
          have hb9 := HBr.out.trans (hbz.mono HBr.out.size)
          go_wp2
          go_roundw
          case rel => exact ⟨j + 1, by omega, by go_num, hb9⟩
          case measure => simp [intOf]; omega
    · have hj2' : ¬ (j : Int) < 2 := by omega
      have hbw := (HX3.out _ hb).2.2.2.1
      clear hb
      go_wp2_with fail
      refine (HAW.out _ hbw).mono ?_
      rintro e w9 ⟨rfl, hb9⟩
      have hfin := bstep hbw hb9
      clear hb9
      go_wp2
      go_ret
      exact ⟨rfl, hfin⟩
theorem acts6_any (L : List ActR) (n cap : Nat) (A : Option Addr) (num : Int) (a : ActR) (w : World)
    (hZ : Acts w A n L) (hn : (n : Int) ≤ 9223372036854775807) (ht : Tabs w) : Calls Tryz.prog 4 #[.slice A n cap, .int .i64 num, .agg #[.string a.s, .string a.k, .int .i64 a.v]] w (Yes w) := by
  cases h1 : shAct L 30 with
  | false => exact acts6_ex1 L n cap A num a w hZ hn ht h1
  | true => cases h2 : shAct [a] 1 with
    | false => exact acts6_ex2 L n cap A num a w hZ hn ht h1 h2
    | true => exact acts6_main L n cap A num a w hZ hn ht h1 h2
end Go.Mk
