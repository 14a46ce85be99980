/-
  Proved: what follows from the legs of a run by package track (ofLegs): the list of the results of a function for each leg's distance and time, or the error of the run. Conditions: legs and exchanges lie where the slices say; at most a hundred legs; the function's result for each leg is as told.
-/
import Derived.Test.YtickjnahdeikfaaGreatDoorNv
set_option linter.unusedVariables false
set_option linter.unusedSimpArgs false
open Go Go.Proofs Go.RowKit
set_option maxRecDepth 100000
namespace Go.Mk
/-- What lies between one moment and the next one. -/
def gapF (p : Int × Int) : List (Int × Int) → List (Int × Int)
  | [] => []
  | q :: l => (wrap64 (q.1 - p.1), wrap64 (q.2 - p.2)) :: gapF q l
theorem gapF_drop {M : List (Int × Int)} {k : Nat} {q : Int × Int} (p : Int × Int) (h : M[k]? = some q) : gapF p (M.drop k) = (wrap64 (q.1 - p.1), wrap64 (q.2 - p.2)) :: gapF q (M.drop (k + 1)) := by
  obtain ⟨hk, e⟩ := List.getElem?_eq_some_iff.1 h
  rw [List.drop_eq_getElem_cons hk, e, gapF]
theorem gapF_len : ∀ (M : List (Int × Int)) (p : Int × Int), (gapF p M).length = M.length
  | [], _ => rfl
  | q :: l, p => by rw [gapF, List.length_cons, List.length_cons, gapF_len l q]
theorem own_belowN {w w' : World} {base e size n : Nat} {v : Value} {xs : List Value} (h : w.ownsRow base e size v n xs) (hb : Below w.heap.size w w') : w'.ownsRow base e size v n xs :=
  World.ownsRow.kept h (row := none) ⟨hb.os, hb.tape, hb.output, hb.size, fun i hi _ => hb.block i hi⟩ (Decidable.em _)
theorem app_cell {w w8 : World} {o : Obj} {row : Option Nat} {b i : Nat} {x : Value} (hg : (w.alloc o).grownBy w8 row) (hb : b < w.heap.size) (hr : row ≠ some b) (h : w.cell? ⟨b, i, none⟩ = some x) : w8.cell? ⟨b, i, none⟩ = some x :=
  (World.cell?_of_block (w := w.alloc o) (a := ⟨b, i, none⟩) (hg.block b (by simp; omega) (by first | exact hr | exact fun q => hr q.symm))).trans (((balloc o (Below.refl _ w)).cell (p := ⟨b, i, none⟩) hb).trans h)
theorem app_frozen {w w8 : World} {o : Obj} {row : Option Nat} {b i : Nat} (hg : (w.alloc o).grownBy w8 row) (hb : b < w.heap.size) (hr : row ≠ some b) (h : w.frozen? ⟨b, i, none⟩ = false) : w8.frozen? ⟨b, i, none⟩ = false :=
  (World.frozen?_of_block (w := w.alloc o) (a := ⟨b, i, none⟩) (hg.block b (by simp; omega) (by first | exact hr | exact fun q => hr q.symm))).trans (((balloc o (Below.refl _ w)).frozen (p := ⟨b, i, none⟩) hb).trans h)
theorem set2 {w : World} {g : Nat} {x y x' y' : Value} (h0 : w.cell? ⟨g, 0, none⟩ = some x') (h1 : w.cell? ⟨g, 1, none⟩ = some y') :
    ((w.setCell ⟨g, 0, none⟩ x).setCell ⟨g, 1, none⟩ y).cell? ⟨g, 0, none⟩ = some x ∧ ((w.setCell ⟨g, 0, none⟩ x).setCell ⟨g, 1, none⟩ y).cell? ⟨g, 1, none⟩ = some y :=
  ⟨(World.cell?_setCell_other _ _ _ _ (by simp)).trans (World.cell?_setCell_same _ _ _ h0), World.cell?_setCell_same _ _ _ ((World.cell?_setCell_other _ _ _ _ (by simp)).trans h1)⟩
theorem set2o {w : World} {g b i : Nat} {x y : Value} (h : b ≠ g) : ((w.setCell ⟨g, 0, none⟩ x).setCell ⟨g, 1, none⟩ y).cell? ⟨b, i, none⟩ = w.cell? ⟨b, i, none⟩ :=
  (World.cell?_setCell_other _ _ _ _ (by first | (intro e; injection e with e1; exact h e1) | (intro e; injection e with e1; exact h e1.symm))).trans (World.cell?_setCell_other _ _ _ _ (by first | (intro e; injection e with e1; exact h e1) | (intro e; injection e with e1; exact h e1.symm)))
theorem set2f {w : World} {g b i : Nat} {x y : Value} : ((w.setCell ⟨g, 0, none⟩ x).setCell ⟨g, 1, none⟩ y).frozen? ⟨b, i, none⟩ = w.frozen? ⟨b, i, none⟩ :=
  (World.frozen?_setCell _ _ _ _).trans (World.frozen?_setCell _ _ _ _)
theorem own_ne {w : World} {base e size n b : Nat} {v : Value} {xs : List Value} (h : w.ownsRow base e size v n xs) (hb : b < base ∨ w.heap.size ≤ b) : v.ownBlock ≠ some b := fun q => by
  have := World.ownsRow.lt h b q
  omega
/-- A list of values in new memory, one cell each. -/
@[reducible] def OwnV (w : World) (B : Nat) (T : TypeId) (v : Value) (P : List Value) : Prop := w.ownsRow B T 1 v P.length P
theorem OwnV.next {w1 : World} {B : Nat} {T : TypeId} {v' : Value} {P : List Value} {x : Value} (h : w1.ownsRow B T 1 v' (P.length + 1) (P ++ [x])) : OwnV w1 B T v' (P ++ [x]) := by
  unfold OwnV
  rw [List.length_append]
  exact h
theorem infoRat : (Tryz.prog.info? 70).map (fun i => (i.zero, i.size, i.bytes)) = some (some (.string ⟨#[]⟩), 1, 16) := by kernel_rfl
set_option maxHeartbeats 8000000 in
theorem trOfLegsI_ok (val : Int × Int → Value) (ok : Int × Int → Prop) (hval : ∀ g, ∃ x, val g = .int .i64 x) (G : List Int) (n cap : Nat) (A : Option Addr) (z b : Int) (L : List (Int × Int)) (m cE : Nat) (E : Option Addr) (f : Int) (w : World)
    (hG : IntsZ w A n G) (hn : n ≤ 100) (hc : n ≤ cap) (hE : Pairs w E m L) (hm : m + 1 = n) (h0 : crW G z b L f = (0, 0))
    (hok : ∀ g ∈ gapF (0, 0) (L ++ [(sumW G 0, f)]), ok g)
    (hV : ∀ g w', ok g → Below w.heap.size w w' → Calls Tryz.prog 57 #[.int .i64 g.1, .int .i64 g.2] w' (RetPost (val g) w')) :
    Calls Tryz.prog 56 #[.agg #[.slice A n cap, .int .i64 z, .int .i64 b], .slice E m cE, .int .i64 f, .func (.func 57) #[] #[]] w
      (fun e w' => ∃ v B, e = .returned (.tuple #[v, .int .i64 0]) ∧ w.heap.size ≤ B ∧ OwnV w' B 3 v ((gapF (0, 0) (L ++ [(sumW G 0, f)])).map val) ∧ Below w.heap.size w w') := by
  obtain ⟨i0, hi, hz0, hz1, hz2⟩ := info_parts infoInt
  obtain ⟨w1, hw1⟩ : ∃ w1, w.alloc (.cells #[.slice A n cap, .int .i64 z, .int .i64 b] 24) = w1 := ⟨_, rfl⟩
  have hB1 : Below w.heap.size w w1 := by rw [← hw1]; exact balloc _ (Below.refl _ _)
  have hs1 : w1.heap.size = w.heap.size + 1 := by rw [← hw1]; simp
  have c0 : w1.cell? ⟨w.heap.size, 0, none⟩ = some (.slice A n cap) := by rw [← hw1]; simp
  have c1 : w1.cell? ⟨w.heap.size, 1, none⟩ = some (.int .i64 z) := by rw [← hw1]; simp
  have c2 : w1.cell? ⟨w.heap.size, 2, none⟩ = some (.int .i64 b) := by rw [← hw1]; simp
  have hR := trCheckRun_any G n cap A z b L m cE E f w1 (hG.below hB1) hn hc (hE.below hB1) (by omega)
  rw [h0] at hR
  have HCE : Hid (∀ w', Below w1.heap.size w1 w' → w'.cell? ⟨w.heap.size, 0, none⟩ = some (.slice A n cap) ∧ w'.cell? ⟨w.heap.size, 1, none⟩ = some (.int .i64 z) ∧ w'.cell? ⟨w.heap.size, 2, none⟩ = some (.int .i64 b) ∧ IntsZ w' A n G ∧ Pairs w' E m L) := Lib.hid fun w' hb =>
    ⟨(hb.cell (p := ⟨w.heap.size, 0, none⟩) (by show w.heap.size < _; omega)).trans c0, (hb.cell (p := ⟨w.heap.size, 1, none⟩) (by show w.heap.size < _; omega)).trans c1, (hb.cell (p := ⟨w.heap.size, 2, none⟩) (by show w.heap.size < _; omega)).trans c2, (hG.below hB1).below hb, (hE.below hB1).below hb⟩
  have HD : Hid (∀ w', Below w1.heap.size w1 w' → Calls Tryz.prog 98 #[.agg #[.slice A n cap, .int .i64 z, .int .i64 b]] w' (RetPost (.int .i64 (sumW G 0)) w')) := Lib.hid fun w' hb => trDist_any G n cap A z b w' ((hG.below hB1).below hb) hn
  have HV : Hid (∀ g w', ok g → Below w1.heap.size w1 w' → Calls Tryz.prog 57 #[.int .i64 g.1, .int .i64 g.2] w' (RetPost (val g) w')) := Lib.hid fun g w' h hb => hV g w' h (hB1.trans (hb.mono (by omega)))
  obtain ⟨d, hd⟩ : ∃ d, sumW G 0 = d := ⟨_, rfl⟩
  rw [hd] at HD hok ⊢
  have hLm : L.length = m := hE.1
  obtain ⟨F, hF⟩ : ∃ F, (gapF (0, 0) (L ++ [(d, f)])).map val = F := ⟨_, rfl⟩
  rw [hF]
  have HF : Hid ([] ++ (gapF (0, 0) ((L ++ [(d, f)]).drop 0)).map val = F) := Lib.hid hF
  have HOK : Hid (∀ g ∈ gapF (0, 0) ((L ++ [(d, f)]).drop 0), ok g) := Lib.hid hok
  have HLm := Lib.hid hLm
  have HB1 := Lib.hid hB1
  have HVAL := Lib.hid hval
  have hni : (n : Int) ≤ 100 := by omega
  have hmn : (m : Int) + 1 = (n : Int) := by omega
  have hw1' := hw1
  clear hG hE h0 hV hd hF hok hB1 hLm hval
  go_enter Tryz.func56, Tryz.ntmps56
  go_wp2_with fail
  clear hw1 hw1' c0 c1 c2
  refine hR.mono ?_
  rintro e w2 ⟨rfl, hb2⟩
  have hs2 := hb2.size
  obtain ⟨w3, hw3⟩ : ∃ w3, w2.alloc (.cells #[.int .i64 0, .int .i64 0] 68) = w3 := ⟨_, rfl⟩
  have hb3 : Below w2.heap.size w2 w3 := by rw [← hw3]; exact balloc _ (Below.refl _ _)
  have hs3 : w3.heap.size = w2.heap.size + 1 := by rw [← hw3]; simp
  have x0 : w3.cell? ⟨w2.heap.size, 0, none⟩ = some (.int .i64 0) := by rw [← hw3]; simp
  have x1 : w3.cell? ⟨w2.heap.size, 1, none⟩ = some (.int .i64 0) := by rw [← hw3]; simp
  have z0 : w3.frozen? ⟨w2.heap.size, 0, none⟩ = false := by rw [← hw3]; simp
  have z1 : w3.frozen? ⟨w2.heap.size, 1, none⟩ = false := by rw [← hw3]; simp
  have hb13 := bstep hb2 hb3
  obtain ⟨c0, c1, c2, _, _⟩ := HCE.out _ hb13
  have HB2 := Lib.hid hb2
  have HB3 := Lib.hid hb3
  clear hR hb2 hb3 hb13
  go_wp2
  try rw [hw3]
  clear hw3
  obtain ⟨g, hg⟩ : ∃ g, w2.heap.size = g := ⟨_, rfl⟩
  rw [hg] at HB3 x0 x1 z0 z1 hs3 hs2 ⊢
  have HG := Lib.hid hg
  clear hg
  go_loopw [12, 29] (fun v i wr => ∃ (k : Nat) (p : Int × Int) (P : List Value), k ≤ n ∧ P.length = k ∧ i = .int .i64 k ∧ Hid (P ++ (gapF p ((L ++ [(d, f)]).drop k)).map val = F) ∧ Hid (∀ g ∈ gapF p ((L ++ [(d, f)]).drop k), ok g) ∧ OwnV wr (g + 1) 3 v P ∧ Below g w3 wr ∧ wr.cell? ⟨g, 0, none⟩ = some (.int .i64 p.1) ∧ wr.cell? ⟨g, 1, none⟩ = some (.int .i64 p.2) ∧ wr.frozen? ⟨g, 0, none⟩ = false ∧ wr.frozen? ⟨g, 1, none⟩ = false) (fun _ i _ => n - (intOf i).toNat)
  case atStart => exact ⟨0, (0, 0), [], by omega, rfl, rfl, HF, HOK, World.ownsRow_nil _ _ _ _, Below.refl _ _, x0, x1, z0, z1⟩
  case round =>
    obtain ⟨k, p, P, hk, hP, rfl, HK, HO, hown, hb, p0, p1, f0, f1⟩ := hrel
    have hbr : Below w1.heap.size w1 wr := HB2.out.trans ((HB3.out.trans hb).mono hs2)
    obtain ⟨c0, c1, c2, hI, hE⟩ := HCE.out _ hbr
    have hgr : g < wr.heap.size := by have := hb.size; omega
    clear x0 x1 z0 z1
    by_cases hlt : k < n
    · have hki : (k : Int) < (n : Int) := by omega
      have hk0 : (0 : Int) ≤ (k : Int) := by omega
      have hkt : ((k : Int)).toNat = k := by omega
      have hD := HD.out wr hbr
      have HI := Lib.hid hI
      have HE := Lib.hid hE
      have HBR := Lib.hid hbr
      clear hI hE hbr
      go_wp2_with fail
      refine hD.mono ?_
      rintro e w4 ⟨rfl, hb4⟩
      have hs4 := hb4.size
      obtain ⟨w5, hw5⟩ : ∃ w5, w4.alloc (.cells #[.int .i64 d, .int .i64 f] 68) = w5 := ⟨_, rfl⟩
      have hb5 : Below w4.heap.size w4 w5 := by rw [← hw5]; exact balloc _ (Below.refl _ _)
      have hs5 : w5.heap.size = w4.heap.size + 1 := by rw [← hw5]; simp
      have y0 : w5.cell? ⟨w4.heap.size, 0, none⟩ = some (.int .i64 d) := by rw [← hw5]; simp
      have y1 : w5.cell? ⟨w4.heap.size, 1, none⟩ = some (.int .i64 f) := by rw [← hw5]; simp
      have v0 : w5.frozen? ⟨w4.heap.size, 0, none⟩ = false := by rw [← hw5]; simp
      have v1 : w5.frozen? ⟨w4.heap.size, 1, none⟩ = false := by rw [← hw5]; simp
      have hb45 : Below wr.heap.size wr w5 := bstep hb4 hb5
      have p0' := (hb45.cell (p := ⟨g, 0, none⟩) hgr).trans p0
      have p1' := (hb45.cell (p := ⟨g, 1, none⟩) hgr).trans p1
      have f0' := (hb45.frozen (p := ⟨g, 0, none⟩) hgr).trans f0
      have f1' := (hb45.frozen (p := ⟨g, 1, none⟩) hgr).trans f1
      have Hown := Lib.hid hown
      have HB := Lib.hid hb
      clear p0 p1 f0 f1 hown hb c0 c1 c2 hb4 hb5 hD
      by_cases hkm : k < m
      · obtain ⟨be, oe, q, rfl, hbe, hq, q0, q1⟩ := HE.out.at_ hkm
        have hki2 : (k : Int) < (m : Int) := by omega
        have q0' := (hb45.cell (p := ⟨be, oe + k * 2, none⟩) hbe).trans q0
        have q1' := (hb45.cell (p := ⟨be, oe + k * 2 + 1, none⟩) hbe).trans q1
        have hMk : (L ++ [(d, f)])[k]? = some q := by rw [List.getElem?_append_left (by rw [HLm.out]; exact hkm)]; exact hq
        clear q0 q1 hq
        have hgap : ok (wrap64 (q.1 - p.1), wrap64 (q.2 - p.2)) := HO.out _ (by rw [gapF_drop p hMk]; exact List.mem_cons_self)
        obtain ⟨x, hx⟩ := HVAL.out (wrap64 (q.1 - p.1), wrap64 (q.2 - p.2))
        have hst : P ++ (val (wrap64 (q.1 - p.1), wrap64 (q.2 - p.2)) :: (gapF q ((L ++ [(d, f)]).drop (k + 1))).map val) = F := by have := HK.out; rw [gapF_drop p hMk, List.map_cons] at this; exact this
        have HO2 : Hid (∀ y ∈ gapF q ((L ++ [(d, f)]).drop (k + 1)), ok y) := Lib.hid fun y hy => HO.out y (by rw [gapF_drop p hMk]; exact List.mem_cons_of_mem _ hy)
        rw [hx] at hst
        have HST : Hid ((P ++ [.int .i64 x]) ++ (gapF q ((L ++ [(d, f)]).drop (k + 1))).map val = F) := Lib.hid (by rw [← hst]; simp)
        have hC := fun w' (hb' : Below wr.heap.size wr w') => HV.out _ w' hgap (HBR.out.trans (hb'.mono (by have := HBR.out.size; omega)))
        rw [hx] at hC
        clear hst hx hgap HK HO hMk
        go_wp2_with fail
        obtain ⟨w6, hw6⟩ : ∃ w6, (w5.setCell ⟨w4.heap.size, 0, none⟩ (.int .i64 q.1)).setCell ⟨w4.heap.size, 1, none⟩ (.int .i64 q.2) = w6 := ⟨_, rfl⟩
        rw [hw6]
        have hb6 : Below wr.heap.size wr w6 := by rw [← hw6]; exact (hb45.setCell (p := ⟨w4.heap.size, 0, none⟩) (by show wr.heap.size ≤ _; omega) _).setCell (p := ⟨w4.heap.size, 1, none⟩) (by show wr.heap.size ≤ _; omega) _
        have hs6 : w6.heap.size = w5.heap.size := by rw [← hw6]; simp
        have y0' : w6.cell? ⟨w4.heap.size, 0, none⟩ = some (.int .i64 q.1) := by rw [← hw6]; exact (set2 y0 y1).1
        have y1' : w6.cell? ⟨w4.heap.size, 1, none⟩ = some (.int .i64 q.2) := by rw [← hw6]; exact (set2 y0 y1).2
        have p0'' : w6.cell? ⟨g, 0, none⟩ = some (.int .i64 p.1) := by rw [← hw6]; exact (set2o (by omega)).trans p0'
        have p1'' : w6.cell? ⟨g, 1, none⟩ = some (.int .i64 p.2) := by rw [← hw6]; exact (set2o (by omega)).trans p1'
        have f0'' : w6.frozen? ⟨g, 0, none⟩ = false := by rw [← hw6]; exact set2f.trans f0'
        have f1'' : w6.frozen? ⟨g, 1, none⟩ = false := by rw [← hw6]; exact set2f.trans f1'
        clear hw6 q0' q1' hw5
        refine (hC _ hb6).mono ?_
        rintro e w7 ⟨rfl, hb7⟩
        have hs7 := hb7.size
        have hb67 := bstep hb6 hb7
        have hown7 := own_belowN Hown.out hb67
        have z0 := (hb7.cell (p := ⟨w4.heap.size, 0, none⟩) (by show w4.heap.size < _; omega)).trans y0'
        have z1 := (hb7.cell (p := ⟨w4.heap.size, 1, none⟩) (by show w4.heap.size < _; omega)).trans y1'
        have a0 := (hb7.cell (p := ⟨g, 0, none⟩) (by show g < _; omega)).trans p0''
        have a1 := (hb7.cell (p := ⟨g, 1, none⟩) (by show g < _; omega)).trans p1''
        have b0 := (hb7.frozen (p := ⟨g, 0, none⟩) (by show g < _; omega)).trans f0''
        have b1 := (hb7.frozen (p := ⟨g, 1, none⟩) (by show g < _; omega)).trans f1''
        have HB67 := Lib.hid hb67
        clear hb7 hb67 hC y0' y1' p0'' p1'' f0'' f1'' hb6 y0 y1 v0 v1 p0' p1' f0' f1'
        go_wp2_with (at_builtin; refine wpList_append_own _ rfl _ _ 22 rfl (g + 1) 3 i0 (.int .i64 0) 1 8 Tryz.underlying22 hi hz0 hz1 hz2 rfl (by decide) _ _ _ rfl (World.ownsRow.alloc hown7 _) ⟨w7.heap.size, 0, none⟩ 1 1 [.int .i64 x] rfl rfl ?c1 ?c2 ?c3 ?c4 ?c5 ?_)
        case c1 =>
          intro j u hj
          match j, hj with
          | 0, hj => simp at hj; subst hj; simp [Addr.add]
        case c2 => intro u hu; simp at hu; subst hu; rfl
        case c3 => unfold maxLen; omega
        case c4 => omega
        case c5 => simp; omega
        intro v' w8 hown8 hgrow _
        have hs8 := hgrow.size
        have hs8' : w7.heap.size + 1 ≤ w8.heap.size := by simpa using hs8
        have n0 := own_ne (b := w4.heap.size) Hown.out (.inr (by omega))
        have n1 := own_ne (b := g) Hown.out (.inl (by omega))
        have z0' := app_cell hgrow (by omega) n0 z0
        have z1' := app_cell hgrow (by omega) n0 z1
        have a0' := app_cell hgrow (by omega) n1 a0
        have a1' := app_cell hgrow (by omega) n1 a1
        have b0' := app_frozen hgrow (by omega) n1 b0
        have b1' := app_frozen hgrow (by omega) n1 b1
        have hb8 : Below g w3 w8 := ((HB.out.trans (HB67.out.mono (by omega))).alloc (by omega) _).grown hgrow (by simp; omega) (fun r hr => Nat.le_of_succ_le (World.ownsRow.lt hown7 r hr).1)
        have HOW : Hid (OwnV w8 (g + 1) 3 v' (P ++ [.int .i64 x])) := Lib.hid (OwnV.next (by rw [hP]; exact hown8))
        have HB8 := Lib.hid hb8
        clear hown8 hgrow hb8 hown7 z0 z1 a0 a1 b0 b1 n0 n1
        go_wp2
        go_roundw
        case rel => exact ⟨k + 1, q, _, by omega, by simp [hP], by go_num, HST, HO2, ownsRow_setCell_below (ownsRow_setCell_below HOW.out (a := ⟨g, 0, none⟩) (Nat.lt_succ_self g) _) (a := ⟨g, 1, none⟩) (Nat.lt_succ_self g) _, (HB8.out.setCell (p := ⟨g, 0, none⟩) (Nat.le_refl _) _).setCell (p := ⟨g, 1, none⟩) (Nat.le_refl _) _, (set2 a0' a1').1, (set2 a0' a1').2, set2f.trans b0', set2f.trans b1'⟩
        case measure => simp [intOf]; omega
      · have hki2 : ¬ (k : Int) < (m : Int) := by omega
        have hMk : (L ++ [(d, f)])[k]? = some (d, f) := by rw [List.getElem?_append_right (by rw [HLm.out]; omega), HLm.out, show k - m = 0 by omega]; rfl
        have hgap : ok (wrap64 (d - p.1), wrap64 (f - p.2)) := HO.out _ (by rw [gapF_drop p hMk]; exact List.mem_cons_self)
        obtain ⟨x, hx⟩ := HVAL.out (wrap64 (d - p.1), wrap64 (f - p.2))
        have hst : P ++ (val (wrap64 (d - p.1), wrap64 (f - p.2)) :: (gapF (d, f) ((L ++ [(d, f)]).drop (k + 1))).map val) = F := by have := HK.out; rw [gapF_drop p hMk, List.map_cons] at this; exact this
        have HO2 : Hid (∀ y ∈ gapF (d, f) ((L ++ [(d, f)]).drop (k + 1)), ok y) := Lib.hid fun y hy => HO.out y (by rw [gapF_drop p hMk]; exact List.mem_cons_of_mem _ hy)
        rw [hx] at hst
        have HST : Hid ((P ++ [.int .i64 x]) ++ (gapF (d, f) ((L ++ [(d, f)]).drop (k + 1))).map val = F) := Lib.hid (by rw [← hst]; simp)
        have hC := fun w' (hb' : Below wr.heap.size wr w') => HV.out _ w' hgap (HBR.out.trans (hb'.mono (by have := HBR.out.size; omega)))
        rw [hx] at hC
        clear hst hx hgap HK HO hMk
        go_wp2_with fail
        have hb6 := hb45
        have hs6 : w5.heap.size = w5.heap.size := rfl
        have y0' := y0
        have y1' := y1
        have p0'' := p0'
        have p1'' := p1'
        have f0'' := f0'
        have f1'' := f1'
        clear hw5
        refine (hC _ hb6).mono ?_
        rintro e w7 ⟨rfl, hb7⟩
        have hs7 := hb7.size
        have hb67 := bstep hb6 hb7
        have hown7 := own_belowN Hown.out hb67
        have z0 := (hb7.cell (p := ⟨w4.heap.size, 0, none⟩) (by show w4.heap.size < _; omega)).trans y0'
        have z1 := (hb7.cell (p := ⟨w4.heap.size, 1, none⟩) (by show w4.heap.size < _; omega)).trans y1'
        have a0 := (hb7.cell (p := ⟨g, 0, none⟩) (by show g < _; omega)).trans p0''
        have a1 := (hb7.cell (p := ⟨g, 1, none⟩) (by show g < _; omega)).trans p1''
        have b0 := (hb7.frozen (p := ⟨g, 0, none⟩) (by show g < _; omega)).trans f0''
        have b1 := (hb7.frozen (p := ⟨g, 1, none⟩) (by show g < _; omega)).trans f1''
        have HB67 := Lib.hid hb67
        clear hb7 hb67 hC y0' y1' p0'' p1'' f0'' f1'' hb6 y0 y1 v0 v1 p0' p1' f0' f1'
        go_wp2_with (at_builtin; refine wpList_append_own _ rfl _ _ 22 rfl (g + 1) 3 i0 (.int .i64 0) 1 8 Tryz.underlying22 hi hz0 hz1 hz2 rfl (by decide) _ _ _ rfl (World.ownsRow.alloc hown7 _) ⟨w7.heap.size, 0, none⟩ 1 1 [.int .i64 x] rfl rfl ?c1 ?c2 ?c3 ?c4 ?c5 ?_)
        case c1 =>
          intro j u hj
          match j, hj with
          | 0, hj => simp at hj; subst hj; simp [Addr.add]
        case c2 => intro u hu; simp at hu; subst hu; rfl
        case c3 => unfold maxLen; omega
        case c4 => omega
        case c5 => simp; omega
        intro v' w8 hown8 hgrow _
        have hs8 := hgrow.size
        have hs8' : w7.heap.size + 1 ≤ w8.heap.size := by simpa using hs8
        have n0 := own_ne (b := w4.heap.size) Hown.out (.inr (by omega))
        have n1 := own_ne (b := g) Hown.out (.inl (by omega))
        have z0' := app_cell hgrow (by omega) n0 z0
        have z1' := app_cell hgrow (by omega) n0 z1
        have a0' := app_cell hgrow (by omega) n1 a0
        have a1' := app_cell hgrow (by omega) n1 a1
        have b0' := app_frozen hgrow (by omega) n1 b0
        have b1' := app_frozen hgrow (by omega) n1 b1
        have hb8 : Below g w3 w8 := ((HB.out.trans (HB67.out.mono (by omega))).alloc (by omega) _).grown hgrow (by simp; omega) (fun r hr => Nat.le_of_succ_le (World.ownsRow.lt hown7 r hr).1)
        have HOW : Hid (OwnV w8 (g + 1) 3 v' (P ++ [.int .i64 x])) := Lib.hid (OwnV.next (by rw [hP]; exact hown8))
        have HB8 := Lib.hid hb8
        clear hown8 hgrow hb8 hown7 z0 z1 a0 a1 b0 b1 n0 n1
        go_wp2
        go_roundw
        case rel => exact ⟨k + 1, (d, f), _, by omega, by simp [hP], by go_num, HST, HO2, ownsRow_setCell_below (ownsRow_setCell_below HOW.out (a := ⟨g, 0, none⟩) (Nat.lt_succ_self g) _) (a := ⟨g, 1, none⟩) (Nat.lt_succ_self g) _, (HB8.out.setCell (p := ⟨g, 0, none⟩) (Nat.le_refl _) _).setCell (p := ⟨g, 1, none⟩) (Nat.le_refl _) _, (set2 a0' a1').1, (set2 a0' a1').2, set2f.trans b0', set2f.trans b1'⟩
        case measure => simp [intOf]; omega
    · have hkn : k = n := by omega
      have hx := HK.out
      rw [hkn, List.drop_of_length_le (by rw [List.length_append, HLm.out]; simp; omega), gapF, List.map_nil, List.append_nil] at hx
      subst hx
      have hbw : Below w.heap.size w wr := HB1.out.trans (hbr.mono (by rw [hs1]; omega))
      have hgw : w.heap.size ≤ g + 1 := by omega
      have HOW := Lib.hid hown
      clear HK HO hown hb hI hE p0 p1 f0 f1
      go_wp2
      go_ret2
      exact ⟨_, _, rfl, hgw, HOW.out, hbw⟩
set_option maxHeartbeats 4000000 in
theorem trOfLegsI_bad (G : List Int) (n cap : Nat) (A : Option Addr) (z b : Int) (L : List (Int × Int)) (m cE : Nat) (E : Option Addr) (f : Int) (w : World)
    (hG : IntsZ w A n G) (hn : n ≤ 100) (hc : n ≤ cap) (hE : Pairs w E m L) (hm : m ≤ 100) (h0 : (crW G z b L f).2 ≠ 0) :
    Calls Tryz.prog 56 #[.agg #[.slice A n cap, .int .i64 z, .int .i64 b], .slice E m cE, .int .i64 f, .func (.func 57) #[] #[]] w
      (RetPost (.tuple #[.slice none 0 0, .int .i64 (crW G z b L f).2]) w) := by
  obtain ⟨w1, hw1⟩ : ∃ w1, w.alloc (.cells #[.slice A n cap, .int .i64 z, .int .i64 b] 24) = w1 := ⟨_, rfl⟩
  have hB1 : Below w.heap.size w w1 := by rw [← hw1]; exact balloc _ (Below.refl _ _)
  have hs1 : w1.heap.size = w.heap.size + 1 := by rw [← hw1]; simp
  have c0 : w1.cell? ⟨w.heap.size, 0, none⟩ = some (.slice A n cap) := by rw [← hw1]; simp
  have c1 : w1.cell? ⟨w.heap.size, 1, none⟩ = some (.int .i64 z) := by rw [← hw1]; simp
  have c2 : w1.cell? ⟨w.heap.size, 2, none⟩ = some (.int .i64 b) := by rw [← hw1]; simp
  have hR := trCheckRun_any G n cap A z b L m cE E f w1 (hG.below hB1) hn hc (hE.below hB1) hm
  obtain ⟨Y, hY⟩ : ∃ Y, crW G z b L f = Y := ⟨_, rfl⟩
  rw [hY] at hR h0 ⊢
  have hb0 : (Y.2 != 0) = true := by rw [bne_iff_ne]; exact h0
  have HB1 := Lib.hid hB1
  clear hG hE hY hB1 h0
  go_enter Tryz.func56, Tryz.ntmps56
  go_wp2_with fail
  clear hw1
  refine hR.mono ?_
  rintro e w2 ⟨rfl, hb2⟩
  have hbw := HB1.out.trans (hb2.mono (by rw [hs1]; omega))
  clear hb2 hR
  go_wp2
  go_ret2
  exact ⟨rfl, hbw⟩
set_option maxHeartbeats 8000000 in
theorem trOfLegsR_ok (val : Int × Int → Value) (ok : Int × Int → Prop) (hval : ∀ g, ∃ x, val g = .string x) (G : List Int) (n cap : Nat) (A : Option Addr) (z b : Int) (L : List (Int × Int)) (m cE : Nat) (E : Option Addr) (f : Int) (w : World)
    (hG : IntsZ w A n G) (hn : n ≤ 100) (hc : n ≤ cap) (hE : Pairs w E m L) (hm : m + 1 = n) (h0 : crW G z b L f = (0, 0))
    (hok : ∀ g ∈ gapF (0, 0) (L ++ [(sumW G 0, f)]), ok g)
    (hV : ∀ g w', ok g → Below w.heap.size w w' → Calls Tryz.prog 59 #[.int .i64 g.1, .int .i64 g.2] w' (RetPost (val g) w')) :
    Calls Tryz.prog 58 #[.agg #[.slice A n cap, .int .i64 z, .int .i64 b], .slice E m cE, .int .i64 f, .func (.func 59) #[] #[]] w
      (fun e w' => ∃ v B, e = .returned (.tuple #[v, .int .i64 0]) ∧ w.heap.size ≤ B ∧ OwnV w' B 70 v ((gapF (0, 0) (L ++ [(sumW G 0, f)])).map val) ∧ Below w.heap.size w w') := by
  obtain ⟨i0, hi, hz0, hz1, hz2⟩ := info_parts infoRat
  obtain ⟨w1, hw1⟩ : ∃ w1, w.alloc (.cells #[.slice A n cap, .int .i64 z, .int .i64 b] 24) = w1 := ⟨_, rfl⟩
  have hB1 : Below w.heap.size w w1 := by rw [← hw1]; exact balloc _ (Below.refl _ _)
  have hs1 : w1.heap.size = w.heap.size + 1 := by rw [← hw1]; simp
  have c0 : w1.cell? ⟨w.heap.size, 0, none⟩ = some (.slice A n cap) := by rw [← hw1]; simp
  have c1 : w1.cell? ⟨w.heap.size, 1, none⟩ = some (.int .i64 z) := by rw [← hw1]; simp
  have c2 : w1.cell? ⟨w.heap.size, 2, none⟩ = some (.int .i64 b) := by rw [← hw1]; simp
  have hR := trCheckRun_any G n cap A z b L m cE E f w1 (hG.below hB1) hn hc (hE.below hB1) (by omega)
  rw [h0] at hR
  have HCE : Hid (∀ w', Below w1.heap.size w1 w' → w'.cell? ⟨w.heap.size, 0, none⟩ = some (.slice A n cap) ∧ w'.cell? ⟨w.heap.size, 1, none⟩ = some (.int .i64 z) ∧ w'.cell? ⟨w.heap.size, 2, none⟩ = some (.int .i64 b) ∧ IntsZ w' A n G ∧ Pairs w' E m L) := Lib.hid fun w' hb =>
    ⟨(hb.cell (p := ⟨w.heap.size, 0, none⟩) (by show w.heap.size < _; omega)).trans c0, (hb.cell (p := ⟨w.heap.size, 1, none⟩) (by show w.heap.size < _; omega)).trans c1, (hb.cell (p := ⟨w.heap.size, 2, none⟩) (by show w.heap.size < _; omega)).trans c2, (hG.below hB1).below hb, (hE.below hB1).below hb⟩
  have HD : Hid (∀ w', Below w1.heap.size w1 w' → Calls Tryz.prog 98 #[.agg #[.slice A n cap, .int .i64 z, .int .i64 b]] w' (RetPost (.int .i64 (sumW G 0)) w')) := Lib.hid fun w' hb => trDist_any G n cap A z b w' ((hG.below hB1).below hb) hn
  have HV : Hid (∀ g w', ok g → Below w1.heap.size w1 w' → Calls Tryz.prog 59 #[.int .i64 g.1, .int .i64 g.2] w' (RetPost (val g) w')) := Lib.hid fun g w' h hb => hV g w' h (hB1.trans (hb.mono (by omega)))
  obtain ⟨d, hd⟩ : ∃ d, sumW G 0 = d := ⟨_, rfl⟩
  rw [hd] at HD hok ⊢
  have hLm : L.length = m := hE.1
  obtain ⟨F, hF⟩ : ∃ F, (gapF (0, 0) (L ++ [(d, f)])).map val = F := ⟨_, rfl⟩
  rw [hF]
  have HF : Hid ([] ++ (gapF (0, 0) ((L ++ [(d, f)]).drop 0)).map val = F) := Lib.hid hF
  have HOK : Hid (∀ g ∈ gapF (0, 0) ((L ++ [(d, f)]).drop 0), ok g) := Lib.hid hok
  have HLm := Lib.hid hLm
  have HB1 := Lib.hid hB1
  have HVAL := Lib.hid hval
  have hni : (n : Int) ≤ 100 := by omega
  have hmn : (m : Int) + 1 = (n : Int) := by omega
  have hw1' := hw1
  clear hG hE h0 hV hd hF hok hB1 hLm hval
  go_enter Tryz.func58, Tryz.ntmps58
  go_wp2_with fail
  clear hw1 hw1' c0 c1 c2
  refine hR.mono ?_
  rintro e w2 ⟨rfl, hb2⟩
  have hs2 := hb2.size
  obtain ⟨w3, hw3⟩ : ∃ w3, w2.alloc (.cells #[.int .i64 0, .int .i64 0] 68) = w3 := ⟨_, rfl⟩
  have hb3 : Below w2.heap.size w2 w3 := by rw [← hw3]; exact balloc _ (Below.refl _ _)
  have hs3 : w3.heap.size = w2.heap.size + 1 := by rw [← hw3]; simp
  have x0 : w3.cell? ⟨w2.heap.size, 0, none⟩ = some (.int .i64 0) := by rw [← hw3]; simp
  have x1 : w3.cell? ⟨w2.heap.size, 1, none⟩ = some (.int .i64 0) := by rw [← hw3]; simp
  have z0 : w3.frozen? ⟨w2.heap.size, 0, none⟩ = false := by rw [← hw3]; simp
  have z1 : w3.frozen? ⟨w2.heap.size, 1, none⟩ = false := by rw [← hw3]; simp
  have hb13 := bstep hb2 hb3
  obtain ⟨c0, c1, c2, _, _⟩ := HCE.out _ hb13
  have HB2 := Lib.hid hb2
  have HB3 := Lib.hid hb3
  clear hR hb2 hb3 hb13
  go_wp2
  try rw [hw3]
  clear hw3
  obtain ⟨g, hg⟩ : ∃ g, w2.heap.size = g := ⟨_, rfl⟩
  rw [hg] at HB3 x0 x1 z0 z1 hs3 hs2 ⊢
  have HG := Lib.hid hg
  clear hg
  go_loopw [12, 29] (fun v i wr => ∃ (k : Nat) (p : Int × Int) (P : List Value), k ≤ n ∧ P.length = k ∧ i = .int .i64 k ∧ Hid (P ++ (gapF p ((L ++ [(d, f)]).drop k)).map val = F) ∧ Hid (∀ g ∈ gapF p ((L ++ [(d, f)]).drop k), ok g) ∧ OwnV wr (g + 1) 70 v P ∧ Below g w3 wr ∧ wr.cell? ⟨g, 0, none⟩ = some (.int .i64 p.1) ∧ wr.cell? ⟨g, 1, none⟩ = some (.int .i64 p.2) ∧ wr.frozen? ⟨g, 0, none⟩ = false ∧ wr.frozen? ⟨g, 1, none⟩ = false) (fun _ i _ => n - (intOf i).toNat)
  case atStart => exact ⟨0, (0, 0), [], by omega, rfl, rfl, HF, HOK, World.ownsRow_nil _ _ _ _, Below.refl _ _, x0, x1, z0, z1⟩
  case round =>
    obtain ⟨k, p, P, hk, hP, rfl, HK, HO, hown, hb, p0, p1, f0, f1⟩ := hrel
    have hbr : Below w1.heap.size w1 wr := HB2.out.trans ((HB3.out.trans hb).mono hs2)
    obtain ⟨c0, c1, c2, hI, hE⟩ := HCE.out _ hbr
    have hgr : g < wr.heap.size := by have := hb.size; omega
    clear x0 x1 z0 z1
    by_cases hlt : k < n
    · have hki : (k : Int) < (n : Int) := by omega
      have hk0 : (0 : Int) ≤ (k : Int) := by omega
      have hkt : ((k : Int)).toNat = k := by omega
      have hD := HD.out wr hbr
      have HI := Lib.hid hI
      have HE := Lib.hid hE
      have HBR := Lib.hid hbr
      clear hI hE hbr
      go_wp2_with fail
      refine hD.mono ?_
      rintro e w4 ⟨rfl, hb4⟩
      have hs4 := hb4.size
      obtain ⟨w5, hw5⟩ : ∃ w5, w4.alloc (.cells #[.int .i64 d, .int .i64 f] 68) = w5 := ⟨_, rfl⟩
      have hb5 : Below w4.heap.size w4 w5 := by rw [← hw5]; exact balloc _ (Below.refl _ _)
      have hs5 : w5.heap.size = w4.heap.size + 1 := by rw [← hw5]; simp
      have y0 : w5.cell? ⟨w4.heap.size, 0, none⟩ = some (.int .i64 d) := by rw [← hw5]; simp
      have y1 : w5.cell? ⟨w4.heap.size, 1, none⟩ = some (.int .i64 f) := by rw [← hw5]; simp
      have v0 : w5.frozen? ⟨w4.heap.size, 0, none⟩ = false := by rw [← hw5]; simp
      have v1 : w5.frozen? ⟨w4.heap.size, 1, none⟩ = false := by rw [← hw5]; simp
      have hb45 : Below wr.heap.size wr w5 := bstep hb4 hb5
      have p0' := (hb45.cell (p := ⟨g, 0, none⟩) hgr).trans p0
      have p1' := (hb45.cell (p := ⟨g, 1, none⟩) hgr).trans p1
      have f0' := (hb45.frozen (p := ⟨g, 0, none⟩) hgr).trans f0
      have f1' := (hb45.frozen (p := ⟨g, 1, none⟩) hgr).trans f1
      have Hown := Lib.hid hown
      have HB := Lib.hid hb
      clear p0 p1 f0 f1 hown hb c0 c1 c2 hb4 hb5 hD
      by_cases hkm : k < m
      · obtain ⟨be, oe, q, rfl, hbe, hq, q0, q1⟩ := HE.out.at_ hkm
        have hki2 : (k : Int) < (m : Int) := by omega
        have q0' := (hb45.cell (p := ⟨be, oe + k * 2, none⟩) hbe).trans q0
        have q1' := (hb45.cell (p := ⟨be, oe + k * 2 + 1, none⟩) hbe).trans q1
        have hMk : (L ++ [(d, f)])[k]? = some q := by rw [List.getElem?_append_left (by rw [HLm.out]; exact hkm)]; exact hq
        clear q0 q1 hq
        have hgap : ok (wrap64 (q.1 - p.1), wrap64 (q.2 - p.2)) := HO.out _ (by rw [gapF_drop p hMk]; exact List.mem_cons_self)
        obtain ⟨x, hx⟩ := HVAL.out (wrap64 (q.1 - p.1), wrap64 (q.2 - p.2))
        have hst : P ++ (val (wrap64 (q.1 - p.1), wrap64 (q.2 - p.2)) :: (gapF q ((L ++ [(d, f)]).drop (k + 1))).map val) = F := by have := HK.out; rw [gapF_drop p hMk, List.map_cons] at this; exact this
        have HO2 : Hid (∀ y ∈ gapF q ((L ++ [(d, f)]).drop (k + 1)), ok y) := Lib.hid fun y hy => HO.out y (by rw [gapF_drop p hMk]; exact List.mem_cons_of_mem _ hy)
        rw [hx] at hst
        have HST : Hid ((P ++ [.string x]) ++ (gapF q ((L ++ [(d, f)]).drop (k + 1))).map val = F) := Lib.hid (by rw [← hst]; simp)
        have hC := fun w' (hb' : Below wr.heap.size wr w') => HV.out _ w' hgap (HBR.out.trans (hb'.mono (by have := HBR.out.size; omega)))
        rw [hx] at hC
        clear hst hx hgap HK HO hMk
        go_wp2_with fail
        obtain ⟨w6, hw6⟩ : ∃ w6, (w5.setCell ⟨w4.heap.size, 0, none⟩ (.int .i64 q.1)).setCell ⟨w4.heap.size, 1, none⟩ (.int .i64 q.2) = w6 := ⟨_, rfl⟩
        rw [hw6]
        have hb6 : Below wr.heap.size wr w6 := by rw [← hw6]; exact (hb45.setCell (p := ⟨w4.heap.size, 0, none⟩) (by show wr.heap.size ≤ _; omega) _).setCell (p := ⟨w4.heap.size, 1, none⟩) (by show wr.heap.size ≤ _; omega) _
        have hs6 : w6.heap.size = w5.heap.size := by rw [← hw6]; simp
        have y0' : w6.cell? ⟨w4.heap.size, 0, none⟩ = some (.int .i64 q.1) := by rw [← hw6]; exact (set2 y0 y1).1
        have y1' : w6.cell? ⟨w4.heap.size, 1, none⟩ = some (.int .i64 q.2) := by rw [← hw6]; exact (set2 y0 y1).2
        have p0'' : w6.cell? ⟨g, 0, none⟩ = some (.int .i64 p.1) := by rw [← hw6]; exact (set2o (by omega)).trans p0'
        have p1'' : w6.cell? ⟨g, 1, none⟩ = some (.int .i64 p.2) := by rw [← hw6]; exact (set2o (by omega)).trans p1'
        have f0'' : w6.frozen? ⟨g, 0, none⟩ = false := by rw [← hw6]; exact set2f.trans f0'
        have f1'' : w6.frozen? ⟨g, 1, none⟩ = false := by rw [← hw6]; exact set2f.trans f1'
        clear hw6 q0' q1' hw5
        refine (hC _ hb6).mono ?_
        rintro e w7 ⟨rfl, hb7⟩
        have hs7 := hb7.size
        have hb67 := bstep hb6 hb7
        have hown7 := own_belowN Hown.out hb67
        have z0 := (hb7.cell (p := ⟨w4.heap.size, 0, none⟩) (by show w4.heap.size < _; omega)).trans y0'
        have z1 := (hb7.cell (p := ⟨w4.heap.size, 1, none⟩) (by show w4.heap.size < _; omega)).trans y1'
        have a0 := (hb7.cell (p := ⟨g, 0, none⟩) (by show g < _; omega)).trans p0''
        have a1 := (hb7.cell (p := ⟨g, 1, none⟩) (by show g < _; omega)).trans p1''
        have b0 := (hb7.frozen (p := ⟨g, 0, none⟩) (by show g < _; omega)).trans f0''
        have b1 := (hb7.frozen (p := ⟨g, 1, none⟩) (by show g < _; omega)).trans f1''
        have HB67 := Lib.hid hb67
        clear hb7 hb67 hC y0' y1' p0'' p1'' f0'' f1'' hb6 y0 y1 v0 v1 p0' p1' f0' f1'
        go_wp2_with (at_builtin; refine wpList_append_own _ rfl _ _ 40 rfl (g + 1) 70 i0 (.string ⟨#[]⟩) 1 16 Tryz.underlying40 hi hz0 hz1 hz2 rfl (by decide) _ _ _ rfl (World.ownsRow.alloc hown7 _) ⟨w7.heap.size, 0, none⟩ 1 1 [.string x] rfl rfl ?c1 ?c2 ?c3 ?c4 ?c5 ?_)
        case c1 =>
          intro j u hj
          match j, hj with
          | 0, hj => simp at hj; subst hj; simp [Addr.add]
        case c2 => intro u hu; simp at hu; subst hu; rfl
        case c3 => unfold maxLen; omega
        case c4 => omega
        case c5 => simp; omega
        intro v' w8 hown8 hgrow _
        have hs8 := hgrow.size
        have hs8' : w7.heap.size + 1 ≤ w8.heap.size := by simpa using hs8
        have n0 := own_ne (b := w4.heap.size) Hown.out (.inr (by omega))
        have n1 := own_ne (b := g) Hown.out (.inl (by omega))
        have z0' := app_cell hgrow (by omega) n0 z0
        have z1' := app_cell hgrow (by omega) n0 z1
        have a0' := app_cell hgrow (by omega) n1 a0
        have a1' := app_cell hgrow (by omega) n1 a1
        have b0' := app_frozen hgrow (by omega) n1 b0
        have b1' := app_frozen hgrow (by omega) n1 b1
        have hb8 : Below g w3 w8 := ((HB.out.trans (HB67.out.mono (by omega))).alloc (by omega) _).grown hgrow (by simp; omega) (fun r hr => Nat.le_of_succ_le (World.ownsRow.lt hown7 r hr).1)
        have HOW : Hid (OwnV w8 (g + 1) 70 v' (P ++ [.string x])) := Lib.hid (OwnV.next (by rw [hP]; exact hown8))
        have HB8 := Lib.hid hb8
        clear hown8 hgrow hb8 hown7 z0 z1 a0 a1 b0 b1 n0 n1
        go_wp2
        go_roundw
        case rel => exact ⟨k + 1, q, _, by omega, by simp [hP], by go_num, HST, HO2, ownsRow_setCell_below (ownsRow_setCell_below HOW.out (a := ⟨g, 0, none⟩) (Nat.lt_succ_self g) _) (a := ⟨g, 1, none⟩) (Nat.lt_succ_self g) _, (HB8.out.setCell (p := ⟨g, 0, none⟩) (Nat.le_refl _) _).setCell (p := ⟨g, 1, none⟩) (Nat.le_refl _) _, (set2 a0' a1').1, (set2 a0' a1').2, set2f.trans b0', set2f.trans b1'⟩
        case measure => simp [intOf]; omega
      · have hki2 : ¬ (k : Int) < (m : Int) := by omega
        have hMk : (L ++ [(d, f)])[k]? = some (d, f) := by rw [List.getElem?_append_right (by rw [HLm.out]; omega), HLm.out, show k - m = 0 by omega]; rfl
        have hgap : ok (wrap64 (d - p.1), wrap64 (f - p.2)) := HO.out _ (by rw [gapF_drop p hMk]; exact List.mem_cons_self)
        obtain ⟨x, hx⟩ := HVAL.out (wrap64 (d - p.1), wrap64 (f - p.2))
        have hst : P ++ (val (wrap64 (d - p.1), wrap64 (f - p.2)) :: (gapF (d, f) ((L ++ [(d, f)]).drop (k + 1))).map val) = F := by have := HK.out; rw [gapF_drop p hMk, List.map_cons] at this; exact this
        have HO2 : Hid (∀ y ∈ gapF (d, f) ((L ++ [(d, f)]).drop (k + 1)), ok y) := Lib.hid fun y hy => HO.out y (by rw [gapF_drop p hMk]; exact List.mem_cons_of_mem _ hy)
        rw [hx] at hst
        have HST : Hid ((P ++ [.string x]) ++ (gapF (d, f) ((L ++ [(d, f)]).drop (k + 1))).map val = F) := Lib.hid (by rw [← hst]; simp)
        have hC := fun w' (hb' : Below wr.heap.size wr w') => HV.out _ w' hgap (HBR.out.trans (hb'.mono (by have := HBR.out.size; omega)))
        rw [hx] at hC
        clear hst hx hgap HK HO hMk
        go_wp2_with fail
        have hb6 := hb45
        have hs6 : w5.heap.size = w5.heap.size := rfl
        have y0' := y0
        have y1' := y1
        have p0'' := p0'
        have p1'' := p1'
        have f0'' := f0'
        have f1'' := f1'
        clear hw5
        refine (hC _ hb6).mono ?_
        rintro e w7 ⟨rfl, hb7⟩
        have hs7 := hb7.size
        have hb67 := bstep hb6 hb7
        have hown7 := own_belowN Hown.out hb67
        have z0 := (hb7.cell (p := ⟨w4.heap.size, 0, none⟩) (by show w4.heap.size < _; omega)).trans y0'
        have z1 := (hb7.cell (p := ⟨w4.heap.size, 1, none⟩) (by show w4.heap.size < _; omega)).trans y1'
        have a0 := (hb7.cell (p := ⟨g, 0, none⟩) (by show g < _; omega)).trans p0''
        have a1 := (hb7.cell (p := ⟨g, 1, none⟩) (by show g < _; omega)).trans p1''
        have b0 := (hb7.frozen (p := ⟨g, 0, none⟩) (by show g < _; omega)).trans f0''
        have b1 := (hb7.frozen (p := ⟨g, 1, none⟩) (by show g < _; omega)).trans f1''
        have HB67 := Lib.hid hb67
        clear hb7 hb67 hC y0' y1' p0'' p1'' f0'' f1'' hb6 y0 y1 v0 v1 p0' p1' f0' f1'
        go_wp2_with (at_builtin; refine wpList_append_own _ rfl _ _ 40 rfl (g + 1) 70 i0 (.string ⟨#[]⟩) 1 16 Tryz.underlying40 hi hz0 hz1 hz2 rfl (by decide) _ _ _ rfl (World.ownsRow.alloc hown7 _) ⟨w7.heap.size, 0, none⟩ 1 1 [.string x] rfl rfl ?c1 ?c2 ?c3 ?c4 ?c5 ?_)
        case c1 =>
          intro j u hj
          match j, hj with
          | 0, hj => simp at hj; subst hj; simp [Addr.add]
        case c2 => intro u hu; simp at hu; subst hu; rfl
        case c3 => unfold maxLen; omega
        case c4 => omega
        case c5 => simp; omega
        intro v' w8 hown8 hgrow _
        have hs8 := hgrow.size
        have hs8' : w7.heap.size + 1 ≤ w8.heap.size := by simpa using hs8
        have n0 := own_ne (b := w4.heap.size) Hown.out (.inr (by omega))
        have n1 := own_ne (b := g) Hown.out (.inl (by omega))
        have z0' := app_cell hgrow (by omega) n0 z0
        have z1' := app_cell hgrow (by omega) n0 z1
        have a0' := app_cell hgrow (by omega) n1 a0
        have a1' := app_cell hgrow (by omega) n1 a1
        have b0' := app_frozen hgrow (by omega) n1 b0
        have b1' := app_frozen hgrow (by omega) n1 b1
        have hb8 : Below g w3 w8 := ((HB.out.trans (HB67.out.mono (by omega))).alloc (by omega) _).grown hgrow (by simp; omega) (fun r hr => Nat.le_of_succ_le (World.ownsRow.lt hown7 r hr).1)
        have HOW : Hid (OwnV w8 (g + 1) 70 v' (P ++ [.string x])) := Lib.hid (OwnV.next (by rw [hP]; exact hown8))
        have HB8 := Lib.hid hb8
        clear hown8 hgrow hb8 hown7 z0 z1 a0 a1 b0 b1 n0 n1
        go_wp2
        go_roundw
        case rel => exact ⟨k + 1, (d, f), _, by omega, by simp [hP], by go_num, HST, HO2, ownsRow_setCell_below (ownsRow_setCell_below HOW.out (a := ⟨g, 0, none⟩) (Nat.lt_succ_self g) _) (a := ⟨g, 1, none⟩) (Nat.lt_succ_self g) _, (HB8.out.setCell (p := ⟨g, 0, none⟩) (Nat.le_refl _) _).setCell (p := ⟨g, 1, none⟩) (Nat.le_refl _) _, (set2 a0' a1').1, (set2 a0' a1').2, set2f.trans b0', set2f.trans b1'⟩
        case measure => simp [intOf]; omega
    · have hkn : k = n := by omega
      have hx := HK.out
      rw [hkn, List.drop_of_length_le (by rw [List.length_append, HLm.out]; simp; omega), gapF, List.map_nil, List.append_nil] at hx
      subst hx
      have hbw : Below w.heap.size w wr := HB1.out.trans (hbr.mono (by rw [hs1]; omega))
      have hgw : w.heap.size ≤ g + 1 := by omega
      have HOW := Lib.hid hown
      clear HK HO hown hb hI hE p0 p1 f0 f1
      go_wp2
      go_ret2
      exact ⟨_, _, rfl, hgw, HOW.out, hbw⟩
set_option maxHeartbeats 4000000 in
theorem trOfLegsR_bad (G : List Int) (n cap : Nat) (A : Option Addr) (z b : Int) (L : List (Int × Int)) (m cE : Nat) (E : Option Addr) (f : Int) (w : World)
    (hG : IntsZ w A n G) (hn : n ≤ 100) (hc : n ≤ cap) (hE : Pairs w E m L) (hm : m ≤ 100) (h0 : (crW G z b L f).2 ≠ 0) :
    Calls Tryz.prog 58 #[.agg #[.slice A n cap, .int .i64 z, .int .i64 b], .slice E m cE, .int .i64 f, .func (.func 59) #[] #[]] w
      (RetPost (.tuple #[.slice none 0 0, .int .i64 (crW G z b L f).2]) w) := by
  obtain ⟨w1, hw1⟩ : ∃ w1, w.alloc (.cells #[.slice A n cap, .int .i64 z, .int .i64 b] 24) = w1 := ⟨_, rfl⟩
  have hB1 : Below w.heap.size w w1 := by rw [← hw1]; exact balloc _ (Below.refl _ _)
  have hs1 : w1.heap.size = w.heap.size + 1 := by rw [← hw1]; simp
  have c0 : w1.cell? ⟨w.heap.size, 0, none⟩ = some (.slice A n cap) := by rw [← hw1]; simp
  have c1 : w1.cell? ⟨w.heap.size, 1, none⟩ = some (.int .i64 z) := by rw [← hw1]; simp
  have c2 : w1.cell? ⟨w.heap.size, 2, none⟩ = some (.int .i64 b) := by rw [← hw1]; simp
  have hR := trCheckRun_any G n cap A z b L m cE E f w1 (hG.below hB1) hn hc (hE.below hB1) hm
  obtain ⟨Y, hY⟩ : ∃ Y, crW G z b L f = Y := ⟨_, rfl⟩
  rw [hY] at hR h0 ⊢
  have hb0 : (Y.2 != 0) = true := by rw [bne_iff_ne]; exact h0
  have HB1 := Lib.hid hB1
  clear hG hE hY hB1 h0
  go_enter Tryz.func58, Tryz.ntmps58
  go_wp2_with fail
  clear hw1
  refine hR.mono ?_
  rintro e w2 ⟨rfl, hb2⟩
  have hbw := HB1.out.trans (hb2.mono (by rw [hs1]; omega))
  clear hb2 hR
  go_wp2
  go_ret2
  exact ⟨rfl, hbw⟩
end Go.Mk
