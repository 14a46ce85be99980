/-
  Proved: the law FieldImproves returns true, once awake does, and leaves all that was there, for rows that are short, at most 8 and at least 1, and have no error. Conditions: the rows lie where the slice says.
-/
import Derived.Test.YthgkaojplomapaaGreatDoorFvh
import Derived.Test.YthgkaojplomapaaGreatDoorFva
import Derived.Test.YthgkaojplomapaaGreatDoorFrh
import Derived.Test.YthgkaojplomapaaGreatDoorFrl
set_option linter.unusedVariables false
set_option linter.unusedSimpArgs false
open Go Go.Proofs Go.RowKit
set_option maxRecDepth 100000
namespace Go.Mk
theorem neqMark (k : ByteArray) (v : Int) (r : ByteArray) (w : World) : (binOp .neq 59 (.agg #[.string k, .int .i64 v, .string r]) (.agg #[.string k, .int .i64 v, .string r])).run Tryz.prog w = .ok (.bool false) w := by
 have h : (Op.equal 59 (.agg #[.string k, .int .i64 v, .string r]) (.agg #[.string k, .int .i64 v, .string r])).run Tryz.prog w = .ok true w := eqMark 9998 k v r w
 simp only [binOp, Sem.run_bind, h, Result.andThen_ok, Sem.run_pure, Bool.not_true]
theorem guardMark (x y : Operand) (fs gs : Array Value) (w : World) : (eqGuard .neq 59 x y (.agg fs) (.agg gs)).run Tryz.prog w = .ok () w := by kernel_rfl
set_option maxHeartbeats 16000000 in
theorem imp6_main (L : List RowR) (n cap : Nat) (A : Option Addr) (pk b : Nat) (w : World) (hZ : Rows w A n L) (hs : ∀ r ∈ L, r.s.size ≤ maxLen ∧ (r.n : Int) ≤ 9223372036854775807 ∧ (r.A = none → r.c = 0) ∧ r.T.length = r.n)
  (hA : ∀ w', Below w.heap.size w w' → Calls Tryz.prog 7 #[] w' (RetPost (.bool true) w')) (hp : pk ≤ 255) (hb : b ≤ 255) (h1 : shR L = true) (h8 : n ≤ 8) (h0 : 0 < n) (hr : rowsE L = 0) :
  Calls Tryz.prog 4 #[.slice A n cap, .int .u8 (pk : Int), .int .u8 (b : Int)] w (RetPost (.bool true) w) := by
 obtain ⟨i0, hi, hz0, hz1, hz2⟩ := info_parts infoRow
 have hS := l6shortRows_any L n cap A w hZ (by omega) (fun r hr => ⟨(hs r hr).1, (hs r hr).2.1⟩)
 rw [h1] at hS
 obtain ⟨h35, hsr⟩ := shR_true h1
 have hL : ∀ r ∈ L, r.s.size ≤ 40 ∧ r.n ≤ 10 ∧ r.T.length = r.n := fun r hr => ⟨(hsr r hr).1, (hsr r hr).2, (hs r hr).2.2.2⟩
 have HAW := Lib.hid hA
 have HRW : Hid (∀ w', Below w.heap.size w w' → Calls Tryz.prog 23 #[.slice A n cap] w' (fun e w'' => ∃ v L', e = .returned v ∧ L'.map nrm = L.map nrm ∧ (OwnRows w'' w'.heap.size v L' ∧ AprR L') ∧ Below w'.heap.size w' w'')) := Lib.hid fun w' hb =>
  l6rowsD_any L n cap A w' (hZ.below hb) (by omega) (fun r hr => ⟨by have := (hsr r hr).2; omega, (hs r hr).2.2.1⟩)
 have HRC : Hid (∀ w', Below w.heap.size w w' → Calls Tryz.prog 22 #[.slice A n cap] w' (RetPost (.int .i64 0) w')) := Lib.hid fun w' hb => by
  rw [← hr]
  exact r6CheckRows_any L n cap A w' (hZ.below hb) (by omega) (fun r hr => ⟨(hs r hr).1, by have := (hsr r hr).2; omega⟩)
 obtain ⟨k, hk⟩ : ∃ k, pk % n = k := ⟨_, rfl⟩
 have hkn : k < n := by rw [← hk]; exact Nat.mod_lt _ h0
 obtain ⟨r, hkr⟩ : ∃ r, L[k]? = some r := ⟨_, List.getElem?_eq_getElem (by rw [hZ.1]; exact hkn)⟩
 obtain ⟨r', hr'⟩ : ∃ r' : RowR, (⟨r.s, none, if r.n = 0 then 1 else r.n, 0, newT r.T b, r.rt⟩ : RowR) = r' := ⟨_, rfl⟩
 have hro := rows_ok hr
 have hrm := List.mem_of_getElem? hkr
 obtain ⟨t1, t2, t3, t4⟩ := newT_ok (T := r.T) (b := b) (hro.2 r hrm).2 hb
 have hr6 := (hro.2 r hrm).1
 have hTr := (hL r hrm).2.2
 have hs' : r'.s = r.s := by rw [← hr']
 have hT' : r'.T = newT r.T b := by rw [← hr']
 have hn' : r'.n = if r.n = 0 then 1 else r.n := by rw [← hr']
 have ht' : trialsE r' = 0 := by
  unfold trialsE
  rw [if_neg (by rw [hn']; split <;> omega), hT']
  exact trsE_of t1
 have hL2 : ∀ q ∈ L.set k r', q.s.size ≤ 40 ∧ q.n ≤ 10 ∧ q.T.length = q.n := fun q hq => by
  rcases List.mem_or_eq_of_mem_set hq with hq | rfl
  ·exact hL q hq
  ·rw [hs', hn', hT', t4, hTr]
   exact ⟨(hL r hrm).1, by split <;> omega, rfl⟩
 have hL3 : ∀ q ∈ L.reverse, q.s.size ≤ 40 ∧ q.n ≤ 10 ∧ q.T.length = q.n := fun q hq => hL q (List.mem_reverse.1 hq)
 have hE2 := rowsE_set hkr hs' ht' hr
 have hE3 := rowsE_perm (List.reverse_perm L).symm hr
 have HK1 : Hid (∀ (L' : List RowR) (A' : Option Addr) (c' : Nat) (w' : World), Rows w' A' n L' → L'.map nrm = L.map nrm → Calls Tryz.prog 24 #[.slice A' n c'] w' (fun e w'' => ∃ v, e = .returned (.tuple #[v, .int .i64 0]) ∧ OwnPlcs w'' w'.heap.size v (rankL L) ∧ Below w'.heap.size w' w'')) := Lib.hid fun L' A' c' w' hR h => rank_same hR h hr hL (by omega)
 have HK2 : Hid (∀ (L' : List RowR) (A' : Option Addr) (c' : Nat) (w' : World), Rows w' A' n L' → L'.map nrm = (L.set k r').map nrm → Calls Tryz.prog 24 #[.slice A' n c'] w' (fun e w'' => ∃ v, e = .returned (.tuple #[v, .int .i64 0]) ∧ OwnPlcs w'' w'.heap.size v (rankL (L.set k r')) ∧ Below w'.heap.size w' w'')) := Lib.hid fun L' A' c' w' hR h => rank_same hR h hE2 hL2 (by omega)
 have HK3 : Hid (∀ (L' : List RowR) (A' : Option Addr) (c' : Nat) (w' : World), Rows w' A' n L' → L'.map nrm = L.reverse.map nrm → Calls Tryz.prog 24 #[.slice A' n c'] w' (fun e w'' => ∃ v, e = .returned (.tuple #[v, .int .i64 0]) ∧ OwnPlcs w'' w'.heap.size v (rankL L.reverse) ∧ Below w'.heap.size w' w'')) := Lib.hid fun L' A' c' w' hR h => rank_same hR h hE3 hL3 (by omega)
 have HL1 : Hid ((rankL L).length = n) := Lib.hid (by rw [rankL_len, hZ.1])
 have HL2 : Hid ((rankL (L.set k r')).length = n) := Lib.hid (by rw [rankL_len, List.length_set, hZ.1])
 have HL3 : Hid ((rankL L.reverse).length = n) := Lib.hid (by rw [rankL_len, List.length_reverse, hZ.1])
 have HAS : Hid (∀ (i : Nat) (x : RowR), L[i]? = some x → ∃ p q s : Plc, plcBy (rankL L) x.s = some p ∧ plcBy (rankL (L.set k r')) x.s = some q ∧ plcBy (rankL L.reverse) x.s = some s ∧ Asked p q s x.s r.s ∧ 0 ≤ p.rk) := Lib.hid fun i x hi => places_asked hr hkr hs' ht' (by rw [hT']; exact t2) (by rw [hT']; exact t3) hi
 have HFP : Hid (0 ≤ grL (-1) L → ∃ p, (rankL L)[0]? = some p ∧ p.rk = 1 ∧ p.vl = grL (-1) L) := Lib.hid first_place
 -- the better rows
 have HB6 : Hid (r.n = 0 → ∀ (L' : List RowR) (v : Value) (B : Nat) (w' : World), L'.map nrm = L.map nrm → OwnRows w' B v L' → ∃ bb c A0 c0, v = .slice (some ⟨bb, 0, none⟩) n c ∧ B ≤ bb ∧ bb < w'.heap.size ∧ w'.cell? ⟨bb, k * 3 + 1, none⟩ = some (.slice A0 0 c0) ∧ w'.frozen? ⟨bb, k * 3 + 1, none⟩ = false ∧
   ∃ L'', L''.map nrm = (L.set k r').map nrm ∧ Rows ((w'.alloc (.cells #[.int .i64 (b : Int)] 3)).setCell ⟨bb, k * 3 + 1, none⟩ (.slice (some ⟨w'.heap.size, 0, none⟩) 1 1)) (some ⟨bb, 0, none⟩) n L'') := Lib.hid fun h0 L' v B w' h ho => by
  obtain ⟨q, hq, hqr⟩ := nrm_at h hkr
  have hl : L'.length = n := (same_rows h).2.2.trans hZ.1
  obtain ⟨bb, c, rfl, g1, g2, g3, g4, g5⟩ := rows_slice ho hq (b : Int)
  obtain ⟨e1, e2, e3, e4⟩ := nrm_eq hqr
  rw [hl] at g5 ⊢
  rw [e2, h0] at g3
  rw [Nat.zero_add] at g3 g5
  refine ⟨bb, c, q.A, q.c, rfl, g1, g2, g3, g4 _, _, nrm_set h k ?_, g5⟩
  unfold nrm
  dsimp only
  rw [hs', hn', hT', ← hr', e1, e4, if_pos h0]
  unfold newT
  rw [if_pos (hTr.trans h0)]
 have HB8 : Hid (r.n ≠ 0 → ∀ (L' : List RowR) (v : Value) (B : Nat) (w' : World), L'.map nrm = L.map nrm → OwnRows w' B v L' → AprR L' → ∃ bb c g c0, v = .slice (some ⟨bb, 0, none⟩) n c ∧ bb < w'.heap.size ∧ B ≤ g ∧ g < w'.heap.size ∧ w'.cell? ⟨bb, k * 3 + 1, none⟩ = some (.slice (some ⟨g, 0, none⟩) r.n c0) ∧
   w'.cell? ⟨g, b % r.n, none⟩ = some (.int .i64 (r.T.getD (b % r.n) 0)) ∧ w'.frozen? ⟨g, b % r.n, none⟩ = false ∧
   ∃ L'', L''.map nrm = (L.set k r').map nrm ∧ Rows (w'.setCell ⟨g, b % r.n, none⟩ (.int .i64 (min 999999 (max 0 (r.T.getD (b % r.n) 0) + (b : Int))))) (some ⟨bb, 0, none⟩) n L'') := Lib.hid fun h0 L' v B w' h ho ha => by
  obtain ⟨q, hq, hqr⟩ := nrm_at h hkr
  have hl : L'.length = n := (same_rows h).2.2.trans hZ.1
  obtain ⟨e1, e2, e3, e4⟩ := nrm_eq hqr
  obtain ⟨bb, c, g, rfl, g1, g2, g3, g4, g5, g6, g7⟩ := rows_store ho ha hq (j := b % r.n) (by rw [e2]; exact Nat.mod_lt _ (by omega))
  have g8 := g7 (min 999999 (max 0 (r.T.getD (b % r.n) 0) + (b : Int)))
  rw [hl] at g8 ⊢
  rw [e2] at g4
  rw [e3] at g5
  rw [Nat.zero_add] at g4 g5 g6 g8
  refine ⟨bb, c, g, q.c, rfl, g1, g2, g3, g4, g5, g6, _, nrm_set h k ?_, g8⟩
  unfold nrm
  dsimp only
  rw [hs', hn', hT', ← hr', e1, e2, e3, e4, if_neg h0]
  unfold newT
  rw [if_neg (by omega), hTr]
 have HT0 : Hid (r.n = 0 ∨ ((b % r.n < r.n) ∧ -2 ≤ r.T.getD (b % r.n) 0 ∧ r.T.getD (b % r.n) 0 ≤ 999999)) := Lib.hid (by
  by_cases q : r.n = 0
  ·exact .inl q
  ·have hm : b % r.n < r.n := Nat.mod_lt _ (by omega)
   refine .inr ⟨hm, ?_⟩
   have hj : b % r.n < r.T.length := by rw [hTr]; exact hm
   rw [List.getD_eq_getElem?_getD, List.getElem?_eq_getElem hj]
   exact (hro.2 r hrm).2 _ (List.getElem_mem hj))
 have HTr := Lib.hid hTr
 have H := Lib.hid hZ
 have HLL := Lib.hid hL
 have HN8 := Lib.hid (And.intro h8 h0)
 have HKN := Lib.hid hkn
 have HKR := Lib.hid hkr
 have hmod : ((pk : Nat) : Int) % ((n : Nat) : Int) = (k : Int) := by rw [← hk]; rfl
 have hn0 : ((n : Int) == 0) = false := by simp; omega
 have hnz : ¬ (n : Int) = 0 := by omega
 have hni8 : (n : Int) ≤ 8 := by omega
 have hnp : (0 : Int) < (n : Int) := by omega
 have hn8 : decide ((8 : Int) < (n : Int)) = false := by simp; omega
 have hpi : (pk : Int) ≤ 255 := by omega
 have hbi : (b : Int) ≤ 255 := by omega
 clear hZ hs hA hsr hL hL2 hL3 hE2 hE3 hro hrm t1 t2 t3 t4 hr6 hTr hs' hT' hn' ht' hr h1 h35 hr' hk hkr hkn h8 h0 hp hb
 go_enter Tryz.func4, Tryz.ntmps4
 go_wp2_with fail
 refine hS.mono ?_
 rintro e w1 ⟨rfl, hb1⟩
 have HB1 := Lib.hid hb1
 clear hb1 hS
 go_wp2_with fail
 refine (HRC.out _ HB1.out).mono ?_
 rintro e w2 ⟨rfl, hb2⟩
 have HB2 := Lib.hid (bstep HB1.out hb2)
 clear hb2
 go_wp2_with fail
 refine (HRW.out _ HB2.out).mono ?_
 rintro e w3 ⟨v8, L8, rfl, hL8, ⟨ho8, ha8⟩, hb3⟩
 have HW3 := Lib.hid (And.intro hb3 HB2.out)
 have HBK : Hid (∀ x : Int, IntKind.i64.wrap (max 0 x + (b : Int)) = max 0 x + (b : Int) ∨ 999999 < x) := Lib.hid fun x => by
  by_cases q : 999999 < x
  ·exact .inr q
  ·refine .inl ?_
   simp [IntKind.wrap, IntKind.bits, IntKind.signed]
   omega
 have hk8 : (k : Int) ≤ 8 := by have := HKN.out; have := HN8.out; omega
 have hkni : (k : Int) < (n : Int) := by have := HKN.out; omega
 have hk0i : (0 : Int) ≤ (k : Int) := by omega
 have hkt : ((k : Int)).toNat = k := by omega
 clear hb3
 by_cases hz : r.n = 0
 case' pos =>
  obtain ⟨bb, c8, A0, c0, rfl, g1, g2, g3, g4, L9, hL9, hR9⟩ := HB6.out hz L8 v8 _ w3 hL8 ho8
  have HR9 := Lib.hid hR9
  have HL9 := Lib.hid hL9
  clear hz hL8 ho8 ha8 hR9 hL9
  go_wp2
 case' neg =>
  obtain ⟨bb, c8, g, c0, rfl, g1, g2, g3, g4, g5, g6, L9, hL9, hR9⟩ := HB8.out hz L8 v8 _ w3 hL8 ho8 ha8
  have HR9 := Lib.hid hR9
  have HL9 := Lib.hid hL9
  clear hL8 ho8 ha8 hR9 hL9
  have hq0 : ((r.n : Int) == 0) = false := by simp; omega
  have hq1 : ¬ (r.n : Int) = 0 := by omega
  obtain ⟨j, hj⟩ : ∃ j, b % r.n = j := ⟨_, rfl⟩
  have hjm : ((b : Nat) : Int) % ((r.n : Nat) : Int) = (j : Int) := by rw [← hj]; rfl
  have hT1 := HT0.out.resolve_left hz
  rw [hj] at g5 g6 HR9 hT1
  have hjn : (j : Int) < (r.n : Int) := by omega
  have hj0 : (0 : Int) ≤ (j : Int) := by omega
  have hjt : ((j : Int)).toNat = j := by omega
  generalize r.T.getD j 0 = x at *
  have hwr : IntKind.i64.wrap (max 0 x + (b : Int)) = max 0 x + (b : Int) := by
   simp [IntKind.wrap, IntKind.bits, IntKind.signed]
   omega
  clear HT0 HB6 HB8 HBK
  go_wp2
  go_region
  generalize hm1 : (if 0 < x then x else (0 : Int)) = m1
  generalize hm2 : (if m1 + (b : Int) < 999999 then m1 + (b : Int) else 999999) = m2
  have hy : min 999999 (max 0 x + (b : Int)) = m2 := by
   have e1 : max 0 x = m1 := by rw [← hm1]; split <;> omega
   rw [e1, ← hm2]
   split <;> omega
  rw [hy] at HR9
  have HR4 := Lib.hid (HR9.out.below (Below.refl _ _).drew)
  have HB4 : Hid (Below w.heap.size w ((w3.setCell ⟨g, j, none⟩ (.int .i64 m2)).drew)) := Lib.hid (bstep HW3.out.2 ((HW3.out.1.setCell (p := ⟨g, j, none⟩) g2 _).drew))
  obtain ⟨w4, hw4⟩ : ∃ w4, (w3.setCell ⟨g, j, none⟩ (.int .i64 m2)).drew = w4 := ⟨_, rfl⟩
  rw [hw4] at HR4 HB4 ⊢
  clear hwr hjm hq0 hq1 hT1 g1 g2 g3 g4 g5 g6 hm1 hm2 hy HR9 hj hjn hj0 hjt hw4 hz
  go_wp2
 case' pos =>
  rw [World.setCell_alloc_past _ _ _ _ g2] at HR9
  have HR4 := HR9
  have HB4 : Hid (Below w.heap.size w ((w3.setCell ⟨bb, k * 3 + 1, none⟩ (.slice (some ⟨w3.heap.size, 0, none⟩) 1 1)).alloc (.cells #[.int .i64 (b : Int)] 3))) := Lib.hid (bstep HW3.out.2 ((HW3.out.1.setCell (p := ⟨bb, k * 3 + 1, none⟩) g1 _).alloc (by rw [World.size_setCell]; exact HW3.out.1.size) _))
  obtain ⟨w4, hw4⟩ : ∃ w4, (w3.setCell ⟨bb, k * 3 + 1, none⟩ (.slice (some ⟨w3.heap.size, 0, none⟩) 1 1)).alloc (.cells #[.int .i64 (b : Int)] 3) = w4 := ⟨_, rfl⟩
  rw [hw4] at HR4 HB4 ⊢
  clear g1 g2 g3 g4 HR9 hw4 HB6 HB8 HT0 HBK
 all_goals
  have HRV : Hid (∀ (j : Nat) (P Lq : List RowR) (q : RowR), j < n → P.map nrm = (L.reverse.take j).map nrm → Lq.map nrm = L.map nrm → Lq[n - 1 - j]? = some q → (P ++ [q]).map nrm = (L.reverse.take (j + 1)).map nrm ∧ P.length = j ∧ q.n ≤ 10) := Lib.hid fun j P Lq q hj hP hLq hq => by
   obtain ⟨q', h1, h2⟩ := nrm_at hLq.symm hq
   have hlen : L.length = n := H.out.1
   have h3 : L.reverse[j]? = some q' := by
    rw [List.getElem?_reverse (by omega), hlen]
    exact h1
   refine ⟨?_, ?_, ?_⟩
   ·rw [List.take_add_one, h3, Option.toList_some, List.map_append, List.map_append, hP, List.map_cons, List.map_cons, h2]
   ·have := congrArg List.length hP
    rw [List.length_map, List.length_map, List.length_take, List.length_reverse] at this
    omega
   ·have := (nrm_eq h2).2.1
    have := (HLL.out q' (List.mem_of_getElem? h1)).2.1
    omega
  have HB5 : Hid (∀ w', Below w4.heap.size w4 w' → Below w.heap.size w w') := Lib.hid fun w' hb => bstep HB4.out hb
  go_loopw [10, 102] (fun v i wr => ∃ (j : Nat) (P : List RowR), j ≤ n ∧ i = .int .i64 j ∧ Hid (P.map nrm = (L.reverse.take j).map nrm) ∧ OwnRows wr w4.heap.size v P ∧ Below w4.heap.size w4 wr) (fun _ i _ => n - (RowKit.intOf i).toNat)
  case atStart => exact ⟨0, [], by omega, rfl, Lib.hid rfl, ⟨World.ownsRow_nil _ _ _ _, fun r h => by cases h⟩, Below.refl _ _⟩
  case round =>
   obtain ⟨j, P, hj, rfl, HP, hown, hbw⟩ := hrel
   by_cases hlt : j < n
   ·have hji : (j : Int) < (n : Int) := by omega
    have hj0 : (0 : Int) ≤ (j : Int) := by omega
    have hjt : ((j : Int)).toNat = j := by omega
    obtain ⟨m, hm⟩ : ∃ m, n - 1 - j = m := ⟨_, rfl⟩
    have hw1 : IntKind.i64.wrap ((n : Int) - 1) = (n : Int) - 1 := by
     have := HN8.out
     simp [IntKind.wrap, IntKind.bits, IntKind.signed]; omega
    have hw2 : IntKind.i64.wrap ((n : Int) - 1 - (j : Int)) = (m : Int) := by
     have := HN8.out
     simp [IntKind.wrap, IntKind.bits, IntKind.signed]; omega
    have hmn : (m : Int) < (n : Int) := by omega
    have hm0 : (0 : Int) ≤ (m : Int) := by omega
    have hmt : ((m : Int)).toNat = m := by omega
    have hmI : (n : Int) - 1 - (j : Int) = (m : Int) := by omega
    have HM := Lib.hid hm
    have HOX := Lib.hid hown
    have HBW := Lib.hid hbw
    clear hown hbw hm
    go_wp2_with fail
    refine (HRW.out _ (HB5.out _ HBW.out)).mono ?_
    rintro e wq ⟨vq, Lq, rfl, hLq, ⟨hoq, _⟩, hbq⟩
    obtain ⟨Aq, cq, rfl, hRq⟩ := Rows.of_own hoq
    have hql : Lq.length = n := (same_rows hLq).2.2.trans H.out.1
    rw [hql] at hRq ⊢
    obtain ⟨bq, oq, q, rfl, hbq1, hqx, ⟨hc0, hc1, hc2⟩, _, _⟩ := hRq.at_ (k := m) (by omega)
    obtain ⟨hP2, hPl, hq10⟩ := HRV.out j P Lq q hlt HP.out hLq (by rw [HM.out]; exact hqx)
    have hoqr := own_low (hoq.2 q (List.mem_of_getElem? hqx)) HBW.out.size
    have hox := HOX.out.below hbq
    have hown3 := hox.1
    rw [hPl] at hown3
    have HBQ := Lib.hid (bstep HBW.out hbq)
    have HP2 := Lib.hid hP2
    have HPL := Lib.hid hPl
    have HOX3 := Lib.hid hox
    have HR3 := Lib.hid hoqr
    have HN9 := HN8.out
    clear hoq hRq hqx hox hP2 hPl hoqr hbq hLq hql
    obtain ⟨qs, qA, qn, qc, qT, qt⟩ := q
    dsimp only at *
    go_wp2_with (at_builtin; refine wpList_append_own _ rfl _ _ 52 rfl w4.heap.size 55 i0 (.agg #[.string ⟨#[]⟩, .slice none 0 0, .bool false]) 3 48 Tryz.underlying52 hi hz0 hz1 hz2 rfl (by decide) _ _ _ rfl (World.ownsRow.alloc hown3 _) ⟨wq.heap.size, 0, none⟩ 1 1 (rowC ⟨qs, qA, qn, qc, qT, qt⟩) rfl rfl ?c1 ?c2 ?c3 ?c4 ?c5 ?_)
    case c1 =>
     intro j u hj
     match j, hj with
     | 0, hj => simp [rowC] at hj; subst hj; simp [Addr.add]
     | 1, hj => simp [rowC] at hj; subst hj; simp [Addr.add]
     | 2, hj => simp [rowC] at hj; subst hj; simp [Addr.add]
    case c2 => intro u hu; simp [rowC] at hu; rcases hu with rfl | rfl | rfl <;> rfl
    case c3 => unfold maxLen; omega
    case c4 => omega
    case c5 => have := HBQ.out.size; simp; omega
    intro v4 w5 hown4 hgrow4 _
    have hb4 : Below w4.heap.size w4 w5 := (HBQ.out.alloc HBQ.out.size _).grown hgrow4 (by have := HBQ.out.size; simp; omega) (fun r hr => (World.ownsRow.lt hown3 r hr).1)
    have ho4 : OwnRows w5 w4.heap.size v4 (P ++ [⟨qs, qA, qn, qc, qT, qt⟩]) := rows_next (HOX3.out.below (balloc _ (Below.refl _ _))) (World.ownsRow.alloc HR3.out _) (by rw [HPL.out]; exact hown4) hgrow4
    clear hown4 hgrow4 hown3 hc0 hc1 hc2 hw1 hw2 hmI HN9
    go_wp2
    go_roundw
    case rel => exact ⟨j + 1, P ++ [⟨qs, qA, qn, qc, qT, qt⟩], by omega, by go_num, HP2, ho4, hb4⟩
    case measure => simp [RowKit.intOf]; omega
   ·have hjn : j = n := by omega
    have hPn := HP.out
    rw [hjn, List.take_of_length_le (by rw [List.length_reverse, H.out.1]; exact Nat.le_refl _)] at hPn
    obtain ⟨At, ct, rfl, hRt⟩ := Rows.of_own hown
    have htl : P.length = n := (same_rows hPn).2.2.trans (by rw [List.length_reverse]; exact H.out.1)
    rw [htl] at hRt ⊢
    have HRt := Lib.hid hRt
    have HR5 := Lib.hid (HR4.out.below hbw)
    have HPN := Lib.hid hPn
    have HB6' := Lib.hid (HB5.out _ hbw)
    clear hown hRt hPn hbw htl HP
    go_wp2_with fail
    refine (HRW.out _ HB6'.out).mono ?_
    rintro e w6 ⟨v6, L6, rfl, hL6, ⟨ho6, _⟩, hb6⟩
    obtain ⟨A6, c6, rfl, hR6⟩ := Rows.of_own ho6
    rw [(same_rows hL6).2.2, H.out.1] at hR6 ⊢
    have hK1 := HK1.out L6 A6 c6 w6 hR6 hL6
    have HB7 := Lib.hid (bstep HB6'.out hb6)
    have HX6 := Lib.hid hb6
    clear ho6 hL6 hR6 hb6
    go_wp2_with fail
    refine hK1.mono ?_
    rintro e w7 ⟨v7, rfl, hv7, hb7⟩
    have HB8 := Lib.hid (bstep HB7.out hb7)
    have HX7 := Lib.hid (bstep HX6.out hb7)
    obtain ⟨Aa, ca, rfl, hPa⟩ := PlcsZ.of_own hv7
    rw [HL1.out] at hPa ⊢
    have HPa := Lib.hid hPa
    have hK2 := HK2.out L9 _ c8 w7 (HR5.out.below HX7.out) HL9.out
    clear hK1 hb7 hv7 hPa
    go_wp2_with fail
    refine hK2.mono ?_
    rintro e w8 ⟨v9, rfl, hv8, hb8⟩
    have HB9 := Lib.hid (bstep HB8.out hb8)
    have HX8 := Lib.hid (bstep HX7.out hb8)
    have HPa8 := Lib.hid (HPa.out.below hb8)
    obtain ⟨Ab, cb, rfl, hPb⟩ := PlcsZ.of_own hv8
    rw [HL2.out] at hPb ⊢
    have HPb := Lib.hid hPb
    have hK3 := HK3.out P _ ct w8 (HRt.out.below HX8.out) HPN.out
    clear hK2 hb8 hv8 hPb
    go_wp2_with fail
    refine hK3.mono ?_
    rintro e w9 ⟨v10, rfl, hv9, hb9⟩
    have HB10 := Lib.hid (bstep HB9.out hb9)
    have HPa9 := Lib.hid (HPa8.out.below hb9)
    have HPb9 := Lib.hid (HPb.out.below hb9)
    obtain ⟨Ac, cc, rfl, hPc⟩ := PlcsZ.of_own hv9
    rw [HL3.out] at hPc ⊢
    have HPc9 := Lib.hid hPc
    clear hK3 hb9 hv9 hPc
    go_wp2
    obtain ⟨G, hG⟩ : ∃ G, grL (-1) L = G := ⟨_, rfl⟩
    have HG0 : Hid (grL (-1) (L.drop 0) = G) := Lib.hid hG
    have HGG := Lib.hid hG
    clear hG
    go_loopw [18, 163] (fun v i wr => ∃ (j : Nat) (z : Int), j ≤ n ∧ i = .int .i64 j ∧ v = .int .i64 z ∧ Hid (grL z (L.drop j) = G) ∧ Below w9.heap.size w9 wr) (fun _ i _ => n - (RowKit.intOf i).toNat)
    case atStart => exact ⟨0, -1, by omega, rfl, rfl, HG0, Below.refl _ _⟩
    case round =>
     obtain ⟨j, z, hj, rfl, rfl, HJ, hbw⟩ := hrel
     by_cases hlt : j < n
     ·have hji : (j : Int) < (n : Int) := by omega
      have hj0 : (0 : Int) ≤ (j : Int) := by omega
      have hjt : ((j : Int)).toNat = j := by omega
      obtain ⟨bx, ox, x, rfl, hbx1, hx, ⟨hc0, hc1, hc2⟩, hTx, _⟩ := (H.out.below (bstep HB10.out hbw)).at_ hlt
      have hxm := HLL.out x (List.mem_of_getElem? hx)
      have hdr : grL z (L.drop j) = grL (grT z x.T) (L.drop (j + 1)) := by
       obtain ⟨hq, rfl⟩ := List.getElem?_eq_some_iff.1 hx
       rw [List.drop_eq_getElem_cons hq]; rfl
      have HJ2 : Hid (grL (grT z (x.T.drop 0)) (L.drop (j + 1)) = G) := Lib.hid (hdr.symm.trans HJ.out)
      have hxn : (x.n : Int) ≤ 10 := by omega
      have HXT := Lib.hid hxm.2.2
      obtain ⟨p, hp⟩ : ∃ p, wr.heap.size = p := ⟨_, rfl⟩
      obtain ⟨wx, hwx⟩ : ∃ wx, wr.alloc (.cells #[.string x.s, .slice x.A x.n x.c, .bool x.rt] 57) = wx := ⟨_, rfl⟩
      have hbx : Below wr.heap.size wr wx := by rw [← hwx]; exact balloc _ (Below.refl _ _)
      have x1 : wx.cell? ⟨p, 1, none⟩ = some (.slice x.A x.n x.c) := by rw [← hwx, ← hp]; simp
      have HTX := Lib.hid (hTx.below hbx)
      have HBX := Lib.hid (And.intro hbx (bstep hbw hbx))
      clear hdr hxm hx hTx hbx hbw HJ
      obtain ⟨xs, xA, xn, xc, xT, xt⟩ := x
      dsimp only at *
      obtain ⟨wy, rfl⟩ : ∃ wy : World, wy = wr := ⟨_, rfl⟩
      go_wp2
      go_loopw [18, 170] (fun v i wr => ∃ (t : Nat) (y : Int), t ≤ xn ∧ i = .int .i64 t ∧ v = .int .i64 y ∧ Hid (grL (grT y (xT.drop t)) (L.drop (j + 1)) = G) ∧ Below wx.heap.size wx wr) (fun _ i _ => xn - (RowKit.intOf i).toNat)
      case atStart => exact ⟨0, z, by omega, rfl, rfl, HJ2, Below.refl _ _⟩
      case round =>
       obtain ⟨t, y, ht, rfl, rfl, HT, hbt⟩ := hrel
       by_cases htl : t < xn
       ·obtain ⟨bt, ot, u, rfl, hbt1, hu, hcu⟩ := (HTX.out.below hbt).cellAt htl
        have hti : (t : Int) < (xn : Int) := by omega
        have ht0 : (0 : Int) ≤ (t : Int) := by omega
        have htt : ((t : Int)).toNat = t := by omega
        have hst := HT.out
        have hd : grT y (xT.drop t) = grT (max y u) (xT.drop (t + 1)) := by
         obtain ⟨hq, rfl⟩ := List.getElem?_eq_some_iff.1 hu
         rw [List.drop_eq_getElem_cons hq]; rfl
        rw [hd] at hst
        have HBT := Lib.hid hbt
        by_cases hyu : y < u
        ·rw [show max y u = u by omega] at hst
         have HST := Lib.hid hst
         clear hst hd hu hbt HT
         go_wp2
         go_roundw
         case rel => exact ⟨t + 1, u, by omega, by go_num, rfl, HST, HBT.out⟩
         case measure => simp [RowKit.intOf]; omega
        ·rw [show max y u = y by omega] at hst
         have HST := Lib.hid hst
         clear hst hd hu hbt HT
         go_wp2
         go_roundw
         case rel => exact ⟨t + 1, y, by omega, by go_num, rfl, HST, HBT.out⟩
         case measure => simp [RowKit.intOf]; omega
       ·have hst := HT.out
        rw [List.drop_eq_nil_of_le (by rw [HXT.out]; omega)] at hst
        have HST : Hid (grL y (L.drop (j + 1)) = G) := Lib.hid hst
        have HBT := Lib.hid (bstep HBX.out.2 hbt)
        clear hst hbt HT
        go_wp2
        go_roundw
        case rel => exact ⟨j + 1, y, by omega, by go_num, rfl, HST, HBT.out⟩
        case measure => simp [RowKit.intOf]; omega
     ·have hst := HJ.out
      rw [List.drop_eq_nil_of_le (by rw [H.out.1]; omega)] at hst
      obtain rfl : z = G := hst
      have HB11 := Lib.hid (bstep HB10.out hbw)
      have HPa10 := Lib.hid (HPa9.out.below hbw)
      have HPb10 := Lib.hid (HPb9.out.below hbw)
      have HPc10 := Lib.hid (HPc9.out.below hbw)
      clear hbw HJ
      obtain ⟨w10, rfl⟩ : ∃ wy : World, wy = wr := ⟨_, rfl⟩
      go_wp2
      go_loopw [181] (fun i wr => ∃ j : Nat, j ≤ n ∧ i = .int .i64 j ∧ Below w10.heap.size w10 wr) (fun i _ => n - (RowKit.intOf i).toNat)
      case atStart => exact ⟨0, by omega, rfl, Below.refl _ _⟩
      case round =>
       obtain ⟨j, hj, rfl, hbw⟩ := hrel
       by_cases hlt : j < n
       ·have hji : (j : Int) < (n : Int) := by omega
        have hj0 : (0 : Int) ≤ (j : Int) := by omega
        have hjt : ((j : Int)).toNat = j := by omega
        obtain ⟨wy, rfl⟩ : ∃ wy : World, wy = wr := ⟨_, rfl⟩
        obtain ⟨bx, ox, x, rfl, hbx1, hx, ⟨hc0, hc1, hc2⟩, _, _⟩ := (H.out.below (bstep HB11.out hbw)).at_ hlt
        obtain ⟨p, q, s, hp, hq, hs2, hAsk, hp0⟩ := HAS.out j x hx
        have HPL1 : Hid (∀ w', Below wy.heap.size wy w' → Calls Tryz.prog 25 #[.slice Aa n ca, .string x.s] w' (RetPost (.tuple #[p.val, .bool true]) w')) := Lib.hid fun w' hb => by
         have := l6placed_any (rankL L) n ca Aa x.s w' (HPa10.out.below (bstep hbw hb)) (by omega)
         rw [hp] at this; exact this
        have HPL2 : Hid (∀ w', Below wy.heap.size wy w' → Calls Tryz.prog 25 #[.slice Ab n cb, .string x.s] w' (RetPost (.tuple #[q.val, .bool true]) w')) := Lib.hid fun w' hb => by
         have := l6placed_any (rankL (L.set k r')) n cb Ab x.s w' (HPb10.out.below (bstep hbw hb)) (by omega)
         rw [hq] at this; exact this
        have HPL3 : Hid (∀ w', Below wy.heap.size wy w' → Calls Tryz.prog 25 #[.slice Ac n cc, .string x.s] w' (RetPost (.tuple #[s.val, .bool true]) w')) := Lib.hid fun w' hb => by
         have := l6placed_any (rankL L.reverse) n cc Ac x.s w' (HPc10.out.below (bstep hbw hb)) (by omega)
         rw [hs2] at this; exact this
        obtain ⟨hsame, hown, hother⟩ := hAsk
        obtain ⟨p1, p2, p3, p4, p5⟩ := p
        obtain ⟨q1, q2, q3, q4, q5⟩ := q
        obtain ⟨s1, s2, s3, s4, s5⟩ := s
        obtain ⟨xs, xA, xn, xc, xT, xt⟩ := x
        unfold Plc.val at HPL1 HPL2 HPL3
        dsimp only at *
        obtain ⟨rfl, rfl, rfl, rfl⟩ := hsame
        -- the name of the row k, in any later world
        have HKC : Hid (∀ w', Below w10.heap.size w10 w' → w'.cell? ⟨bx, ox + k * 3, none⟩ = some (.string r.s)) := Lib.hid fun w' hb => by
         obtain ⟨b', o', x', e', hb1', hx', ⟨h0', _, _⟩, _, _⟩ := (H.out.below (bstep HB11.out hb)).at_ HKN.out
         simp only [Option.some.injEq, Addr.mk.injEq, and_true] at e'
         obtain ⟨rfl, rfl⟩ := e'
         rw [HKR.out] at hx'
         rw [h0', ← Option.some.inj hx']
        have HOWN := Lib.hid hown
        have HOTH := Lib.hid hother
        obtain ⟨px, hpx⟩ : ∃ px, wy.heap.size = px := ⟨_, rfl⟩
        obtain ⟨wx, hwx⟩ : ∃ wx, wy.alloc (.cells #[.string xs, .slice xA xn xc, .bool xt] 57) = wx := ⟨_, rfl⟩
        have hbx : Below wy.heap.size wy wx := by rw [← hwx]; exact balloc _ (Below.refl _ _)
        have x0 : wx.cell? ⟨px, 0, none⟩ = some (.string xs) := by rw [← hwx, ← hpx]; simp
        have hpx1 : px < wx.heap.size := by rw [← hwx, ← hpx]; simp
        have HBX := Lib.hid hbx
        have HBW := Lib.hid hbw
        have HX0 := Lib.hid (And.intro x0 hpx1)
        clear hp hq hs2 hx hown hother hbx hbw hbx1 hpx1
        go_wp2_with fail
        refine (HPL1.out _ HBX.out).mono ?_
        rintro e wa ⟨rfl, hba⟩
        obtain ⟨ga, hga⟩ : ∃ g, wa.heap.size = g := ⟨_, rfl⟩
        obtain ⟨wA, hwA⟩ : ∃ w', wa.alloc (.cells #[.string p1, .int .i64 p2, .string p3, .int .i64 p4, .string p5] 61) = w' := ⟨_, rfl⟩
        have hbA : Below wx.heap.size wx wA := by rw [← hwA]; exact hba.alloc hba.size _
        have a1 : wA.cell? ⟨ga, 1, none⟩ = some (.int .i64 p2) := by rw [← hwA, ← hga]; simp
        have a2 : wA.cell? ⟨ga, 2, none⟩ = some (.string p3) := by rw [← hwA, ← hga]; simp
        have a3 : wA.cell? ⟨ga, 3, none⟩ = some (.int .i64 p4) := by rw [← hwA, ← hga]; simp
        have a4 : wA.cell? ⟨ga, 4, none⟩ = some (.string p5) := by rw [← hwA, ← hga]; simp
        have hga1 : ga < wA.heap.size := by rw [← hwA, ← hga]; simp
        have HA1 : Hid (ga < wA.heap.size ∧ wA.cell? ⟨ga, 1, none⟩ = some (.int .i64 p2) ∧ wA.cell? ⟨ga, 2, none⟩ = some (.string p3) ∧ wA.cell? ⟨ga, 3, none⟩ = some (.int .i64 p4) ∧ wA.cell? ⟨ga, 4, none⟩ = some (.string p5)) := Lib.hid ⟨hga1, a1, a2, a3, a4⟩
        have HBA := Lib.hid hbA
        have x0 := (hbA.cell (p := ⟨px, 0, none⟩) HX0.out.2).trans HX0.out.1
        clear hbA hba a1 a2 a3 a4 hga1 hwx hpx
        go_wp2_with fail
        refine (HPL2.out _ (bstep HBX.out HBA.out)).mono ?_
        rintro e wb ⟨rfl, hbb⟩
        obtain ⟨gb, hgb⟩ : ∃ g, wb.heap.size = g := ⟨_, rfl⟩
        obtain ⟨wB, hwB⟩ : ∃ w', wb.alloc (.cells #[.string q1, .int .i64 q2, .string q3, .int .i64 q4, .string q5] 61) = w' := ⟨_, rfl⟩
        have hbB : Below wA.heap.size wA wB := by rw [← hwB]; exact hbb.alloc hbb.size _
        have b1 : wB.cell? ⟨gb, 1, none⟩ = some (.int .i64 q2) := by rw [← hwB, ← hgb]; simp
        have hgb1 : gb < wB.heap.size := by rw [← hwB, ← hgb]; simp
        have HB1' : Hid (gb < wB.heap.size ∧ wB.cell? ⟨gb, 1, none⟩ = some (.int .i64 q2)) := Lib.hid ⟨hgb1, b1⟩
        have HBB := Lib.hid hbB
        have x0b := (hbB.cell (p := ⟨px, 0, none⟩) (Nat.lt_of_lt_of_le HX0.out.2 HBA.out.size)).trans x0
        clear hbB hbb b1 hgb1 x0 hwA hga
        go_wp2_with fail
        refine (HPL3.out _ (bstep HBX.out (bstep HBA.out HBB.out))).mono ?_
        rintro e wc ⟨rfl, hbc⟩
        obtain ⟨gc, hgc⟩ : ∃ g, wc.heap.size = g := ⟨_, rfl⟩
        obtain ⟨wC, hwC⟩ : ∃ w', wc.alloc (.cells #[.string s1, .int .i64 p2, .string p3, .int .i64 p4, .string p5] 61) = w' := ⟨_, rfl⟩
        have hbC : Below wB.heap.size wB wC := by rw [← hwC]; exact hbc.alloc hbc.size _
        have c1 : wC.cell? ⟨gc, 1, none⟩ = some (.int .i64 p2) := by rw [← hwC, ← hgc]; simp
        have c2 : wC.cell? ⟨gc, 2, none⟩ = some (.string p3) := by rw [← hwC, ← hgc]; simp
        have c3 : wC.cell? ⟨gc, 3, none⟩ = some (.int .i64 p4) := by rw [← hwC, ← hgc]; simp
        have c4 : wC.cell? ⟨gc, 4, none⟩ = some (.string p5) := by rw [← hwC, ← hgc]; simp
        have x0c := (hbC.cell (p := ⟨px, 0, none⟩) (Nat.lt_of_lt_of_le HX0.out.2 (bstep HBA.out HBB.out).size)).trans x0b
        obtain ⟨ha0, ha1, ha2, ha3, ha4⟩ := HA1.out
        have hbAC := bstep HBB.out hbC
        have a1 := (hbAC.cell (p := ⟨ga, 1, none⟩) ha0).trans ha1
        have a2 := (hbAC.cell (p := ⟨ga, 2, none⟩) ha0).trans ha2
        have a3 := (hbAC.cell (p := ⟨ga, 3, none⟩) ha0).trans ha3
        have a4 := (hbAC.cell (p := ⟨ga, 4, none⟩) ha0).trans ha4
        have b1 := (hbC.cell (p := ⟨gb, 1, none⟩) HB1'.out.1).trans HB1'.out.2
        have hall : Below w10.heap.size w10 wC := bstep HBW.out (bstep HBX.out (bstep HBA.out hbAC))
        have kc := HKC.out _ hall
        have HALL := Lib.hid hall
        have hne1 := neqMark p3 p4 p5 wC
        have hne2 := fun x y => guardMark x y #[.string p3, .int .i64 p4, .string p5] #[.string p3, .int .i64 p4, .string p5] wC
        clear hbC hbc x0b hwB hgb ha0 ha1 ha2 ha3 ha4 hbAC hall HPL1 HPL2 HPL3 HBX HBA HBB HX0 HA1 HB1'
        go_wp2
        have hD : Below wC.heap.size wC wC.drew := (Below.refl _ _).drew
        obtain ⟨wD, hwD⟩ : ∃ wD, wC.drew = wD := ⟨_, rfl⟩
        have d1 : wD.cell? ⟨ga, 1, none⟩ = some (.int .i64 p2) := by rw [← hwD]; exact a1
        have d2 : wD.cell? ⟨gb, 1, none⟩ = some (.int .i64 q2) := by rw [← hwD]; exact b1
        have HBD : Hid (Below w10.heap.size w10 wD) := Lib.hid (by rw [← hwD]; exact bstep HALL.out hD)
        have HDD := Lib.hid (And.intro d1 d2)
        have HWD := Lib.hid hwD
        clear hne1 hne2 a1 a2 a3 a4 b1 c1 c2 c3 c4 hD d1 d2 hwD hgc
        by_cases hxr : xs = r.s
        ·have hbt : (xs.toList == r.s.toList) = true := by rw [hxr]; simp
         obtain ⟨o1, o2⟩ := HOWN.out hxr
         go_region
         rw [HWD.out]
         obtain ⟨d1, d2⟩ := HDD.out
         have hq1 : ¬ q2 < 1 := by omega
         clear x0c kc hbt hxr
         by_cases hp : 0 < p2
         ·have hq2 : ¬ p2 < q2 := by have := o2 hp; omega
          clear o1 o2
          go_wp2
          go_roundw
          case rel => exact ⟨j + 1, by omega, by go_num, HBD.out⟩
          case measure => simp [RowKit.intOf]; omega
         ·clear o1 o2
          go_wp2
          go_roundw
          case rel => exact ⟨j + 1, by omega, by go_num, HBD.out⟩
          case measure => simp [RowKit.intOf]; omega
        ·have hbt : (xs.toList == r.s.toList) = false := tl_ne hxr
         obtain ⟨o1, o2⟩ := HOTH.out hxr
         go_region
         rw [HWD.out]
         obtain ⟨d1, d2⟩ := HDD.out
         clear x0c kc hbt hxr
         by_cases hp : 0 < p2
         ·have hq2 : ¬ q2 < p2 := by have := o1 hp; omega
          have hq3 : (p2 == 0) = false := by simp; omega
          clear o1 o2
          go_wp2
          go_roundw
          case rel => exact ⟨j + 1, by omega, by go_num, HBD.out⟩
          case measure => simp [RowKit.intOf]; omega
         ·have hq3 : (p2 == 0) = true := by simp; omega
          have hq4 : (q2 != 0) = false := by have := o2 (by omega); simp [this]
          clear o1 o2
          go_wp2
          go_roundw
          case rel => exact ⟨j + 1, by omega, by go_num, HBD.out⟩
          case measure => simp [RowKit.intOf]; omega
       ·have HB12 := Lib.hid (bstep HB11.out hbw)
        have HPa11 := Lib.hid (HPa10.out.below hbw)
        clear hbw
        obtain ⟨w11, rfl⟩ : ∃ wy : World, wy = wr := ⟨_, rfl⟩
        have hjn : ¬ (j : Int) < (n : Int) := by omega
        by_cases hz0' : z < 0
        ·clear HFP HPa11
         go_wp2_with fail
         refine (HAW.out _ HB12.out).mono ?_
         rintro e w12 ⟨rfl, hb12⟩
         have hfin := bstep HB12.out hb12
         clear hb12
         go_wp2
         go_ret
         exact ⟨rfl, hfin⟩
        ·obtain ⟨p, hp, hp1, hp2⟩ := HFP.out (by rw [HGG.out]; omega)
         rw [HGG.out] at hp2
         obtain ⟨ba, oa, rfl, hba1, hba⟩ := HPa11.out.2 HN8.out.2
         obtain ⟨_, q1, _, q3, _⟩ := hba 0 p hp
         rw [hp1] at q1
         rw [hp2] at q3
         simp only [Nat.zero_mul, Nat.add_zero] at q1 q3
         clear hba hp hp1 hp2 HFP HPa11
         go_wp2_with fail
         refine (HAW.out _ HB12.out).mono ?_
         rintro e w12 ⟨rfl, hb12⟩
         have hfin := bstep HB12.out hb12
         clear hb12
         go_wp2
         go_ret
         exact ⟨rfl, hfin⟩
end Go.Mk
