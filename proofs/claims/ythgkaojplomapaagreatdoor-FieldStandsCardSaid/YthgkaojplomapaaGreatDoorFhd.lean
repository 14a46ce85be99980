/-
  Proved: the reference's noted, as a plain function, and hasCleared of package
  Proved: the reference's off compares as the program's compareOff; its firsts gives the numbers of those who
-/
import Derived.Test.YthgkaojplomapaaGreatDoorFha
import Derived.Test.YthgkaojplomapaaGreatDoorFhc
set_option maxHeartbeats 32000000
set_option linter.unusedVariables false
set_option linter.unusedSimpArgs false
open Go Go.Proofs Go.RowKit
set_option maxRecDepth 100000
section
namespace Go.Mk
def notZ (r : CardR) (k : Nat) : Int := match r.O[k]? with
 | some x => if bl x = [111] then 2 else 1
 | none => 0
theorem r6noted_any (r : CardR) (k : Nat) (w : World) (hZ : CardZ w r) (hn : r.no ≤ 1000) (hk : k ≤ 1000) :
  Calls Tryz.prog 120 #[r.val, .int .i64 k] w (RetPost (.int .i64 (notZ r k)) w) := by
 obtain ⟨g, hg⟩ : ∃ g, w.heap.size = g := ⟨_, rfl⟩
 obtain ⟨w1, hw1⟩ : ∃ w1, w.alloc (.cells #[.string r.s, .slice r.AH r.nh r.ch, .slice r.AO r.no r.co, .bool r.rt] 66) = w1 := ⟨_, rfl⟩
 have hb1 : Below w.heap.size w w1 := by rw [← hw1]; exact balloc _ (Below.refl _ _)
 have k2 : w1.cell? ⟨g, 2, none⟩ = some (.slice r.AO r.no r.co) := by rw [← hw1, ← hg]; simp
 have hni : (r.no : Int) ≤ 1000 := by omega
 have hZ1 := hZ.below hb1
 have hlen : r.O.length = r.no := hZ.2.2.1.1
 have HB := Lib.hid hb1
 unfold notZ
 by_cases hlt : k < r.no
 ·obtain ⟨b', off, x, eA, hbl, hx, hcx⟩ := hZ1.2.2.1.at_ hlt
  have hki : ¬ (r.no : Int) ≤ (k : Int) := by omega
  have hki2 : (k : Int) < (r.no : Int) := by omega
  have hk0 : (0 : Int) ≤ (k : Int) := by omega
  have hkt : ((k : Int)).toNat = k := by omega
  have c1 : (x.toList == [111]) = decide (bl x = [111]) := by rw [tl_bl, list_beq]
  obtain ⟨s, AH, nh, ch, HH, AO, no, co, O, rt⟩ := r
  unfold CardR.val
  dsimp only at *
  rw [hx]
  subst eA
  dsimp only
  clear hx hZ hZ1 hb1 hlen
  by_cases h1 : bl x = [111]
  ·rw [if_pos h1]
   rw [decide_eq_true h1] at c1
   clear h1
   go_enter Tryz.func120, Tryz.ntmps120
   go_wp2
   go_ret
   exact ⟨rfl, HB.out⟩
  ·rw [if_neg h1]
   rw [decide_eq_false h1] at c1
   clear h1
   go_enter Tryz.func120, Tryz.ntmps120
   go_wp2
   go_ret
   exact ⟨rfl, HB.out⟩
 ·have hki : (r.no : Int) ≤ (k : Int) := by omega
  rw [List.getElem?_eq_none (by omega)]
  dsimp only
  obtain ⟨s, AH, nh, ch, HH, AO, no, co, O, rt⟩ := r
  unfold CardR.val
  dsimp only at *
  clear hZ hZ1 hb1 hlen
  go_enter Tryz.func120, Tryz.ntmps120
  go_wp2
  go_ret
  exact ⟨rfl, HB.out⟩
theorem fdHasCleared_any (r : CardR) (k : Nat) (w : World) (hZ : CardZ w r) (hn : r.no ≤ 1000) (hk : k ≤ 1000) :
  Calls Tryz.prog 175 #[r.val, .int .i64 k] w (RetPost (.bool (clC r k)) w) := by
 obtain ⟨g, hg⟩ : ∃ g, w.heap.size = g := ⟨_, rfl⟩
 obtain ⟨w1, hw1⟩ : ∃ w1, w.alloc (.cells #[.string r.s, .slice r.AH r.nh r.ch, .slice r.AO r.no r.co, .bool r.rt] 94) = w1 := ⟨_, rfl⟩
 have hb1 : Below w.heap.size w w1 := by rw [← hw1]; exact balloc _ (Below.refl _ _)
 have k2 : w1.cell? ⟨g, 2, none⟩ = some (.slice r.AO r.no r.co) := by rw [← hw1, ← hg]; simp
 have hni : (r.no : Int) ≤ 1000 := by omega
 have hZ1 := hZ.below hb1
 have hlen : r.O.length = r.no := hZ.2.2.1.1
 have HB := Lib.hid hb1
 unfold clC
 by_cases hlt : k < r.no
 ·obtain ⟨b', off, x, eA, hbl, hx, hcx⟩ := hZ1.2.2.1.at_ hlt
  have hki2 : (k : Int) < (r.no : Int) := by omega
  have hk0 : (0 : Int) ≤ (k : Int) := by omega
  have hkt : ((k : Int)).toNat = k := by omega
  have c1 : (x.toList == [111]) = decide (bl x = [111]) := by rw [tl_bl, list_beq]
  obtain ⟨s, AH, nh, ch, HH, AO, no, co, O, rt⟩ := r
  unfold CardR.val
  dsimp only at *
  rw [hx]
  subst eA
  dsimp only
  clear hx hZ hZ1 hb1 hlen
  generalize decide (bl x = [111]) = q at *
  cases q with
  | true =>
   go_enter Tryz.func175, Tryz.ntmps175
   go_wp2
   go_ret
   exact ⟨rfl, HB.out⟩
  | false =>
   go_enter Tryz.func175, Tryz.ntmps175
   go_wp2
   go_ret
   exact ⟨rfl, HB.out⟩
 ·have hki : ¬ (k : Int) < (r.no : Int) := by omega
  rw [List.getElem?_eq_none (by omega)]
  dsimp only
  obtain ⟨s, AH, nh, ch, HH, AO, no, co, O, rt⟩ := r
  unfold CardR.val
  dsimp only at *
  clear hZ hZ1 hb1 hlen
  go_enter Tryz.func175, Tryz.ntmps175
  go_wp2
  go_ret
  exact ⟨rfl, HB.out⟩
theorem r6has_any (L : List Int) (n c : Nat) (A : Option Addr) (z : Int) (w : World) (hZ : IntsZ w A n L) (hn : n ≤ 1000) :
  Calls Tryz.prog 66 #[.slice A n c, .int .i64 z] w (RetPost (.bool (decide (z ∈ L))) w) := by
 have hni : (n : Int) ≤ 1000 := by omega
 have H := Lib.hid hZ
 obtain ⟨y, hy⟩ : ∃ y, decide (z ∈ L) = y := ⟨_, rfl⟩
 rw [hy]
 have HY : Hid (decide (z ∈ L.drop 0) = y) := Lib.hid hy
 have HL := Lib.hid hZ.1
 clear hZ hn hy
 go_enter Tryz.func66, Tryz.ntmps66
 go_wp2
 go_loopw [5] (fun i wr => ∃ k : Nat, k ≤ n ∧ i = .int .i64 k ∧ Hid (decide (z ∈ L.drop k) = y) ∧ Below w.heap.size w wr) (fun i _ => n - (RowKit.intOf i).toNat)
 case atStart => exact ⟨0, by omega, rfl, HY, Below.refl _ _⟩
 case round =>
  obtain ⟨k, hk, rfl, HK, hb⟩ := hrel
  by_cases hlt : k < n
  ·obtain ⟨g, off, rfl, hgl, hc⟩ := (H.out.below hb).2 (by omega)
   have hkl : k < L.length := by have := HL.out; omega
   have hx := hc k L[k] (List.getElem?_eq_getElem hkl)
   have hst := HK.out
   rw [List.drop_eq_getElem_cons hkl] at hst
   obtain ⟨x, ex⟩ : ∃ x, L[k] = x := ⟨_, rfl⟩
   rw [ex] at hst hx
   have hki : (k : Int) < (n : Int) := by omega
   have hk0 : (0 : Int) ≤ (k : Int) := by omega
   have hkt : ((k : Int)).toNat = k := by omega
   have HB := Lib.hid hb
   by_cases h1 : x = z
   ·have hy1 : true = y := by rw [← hst, decide_eq_true (by rw [h1]; exact List.mem_cons_self)]
    have hxz : (x == z) = true := by simp [h1]
    subst hy1
    clear hst h1 hc hb ex
    go_wp2
    go_ret
    exact ⟨rfl, HB.out⟩
   ·have Hst : Hid (decide (z ∈ L.drop (k + 1)) = y) := Lib.hid (by
     rw [← hst]
     refine decide_eq_decide.2 ⟨fun q => List.mem_cons_of_mem _ q, fun q => ?_⟩
     rcases List.mem_cons.1 q with q | q
     ·exact absurd q.symm h1
     ·exact q)
    have hxz : (x == z) = false := by simp [h1]
    clear hst h1 hc hb ex HK
    go_wp2
    go_roundw
    case rel => exact ⟨k + 1, by omega, by go_num, Hst, HB.out⟩
    case measure => simp [RowKit.intOf]; omega
  ·have hst := HK.out
   rw [List.drop_eq_nil_of_le (by rw [HL.out]; omega)] at hst
   have hy1 : false = y := by rw [← hst]; simp
   subst hy1
   have HB := Lib.hid hb
   clear hst hb HK
   go_wp2
   go_ret
   exact ⟨rfl, HB.out⟩
end Go.Mk
end
section
namespace Go.Mk
theorem notZ_range (r : CardR) (k : Nat) : 0 ≤ notZ r k ∧ notZ r k ≤ 2 := by
 unfold notZ
 cases r.O[k]? with
 | none => simp
 | some x => dsimp only; split <;> omega
theorem offC_step {x y : CardR} (hx : CardV x) (hy : CardV y) (k : Nat) (h : k < x.O.length ∨ k < y.O.length) :
  (notZ x k ≠ notZ y k → offC ((bls x.O).drop k) ((bls y.O).drop k) = cmpZ (notZ x k) (notZ y k) ∧ cmpZ (notZ x k) (notZ y k) ≠ 0) ∧ (notZ x k = notZ y k → k < x.O.length ∧ k < y.O.length ∧ offC ((bls x.O).drop k) ((bls y.O).drop k) = offC ((bls x.O).drop (k + 1)) ((bls y.O).drop (k + 1))) := by
 have hn : ∀ (r : CardR) (z : ByteArray), r.O[k]? = some z → notZ r k = if bl z = [111] then 2 else 1 := fun r z hz => by unfold notZ; rw [hz]
 have h0 : ∀ r : CardR, ¬ k < r.O.length → notZ r k = 0 ∧ (bls r.O).drop k = [] := fun r hr => by
  refine ⟨by unfold notZ; rw [List.getElem?_eq_none (by omega)], List.drop_eq_nil_of_le (by rw [bls_length]; omega)⟩
 by_cases h1 : k < x.O.length
 ·have e1 := List.getElem?_eq_getElem h1
  have v1 := hx.2 _ (List.mem_of_getElem? e1)
  obtain ⟨X, eX⟩ : ∃ X, x.O[k] = X := ⟨_, rfl⟩
  rw [eX] at e1 v1
  have n1 := hn x X e1
  by_cases h2 : k < y.O.length
  ·have e2 := List.getElem?_eq_getElem h2
   have v2 := hy.2 _ (List.mem_of_getElem? e2)
   obtain ⟨Y, eY⟩ : ∃ Y, y.O[k] = Y := ⟨_, rfl⟩
   rw [eY] at e2 v2
   have n2 := hn y Y e2
   rw [offC_drop (bls_get e1) (bls_get e2), n1, n2]
   unfold attC
   rcases v1 with v1 | v1 <;> rcases v2 with v2 | v2 <;> rw [v1, v2]
   ·exact ⟨fun q => absurd rfl q, fun _ => ⟨h1, h2, by simp⟩⟩
   ·refine ⟨fun _ => ⟨by simp [cmpZ], by simp [cmpZ]⟩, fun q => by simp at q⟩
   ·refine ⟨fun _ => ⟨by simp [cmpZ], by simp [cmpZ]⟩, fun q => by simp at q⟩
   ·exact ⟨fun q => absurd rfl q, fun _ => ⟨h1, h2, by simp⟩⟩
  ·obtain ⟨n2, d2⟩ := h0 y h2
   have hl : k < (bls x.O).length := by rw [bls_length]; exact h1
   rw [d2, List.drop_eq_getElem_cons hl, offC, n2, n1]
   refine ⟨fun _ => ?_, fun q => ?_⟩
   ·split <;> simp [cmpZ]
   ·split at q <;> omega
 ·have h2 : k < y.O.length := by omega
  obtain ⟨n1, d1⟩ := h0 x h1
  have e2 := List.getElem?_eq_getElem h2
  have n2 := hn y _ e2
  have hl : k < (bls y.O).length := by rw [bls_length]; exact h2
  rw [d1, List.drop_eq_getElem_cons hl, offC, n2, n1]
  refine ⟨fun _ => ?_, fun q => ?_⟩
  ·split <;> simp [cmpZ]
  ·split at q <;> omega
theorem r6off_any (x y : CardR) (w : World) (hx : CardZ w x) (hy : CardZ w y) (hn1 : x.no ≤ 900) (hn2 : y.no ≤ 900) (hvx : CardV x) (hvy : CardV y) :
  Calls Tryz.prog 67 #[x.val, y.val] w (RetPost (.int .i64 (cmpOff (bls x.O) (bls y.O) x.rt y.rt)) w) := by
 obtain ⟨g, hg⟩ : ∃ g, w.heap.size = g := ⟨_, rfl⟩
 obtain ⟨w1, hw1⟩ : ∃ w1, (w.alloc (.cells #[.string x.s, .slice x.AH x.nh x.ch, .slice x.AO x.no x.co, .bool x.rt] 66)).alloc (.cells #[.string y.s, .slice y.AH y.nh y.ch, .slice y.AO y.no y.co, .bool y.rt] 66) = w1 := ⟨_, rfl⟩
 have hb1 : Below w.heap.size w w1 := by rw [← hw1]; exact balloc _ (balloc _ (Below.refl _ _))
 have hgl : g + 1 < w1.heap.size := by rw [← hw1, ← hg]; simp
 have HN1' : Hid (∀ (k : Nat) (w' : World), k ≤ 1000 → Below w1.heap.size w1 w' → Calls Tryz.prog 120 #[x.val, .int .i64 k] w' (RetPost (.int .i64 (notZ x k)) w')) := Lib.hid fun k w' hk hb => r6noted_any x k w' (hx.below (bstep hb1 hb)) (by omega) hk
 have HN2' : Hid (∀ (k : Nat) (w' : World), k ≤ 1000 → Below w1.heap.size w1 w' → Calls Tryz.prog 120 #[y.val, .int .i64 k] w' (RetPost (.int .i64 (notZ y k)) w')) := Lib.hid fun k w' hk hb => r6noted_any y k w' (hy.below (bstep hb1 hb)) (by omega) hk
 obtain ⟨Z, hZ⟩ : ∃ Z, offC (bls x.O) (bls y.O) = Z := ⟨_, rfl⟩
 have HST : Hid (∀ k : Nat, (k < x.no ∨ k < y.no) → offC ((bls x.O).drop k) ((bls y.O).drop k) = Z → (notZ x k ≠ notZ y k → Z = cmpZ (notZ x k) (notZ y k) ∧ Z ≠ 0) ∧ (notZ x k = notZ y k → k < x.no ∧ k < y.no ∧ offC ((bls x.O).drop (k + 1)) ((bls y.O).drop (k + 1)) = Z)) := Lib.hid fun k hk hz => by
  have l1 := hx.2.2.1.1
  have l2 := hy.2.2.1.1
  have := offC_step hvx hvy k (by omega)
  rw [hz] at this
  exact ⟨fun q => ⟨(this.1 q).1, by rw [(this.1 q).1]; exact (this.1 q).2⟩, fun q => by obtain ⟨a, b, c⟩ := this.2 q; exact ⟨by omega, by omega, c.symm⟩⟩
 have HEN : Hid (∀ k : Nat, ¬ k < x.no → ¬ k < y.no → offC ((bls x.O).drop k) ((bls y.O).drop k) = Z → Z = 0) := Lib.hid fun k h1 h2 hz => by
  have l1 := hx.2.2.1.1
  have l2 := hy.2.2.1.1
  rw [List.drop_eq_nil_of_le (by rw [bls_length]; omega), List.drop_eq_nil_of_le (by rw [bls_length]; omega)] at hz
  exact hz.symm
 have HNR : Hid (∀ k : Nat, (0 ≤ notZ x k ∧ notZ x k ≤ 2) ∧ (0 ≤ notZ y k ∧ notZ y k ≤ 2)) := Lib.hid fun k => ⟨notZ_range x k, notZ_range y k⟩
 have HZ0 : Hid (offC ((bls x.O).drop 0) ((bls y.O).drop 0) = Z) := Lib.hid hZ
 unfold cmpOff
 rw [hZ]
 obtain ⟨res, hres⟩ : ∃ res, (if Z = 0 then (if x.rt = y.rt then (0 : Int) else if y.rt = true then 1 else -1) else Z) = res := ⟨_, rfl⟩
 rw [hres]
 have HRES := Lib.hid hres
 have hn1' : (x.no : Int) ≤ 900 := by omega
 have hn2' : (y.no : Int) ≤ 900 := by omega
 have HB0 := Lib.hid hb1
 clear hx hy hvx hvy hZ hb1 hn1 hn2 hres
 obtain ⟨s1, A1, n1, c1, H1, B1, m1, d1, O1, r1⟩ := x
 obtain ⟨s2, A2, n2, c2, H2, B2, m2, d2, O2, r2⟩ := y
 unfold CardR.val at *
 have HX : Hid (∀ w', Below w1.heap.size w1 w' → (fun w' => (w'.cell? ⟨g, 0, none⟩ = some (.string s1) ∧ w'.cell? ⟨g, 1, none⟩ = some (.slice A1 n1 c1) ∧ w'.cell? ⟨g, 2, none⟩ = some (.slice B1 m1 d1) ∧ w'.cell? ⟨g, 3, none⟩ = some (.bool r1)) ∧ (w'.cell? ⟨g + 1, 0, none⟩ = some (.string s2) ∧ w'.cell? ⟨g + 1, 1, none⟩ = some (.slice A2 n2 c2) ∧ w'.cell? ⟨g + 1, 2, none⟩ = some (.slice B2 m2 d2) ∧ w'.cell? ⟨g + 1, 3, none⟩ = some (.bool r2)) ∧ Below w1.heap.size w1 w') w') := Lib.hid fun w' hb => by
  refine ⟨⟨?_, ?_, ?_, ?_⟩, ⟨?_, ?_, ?_, ?_⟩, hb⟩
  all_goals
   refine (hb.cell (p := ⟨_, _, none⟩) (by dsimp only; omega)).trans ?_
   rw [← hw1, ← hg]; simp
 dsimp only at *
 generalize (notZ ⟨s1, A1, n1, c1, H1, B1, m1, d1, O1, r1⟩) = X at *
 generalize (notZ ⟨s2, A2, n2, c2, H2, B2, m2, d2, O2, r2⟩) = Y at *
 obtain ⟨⟨a0, a1, a2, a3⟩, ⟨e0, e1, e2, e3⟩, _⟩ := HX.out w1 (Below.refl _ _)
 clear hgl
 go_enter Tryz.func67, Tryz.ntmps67
 go_wp2
 clear a0 a1 a2 a3 e0 e1 e2 e3 hw1
 go_loopw [5] (fun i wr => ∃ k : Nat, (k ≤ m1 ∨ k ≤ m2) ∧ i = .int .i64 k ∧ Hid (offC ((bls O1).drop k) ((bls O2).drop k) = Z) ∧ Below w1.heap.size w1 wr) (fun i _ => m1 + m2 + 1 - (RowKit.intOf i).toNat)
 case atStart => exact ⟨0, by omega, rfl, HZ0, Below.refl _ _⟩
 case round =>
  obtain ⟨k, hk, rfl, HK, hb⟩ := hrel
  obtain ⟨⟨a0, a1, a2, a3⟩, ⟨e0, e1, e2, e3⟩, _⟩ := HX.out wr hb
  have hk9 : k ≤ 900 := by omega
  have HB := Lib.hid hb
  have HN1 : Hid (∀ w', Below w1.heap.size w1 w' → Calls Tryz.prog 120 #[.agg #[.string s1, .slice A1 n1 c1, .slice B1 m1 d1, .bool r1], .int .i64 k] w' (RetPost (.int .i64 (X k)) w')) := Lib.hid fun w' hb => HN1'.out k w' (by omega) hb
  have HN2 : Hid (∀ w', Below w1.heap.size w1 w' → Calls Tryz.prog 120 #[.agg #[.string s2, .slice A2 n2 c2, .slice B2 m2 d2, .bool r2], .int .i64 k] w' (RetPost (.int .i64 (Y k)) w')) := Lib.hid fun w' hb => HN2'.out k w' (by omega) hb
  obtain ⟨⟨hX0, hX2⟩, ⟨hY0, hY2⟩⟩ := HNR.out k
  by_cases hor : k < m1 ∨ k < m2
  ·have hst := HST.out k hor HK.out
   have hki0 : (k : Int) ≤ 900 := by omega
   have hcond : ((k : Int) < (m1 : Int)) ∨ (¬ (k : Int) < (m1 : Int) ∧ (k : Int) < (m2 : Int)) := by omega
   obtain ⟨p, hp⟩ : ∃ p, X k = p := ⟨_, rfl⟩
   obtain ⟨q, hq⟩ : ∃ q, Y k = q := ⟨_, rfl⟩
   rw [hp] at hst HN1 hX0 hX2
   rw [hq] at hst HN2 hY0 hY2
   have HSTK := Lib.hid hst
   have hHK := Lib.hid hk
   clear hst hp hq HK hb hor hk hk9
   rcases hcond with hki | ⟨hki, hki2⟩
   all_goals
    go_wp2_with fail
    clear a0 a1 a2 a3 e0 e1 e2 e3
    refine wp_region_held_drew (S := fun w' => (w'.cell? ⟨g, 0, none⟩ = some (.string s1) ∧ w'.cell? ⟨g, 1, none⟩ = some (.slice A1 n1 c1) ∧ w'.cell? ⟨g, 2, none⟩ = some (.slice B1 m1 d1) ∧ w'.cell? ⟨g, 3, none⟩ = some (.bool r1)) ∧ (w'.cell? ⟨g + 1, 0, none⟩ = some (.string s2) ∧ w'.cell? ⟨g + 1, 1, none⟩ = some (.slice A2 n2 c2) ∧ w'.cell? ⟨g + 1, 2, none⟩ = some (.slice B2 m2 d2) ∧ w'.cell? ⟨g + 1, 3, none⟩ = some (.bool r2)) ∧ Below w1.heap.size w1 w') (by kernel_rfl) ?_ (fun hHeld => ?_)
    ·exact HX.out _ (Below.drew HB.out)
    generalize World.drew _ = we at hHeld ⊢
    refine zV 0 (h := zV 1 (h := zV 3 (h := zV 4 (h := ?_))))
    try simp only [zP, zQ, zA2, zA3]
    refine zN 2 fun K hKK => ?_
    go_simp
    go_at_call 120
    with_reducible refine (HN1.out _ hHeld.2.2).mono ?_
    rintro e w5 ⟨rfl, hb5⟩
    have hX := bstep hHeld.2.2 hb5
    clear hHeld hb5
    go_wp2_with fail
    refine hKK.out _ _ ?_ (fun hHeld => ?_)
    ·exact HX.out _ hX
    clear hKK K
    try simp only [zP, zQ, zA2, zA3]
    clear hX
    refine zN 5 fun K hKK => ?_
    go_simp
    go_at_call 120
    with_reducible refine (HN2.out _ hHeld.2.2).mono ?_
    rintro e w5 ⟨rfl, hb5⟩
    have hX := bstep hHeld.2.2 hb5
    clear hHeld hb5
    go_wp2_with fail
    refine hKK.out _ _ ?_ (fun hHeld => ?_)
    ·exact HX.out _ hX
    clear hKK K
    try simp only [zP, zQ, zA2, zA3]
    clear hX
    refine zV 6 (h := zV 7 (h := ?_))
    try simp only [zP, zQ, zA2, zA3]
    refine wpAnyH_done (by kernel_rfl) ?_ _
    have HF := Lib.hid hHeld.2.2
    clear hHeld
    by_cases hpq : p = q
    ·obtain ⟨u1, u2, u3⟩ := HSTK.out.2 hpq
     have hne : (p != q) = false := by simp [hpq]
     have HU := Lib.hid (And.intro u1 (And.intro u2 u3))
     clear u1 u2 u3 hpq
     go_wp2
     go_roundw
     case rel => exact ⟨k + 1, by have := HU.out.1; omega, by go_num, Lib.hid HU.out.2.2, HF.out⟩
     case measure => have := HU.out.1; simp [RowKit.intOf]; omega
    ·obtain ⟨u1, u2⟩ := HSTK.out.1 hpq
     have hne : (p != q) = true := by rw [bne_iff_ne]; exact hpq
     have hr := HRES.out
     rw [if_neg u2, u1] at hr
     subst hr
     clear hpq u1 u2 HSTK HRES
     go_wp2_with fail
     refine (r6compare_any _ _ _).mono ?_
     rintro e w5 ⟨rfl, rfl⟩
     go_wp2
     go_ret
     exact ⟨rfl, bstep HB0.out HF.out⟩
  ·have hk1 : ¬ (k : Int) < (m1 : Int) := by omega
   have hk2 : ¬ (k : Int) < (m2 : Int) := by omega
   have hz := HEN.out k (by omega) (by omega) HK.out
   have hr := HRES.out
   rw [if_pos hz] at hr
   have HF := Lib.hid (bstep HB0.out hb)
   clear hb hor hk HK hz hk9
   clear HRES HX HN1' HN2' HN1 HN2 HST HEN HNR
   cases r1 <;> cases r2
   all_goals
    simp at hr
    subst hr
    go_wp2
    go_ret
    exact ⟨rfl, HF.out⟩
theorem r6firsts_any (L : List CardR) (n cap : Nat) (A : Option Addr) (w : World) (hZ : Cards w A n L) (hn : n ≤ 100) (hs : ∀ r ∈ L, r.nh ≤ 1000 ∧ ∀ x ∈ r.H, x.size ≤ 5000) (hv : ∀ r ∈ L, CardV r) :
  Calls Tryz.prog 62 #[.slice A n cap] w (fun e w' => ∃ v, e = .returned v ∧ OwnZ w' w.heap.size v ((fstsL L).map fun i : Nat => (i : Int)) ∧ Below w.heap.size w w') := by
 obtain ⟨i0, hi, hz0, hz1, hz2⟩ := info_parts infoInt
 have hni : (n : Int) ≤ 100 := by omega
 have H := Lib.hid hZ
 have HL := Lib.hid hZ.1
 have HBE : Hid (∀ (r : CardR) (w' : World), r ∈ L → Below w.heap.size w w' → CardZ w' r → Calls Tryz.prog 64 #[r.val] w' (RetPost (.int .i64 ((talR r).a - 1)) w')) := Lib.hid fun r w' hr hb hc => r6best_any r w' hc (hs r hr).1 (hs r hr).2 (hv r hr)
 have HHG : Hid (∀ (x y : CardR) (w' : World), x ∈ L → y ∈ L → 0 < (talR x).a → 0 < (talR y).a → CardZ w' x → CardZ w' y → Calls Tryz.prog 65 #[x.val, y.val] w' (RetPost (.int .i64 (cmpL (talR x).l (talR y).l)) w')) := Lib.hid fun x y w' hx hy h1 h2 c1 c2 => r6higher_any x y w' c1 c2 (hs x hx) (hs y hy) (hv x hx) (hv y hy) h1 h2
 have HTR : Hid (∀ r ∈ L, 0 ≤ (talR r).a ∧ (talR r).a ≤ 1000) := Lib.hid fun r hr => by
  have h1 := tal_range r
  obtain ⟨j, hj⟩ := List.mem_iff_getElem?.1 hr
  have hjl := (List.getElem?_eq_some_iff.1 hj).1
  rw [hZ.1] at hjl
  obtain ⟨_, _, _, _, hc⟩ := hZ.2 (by omega)
  have := (hc j r hj).2.1.1
  have := (hs r hr).1
  exact ⟨h1.1, by omega⟩
 have HFA : Hid (∀ r ∈ L, (decide (0 < (talR r).a) && (L.take n).all fun x => !(decide (0 < (talR x).a) && decide (0 < cmpL (talR x).l (talR r).l))) = fstC L r) := Lib.hid fun r hr => by
  rw [List.take_of_length_le (by rw [hZ.1]; exact Nat.le_refl _)]
  exact first_all hr
 obtain ⟨f, hf⟩ : ∃ f, fstB L (bestT L) = f := ⟨_, rfl⟩
 have HFB : Hid (∀ (i : Nat) (r : CardR), L[i]? = some r → f i = fstC L r) := Lib.hid fun i r hr => by rw [← hf]; exact fstB_eq hr
 unfold fstsL
 rw [hf, hZ.1]
 clear hZ hs hv hf hn
 go_enter Tryz.func62, Tryz.ntmps62
 go_wp2
 go_loopw [3, 4] (fun v i wr => ∃ k : Nat, k ≤ n ∧ i = .int .i64 k ∧ OwnZ wr w.heap.size v (((List.range k).filter f).map fun i : Nat => (i : Int)) ∧ Below w.heap.size w wr) (fun _ i _ => n - (RowKit.intOf i).toNat)
 case atStart => exact ⟨0, by omega, rfl, World.ownsRow_nil _ _ _ _, Below.refl _ _⟩
 case round =>
  obtain ⟨i, hi', rfl, hown, hb⟩ := hrel
  by_cases hlt : i < n
  ·obtain ⟨b', off, r, rfl, hbl, hr, ⟨hc0, hc1, hc2, hc3⟩, hCZ⟩ := (H.out.below hb).at_ hlt
   have hki : (i : Int) < (n : Int) := by omega
   have hk0 : (0 : Int) ≤ (i : Int) := by omega
   have hkt : ((i : Int)).toNat = i := by omega
   have hrm := List.mem_of_getElem? hr
   have hB := HBE.out r wr hrm hb hCZ
   obtain ⟨ta0, ta1⟩ := HTR.out r hrm
   have HO := Lib.hid hown
   have HB1 := Lib.hid hb
   have HR := Lib.hid hr
   have HFI : Hid (f i = fstC L r) := Lib.hid (HFB.out i r hr)
   obtain ⟨a, ha⟩ : ∃ a, (talR r).a = a := ⟨_, rfl⟩
   have HA := Lib.hid ha
   rw [ha] at hB ta0 ta1
   obtain ⟨s2, A2, n2, c2, H2, B2, m2, d2, O2, r2⟩ := r
   unfold CardR.val at hB
   dsimp only at *
   have hbl0 := hbl
   clear hown hb hr hCZ ha hrm
   go_wp2_with fail
   refine hB.mono ?_
   rintro e w2 ⟨rfl, hb2⟩
   have HB2 := Lib.hid (bstep HB1.out hb2)
   have HO2 := Lib.hid (show OwnZ w2 w.heap.size _ _ from ownN HO.out hb2)
   clear hc0 hc1 hc2 hc3 hb2 hB HO HB1 hbl
   obtain ⟨fb, hfb⟩ : ∃ fb, decide (1 ≤ a) = fb := ⟨_, rfl⟩
   have HFB0 : Hid (fb = decide (0 < a)) := Lib.hid (by rw [← hfb]; exact decide_eq_decide.2 (by omega))
   go_wp2
   clear hfb
   go_loopw [5, 6] (fun v j wr => ∃ k : Nat, k ≤ n ∧ j = .int .i64 k ∧ v = .bool (decide (0 < a) && (L.take k).all fun x => !(decide (0 < (talR x).a) && decide (0 < cmpL (talR x).l (talR ⟨s2, A2, n2, c2, H2, B2, m2, d2, O2, r2⟩).l))) ∧ Below w2.heap.size w2 wr) (fun _ j _ => n - (RowKit.intOf j).toNat)
   case atStart => exact ⟨0, by omega, rfl, by rw [HFB0.out]; simp, Below.refl _ _⟩
   case round =>
    obtain ⟨k, hk, rfl, rfl, hbk⟩ := hrel
    have HB := Lib.hid (bstep HB2.out hbk)
    have HBK2 := Lib.hid hbk
    by_cases hkn : k < n
    ·obtain ⟨b2, off2, x, e2, hbl2, hx, ⟨x0, x1, x2, x3⟩, hCX⟩ := (H.out.below HB.out).at_ hkn
     obtain ⟨rfl, rfl⟩ : b' = b2 ∧ off = off2 := by simpa using e2
     obtain ⟨b3, off3, y, e3, hbl3, hy, ⟨y0, y1, y2, y3⟩, hCY⟩ := (H.out.below HB.out).at_ hlt
     obtain ⟨rfl, rfl⟩ : b' = b3 ∧ off = off3 := by simpa using e3
     obtain rfl : y = ⟨s2, A2, n2, c2, H2, B2, m2, d2, O2, r2⟩ := by have := HR.out; rw [hy] at this; exact Option.some.inj this
     have hkk : (k : Int) < (n : Int) := by omega
     have hkk0 : (0 : Int) ≤ (k : Int) := by omega
     have hkkt : ((k : Int)).toNat = k := by omega
     have hxm := List.mem_of_getElem? hx
     have hym := List.mem_of_getElem? hy
     obtain ⟨hxa0, hxa1⟩ := HTR.out x hxm
     have hstep : ∀ p : CardR → Bool, (L.take (k + 1)).all p = ((L.take k).all p && p x) := fun p => by
      rw [List.take_add_one, hx, Option.toList_some, List.all_append]; simp
     have HBK : Hid (∀ w', Below w2.heap.size w2 w' → Calls Tryz.prog 64 #[x.val] w' (RetPost (.int .i64 ((talR x).a - 1)) w')) := Lib.hid fun w' hb'' => by
      have hb' := bstep HB2.out hb''
      refine HBE.out x w' hxm hb' ?_
      obtain ⟨_, _, x', _, _, hx', _, hc'⟩ := (H.out.below hb').at_ hkn
      obtain rfl : x' = x := by rw [hx] at hx'; exact (Option.some.inj hx').symm
      exact hc'
     have HHI0 : Hid (0 < (talR x).a → 0 < a → ∀ w', Below w2.heap.size w2 w' → Calls Tryz.prog 65 #[x.val, CardR.val ⟨s2, A2, n2, c2, H2, B2, m2, d2, O2, r2⟩] w' (RetPost (.int .i64 (cmpL (talR x).l (talR ⟨s2, A2, n2, c2, H2, B2, m2, d2, O2, r2⟩).l)) w')) := Lib.hid fun h1 h2 w' hb'' => by
      have hb' := bstep HB2.out hb''
      obtain ⟨_, _, x', _, _, hx', _, hc'⟩ := (H.out.below hb').at_ hkn
      obtain rfl : x' = x := by rw [hx] at hx'; exact (Option.some.inj hx').symm
      obtain ⟨_, _, y', _, _, hy', _, hc2'⟩ := (H.out.below hb').at_ hlt
      obtain rfl : y' = ⟨s2, A2, n2, c2, H2, B2, m2, d2, O2, r2⟩ := by rw [hy] at hy'; exact (Option.some.inj hy').symm
      exact HHG.out x' _ w' hxm hym h1 (by rw [HA.out]; exact h2) hc' hc2'
     obtain ⟨q, hq⟩ : ∃ q, cmpL (talR x).l (talR ⟨s2, A2, n2, c2, H2, B2, m2, d2, O2, r2⟩).l = q := ⟨_, rfl⟩
     obtain ⟨c, hc⟩ : ∃ c, (talR x).a = c := ⟨_, rfl⟩
     obtain ⟨F, hF⟩ : ∃ F : Nat → Bool, (fun k : Nat => decide (0 < a) && (L.take k).all fun x => !(decide (0 < (talR x).a) && decide (0 < cmpL (talR x).l (talR ⟨s2, A2, n2, c2, H2, B2, m2, d2, O2, r2⟩).l))) = F := ⟨_, rfl⟩
     have hFk : ∀ k, (decide (0 < a) && (L.take k).all fun x => !(decide (0 < (talR x).a) && decide (0 < cmpL (talR x).l (talR ⟨s2, A2, n2, c2, H2, B2, m2, d2, O2, r2⟩).l))) = F k := fun k => by rw [← hF]
     have hF1 : F (k + 1) = (F k && !(decide (0 < c) && decide (0 < q))) := by
      rw [← hFk, ← hFk, hstep, hc, hq, Bool.and_assoc]
     have hFa : F k = true → 0 < a := fun z => by
      rw [← hFk, Bool.and_eq_true, decide_eq_true_eq] at z; exact z.1
     have HFK := Lib.hid hFk
     rw [hFk k]
     rw [hc] at HBK HHI0 hxa0 hxa1
     rw [hq] at HHI0
     obtain ⟨s1, A1, n1, c1, H1, B1, m1, d1, O1, r1⟩ := x
     unfold CardR.val at HBK HHI0
     have HX : Hid (∀ w', Below w2.heap.size w2 w' → (fun w' => (w'.cell? ⟨b', off + k * 4, none⟩ = some (.string s1) ∧ w'.cell? ⟨b', off + k * 4 + 1, none⟩ = some (.slice A1 n1 c1) ∧ w'.cell? ⟨b', off + k * 4 + 2, none⟩ = some (.slice B1 m1 d1) ∧ w'.cell? ⟨b', off + k * 4 + 3, none⟩ = some (.bool r1)) ∧ (w'.cell? ⟨b', off + i * 4, none⟩ = some (.string s2) ∧ w'.cell? ⟨b', off + i * 4 + 1, none⟩ = some (.slice A2 n2 c2) ∧ w'.cell? ⟨b', off + i * 4 + 2, none⟩ = some (.slice B2 m2 d2) ∧ w'.cell? ⟨b', off + i * 4 + 3, none⟩ = some (.bool r2)) ∧ Below w2.heap.size w2 w') w') := Lib.hid fun w' hb'' => by
      have hb' := bstep HB2.out hb''
      obtain ⟨b4, off4, x', e4, _, hx', hcx', _⟩ := (H.out.below hb').at_ hkn
      obtain ⟨rfl, rfl⟩ : b' = b4 ∧ off = off4 := by simpa using e4
      obtain rfl : x' = ⟨s1, A1, n1, c1, H1, B1, m1, d1, O1, r1⟩ := by rw [hx] at hx'; exact (Option.some.inj hx').symm
      obtain ⟨b5, off5, y', e5, _, hy', hcy', _⟩ := (H.out.below hb').at_ hlt
      obtain ⟨rfl, rfl⟩ : b' = b5 ∧ off = off5 := by simpa using e5
      obtain rfl : y' = ⟨s2, A2, n2, c2, H2, B2, m2, d2, O2, r2⟩ := by rw [hy] at hy'; exact (Option.some.inj hy').symm
      exact ⟨hcx', hcy', hb''⟩
     dsimp only at *
     clear hstep hFk hF hq hc hx hy hxm hym hCX hCY x0 x1 x2 x3 y0 y1 y2 y3 hbl2 hbl3 hbk e2 e3 ta0 ta1
     cases hFv : F k with
     | false =>
      have E1 : Hid (F (k + 1) = false) := Lib.hid (by rw [hF1, hFv]; rfl)
      clear hF1 hFa hFv
      go_wp2_with fail
      refine wp_region_held_drew (S := fun w' => (w'.cell? ⟨b', off + k * 4, none⟩ = some (.string s1) ∧ w'.cell? ⟨b', off + k * 4 + 1, none⟩ = some (.slice A1 n1 c1) ∧ w'.cell? ⟨b', off + k * 4 + 2, none⟩ = some (.slice B1 m1 d1) ∧ w'.cell? ⟨b', off + k * 4 + 3, none⟩ = some (.bool r1)) ∧ (w'.cell? ⟨b', off + i * 4, none⟩ = some (.string s2) ∧ w'.cell? ⟨b', off + i * 4 + 1, none⟩ = some (.slice A2 n2 c2) ∧ w'.cell? ⟨b', off + i * 4 + 2, none⟩ = some (.slice B2 m2 d2) ∧ w'.cell? ⟨b', off + i * 4 + 3, none⟩ = some (.bool r2)) ∧ Below w2.heap.size w2 w') (by kernel_rfl) ?_ (fun hHeld => ?_)
      ·exact HX.out _ (Below.drew HBK2.out)
      generalize World.drew _ = we at hHeld ⊢
      refine zU 0 ?_ rfl ?_ ?_
      rotate_left
      ·rintro w ⟨⟨a0, a1, a2, a3⟩, ⟨b0, b1, b2, b3⟩, sb⟩
       go_simp
       try with_reducible rfl
      try simp only [Act.put, zA1, zA2, zA3, zA4, zA5, zA6]
      refine zU 1 ?_ rfl ?_ ?_
      rotate_left
      ·rintro w ⟨⟨a0, a1, a2, a3⟩, ⟨b0, b1, b2, b3⟩, sb⟩
       go_simp
       try with_reducible rfl
      try simp only [Act.put, zA1, zA2, zA3, zA4, zA5, zA6]
      refine zD 2 rfl ?_
      try simp only [Act.put, zA1, zA2, zA3, zA4, zA5, zA6]
      refine zD 3 rfl ?_
      try simp only [Act.put, zA1, zA2, zA3, zA4, zA5, zA6]
      refine zD 4 rfl ?_
      try simp only [Act.put, zA1, zA2, zA3, zA4, zA5, zA6]
      refine zD 5 rfl ?_
      try simp only [Act.put, zA1, zA2, zA3, zA4, zA5, zA6]
      refine zD 6 rfl ?_
      try simp only [Act.put, zA1, zA2, zA3, zA4, zA5, zA6]
      refine zD 7 rfl ?_
      try simp only [Act.put, zA1, zA2, zA3, zA4, zA5, zA6]
      refine zU 8 ?_ rfl ?_ ?_
      rotate_left
      ·rintro w ⟨⟨a0, a1, a2, a3⟩, ⟨b0, b1, b2, b3⟩, sb⟩
       go_simp
       try with_reducible rfl
      try simp only [Act.put, zA1, zA2, zA3, zA4, zA5, zA6]
      refine zU 9 ?_ rfl ?_ ?_
      rotate_left
      ·rintro w ⟨⟨a0, a1, a2, a3⟩, ⟨b0, b1, b2, b3⟩, sb⟩
       go_simp
       try with_reducible rfl
      try simp only [Act.put, zA1, zA2, zA3, zA4, zA5, zA6]
      refine zD 10 rfl ?_
      try simp only [Act.put, zA1, zA2, zA3, zA4, zA5, zA6]
      refine zD 11 rfl ?_
      try simp only [Act.put, zA1, zA2, zA3, zA4, zA5, zA6]
      refine zD 12 rfl ?_
      try simp only [Act.put, zA1, zA2, zA3, zA4, zA5, zA6]
      refine zD 13 rfl ?_
      try simp only [Act.put, zA1, zA2, zA3, zA4, zA5, zA6]
      refine zD 14 rfl ?_
      try simp only [Act.put, zA1, zA2, zA3, zA4, zA5, zA6]
      refine zD 15 rfl ?_
      try simp only [Act.put, zA1, zA2, zA3, zA4, zA5, zA6]
      refine zD 16 rfl ?_
      try simp only [Act.put, zA1, zA2, zA3, zA4, zA5, zA6]
      refine zD 17 rfl ?_
      try simp only [Act.put, zA1, zA2, zA3, zA4, zA5, zA6]
      refine zD 18 rfl ?_
      try simp only [Act.put, zA1, zA2, zA3, zA4, zA5, zA6]
      refine zD 19 rfl ?_
      try simp only [Act.put, zA1, zA2, zA3, zA4, zA5, zA6]
      refine zU 20 ?_ rfl ?_ ?_
      rotate_left
      ·rintro w ⟨⟨a0, a1, a2, a3⟩, ⟨b0, b1, b2, b3⟩, sb⟩
       go_simp
       try with_reducible rfl
      try simp only [Act.put, zA1, zA2, zA3, zA4, zA5, zA6]
      refine wpAnyH_done (by kernel_rfl) ?_ _
      have HF := Lib.hid hHeld.2.2
      clear hHeld
      go_wp2
      go_roundw
      case rel => exact ⟨k + 1, by omega, by go_num, by rw [HFK.out, E1.out], HF.out⟩
      case measure => simp [RowKit.intOf]; omega
     | true =>
      have ha0 := hFa hFv
      by_cases hc0 : 0 < c
      ·have hcn : (1 : Int) ≤ c := by omega
       have HHI := Lib.hid (HHI0.out hc0 ha0)
       by_cases hq0 : 0 < q
       ·have E1 : Hid (F (k + 1) = false) := Lib.hid (by rw [hF1, hFv, decide_eq_true hc0, decide_eq_true hq0]; rfl)
        clear hF1 hFa hFv ha0
        go_wp2_with fail
        refine wp_region_held_drew (S := fun w' => (w'.cell? ⟨b', off + k * 4, none⟩ = some (.string s1) ∧ w'.cell? ⟨b', off + k * 4 + 1, none⟩ = some (.slice A1 n1 c1) ∧ w'.cell? ⟨b', off + k * 4 + 2, none⟩ = some (.slice B1 m1 d1) ∧ w'.cell? ⟨b', off + k * 4 + 3, none⟩ = some (.bool r1)) ∧ (w'.cell? ⟨b', off + i * 4, none⟩ = some (.string s2) ∧ w'.cell? ⟨b', off + i * 4 + 1, none⟩ = some (.slice A2 n2 c2) ∧ w'.cell? ⟨b', off + i * 4 + 2, none⟩ = some (.slice B2 m2 d2) ∧ w'.cell? ⟨b', off + i * 4 + 3, none⟩ = some (.bool r2)) ∧ Below w2.heap.size w2 w') (by kernel_rfl) ?_ (fun hHeld => ?_)
        ·exact HX.out _ (Below.drew HBK2.out)
        generalize World.drew _ = we at hHeld ⊢
        refine zU 0 ?_ rfl ?_ ?_
        rotate_left
        ·rintro w ⟨⟨a0, a1, a2, a3⟩, ⟨b0, b1, b2, b3⟩, sb⟩
         go_simp
         try with_reducible rfl
        try simp only [Act.put, zA1, zA2, zA3, zA4, zA5, zA6]
        refine zU 1 ?_ rfl ?_ ?_
        rotate_left
        ·rintro w ⟨⟨a0, a1, a2, a3⟩, ⟨b0, b1, b2, b3⟩, sb⟩
         go_simp
         try with_reducible rfl
        try simp only [Act.put, zA1, zA2, zA3, zA4, zA5, zA6]
        refine zU 2 ?_ rfl ?_ ?_
        rotate_left
        ·rintro w ⟨⟨a0, a1, a2, a3⟩, ⟨b0, b1, b2, b3⟩, sb⟩
         go_simp
         try with_reducible rfl
        try simp only [Act.put, zA1, zA2, zA3, zA4, zA5, zA6]
        refine zU 3 ?_ rfl ?_ ?_
        rotate_left
        ·rintro w ⟨⟨a0, a1, a2, a3⟩, ⟨b0, b1, b2, b3⟩, sb⟩
         go_simp
         try with_reducible rfl
        try simp only [Act.put, zA1, zA2, zA3, zA4, zA5, zA6]
        refine zU 4 ?_ rfl ?_ ?_
        rotate_left
        ·rintro w ⟨⟨a0, a1, a2, a3⟩, ⟨b0, b1, b2, b3⟩, sb⟩
         go_simp
         try with_reducible rfl
        try simp only [Act.put, zA1, zA2, zA3, zA4, zA5, zA6]
        refine zU 5 ?_ rfl ?_ ?_
        rotate_left
        ·rintro w ⟨⟨a0, a1, a2, a3⟩, ⟨b0, b1, b2, b3⟩, sb⟩
         go_simp
         try with_reducible rfl
        try simp only [Act.put, zA1, zA2, zA3, zA4, zA5, zA6]
        refine wpAnyH_ready (rs := [6]) (by kernel_rfl) (by simp) ?_
        refine AllReadyH.cons (o := _) rfl (fun K hKK => ?_) AllReadyH.nil
        go_simp
        go_at_call 64
        with_reducible refine (HBK.out _ hHeld.2.2).mono ?_
        rintro e w5 ⟨rfl, hb5⟩
        have hX := bstep hHeld.2.2 hb5
        clear hHeld hb5
        go_wp2_with fail
        refine hKK.out _ _ ?_ (fun hHeld => ?_)
        ·exact HX.out _ hX
        clear hKK K
        try simp only [Act.put, zA1, zA2, zA3, zA4, zA5, zA6]
        clear hX
        refine zU 7 ?_ rfl ?_ ?_
        rotate_left
        ·rintro w ⟨⟨a0, a1, a2, a3⟩, ⟨b0, b1, b2, b3⟩, sb⟩
         go_simp
         try with_reducible rfl
        try simp only [Act.put, zA1, zA2, zA3, zA4, zA5, zA6]
        refine zU 8 ?_ rfl ?_ ?_
        rotate_left
        ·rintro w ⟨⟨a0, a1, a2, a3⟩, ⟨b0, b1, b2, b3⟩, sb⟩
         go_simp
         try with_reducible rfl
        try simp only [Act.put, zA1, zA2, zA3, zA4, zA5, zA6]
        refine zU 9 ?_ rfl ?_ ?_
        rotate_left
        ·rintro w ⟨⟨a0, a1, a2, a3⟩, ⟨b0, b1, b2, b3⟩, sb⟩
         go_simp
         try with_reducible rfl
        try simp only [Act.put, zA1, zA2, zA3, zA4, zA5, zA6]
        refine zU 10 ?_ rfl ?_ ?_
        rotate_left
        ·rintro w ⟨⟨a0, a1, a2, a3⟩, ⟨b0, b1, b2, b3⟩, sb⟩
         go_simp
         try with_reducible rfl
        try simp only [Act.put, zA1, zA2, zA3, zA4, zA5, zA6]
        refine zU 11 ?_ rfl ?_ ?_
        rotate_left
        ·rintro w ⟨⟨a0, a1, a2, a3⟩, ⟨b0, b1, b2, b3⟩, sb⟩
         go_simp
         try with_reducible rfl
        try simp only [Act.put, zA1, zA2, zA3, zA4, zA5, zA6]
        refine zU 12 ?_ rfl ?_ ?_
        rotate_left
        ·rintro w ⟨⟨a0, a1, a2, a3⟩, ⟨b0, b1, b2, b3⟩, sb⟩
         go_simp
         try with_reducible rfl
        try simp only [Act.put, zA1, zA2, zA3, zA4, zA5, zA6]
        refine zU 13 ?_ rfl ?_ ?_
        rotate_left
        ·rintro w ⟨⟨a0, a1, a2, a3⟩, ⟨b0, b1, b2, b3⟩, sb⟩
         go_simp
         try with_reducible rfl
        try simp only [Act.put, zA1, zA2, zA3, zA4, zA5, zA6]
        refine zU 14 ?_ rfl ?_ ?_
        rotate_left
        ·rintro w ⟨⟨a0, a1, a2, a3⟩, ⟨b0, b1, b2, b3⟩, sb⟩
         go_simp
         try with_reducible rfl
        try simp only [Act.put, zA1, zA2, zA3, zA4, zA5, zA6]
        refine zU 15 ?_ rfl ?_ ?_
        rotate_left
        ·rintro w ⟨⟨a0, a1, a2, a3⟩, ⟨b0, b1, b2, b3⟩, sb⟩
         go_simp
         try with_reducible rfl
        try simp only [Act.put, zA1, zA2, zA3, zA4, zA5, zA6]
        refine zU 16 ?_ rfl ?_ ?_
        rotate_left
        ·rintro w ⟨⟨a0, a1, a2, a3⟩, ⟨b0, b1, b2, b3⟩, sb⟩
         go_simp
         try with_reducible rfl
        try simp only [Act.put, zA1, zA2, zA3, zA4, zA5, zA6]
        refine zU 17 ?_ rfl ?_ ?_
        rotate_left
        ·rintro w ⟨⟨a0, a1, a2, a3⟩, ⟨b0, b1, b2, b3⟩, sb⟩
         go_simp
         try with_reducible rfl
        try simp only [Act.put, zA1, zA2, zA3, zA4, zA5, zA6]
        refine wpAnyH_ready (rs := [18]) (by kernel_rfl) (by simp) ?_
        refine AllReadyH.cons (o := _) rfl (fun K hKK => ?_) AllReadyH.nil
        go_simp
        go_at_call 65
        with_reducible refine (HHI.out _ hHeld.2.2).mono ?_
        rintro e w5 ⟨rfl, hb5⟩
        have hX := bstep hHeld.2.2 hb5
        clear hHeld hb5
        go_wp2_with fail
        refine hKK.out _ _ ?_ (fun hHeld => ?_)
        ·exact HX.out _ hX
        clear hKK K
        try simp only [Act.put, zA1, zA2, zA3, zA4, zA5, zA6]
        clear hX
        refine zU 19 ?_ rfl ?_ ?_
        rotate_left
        ·rintro w ⟨⟨a0, a1, a2, a3⟩, ⟨b0, b1, b2, b3⟩, sb⟩
         go_simp
         try with_reducible rfl
        try simp only [Act.put, zA1, zA2, zA3, zA4, zA5, zA6]
        refine zU 20 ?_ rfl ?_ ?_
        rotate_left
        ·rintro w ⟨⟨a0, a1, a2, a3⟩, ⟨b0, b1, b2, b3⟩, sb⟩
         go_simp
         try with_reducible rfl
        try simp only [Act.put, zA1, zA2, zA3, zA4, zA5, zA6]
        refine wpAnyH_done (by kernel_rfl) ?_ _
        have HF := Lib.hid hHeld.2.2
        clear hHeld
        go_wp2
        go_roundw
        case rel => exact ⟨k + 1, by omega, by go_num, by rw [HFK.out, E1.out], HF.out⟩
        case measure => simp [RowKit.intOf]; omega
       ·have E1 : Hid (F (k + 1) = true) := Lib.hid (by rw [hF1, hFv, decide_eq_false hq0, Bool.and_false]; rfl)
        clear hF1 hFa hFv ha0
        go_wp2_with fail
        refine wp_region_held_drew (S := fun w' => (w'.cell? ⟨b', off + k * 4, none⟩ = some (.string s1) ∧ w'.cell? ⟨b', off + k * 4 + 1, none⟩ = some (.slice A1 n1 c1) ∧ w'.cell? ⟨b', off + k * 4 + 2, none⟩ = some (.slice B1 m1 d1) ∧ w'.cell? ⟨b', off + k * 4 + 3, none⟩ = some (.bool r1)) ∧ (w'.cell? ⟨b', off + i * 4, none⟩ = some (.string s2) ∧ w'.cell? ⟨b', off + i * 4 + 1, none⟩ = some (.slice A2 n2 c2) ∧ w'.cell? ⟨b', off + i * 4 + 2, none⟩ = some (.slice B2 m2 d2) ∧ w'.cell? ⟨b', off + i * 4 + 3, none⟩ = some (.bool r2)) ∧ Below w2.heap.size w2 w') (by kernel_rfl) ?_ (fun hHeld => ?_)
        ·exact HX.out _ (Below.drew HBK2.out)
        generalize World.drew _ = we at hHeld ⊢
        refine zU 0 ?_ rfl ?_ ?_
        rotate_left
        ·rintro w ⟨⟨a0, a1, a2, a3⟩, ⟨b0, b1, b2, b3⟩, sb⟩
         go_simp
         try with_reducible rfl
        try simp only [Act.put, zA1, zA2, zA3, zA4, zA5, zA6]
        refine zU 1 ?_ rfl ?_ ?_
        rotate_left
        ·rintro w ⟨⟨a0, a1, a2, a3⟩, ⟨b0, b1, b2, b3⟩, sb⟩
         go_simp
         try with_reducible rfl
        try simp only [Act.put, zA1, zA2, zA3, zA4, zA5, zA6]
        refine zU 2 ?_ rfl ?_ ?_
        rotate_left
        ·rintro w ⟨⟨a0, a1, a2, a3⟩, ⟨b0, b1, b2, b3⟩, sb⟩
         go_simp
         try with_reducible rfl
        try simp only [Act.put, zA1, zA2, zA3, zA4, zA5, zA6]
        refine zU 3 ?_ rfl ?_ ?_
        rotate_left
        ·rintro w ⟨⟨a0, a1, a2, a3⟩, ⟨b0, b1, b2, b3⟩, sb⟩
         go_simp
         try with_reducible rfl
        try simp only [Act.put, zA1, zA2, zA3, zA4, zA5, zA6]
        refine zU 4 ?_ rfl ?_ ?_
        rotate_left
        ·rintro w ⟨⟨a0, a1, a2, a3⟩, ⟨b0, b1, b2, b3⟩, sb⟩
         go_simp
         try with_reducible rfl
        try simp only [Act.put, zA1, zA2, zA3, zA4, zA5, zA6]
        refine zU 5 ?_ rfl ?_ ?_
        rotate_left
        ·rintro w ⟨⟨a0, a1, a2, a3⟩, ⟨b0, b1, b2, b3⟩, sb⟩
         go_simp
         try with_reducible rfl
        try simp only [Act.put, zA1, zA2, zA3, zA4, zA5, zA6]
        refine wpAnyH_ready (rs := [6]) (by kernel_rfl) (by simp) ?_
        refine AllReadyH.cons (o := _) rfl (fun K hKK => ?_) AllReadyH.nil
        go_simp
        go_at_call 64
        with_reducible refine (HBK.out _ hHeld.2.2).mono ?_
        rintro e w5 ⟨rfl, hb5⟩
        have hX := bstep hHeld.2.2 hb5
        clear hHeld hb5
        go_wp2_with fail
        refine hKK.out _ _ ?_ (fun hHeld => ?_)
        ·exact HX.out _ hX
        clear hKK K
        try simp only [Act.put, zA1, zA2, zA3, zA4, zA5, zA6]
        clear hX
        refine zU 7 ?_ rfl ?_ ?_
        rotate_left
        ·rintro w ⟨⟨a0, a1, a2, a3⟩, ⟨b0, b1, b2, b3⟩, sb⟩
         go_simp
         try with_reducible rfl
        try simp only [Act.put, zA1, zA2, zA3, zA4, zA5, zA6]
        refine zU 8 ?_ rfl ?_ ?_
        rotate_left
        ·rintro w ⟨⟨a0, a1, a2, a3⟩, ⟨b0, b1, b2, b3⟩, sb⟩
         go_simp
         try with_reducible rfl
        try simp only [Act.put, zA1, zA2, zA3, zA4, zA5, zA6]
        refine zU 9 ?_ rfl ?_ ?_
        rotate_left
        ·rintro w ⟨⟨a0, a1, a2, a3⟩, ⟨b0, b1, b2, b3⟩, sb⟩
         go_simp
         try with_reducible rfl
        try simp only [Act.put, zA1, zA2, zA3, zA4, zA5, zA6]
        refine zU 10 ?_ rfl ?_ ?_
        rotate_left
        ·rintro w ⟨⟨a0, a1, a2, a3⟩, ⟨b0, b1, b2, b3⟩, sb⟩
         go_simp
         try with_reducible rfl
        try simp only [Act.put, zA1, zA2, zA3, zA4, zA5, zA6]
        refine zU 11 ?_ rfl ?_ ?_
        rotate_left
        ·rintro w ⟨⟨a0, a1, a2, a3⟩, ⟨b0, b1, b2, b3⟩, sb⟩
         go_simp
         try with_reducible rfl
        try simp only [Act.put, zA1, zA2, zA3, zA4, zA5, zA6]
        refine zU 12 ?_ rfl ?_ ?_
        rotate_left
        ·rintro w ⟨⟨a0, a1, a2, a3⟩, ⟨b0, b1, b2, b3⟩, sb⟩
         go_simp
         try with_reducible rfl
        try simp only [Act.put, zA1, zA2, zA3, zA4, zA5, zA6]
        refine zU 13 ?_ rfl ?_ ?_
        rotate_left
        ·rintro w ⟨⟨a0, a1, a2, a3⟩, ⟨b0, b1, b2, b3⟩, sb⟩
         go_simp
         try with_reducible rfl
        try simp only [Act.put, zA1, zA2, zA3, zA4, zA5, zA6]
        refine zU 14 ?_ rfl ?_ ?_
        rotate_left
        ·rintro w ⟨⟨a0, a1, a2, a3⟩, ⟨b0, b1, b2, b3⟩, sb⟩
         go_simp
         try with_reducible rfl
        try simp only [Act.put, zA1, zA2, zA3, zA4, zA5, zA6]
        refine zU 15 ?_ rfl ?_ ?_
        rotate_left
        ·rintro w ⟨⟨a0, a1, a2, a3⟩, ⟨b0, b1, b2, b3⟩, sb⟩
         go_simp
         try with_reducible rfl
        try simp only [Act.put, zA1, zA2, zA3, zA4, zA5, zA6]
        refine zU 16 ?_ rfl ?_ ?_
        rotate_left
        ·rintro w ⟨⟨a0, a1, a2, a3⟩, ⟨b0, b1, b2, b3⟩, sb⟩
         go_simp
         try with_reducible rfl
        try simp only [Act.put, zA1, zA2, zA3, zA4, zA5, zA6]
        refine zU 17 ?_ rfl ?_ ?_
        rotate_left
        ·rintro w ⟨⟨a0, a1, a2, a3⟩, ⟨b0, b1, b2, b3⟩, sb⟩
         go_simp
         try with_reducible rfl
        try simp only [Act.put, zA1, zA2, zA3, zA4, zA5, zA6]
        refine wpAnyH_ready (rs := [18]) (by kernel_rfl) (by simp) ?_
        refine AllReadyH.cons (o := _) rfl (fun K hKK => ?_) AllReadyH.nil
        go_simp
        go_at_call 65
        with_reducible refine (HHI.out _ hHeld.2.2).mono ?_
        rintro e w5 ⟨rfl, hb5⟩
        have hX := bstep hHeld.2.2 hb5
        clear hHeld hb5
        go_wp2_with fail
        refine hKK.out _ _ ?_ (fun hHeld => ?_)
        ·exact HX.out _ hX
        clear hKK K
        try simp only [Act.put, zA1, zA2, zA3, zA4, zA5, zA6]
        clear hX
        refine zU 19 ?_ rfl ?_ ?_
        rotate_left
        ·rintro w ⟨⟨a0, a1, a2, a3⟩, ⟨b0, b1, b2, b3⟩, sb⟩
         go_simp
         try with_reducible rfl
        try simp only [Act.put, zA1, zA2, zA3, zA4, zA5, zA6]
        refine zU 20 ?_ rfl ?_ ?_
        rotate_left
        ·rintro w ⟨⟨a0, a1, a2, a3⟩, ⟨b0, b1, b2, b3⟩, sb⟩
         go_simp
         try with_reducible rfl
        try simp only [Act.put, zA1, zA2, zA3, zA4, zA5, zA6]
        refine wpAnyH_done (by kernel_rfl) ?_ _
        have HF := Lib.hid hHeld.2.2
        clear hHeld
        go_wp2
        go_roundw
        case rel => exact ⟨k + 1, by omega, by go_num, by rw [HFK.out, E1.out], HF.out⟩
        case measure => simp [RowKit.intOf]; omega
      ·have hcn : decide ((1 : Int) ≤ c) = false := by simp; omega
       have E1 : Hid (F (k + 1) = true) := Lib.hid (by rw [hF1, hFv, decide_eq_false hc0]; rfl)
       clear hF1 hFa hFv ha0 HHI0
       go_wp2_with fail
       refine wp_region_held_drew (S := fun w' => (w'.cell? ⟨b', off + k * 4, none⟩ = some (.string s1) ∧ w'.cell? ⟨b', off + k * 4 + 1, none⟩ = some (.slice A1 n1 c1) ∧ w'.cell? ⟨b', off + k * 4 + 2, none⟩ = some (.slice B1 m1 d1) ∧ w'.cell? ⟨b', off + k * 4 + 3, none⟩ = some (.bool r1)) ∧ (w'.cell? ⟨b', off + i * 4, none⟩ = some (.string s2) ∧ w'.cell? ⟨b', off + i * 4 + 1, none⟩ = some (.slice A2 n2 c2) ∧ w'.cell? ⟨b', off + i * 4 + 2, none⟩ = some (.slice B2 m2 d2) ∧ w'.cell? ⟨b', off + i * 4 + 3, none⟩ = some (.bool r2)) ∧ Below w2.heap.size w2 w') (by kernel_rfl) ?_ (fun hHeld => ?_)
       ·exact HX.out _ (Below.drew HBK2.out)
       generalize World.drew _ = we at hHeld ⊢
       refine zU 0 ?_ rfl ?_ ?_
       rotate_left
       ·rintro w ⟨⟨a0, a1, a2, a3⟩, ⟨b0, b1, b2, b3⟩, sb⟩
        go_simp
        try with_reducible rfl
       try simp only [Act.put, zA1, zA2, zA3, zA4, zA5, zA6]
       refine zU 1 ?_ rfl ?_ ?_
       rotate_left
       ·rintro w ⟨⟨a0, a1, a2, a3⟩, ⟨b0, b1, b2, b3⟩, sb⟩
        go_simp
        try with_reducible rfl
       try simp only [Act.put, zA1, zA2, zA3, zA4, zA5, zA6]
       refine zU 2 ?_ rfl ?_ ?_
       rotate_left
       ·rintro w ⟨⟨a0, a1, a2, a3⟩, ⟨b0, b1, b2, b3⟩, sb⟩
        go_simp
        try with_reducible rfl
       try simp only [Act.put, zA1, zA2, zA3, zA4, zA5, zA6]
       refine zU 3 ?_ rfl ?_ ?_
       rotate_left
       ·rintro w ⟨⟨a0, a1, a2, a3⟩, ⟨b0, b1, b2, b3⟩, sb⟩
        go_simp
        try with_reducible rfl
       try simp only [Act.put, zA1, zA2, zA3, zA4, zA5, zA6]
       refine zU 4 ?_ rfl ?_ ?_
       rotate_left
       ·rintro w ⟨⟨a0, a1, a2, a3⟩, ⟨b0, b1, b2, b3⟩, sb⟩
        go_simp
        try with_reducible rfl
       try simp only [Act.put, zA1, zA2, zA3, zA4, zA5, zA6]
       refine zU 5 ?_ rfl ?_ ?_
       rotate_left
       ·rintro w ⟨⟨a0, a1, a2, a3⟩, ⟨b0, b1, b2, b3⟩, sb⟩
        go_simp
        try with_reducible rfl
       try simp only [Act.put, zA1, zA2, zA3, zA4, zA5, zA6]
       refine wpAnyH_ready (rs := [6]) (by kernel_rfl) (by simp) ?_
       refine AllReadyH.cons (o := _) rfl (fun K hKK => ?_) AllReadyH.nil
       go_simp
       go_at_call 64
       with_reducible refine (HBK.out _ hHeld.2.2).mono ?_
       rintro e w5 ⟨rfl, hb5⟩
       have hX := bstep hHeld.2.2 hb5
       clear hHeld hb5
       go_wp2_with fail
       refine hKK.out _ _ ?_ (fun hHeld => ?_)
       ·exact HX.out _ hX
       clear hKK K
       try simp only [Act.put, zA1, zA2, zA3, zA4, zA5, zA6]
       clear hX
       refine zU 7 ?_ rfl ?_ ?_
       rotate_left
       ·rintro w ⟨⟨a0, a1, a2, a3⟩, ⟨b0, b1, b2, b3⟩, sb⟩
        go_simp
        try with_reducible rfl
       try simp only [Act.put, zA1, zA2, zA3, zA4, zA5, zA6]
       refine zU 8 ?_ rfl ?_ ?_
       rotate_left
       ·rintro w ⟨⟨a0, a1, a2, a3⟩, ⟨b0, b1, b2, b3⟩, sb⟩
        go_simp
        try with_reducible rfl
       try simp only [Act.put, zA1, zA2, zA3, zA4, zA5, zA6]
       refine zU 9 ?_ rfl ?_ ?_
       rotate_left
       ·rintro w ⟨⟨a0, a1, a2, a3⟩, ⟨b0, b1, b2, b3⟩, sb⟩
        go_simp
        try with_reducible rfl
       try simp only [Act.put, zA1, zA2, zA3, zA4, zA5, zA6]
       refine zD 10 rfl ?_
       try simp only [Act.put, zA1, zA2, zA3, zA4, zA5, zA6]
       refine zD 11 rfl ?_
       try simp only [Act.put, zA1, zA2, zA3, zA4, zA5, zA6]
       refine zD 12 rfl ?_
       try simp only [Act.put, zA1, zA2, zA3, zA4, zA5, zA6]
       refine zD 13 rfl ?_
       try simp only [Act.put, zA1, zA2, zA3, zA4, zA5, zA6]
       refine zD 14 rfl ?_
       try simp only [Act.put, zA1, zA2, zA3, zA4, zA5, zA6]
       refine zD 15 rfl ?_
       try simp only [Act.put, zA1, zA2, zA3, zA4, zA5, zA6]
       refine zD 16 rfl ?_
       try simp only [Act.put, zA1, zA2, zA3, zA4, zA5, zA6]
       refine zD 17 rfl ?_
       try simp only [Act.put, zA1, zA2, zA3, zA4, zA5, zA6]
       refine zD 18 rfl ?_
       try simp only [Act.put, zA1, zA2, zA3, zA4, zA5, zA6]
       refine zD 19 rfl ?_
       try simp only [Act.put, zA1, zA2, zA3, zA4, zA5, zA6]
       refine zU 20 ?_ rfl ?_ ?_
       rotate_left
       ·rintro w ⟨⟨a0, a1, a2, a3⟩, ⟨b0, b1, b2, b3⟩, sb⟩
        go_simp
        try with_reducible rfl
       try simp only [Act.put, zA1, zA2, zA3, zA4, zA5, zA6]
       refine wpAnyH_done (by kernel_rfl) ?_ _
       have HF := Lib.hid hHeld.2.2
       clear hHeld
       go_wp2
       go_roundw
       case rel => exact ⟨k + 1, by omega, by go_num, by rw [HFK.out, E1.out], HF.out⟩
       case measure => simp [RowKit.intOf]; omega
    ·obtain rfl : k = n := by omega
     have hfin := HFA.out _ (List.mem_of_getElem? HR.out)
     rw [HA.out, ← HFI.out] at hfin
     rw [hfin]
     have hst := fsts_take L f i
     have HO3 := Lib.hid (show OwnZ wr w.heap.size _ _ from ownN HO2.out hbk)
     have hlen : (((List.range i).filter f).map fun i : Nat => (i : Int)).length ≤ 100 := by
      rw [List.length_map]
      have := List.length_filter_le f (List.range i)
      rw [List.length_range] at this; omega
     clear hfin hbk
     cases hfv : f i with
     | false =>
      rw [hfv] at hst
      have Hst := Lib.hid hst
      clear hst hfv hlen
      go_wp2
      go_roundw
      case rel => exact ⟨i + 1, by omega, by go_num, by rw [Hst.out]; simpa using HO3.out, HB.out⟩
      case measure => simp [RowKit.intOf]; omega
     | true =>
      rw [hfv, if_pos rfl] at hst
      have Hst := Lib.hid hst
      have hown := HO3.out
      generalize hQ : ((List.range i).filter f).map (fun i : Nat => (i : Int)) = Q at *
      have HQ := Lib.hid hQ
      obtain ⟨m, hm⟩ : ∃ m, Q.length = m := ⟨_, rfl⟩
      have Hm := Lib.hid hm
      unfold OwnZ at hown
      rw [hm] at hlen hown
      clear hst hfv hQ hm
      go_wp2_with (at_builtin; refine wpList_append_own _ rfl _ _ 23 rfl w.heap.size 3 i0 (.int .i64 0) 1 8 Tryz.underlying23 hi hz0 hz1 hz2 rfl (by decide) _ _ _ rfl (World.ownsRow.alloc hown _) ⟨wr.heap.size, 0, none⟩ 1 1 [.int .i64 i] rfl rfl ?c1 ?c2 ?c3 ?c4 ?c5 ?_)
      case c1 =>
       intro j u hj
       match j, hj with
       | 0, hj => simp at hj; subst hj; simp [Addr.add]
      case c2 => intro u hu; simp at hu; subst hu; rfl
      case c3 => unfold maxLen; omega
      case c4 => omega
      case c5 => have := HB.out.size; simp; omega
      intro v' w3 hown' hgrow _
      have hb3 : Below w.heap.size w w3 := (HB.out.alloc HB.out.size _).grown hgrow (by have := HB.out.size; simp; omega) (fun r hr => (World.ownsRow.lt hown r hr).1)
      have ho3 : OwnZ w3 w.heap.size v' (((List.range (i + 1)).filter f).map fun i : Nat => (i : Int)) := by
       rw [Hst.out, List.map_append, HQ.out]
       exact OwnZ.next (by rw [Hm.out]; exact hown')
      clear hown' hgrow hown
      go_wp2
      go_roundw
      case rel => exact ⟨i + 1, by omega, by go_num, ho3, hb3⟩
      case measure => simp [RowKit.intOf]; omega
  ·obtain rfl : i = n := by omega
   have HF := Lib.hid (And.intro hown hb)
   clear hown hb
   go_wp2
   go_ret
   exact ⟨_, rfl, HF.out⟩
end Go.Mk
end
