/-
  Proved: the law FieldReads returns true and leaves all that was there. Conditions: the tables that awake reads lie where the program lays them, and the library's variable; the texts lie where the slices say; sizes are what an int says.
-/
import Derived.Test.YthpcmhcokblglaaGreatDoorFcv
import Derived.Test.YthpcmhcokblglaaGreatDoorFcy
set_option linter.unusedVariables false
set_option linter.unusedSimpArgs false
open Go Go.Proofs Go.RowKit
set_option maxRecDepth 100000
namespace Go.Mk
theorem jT_len {L : List (List UInt8)} (h : ∀ t ∈ L, t.length ≤ 10) : (jT L).length ≤ 11 * L.length := by
  induction L with
  | nil => exact Nat.le_refl _
  | cons t L ih =>
    have h1 := h t (List.mem_cons_self ..)
    have h2 := ih (fun x hx => h x (List.mem_cons_of_mem _ hx))
    rw [jT_cons, List.length_cons, List.length_append, List.length_cons]
    omega
theorem blsLen (L : List ByteArray) : (bls L).length = L.length := by unfold bls; rw [List.length_map]
theorem bls_mem {L : List ByteArray} {n : Nat} (h : ∀ x ∈ L, x.size ≤ n) : ∀ t ∈ bls L, t.length ≤ n := by
  intro t ht
  unfold bls at ht
  obtain ⟨x, hx, rfl⟩ := List.mem_map.1 ht
  rw [bl_len]; exact h x hx
theorem prL_len {s : ByteArray} {H O : List ByteArray} (rt : Bool) (h : shC s H O = true) : (prL (bl s) (bls H) (bls O) rt).length ≤ 4096 := by
  obtain ⟨k1, k2, k3, k4, k5⟩ := shC_all h
  have l1 := jT_len (bls_mem k4)
  have l2 := jT_len (bls_mem k5)
  rw [blsLen] at l1 l2
  unfold prL
  rw [List.length_append, List.length_cons, List.length_append, List.length_append, bl_len]
  have e1 : (if bls O = [] then [] else 32 :: 124 :: jT (bls O)).length ≤ 2 + 11 * O.length := by
    split
    · simp
    · rw [List.length_cons, List.length_cons]; omega
  have e2 : (if rt = true then ([32, 114, 101, 116, 105, 114, 101, 100] : List UInt8) else []).length ≤ 8 := by cases rt <;> decide
  omega
theorem parV_ok {l : List UInt8} {c : CardP} (h : parV l = (c, 0)) : readP l = some c ∧ frmE (mkB c.1) c.2.1 c.2.2.1 = 0 := by
  unfold parV at h
  split at h
  · cases h
  · cases hr : readP l with
    | none => rw [hr] at h; cases h
    | some d =>
      rw [hr] at h
      dsimp only at h
      split at h
      · rename_i q
        obtain rfl : d = c := (Prod.mk.inj h).1
        exact ⟨rfl, q⟩
      · rename_i q
        exact absurd (Prod.mk.inj h).2 q
theorem parV_bad {l : List UInt8} {c : CardP} {e : Int} (h : parV l = (c, e)) (he : e ≠ 0) : c = noCard := by
  unfold parV at h
  split at h
  · exact (Prod.mk.inj h).1.symm
  · cases hr : readP l with
    | none => rw [hr] at h; exact (Prod.mk.inj h).1.symm
    | some d =>
      rw [hr] at h
      dsimp only at h
      split at h
      · exact absurd (Prod.mk.inj h).2.symm he
      · exact (Prod.mk.inj h).1.symm
theorem prC_ok {s : ByteArray} {H O : List ByteArray} {rt : Bool} (h : frmE s (bls H) (bls O) = 0) : prC s H O rt = .tuple #[.string (mkB (prL (bl s) (bls H) (bls O) rt)), .int .i64 0] := by
  unfold prC
  rw [if_pos h, joinB_prL]
theorem bls_nil {L : List ByteArray} (h : bls L = []) : L = [] := List.map_eq_nil_iff.1 h
set_option maxHeartbeats 8000000 in
theorem reads6_ex1 (s : ByteArray) (H O : List ByteArray) (nh ch no co : Nat) (AH AO : Option Addr) (rt : Bool) (t : ByteArray) (w : World) (hZ : TextsZ w AH nh H) (hZ2 : TextsZ w AO no O) (hz : (s.size : Int) ≤ 9223372036854775807) (hn : (nh : Int) ≤ 9223372036854775807) (hn2 : (no : Int) ≤ 9223372036854775807) (ht : Tabs w) (h : shC s H O = false) : Calls Tryz.prog 6 #[.agg #[.string s, .slice AH nh ch, .slice AO no co, .bool rt], .string t] w (Yes w) := by
  obtain ⟨g0, hg0⟩ : ∃ g, w.heap.size = g := ⟨_, rfl⟩
  obtain ⟨w1, hw1⟩ : ∃ w1, w.alloc (.cells #[.string s, .slice AH nh ch, .slice AO no co, .bool rt] 54) = w1 := ⟨_, rfl⟩
  have hb1 : Below w.heap.size w w1 := by rw [← hw1]; exact balloc _ (Below.refl _ _)
  have hs1 : w1.heap.size = g0 + 1 := by rw [← hw1, ← hg0]; simp
  have c0 : w1.cell? ⟨g0, 0, none⟩ = some (.string s) := by rw [← hw1, ← hg0]; simp
  have c1 : w1.cell? ⟨g0, 1, none⟩ = some (.slice AH nh ch) := by rw [← hw1, ← hg0]; simp
  have c2 : w1.cell? ⟨g0, 2, none⟩ = some (.slice AO no co) := by rw [← hw1, ← hg0]; simp
  have c3 : w1.cell? ⟨g0, 3, none⟩ = some (.bool rt) := by rw [← hw1, ← hg0]; simp
  have HX : Hid (∀ w', Below w1.heap.size w1 w' → w'.cell? ⟨g0, 0, none⟩ = some (.string s) ∧ w'.cell? ⟨g0, 1, none⟩ = some (.slice AH nh ch) ∧ w'.cell? ⟨g0, 2, none⟩ = some (.slice AO no co) ∧ w'.cell? ⟨g0, 3, none⟩ = some (.bool rt)) := Lib.hid fun w' hb =>
    ⟨(hb.cell (p := ⟨g0, 0, none⟩) (by show g0 < _; omega)).trans c0, (hb.cell (p := ⟨g0, 1, none⟩) (by show g0 < _; omega)).trans c1, (hb.cell (p := ⟨g0, 2, none⟩) (by show g0 < _; omega)).trans c2, (hb.cell (p := ⟨g0, 3, none⟩) (by show g0 < _; omega)).trans c3⟩
  have HAW : Hid (∀ w', Below w.heap.size w w' → Calls Tryz.prog 8 #[] w' (RetPost (.bool true) w')) := Lib.hid fun w' hb => aw w' (ht.grow hb)
  have HB1 := Lib.hid hb1
  have hSC := r6ShortCard_any s H O nh ch no co AH AO rt w1 hz (hZ.below hb1) hn (hZ2.below hb1) hn2
  rw [h] at hSC
  clear hZ hZ2 hb1 h ht HX
  · go_enter Tryz.func6, Tryz.ntmps6
    go_wp2_with fail
    refine hSC.mono ?_
    rintro e w2 ⟨rfl, hb2⟩
    have hbb := bstep HB1.out hb2
    clear hb2
    go_wp2_with fail
    refine (HAW.out _ hbb).mono ?_
    rintro e w9 ⟨rfl, hb9⟩
    have hfin := bstep hbb hb9
    clear hb9
    go_wp2
    go_ret
    exact ⟨rfl, hfin⟩
set_option maxHeartbeats 8000000 in
theorem reads6_ex2 (s : ByteArray) (H O : List ByteArray) (nh ch no co : Nat) (AH AO : Option Addr) (rt : Bool) (t : ByteArray) (w : World) (hZ : TextsZ w AH nh H) (hZ2 : TextsZ w AO no O) (ht : Tabs w) (h : shC s H O = true) (hq : (frmE s (bls H) (bls O) != 0) = true ∨ (frmE s (bls H) (bls O) = 0 ∧ (300 : Int) < (t.size : Int))) : Calls Tryz.prog 6 #[.agg #[.string s, .slice AH nh ch, .slice AO no co, .bool rt], .string t] w (Yes w) := by
  obtain ⟨k1, k2, k3, k4, k5⟩ := shC_all h
  rw [hZ.1] at k2
  rw [hZ2.1] at k3
  obtain ⟨g0, hg0⟩ : ∃ g, w.heap.size = g := ⟨_, rfl⟩
  obtain ⟨w1, hw1⟩ : ∃ w1, w.alloc (.cells #[.string s, .slice AH nh ch, .slice AO no co, .bool rt] 54) = w1 := ⟨_, rfl⟩
  have hb1 : Below w.heap.size w w1 := by rw [← hw1]; exact balloc _ (Below.refl _ _)
  have hs1 : w1.heap.size = g0 + 1 := by rw [← hw1, ← hg0]; simp
  have c0 : w1.cell? ⟨g0, 0, none⟩ = some (.string s) := by rw [← hw1, ← hg0]; simp
  have c1 : w1.cell? ⟨g0, 1, none⟩ = some (.slice AH nh ch) := by rw [← hw1, ← hg0]; simp
  have c2 : w1.cell? ⟨g0, 2, none⟩ = some (.slice AO no co) := by rw [← hw1, ← hg0]; simp
  have c3 : w1.cell? ⟨g0, 3, none⟩ = some (.bool rt) := by rw [← hw1, ← hg0]; simp
  have HX : Hid (∀ w', Below w1.heap.size w1 w' → w'.cell? ⟨g0, 0, none⟩ = some (.string s) ∧ w'.cell? ⟨g0, 1, none⟩ = some (.slice AH nh ch) ∧ w'.cell? ⟨g0, 2, none⟩ = some (.slice AO no co) ∧ w'.cell? ⟨g0, 3, none⟩ = some (.bool rt)) := Lib.hid fun w' hb =>
    ⟨(hb.cell (p := ⟨g0, 0, none⟩) (by show g0 < _; omega)).trans c0, (hb.cell (p := ⟨g0, 1, none⟩) (by show g0 < _; omega)).trans c1, (hb.cell (p := ⟨g0, 2, none⟩) (by show g0 < _; omega)).trans c2, (hb.cell (p := ⟨g0, 3, none⟩) (by show g0 < _; omega)).trans c3⟩
  have HAW : Hid (∀ w', Below w.heap.size w w' → Calls Tryz.prog 8 #[] w' (RetPost (.bool true) w')) := Lib.hid fun w' hb => aw w' (ht.grow hb)
  have HB1 := Lib.hid hb1
  have hSC := r6ShortCard_any s H O nh ch no co AH AO rt w1 (by omega) (hZ.below hb1) (by omega) (hZ2.below hb1) (by omega)
  rw [h] at hSC
  have HCF : Hid (∀ w', Below w1.heap.size w1 w' → Calls Tryz.prog 24 #[.agg #[.string s, .slice AH nh ch, .slice AO no co, .bool rt]] w' (RetPost (.int .i64 (frmE s (bls H) (bls O))) w')) := Lib.hid fun w' hb => r6CheckForm_any s H O nh ch no co AH AO rt w' (by unfold maxLen; omega) ((hZ.below hb1).below hb) (by omega) (fun x hx => by have := k4 x hx; omega) ((hZ2.below hb1).below hb) (by omega) (fun x hx => by have := k5 x hx; omega)
  generalize frmE s (bls H) (bls O) = E at *
  clear hZ hZ2 hb1 h ht k1 k2 k3 k4 k5
  rcases hq with hq | ⟨rfl, hq⟩
  all_goals
    go_enter Tryz.func6, Tryz.ntmps6
    go_wp2_with fail
    refine hSC.mono ?_
    rintro e w2 ⟨rfl, hb2⟩
    clear c0 c1 c2 c3
    obtain ⟨c0, c1, c2, c3⟩ := HX.out _ hb2
    have HB2 := Lib.hid hb2
    clear hb2
    go_wp2_with fail
    refine (HCF.out _ HB2.out).mono ?_
    rintro e w3 ⟨rfl, hb3⟩
    have hbb := bstep HB1.out (bstep HB2.out hb3)
    clear hb3
    go_wp2_with fail
    refine (HAW.out _ hbb).mono ?_
    rintro e w9 ⟨rfl, hb9⟩
    have hfin := bstep hbb hb9
    clear hb9
    go_wp2
    go_ret
    exact ⟨rfl, hfin⟩
set_option maxHeartbeats 16000000 in
theorem reads6_main (s : ByteArray) (H O : List ByteArray) (nh ch no co : Nat) (AH AO : Option Addr) (rt : Bool) (t : ByteArray) (w : World) (hZ : TextsZ w AH nh H) (hZ2 : TextsZ w AO no O) (hcap : nh ≤ ch) (hcap2 : no ≤ co) (hA1 : AH = none → ch = 0) (hA2 : AO = none → co = 0) (ht : Tabs w) (hG : GL w) (h : shC s H O = true) (hq : frmE s (bls H) (bls O) = 0) (hl : t.size ≤ 300) : Calls Tryz.prog 6 #[.agg #[.string s, .slice AH nh ch, .slice AO no co, .bool rt], .string t] w (Yes w) := by
  obtain ⟨k1, k2, k3, k4, k5⟩ := shC_all h
  rw [hZ.1] at k2
  rw [hZ2.1] at k3
  obtain ⟨g0, hg0⟩ : ∃ g, w.heap.size = g := ⟨_, rfl⟩
  obtain ⟨w1, hw1⟩ : ∃ w1, w.alloc (.cells #[.string s, .slice AH nh ch, .slice AO no co, .bool rt] 54) = w1 := ⟨_, rfl⟩
  have hb1 : Below w.heap.size w w1 := by rw [← hw1]; exact balloc _ (Below.refl _ _)
  have hs1 : w1.heap.size = g0 + 1 := by rw [← hw1, ← hg0]; simp
  have c0 : w1.cell? ⟨g0, 0, none⟩ = some (.string s) := by rw [← hw1, ← hg0]; simp
  have c1 : w1.cell? ⟨g0, 1, none⟩ = some (.slice AH nh ch) := by rw [← hw1, ← hg0]; simp
  have c2 : w1.cell? ⟨g0, 2, none⟩ = some (.slice AO no co) := by rw [← hw1, ← hg0]; simp
  have c3 : w1.cell? ⟨g0, 3, none⟩ = some (.bool rt) := by rw [← hw1, ← hg0]; simp
  have HX : Hid (∀ w', Below w1.heap.size w1 w' → w'.cell? ⟨g0, 0, none⟩ = some (.string s) ∧ w'.cell? ⟨g0, 1, none⟩ = some (.slice AH nh ch) ∧ w'.cell? ⟨g0, 2, none⟩ = some (.slice AO no co) ∧ w'.cell? ⟨g0, 3, none⟩ = some (.bool rt)) := Lib.hid fun w' hb =>
    ⟨(hb.cell (p := ⟨g0, 0, none⟩) (by show g0 < _; omega)).trans c0, (hb.cell (p := ⟨g0, 1, none⟩) (by show g0 < _; omega)).trans c1, (hb.cell (p := ⟨g0, 2, none⟩) (by show g0 < _; omega)).trans c2, (hb.cell (p := ⟨g0, 3, none⟩) (by show g0 < _; omega)).trans c3⟩
  have HAW : Hid (∀ w', Below w.heap.size w w' → Calls Tryz.prog 8 #[] w' (RetPost (.bool true) w')) := Lib.hid fun w' hb => aw w' (ht.grow hb)
  have HB1 := Lib.hid hb1
  have hSC := r6ShortCard_any s H O nh ch no co AH AO rt w1 (by omega) (hZ.below hb1) (by omega) (hZ2.below hb1) (by omega)
  rw [h] at hSC
  have HCF : Hid (∀ w', Below w1.heap.size w1 w' → Calls Tryz.prog 24 #[.agg #[.string s, .slice AH nh ch, .slice AO no co, .bool rt]] w' (RetPost (.int .i64 (frmE s (bls H) (bls O))) w')) := Lib.hid fun w' hb => r6CheckForm_any s H O nh ch no co AH AO rt w' (by unfold maxLen; omega) ((hZ.below hb1).below hb) (by omega) (fun x hx => by have := k4 x hx; omega) ((hZ2.below hb1).below hb) (by omega) (fun x hx => by have := k5 x hx; omega)
  rw [hq] at HCF
  have HCA : Hid (∀ q w', Below w1.heap.size w1 w' → w'.cell? ⟨q, 0, none⟩ = some (.string s) → w'.cell? ⟨q, 1, none⟩ = some (.slice AH nh ch) → w'.cell? ⟨q, 2, none⟩ = some (.slice AO no co) → w'.cell? ⟨q, 3, none⟩ = some (.bool rt) → q < w'.heap.size → Calls Tryz.prog 21 #[.slice (some ⟨q, 0, none⟩) 1 1] w' (fun e w'' => ∃ v, e = .returned v ∧ CardsPost s H O nh no rt w' v w'')) := Lib.hid fun q w' hb r0 r1 r2 r3 hq =>
    l6cards_any s H O nh ch no co AH AO rt q 1 w' ((hZ.below hb1).below hb) (by omega) ((hZ2.below hb1).below hb) (by omega) hA1 hA2 hcap hcap2 r0 r1 r2 r3 hq
  obtain ⟨P, hP⟩ : ∃ P, mkB (prL (bl s) (bls H) (bls O) rt) = P := ⟨_, rfl⟩
  have hPl := prL_len rt h
  have hPz : P.size ≤ 4096 := by rw [← hP, mkB_size]; exact hPl
  have hPv : parV (bl P) = ((bl s, bls H, bls O, rt), 0) := by rw [← hP, bl_mkB]; exact read_print rt hq hPl
  have HPC : Hid (∀ w' A1 c1 A2 c2, OT 0 w' A1 c1 nh H → OT 0 w' A2 c2 no O → Calls Tryz.prog 22 #[.agg #[.string s, .slice A1 nh c1, .slice A2 no c2, .bool rt]] w' (RetPost (.tuple #[.string P, .int .i64 0]) w')) := Lib.hid fun w' A1 c1 A2 c2 o1 o2 => by
    have := fdPrintCard_any s H O nh c1 no c2 A1 A2 rt w' (by omega) o1.1 (by omega) o1.2.1 (fun x hx => by have := k4 x hx; omega) o2.1 (by omega) (fun x hx => by have := k5 x hx; omega) o1.2.2.1 o2.2.2.1
    rw [prC_ok hq, hP] at this
    exact this
  have HPA : Hid (∀ w', Below w.heap.size w w' → Calls Tryz.prog 23 #[.string P] w' (ParPost ((bl s, bls H, bls O, rt), 0) w')) := Lib.hid fun w' hb => by
    have := fdParseCard_any P (by omega) w' (hG.below hb)
    rw [hPv] at this
    exact this
  have HPB : Hid (∀ w', Below w.heap.size w w' → Calls Tryz.prog 23 #[.string t] w' (ParPost (parV (bl t)) w')) := Lib.hid fun w' hb => fdParseCard_any t (by omega) w' (hG.below hb)
  have HSM : Hid (∀ w' BH dh BO dj, Below w1.heap.size w1 w' → TextsZ w' BH nh H → TextsZ w' BO no O → Calls Tryz.prog 27 #[.agg #[.string s, .slice BH nh dh, .slice BO no dj, .bool rt], .agg #[.string s, .slice AH nh ch, .slice AO no co, .bool rt]] w' (RetPost (.bool true) w')) := Lib.hid fun w' BH dh BO dj hb x1 x2 =>
    r6SameCard_any s H O nh dh no dj ch co BH BO AH AO rt w' x1 (by omega) x2 (by omega) ((hZ.below hb1).below hb) ((hZ2.below hb1).below hb)
  have HLH : Hid (H.length = nh) := hZ.1
  have HLO : Hid (O.length = no) := hZ2.1
  have hlq : ¬ (300 : Int) < (t.size : Int) := by omega
  have htt : (t.toList == t.toList) = true := by simp
  have HTZ := Lib.hid hl
  clear hZ hZ2 hb1 h hl ht hG hcap hcap2 hA1 hA2 k1 k2 k3 k4 k5 hP hPl hPz hPv hq
  go_enter Tryz.func6, Tryz.ntmps6
  go_wp2_with fail
  refine hSC.mono ?_
  rintro e w2 ⟨rfl, hb2⟩
  clear c0 c1 c2 c3
  obtain ⟨c0, c1, c2, c3⟩ := HX.out _ hb2
  have HB2 := Lib.hid hb2
  clear hb2 hSC
  go_wp2_with fail
  refine (HCF.out _ HB2.out).mono ?_
  rintro e w3 ⟨rfl, hb3⟩
  have hb23 := bstep HB2.out hb3
  clear c0 c1 c2 c3
  obtain ⟨c0, c1, c2, c3⟩ := HX.out _ hb23
  obtain ⟨q, hq⟩ : ∃ q, w3.heap.size = q := ⟨_, rfl⟩
  obtain ⟨wq, hwq⟩ : ∃ wq, w3.alloc (.cells #[.string s, .slice AH nh ch, .slice AO no co, .bool rt] 54) = wq := ⟨_, rfl⟩
  have hbq : Below w1.heap.size w1 wq := by rw [← hwq]; exact hb23.alloc hb23.size _
  have hCA := HCA.out q wq hbq (by rw [← hwq, ← hq]; simp) (by rw [← hwq, ← hq]; simp) (by rw [← hwq, ← hq]; simp) (by rw [← hwq, ← hq]; simp) (by rw [← hwq, ← hq]; simp)
  have HBQ := Lib.hid hbq
  clear hb3 hb23 hbq HCF
  go_wp2_with fail
  with_reducible refine hCA.mono ?_
  rintro e w4 ⟨v, rfl, g, c, A1, d1, A2, d2, rfl, ⟨y0, y1, y2, y3⟩, hg, ht1, ht2, hb4⟩
  have hPC := HPC.out w4 A1 d1 A2 d2 (ht1.mono (Nat.zero_le _)) (ht2.mono (Nat.zero_le _))
  have HB4 := Lib.hid (bstep HBQ.out hb4)
  clear ht1 ht2 hb4 hCA c0 c1 c2 c3 HBQ hwq hq HCA HPC
  go_wp2_with fail
  with_reducible refine hPC.mono ?_
  rintro e w5 ⟨rfl, hb5⟩
  have HB5 := Lib.hid (bstep HB4.out hb5)
  clear hb5 hPC y0 y1 y2 y3
  go_wp2_with fail
  with_reducible refine (HPA.out _ (bstep HB1.out HB5.out)).mono ?_
  rintro e w6 ⟨nm, BH, mh, dh, BO, mo, dj, rt1, er, H1, O1, rfl, hb6, hV, ⟨hT1, _, _⟩, hT2, _, _⟩
  obtain ⟨hv1, hv2⟩ := Prod.mk.inj hV
  obtain ⟨hv3, hv4⟩ := Prod.mk.inj hv1
  obtain ⟨hv5, hv6⟩ := Prod.mk.inj hv4
  obtain ⟨hv7, hv8⟩ := Prod.mk.inj hv6
  obtain rfl := bl_inj hv3
  obtain rfl := bls_inj hv5
  obtain rfl := bls_inj hv7
  obtain rfl := hv8
  obtain rfl := hv2
  obtain rfl : mh = nh := hT1.1.symm.trans HLH.out
  obtain rfl : mo = no := hT2.1.symm.trans HLO.out
  obtain ⟨gy, hgy⟩ : ∃ q, w6.heap.size = q := ⟨_, rfl⟩
  obtain ⟨wy, hwy⟩ : ∃ wq, w6.alloc (.cells #[.string s, .slice BH mh dh, .slice BO mo dj, .bool rt] 61) = wq := ⟨_, rfl⟩
  have hb56 := bstep HB5.out hb6
  have hby : Below w1.heap.size w1 wy := by rw [← hwy]; exact hb56.alloc hb56.size _
  have z0 : wy.cell? ⟨gy, 0, none⟩ = some (.string s) := by rw [← hwy, ← hgy]; simp
  have z1 : wy.cell? ⟨gy, 1, none⟩ = some (.slice BH mh dh) := by rw [← hwy, ← hgy]; simp
  have z2 : wy.cell? ⟨gy, 2, none⟩ = some (.slice BO mo dj) := by rw [← hwy, ← hgy]; simp
  have z3 : wy.cell? ⟨gy, 3, none⟩ = some (.bool rt) := by rw [← hwy, ← hgy]; simp
  have hb6y : Below w6.heap.size w6 wy := by rw [← hwy]; exact balloc _ (Below.refl _ _)
  have hSM := HSM.out wy BH dh BO dj hby (hT1.below hb6y) (hT2.below hb6y)
  obtain ⟨c0, c1, c2, c3⟩ := HX.out _ hby
  have HBY := Lib.hid hby
  clear hT1 hT2 hV hv1 hv3 hv4 hv5 hv6 hv7 hby hb56 hb6y hb6 HPA HSM
  go_wp2_with fail
  with_reducible refine hSM.mono ?_
  rintro e w7 ⟨rfl, hb7⟩
  have HB7 := Lib.hid (bstep HBY.out hb7)
  clear hb7 hSM z0 z1 z2 z3 c0 c1 c2 c3
  go_wp2_with fail
  with_reducible refine (HPB.out _ (bstep HB1.out HB7.out)).mono ?_
  rintro e w8 ⟨nm, CH, lh, dh', CO, lo, dj', rt', er, H1, O1, rfl, hb8, hV, ⟨hT1, hk1, hk2⟩, hT2, hk3, hk4⟩
  clear hwy hgy
  obtain ⟨gz, hgz⟩ : ∃ q, w8.heap.size = q := ⟨_, rfl⟩
  obtain ⟨wz, hwz⟩ : ∃ wq, w8.alloc (.cells #[.string nm, .slice CH lh dh', .slice CO lo dj', .bool rt'] 61) = wq := ⟨_, rfl⟩
  have hb8z : Below w8.heap.size w8 wz := by rw [← hwz]; exact balloc _ (Below.refl _ _)
  have hbz : Below w1.heap.size w1 wz := bstep (bstep HB7.out hb8) hb8z
  have z0 : wz.cell? ⟨gz, 0, none⟩ = some (.string nm) := by rw [← hwz, ← hgz]; simp
  have z1 : wz.cell? ⟨gz, 1, none⟩ = some (.slice CH lh dh') := by rw [← hwz, ← hgz]; simp
  have z2 : wz.cell? ⟨gz, 2, none⟩ = some (.slice CO lo dj') := by rw [← hwz, ← hgz]; simp
  have z3 : wz.cell? ⟨gz, 3, none⟩ = some (.bool rt') := by rw [← hwz, ← hgz]; simp
  have HBZ := Lib.hid hbz
  by_cases he : er = 0
  · subst he
    obtain ⟨r1, r2⟩ := parV_ok hV
    have r3 := readP_size r1
    have r4 := print_read r1
    have hfr : frmE nm (bls H1) (bls O1) = 0 := by
      have : frmE (mkB (bl nm)) (bls H1) (bls O1) = 0 := r2
      rwa [mkB_bl] at this
    have hpr : prC nm H1 O1 rt' = .tuple #[.string t, .int .i64 0] := by
      rw [prC_ok hfr, show prL (bl nm) (bls H1) (bls O1) rt' = bl t from r4, mkB_bl]
    have s1 : nm.size ≤ t.size := by have : (bl nm).length ≤ (bl t).length := r3.1; rwa [bl_len, bl_len] at this
    have s2 : lh ≤ t.size := by have : (bls H1).length ≤ (bl t).length := r3.2.1; rwa [blsLen, bl_len, hT1.1] at this
    have s3 : lo ≤ t.size := by have : (bls O1).length ≤ (bl t).length := r3.2.2.1; rwa [blsLen, bl_len, hT2.1] at this
    have s4 : ∀ x ∈ H1, x.size ≤ 5000 := fun x hx => by have := r3.2.2.2.1 (bl x) (List.mem_map_of_mem hx); rw [bl_len, bl_len] at this; have := HTZ.out; omega
    have s5 : ∀ x ∈ O1, x.size ≤ 5000 := fun x hx => by have := r3.2.2.2.2 (bl x) (List.mem_map_of_mem hx); rw [bl_len, bl_len] at this; have := HTZ.out; omega
    have hPC := fdPrintCard_any nm H1 O1 lh dh' lo dj' CH CO rt' wz (by have := HTZ.out; omega) (hT1.below hb8z) (by have := HTZ.out; omega) hk1 s4 (hT2.below hb8z) (by have := HTZ.out; omega) s5 hk2 hk4
    rw [hpr] at hPC
    clear hV hT1 hT2 hk1 hk2 hk3 hk4 hb8 hb8z hbz r1 r2 r3 r4 hfr hpr s1 s2 s3 s4 s5
    go_wp2_with fail
    with_reducible refine hPC.mono ?_
    rintro e wa ⟨rfl, hba⟩
    have hbb := bstep HB1.out (bstep HBZ.out hba)
    clear hba hPC z0 z1 z2 z3
    go_wp2_with fail
    refine (HAW.out _ hbb).mono ?_
    rintro e w9 ⟨rfl, hb9⟩
    have hfin := bstep hbb hb9
    clear hb9
    go_wp2
    go_ret
    exact ⟨rfl, hfin⟩
  · have HCN := Lib.hid (parV_bad hV he)
    have hne : (er != 0) = true := by simp [he]
    have HT1 := Lib.hid (hT1.below hb8z)
    have HT2 := Lib.hid (hT2.below hb8z)
    clear hV hT1 hT2 hk1 hk2 hk3 hk4 hb8 hb8z hbz he
    go_wp2_with fail
    obtain ⟨hv3, hv4⟩ := Prod.mk.inj HCN.out
    obtain ⟨hv5, hv6⟩ := Prod.mk.inj hv4
    obtain ⟨hv7, hv8⟩ := Prod.mk.inj hv6
    obtain rfl : nm = ⟨#[]⟩ := bl_inj hv3
    obtain rfl := bls_nil hv5
    obtain rfl := bls_nil hv7
    obtain rfl : rt' = false := hv8
    obtain rfl : 0 = lh := HT1.out.1
    obtain rfl : 0 = lo := HT2.out.1
    have hSM := r6SameCard_any ⟨#[]⟩ [] [] 0 dh' 0 dj' 0 0 CH CO none none false wz HT1.out (by decide) HT2.out (by decide) (no_texts wz).1 (no_texts wz).1
    with_reducible refine hSM.mono ?_
    rintro e wa ⟨rfl, hba⟩
    have hbb := bstep HB1.out (bstep HBZ.out hba)
    clear hba hSM z0 z1 z2 z3
    go_wp2_with fail
    refine (HAW.out _ hbb).mono ?_
    rintro e w9 ⟨rfl, hb9⟩
    have hfin := bstep hbb hb9
    clear hb9
    go_wp2
    go_ret
    exact ⟨rfl, hfin⟩
theorem reads6_any (s : ByteArray) (H O : List ByteArray) (nh ch no co : Nat) (AH AO : Option Addr) (rt : Bool) (t : ByteArray) (w : World) (hZ : TextsZ w AH nh H) (hZ2 : TextsZ w AO no O) (hz : (s.size : Int) ≤ 9223372036854775807) (hn : (nh : Int) ≤ 9223372036854775807) (hn2 : (no : Int) ≤ 9223372036854775807) (hcap : nh ≤ ch) (hcap2 : no ≤ co) (hA1 : AH = none → ch = 0) (hA2 : AO = none → co = 0) (ht : Tabs w) (hG : GL w) : Calls Tryz.prog 6 #[.agg #[.string s, .slice AH nh ch, .slice AO no co, .bool rt], .string t] w (Yes w) := by
  cases h : shC s H O with
  | false => exact reads6_ex1 s H O nh ch no co AH AO rt t w hZ hZ2 hz hn hn2 ht h
  | true =>
    by_cases hq : frmE s (bls H) (bls O) = 0
    · by_cases hl : t.size ≤ 300
      · exact reads6_main s H O nh ch no co AH AO rt t w hZ hZ2 hcap hcap2 hA1 hA2 ht hG h hq hl
      · exact reads6_ex2 s H O nh ch no co AH AO rt t w hZ hZ2 ht h (.inr ⟨hq, by omega⟩)
    · exact reads6_ex2 s H O nh ch no co AH AO rt t w hZ hZ2 ht h (.inl (by simp [hq]))
end Go.Mk
