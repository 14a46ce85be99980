/-
  Proved: the law FieldTexts returns true and leaves all that was there. Conditions: the tables that awake reads lie where the program lays them, and the library's variable; the texts lie where the slices say; sizes are what an int says.
-/
import Derived.Test.YthpcmhcokblglaaGreatDoorFcu
import Derived.Test.YthpcmhcokblglaaGreatDoorFcp
import Derived.Test.YthpcmhcokblglaaGreatDoorXaw
set_option linter.unusedVariables false
set_option linter.unusedSimpArgs false
open Go Go.Proofs Go.RowKit
set_option maxRecDepth 100000
namespace Go.Mk
theorem parV_size (l : List UInt8) : (parV l).1.2.1.length ≤ l.length ∧ (parV l).1.2.2.1.length ≤ l.length := by
  unfold parV
  split
  · exact ⟨Nat.zero_le _, Nat.zero_le _⟩
  · cases hr : readP l with
    | none => exact ⟨Nat.zero_le _, Nat.zero_le _⟩
    | some c =>
      have h := readP_size hr
      dsimp only
      split
      · exact ⟨h.2.1, h.2.2.1⟩
      · exact ⟨Nat.zero_le _, Nat.zero_le _⟩
theorem bls_inj : ∀ {a b : List ByteArray}, bls a = bls b → a = b
  | [], [], _ => rfl
  | [], _ :: _, h => by cases h
  | _ :: _, [], h => by cases h
  | x :: a, y :: b, h => by
    have h' : bl x :: bls a = bl y :: bls b := h
    injection h' with h1 h2
    rw [bl_inj h1, bls_inj h2]
/-- The text of a card, and its error. -/
theorem prC_cases (s : ByteArray) (H O : List ByteArray) (rt : Bool) : ∃ P E, prC s H O rt = .tuple #[.string P, .int .i64 E] ∧ frmE s (bls H) (bls O) = E ∧ ((E = 0 ∧ mkB (prL (bl s) (bls H) (bls O) rt) = P) ∨ ((E == 0) = false ∧ P = ⟨#[]⟩)) := by
  unfold prC
  by_cases h : frmE s (bls H) (bls O) = 0
  · exact ⟨_, 0, if_pos h, h, .inl ⟨rfl, (joinB_prL s H O rt).symm⟩⟩
  · exact ⟨_, _, if_neg h, rfl, .inr ⟨beq_eq_false_iff_ne.2 h, rfl⟩⟩
set_option maxHeartbeats 8000000 in
theorem texts6_ex (s : ByteArray) (H O : List ByteArray) (nh ch no co : Nat) (AH AO : Option Addr) (rt : Bool) (t : ByteArray) (w : World) (hz : (s.size : Int) ≤ 9223372036854775807) (hZ : TextsZ w AH nh H) (hn : (nh : Int) ≤ 9223372036854775807) (hZ2 : TextsZ w AO no O) (hn2 : (no : Int) ≤ 9223372036854775807) (ht : Tabs w)
    (h : shC s H O = false ∨ (shC s H O = true ∧ 300 < t.size ∧ t.size ≤ 4096) ∨ (shC s H O = true ∧ 4099 < t.size)) :
    Calls Tryz.prog 5 #[.agg #[.string s, .slice AH nh ch, .slice AO no co, .bool rt], .string t] w (Yes w) := by
  obtain ⟨g0, hg0⟩ : ∃ g, w.heap.size = g := ⟨_, rfl⟩
  obtain ⟨w1, hw1⟩ : ∃ w1, w.alloc (.cells #[.string s, .slice AH nh ch, .slice AO no co, .bool rt] 54) = w1 := ⟨_, rfl⟩
  have hb1 : Below w.heap.size w w1 := by rw [← hw1]; exact balloc _ (Below.refl _ _)
  have c0 : w1.cell? ⟨g0, 0, none⟩ = some (.string s) := by rw [← hw1, ← hg0]; simp
  have c1 : w1.cell? ⟨g0, 1, none⟩ = some (.slice AH nh ch) := by rw [← hw1, ← hg0]; simp
  have c2 : w1.cell? ⟨g0, 2, none⟩ = some (.slice AO no co) := by rw [← hw1, ← hg0]; simp
  have c3 : w1.cell? ⟨g0, 3, none⟩ = some (.bool rt) := by rw [← hw1, ← hg0]; simp
  have hSC := r6ShortCard_any s H O nh ch no co AH AO rt w1 hz (hZ.below hb1) hn (hZ2.below hb1) hn2
  have HAW : Hid (∀ w', Below w.heap.size w w' → Calls Tryz.prog 8 #[] w' (RetPost (.bool true) w')) := Lib.hid fun w' hb => aw w' (ht.grow hb)
  have HB1 := Lib.hid hb1
  have hq : shC s H O = false ∨ (shC s H O = true ∧ (300 : Int) < (t.size : Int) ∧ (t.size : Int) ≤ 4096) ∨ (shC s H O = true ∧ (300 : Int) < (t.size : Int) ∧ ¬ (t.size : Int) ≤ 4096 ∧ (4099 : Int) < (t.size : Int)) := by
    rcases h with h | ⟨h, h1, h2⟩ | ⟨h, h1⟩
    · exact .inl h
    · exact .inr (.inl ⟨h, by omega, by omega⟩)
    · exact .inr (.inr ⟨h, by omega, by omega, by omega⟩)
  clear hZ hZ2 hb1 h ht
  rcases hq with h1 | ⟨h1, h2, h3⟩ | ⟨h1, h2, h3, h4⟩
  all_goals
    rw [h1] at hSC
    clear h1
    go_enter Tryz.func5, Tryz.ntmps5
    go_wp2_with fail
    refine hSC.mono ?_
    rintro e w2 ⟨rfl, hb2⟩
    have hbb := bstep HB1.out hb2
    clear hb2
    go_wp2_with fail
    refine (HAW.out _ hbb).mono ?_
    rintro e w9 ⟨rfl, hb9⟩
    have hfin := bstep hbb hb9
    clear hb9
    go_wp2
    go_ret
    exact ⟨rfl, hfin⟩
set_option maxHeartbeats 16000000 in
theorem texts6_main (s : ByteArray) (H O : List ByteArray) (nh ch no co : Nat) (AH AO : Option Addr) (rt : Bool) (t : ByteArray) (w : World) (hZ : TextsZ w AH nh H) (hZ2 : TextsZ w AO no O) (hcap : nh ≤ ch) (hcap2 : no ≤ co) (hA1 : AH = none → ch = 0) (hA2 : AO = none → co = 0) (ht : Tabs w) (hG : GL w)
    (h : shC s H O = true) (hl : t.size ≤ 300 ∨ (4096 < t.size ∧ t.size ≤ 4099)) :
    Calls Tryz.prog 5 #[.agg #[.string s, .slice AH nh ch, .slice AO no co, .bool rt], .string t] w (Yes w) := by
  obtain ⟨k1, k2, k3, k4, k5⟩ := shC_all h
  rw [hZ.1] at k2
  rw [hZ2.1] at k3
  obtain ⟨g0, hg0⟩ : ∃ g, w.heap.size = g := ⟨_, rfl⟩
  obtain ⟨w1, hw1⟩ : ∃ w1, w.alloc (.cells #[.string s, .slice AH nh ch, .slice AO no co, .bool rt] 54) = w1 := ⟨_, rfl⟩
  have hb1 : Below w.heap.size w w1 := by rw [← hw1]; exact balloc _ (Below.refl _ _)
  have hs1 : w1.heap.size = g0 + 1 := by rw [← hw1, ← hg0]; simp
  have c0 : w1.cell? ⟨g0, 0, none⟩ = some (.string s) := by rw [← hw1, ← hg0]; simp
  have c1 : w1.cell? ⟨g0, 1, none⟩ = some (.slice AH nh ch) := by rw [← hw1, ← hg0]; simp
  have c2 : w1.cell? ⟨g0, 2, none⟩ = some (.slice AO no co) := by rw [← hw1, ← hg0]; simp
  have c3 : w1.cell? ⟨g0, 3, none⟩ = some (.bool rt) := by rw [← hw1, ← hg0]; simp
  have HX : Hid (∀ w', Below w1.heap.size w1 w' → w'.cell? ⟨g0, 0, none⟩ = some (.string s) ∧ w'.cell? ⟨g0, 1, none⟩ = some (.slice AH nh ch) ∧ w'.cell? ⟨g0, 2, none⟩ = some (.slice AO no co) ∧ w'.cell? ⟨g0, 3, none⟩ = some (.bool rt)) := Lib.hid fun w' hb =>
    ⟨(hb.cell (p := ⟨g0, 0, none⟩) (by show g0 < _; omega)).trans c0, (hb.cell (p := ⟨g0, 1, none⟩) (by show g0 < _; omega)).trans c1, (hb.cell (p := ⟨g0, 2, none⟩) (by show g0 < _; omega)).trans c2, (hb.cell (p := ⟨g0, 3, none⟩) (by show g0 < _; omega)).trans c3⟩
  have hSC := r6ShortCard_any s H O nh ch no co AH AO rt w1 (by omega) (hZ.below hb1) (by omega) (hZ2.below hb1) (by omega)
  rw [h] at hSC
  have HAW : Hid (∀ w', Below w.heap.size w w' → Calls Tryz.prog 8 #[] w' (RetPost (.bool true) w')) := Lib.hid fun w' hb => aw w' (ht.grow hb)
  have HCA : Hid (∀ q w', Below w1.heap.size w1 w' → w'.cell? ⟨q, 0, none⟩ = some (.string s) → w'.cell? ⟨q, 1, none⟩ = some (.slice AH nh ch) → w'.cell? ⟨q, 2, none⟩ = some (.slice AO no co) → w'.cell? ⟨q, 3, none⟩ = some (.bool rt) → q < w'.heap.size → Calls Tryz.prog 21 #[.slice (some ⟨q, 0, none⟩) 1 1] w' (fun e w'' => ∃ v, e = .returned v ∧ CardsPost s H O nh no rt w' v w'')) := Lib.hid fun q w' hb r0 r1 r2 r3 hq =>
    l6cards_any s H O nh ch no co AH AO rt q 1 w' ((hZ.below hb1).below hb) (by omega) ((hZ2.below hb1).below hb) (by omega) hA1 hA2 hcap hcap2 r0 r1 r2 r3 hq
  have HPC : Hid (∀ w' A1 c1 A2 c2, OT 0 w' A1 c1 nh H → OT 0 w' A2 c2 no O → Calls Tryz.prog 22 #[.agg #[.string s, .slice A1 nh c1, .slice A2 no c2, .bool rt]] w' (RetPost (prC s H O rt) w')) := Lib.hid fun w' A1 c1 A2 c2 o1 o2 =>
    fdPrintCard_any s H O nh c1 no c2 A1 A2 rt w' (by omega) o1.1 (by omega) o1.2.1 (fun x hx => by have := k4 x hx; omega) o2.1 (by omega) (fun x hx => by have := k5 x hx; omega) o1.2.2.1 o2.2.2.1
  have HPA : Hid (∀ w', Below w.heap.size w w' → Calls Tryz.prog 23 #[.string t] w' (ParPost (parV (bl t)) w')) := Lib.hid fun w' hb => fdParseCard_any t (by omega) w' (hG.below hb)
  have HCF : Hid (∀ w', Below w1.heap.size w1 w' → Calls Tryz.prog 24 #[.agg #[.string s, .slice AH nh ch, .slice AO no co, .bool rt]] w' (RetPost (.int .i64 (frmE s (bls H) (bls O))) w')) := Lib.hid fun w' hb => r6CheckForm_any s H O nh ch no co AH AO rt w' (by unfold maxLen; omega) ((hZ.below hb1).below hb) (by omega) (fun x hx => by have := k4 x hx; omega) ((hZ2.below hb1).below hb) (by omega) (fun x hx => by have := k5 x hx; omega)
  have HPT : Hid (∀ w', Below w1.heap.size w1 w' → Calls Tryz.prog 25 #[.agg #[.string s, .slice AH nh ch, .slice AO no co, .bool rt]] w' (RetPost (.string (mkB (prL (bl s) (bls H) (bls O) rt))) w')) := Lib.hid fun w' hb => r6Print_any s H O nh ch no co AH AO rt w' (by omega) ((hZ.below hb1).below hb) (by omega) (fun x hx => by have := k4 x hx; omega) ((hZ2.below hb1).below hb) (by omega) (fun x hx => by have := k5 x hx; omega)
  have HPR : Hid (∀ w', Calls Tryz.prog 26 #[.string t] w' (ParPost (parV (bl t)) w')) := Lib.hid fun w' => by have := r6Parse_any t (by omega) w'; rwa [refV_parV] at this
  have hvs := parV_size (bl t)
  rw [bl_len] at hvs
  have HVS : Hid ((parV (bl t)).1.2.1.length ≤ 4099 ∧ (parV (bl t)).1.2.2.1.length ≤ 4099) := Lib.hid (by omega)
  generalize parV (bl t) = V at *
  obtain ⟨P, E, hpr, hfe, hPE⟩ := prC_cases s H O rt
  rw [hpr] at HPC
  rw [hfe] at HCF
  have HB1 := Lib.hid hb1
  have hlq : ¬ (300 : Int) < (t.size : Int) ∨ ((300 : Int) < (t.size : Int) ∧ ¬ (t.size : Int) ≤ 4096 ∧ ¬ (4099 : Int) < (t.size : Int)) := by omega
  have hlq2 : (¬ (300 : Int) < (t.size : Int) ∧ ¬ (4099 : Int) < (t.size : Int)) ∨ ((300 : Int) < (t.size : Int) ∧ ¬ (t.size : Int) ≤ 4096 ∧ ¬ (4099 : Int) < (t.size : Int)) := by omega
  have hPP : (P.toList == P.toList) = true := by simp
  have hEE : (E == E) = true := by simp
  clear hZ hZ2 hb1 h hl ht hG hcap hcap2 hA1 hA2 k1 k2 k3 k4 k5 hpr hfe hvs hlq
  rcases hlq2 with ⟨l1, l3⟩ | ⟨l1, l2, l3⟩
  all_goals
    go_enter Tryz.func5, Tryz.ntmps5
    go_wp2_with fail
    refine hSC.mono ?_
    rintro e w2 ⟨rfl, hb2⟩
    clear c0 c1 c2 c3
    obtain ⟨c0, c1, c2, c3⟩ := HX.out _ hb2
    obtain ⟨q, hq⟩ : ∃ q, w2.heap.size = q := ⟨_, rfl⟩
    obtain ⟨wq, hwq⟩ : ∃ wq, w2.alloc (.cells #[.string s, .slice AH nh ch, .slice AO no co, .bool rt] 54) = wq := ⟨_, rfl⟩
    have hbq : Below w1.heap.size w1 wq := by rw [← hwq]; exact hb2.alloc hb2.size _
    have hCA := HCA.out q wq hbq (by rw [← hwq, ← hq]; simp) (by rw [← hwq, ← hq]; simp) (by rw [← hwq, ← hq]; simp) (by rw [← hwq, ← hq]; simp) (by rw [← hwq, ← hq]; simp)
    have HBQ := Lib.hid hbq
    clear hb2 hbq
    go_wp2_with fail
    clear l1 l3
    with_reducible refine hCA.mono ?_
    rintro e w3 ⟨v, rfl, g, c, A1, d1, A2, d2, rfl, ⟨y0, y1, y2, y3⟩, hg, ht1, ht2, hb3⟩
    have hPC := HPC.out w3 A1 d1 A2 d2 (ht1.mono (Nat.zero_le _)) (ht2.mono (Nat.zero_le _))
    have HB3 := Lib.hid (bstep HBQ.out hb3)
    clear ht1 ht2 hb3 hCA c0 c1 c2 c3 HBQ hwq hq HCA HPC
    go_wp2_with fail
    with_reducible refine hPC.mono ?_
    rintro e w4 ⟨rfl, hb4⟩
    have HB4 := Lib.hid (bstep HB3.out hb4)
    clear hb4 hPC y0 y1 y2 y3 HB3
    go_wp2_with fail
    with_reducible refine (HPA.out _ (bstep HB1.out HB4.out)).mono ?_
    rintro e w5 ⟨nm, BH, mh, dh, BO, mo, dj, rt1, er, H1, O1, rfl, hb5, hV, ⟨hT1, _, _⟩, hT2, _, _⟩
    obtain ⟨gy, hgy⟩ : ∃ q, w5.heap.size = q := ⟨_, rfl⟩
    obtain ⟨wy, hwy⟩ : ∃ wq, w5.alloc (.cells #[.string nm, .slice BH mh dh, .slice BO mo dj, .bool rt1] 61) = wq := ⟨_, rfl⟩
    have hb45 := bstep HB4.out hb5
    have hby : Below w1.heap.size w1 wy := by rw [← hwy]; exact hb45.alloc hb45.size _
    have hsy : wy.heap.size = gy + 1 := by rw [← hwy, ← hgy]; simp
    have z0 : wy.cell? ⟨gy, 0, none⟩ = some (.string nm) := by rw [← hwy, ← hgy]; simp
    have z1 : wy.cell? ⟨gy, 1, none⟩ = some (.slice BH mh dh) := by rw [← hwy, ← hgy]; simp
    have z2 : wy.cell? ⟨gy, 2, none⟩ = some (.slice BO mo dj) := by rw [← hwy, ← hgy]; simp
    have z3 : wy.cell? ⟨gy, 3, none⟩ = some (.bool rt1) := by rw [← hwy, ← hgy]; simp
    have HY : Hid (∀ w', Below wy.heap.size wy w' → w'.cell? ⟨gy, 0, none⟩ = some (.string nm) ∧ w'.cell? ⟨gy, 1, none⟩ = some (.slice BH mh dh) ∧ w'.cell? ⟨gy, 2, none⟩ = some (.slice BO mo dj) ∧ w'.cell? ⟨gy, 3, none⟩ = some (.bool rt1)) := Lib.hid fun w' hb =>
      ⟨(hb.cell (p := ⟨gy, 0, none⟩) (by show gy < _; omega)).trans z0, (hb.cell (p := ⟨gy, 1, none⟩) (by show gy < _; omega)).trans z1, (hb.cell (p := ⟨gy, 2, none⟩) (by show gy < _; omega)).trans z2, (hb.cell (p := ⟨gy, 3, none⟩) (by show gy < _; omega)).trans z3⟩
    have hb5y : Below w5.heap.size w5 wy := by rw [← hwy]; exact balloc _ (Below.refl _ _)
    have HT1 := Lib.hid (hT1.below hb5y)
    have HT2 := Lib.hid (hT2.below hb5y)
    have HV := Lib.hid hV
    have HBY := Lib.hid hby
    obtain ⟨c0, c1, c2, c3⟩ := HX.out _ hby
    clear hT1 hT2 hV hby hb45 hb5y hsy z0 z1 z2 z3 hb5 HPA
    go_wp2_with fail
    with_reducible refine (HCF.out _ HBY.out).mono ?_
    rintro e w6 ⟨rfl, hb6⟩
    have HYY := Lib.hid hb6
    have HB6 := Lib.hid (bstep HBY.out hb6)
    clear hb6 c0 c1 c2 c3 HCF
    rcases hPE with ⟨rfl, hP⟩ | ⟨hE, rfl⟩
    · rw [hP] at HPT
      obtain ⟨c0, c1, c2, c3⟩ := HX.out _ HB6.out
      go_wp2_with fail
      with_reducible refine (HPT.out _ HB6.out).mono ?_
      rintro e w7 ⟨rfl, hb7⟩
      have HB7 := Lib.hid (bstep HB6.out hb7)
      have HY7 := Lib.hid (bstep HYY.out hb7)
      clear hb7 c0 c1 c2 c3
      go_wp2_with fail
      with_reducible refine (HPR.out _).mono ?_
      rintro e w8 ⟨nm', CH, mh', dh', CO, mo', dj', rt', er', H2, O2, rfl, hb8, hV2, ⟨hU1, _, _⟩, hU2, _, _⟩
      have hv := HV.out.symm.trans hV2
      rw [hv] at HV
      obtain ⟨hv1, hv2⟩ := Prod.mk.inj hv
      obtain ⟨hv3, hv4⟩ := Prod.mk.inj hv1
      obtain ⟨hv5, hv6⟩ := Prod.mk.inj hv4
      obtain ⟨hv7, hv8⟩ := Prod.mk.inj hv6
      obtain rfl := bl_inj hv3
      obtain rfl := bls_inj hv5
      obtain rfl := bls_inj hv7
      subst hv8
      subst hv2
      obtain rfl : mh = mh' := HT1.out.1.symm.trans hU1.1
      obtain rfl : mo = mo' := HT2.out.1.symm.trans hU2.1
      have hm1 : mh ≤ 5000 := by
        have := HVS.out.1
        rw [hV2] at this
        have e : (bls H1).length = mh := by unfold bls; rw [List.length_map]; exact hU1.1
        have : (bls H1).length ≤ 4099 := this
        omega
      have hm2 : mo ≤ 5000 := by
        have := HVS.out.2
        rw [hV2] at this
        have e : (bls O1).length = mo := by unfold bls; rw [List.length_map]; exact hU2.1
        have : (bls O1).length ≤ 4099 := this
        omega
      obtain ⟨gz, hgz⟩ : ∃ q, w8.heap.size = q := ⟨_, rfl⟩
      obtain ⟨wz, hwz⟩ : ∃ wq, w8.alloc (.cells #[.string nm, .slice CH mh dh', .slice CO mo dj', .bool rt1] 54) = wq := ⟨_, rfl⟩
      have hb8z : Below w8.heap.size w8 wz := by rw [← hwz]; exact balloc _ (Below.refl _ _)
      have hbz : Below w1.heap.size w1 wz := bstep (bstep HB7.out hb8) hb8z
      have hyz : Below wy.heap.size wy wz := bstep (bstep HY7.out hb8) hb8z
      have z0 : wz.cell? ⟨gz, 0, none⟩ = some (.string nm) := by rw [← hwz, ← hgz]; simp
      have z1 : wz.cell? ⟨gz, 1, none⟩ = some (.slice CH mh dh') := by rw [← hwz, ← hgz]; simp
      have z2 : wz.cell? ⟨gz, 2, none⟩ = some (.slice CO mo dj') := by rw [← hwz, ← hgz]; simp
      have z3 : wz.cell? ⟨gz, 3, none⟩ = some (.bool rt1) := by rw [← hwz, ← hgz]; simp
      obtain ⟨x0, x1, x2, x3⟩ := HY.out _ hyz
      have hSame := r6SameCard_any nm H1 O1 mh dh mo dj dh' dj' BH BO CH CO rt1 wz (HT1.out.below hyz) hm1 (HT2.out.below hyz) hm2 (hU1.below hb8z) (hU2.below hb8z)
      have hee : (er == er) = true := by simp
      have HBZ := Lib.hid hbz
      clear hv hv1 hv3 hv4 hv5 hv6 hv7 hV2 hU1 hU2 hb8 hb8z hbz hyz HV hm1 hm2
      go_wp2_with fail
      with_reducible refine hSame.mono ?_
      rintro e wa ⟨rfl, hba⟩
      have hbb := bstep HB1.out (bstep HBZ.out hba)
      clear hba x0 x1 x2 x3 z0 z1 z2 z3 hSame
      go_wp2_with fail
      with_reducible refine (HAW.out _ hbb).mono ?_
      rintro e w9 ⟨rfl, hb9⟩
      have hfin := bstep hbb hb9
      clear hb9
      go_wp2
      go_ret
      exact ⟨rfl, hfin⟩
    · have HB7 := Lib.hid HB6.out
      have HY7 := Lib.hid HYY.out
      go_wp2_with fail
      with_reducible refine (HPR.out _).mono ?_
      rintro e w8 ⟨nm', CH, mh', dh', CO, mo', dj', rt', er', H2, O2, rfl, hb8, hV2, ⟨hU1, _, _⟩, hU2, _, _⟩
      have hv := HV.out.symm.trans hV2
      rw [hv] at HV
      obtain ⟨hv1, hv2⟩ := Prod.mk.inj hv
      obtain ⟨hv3, hv4⟩ := Prod.mk.inj hv1
      obtain ⟨hv5, hv6⟩ := Prod.mk.inj hv4
      obtain ⟨hv7, hv8⟩ := Prod.mk.inj hv6
      obtain rfl := bl_inj hv3
      obtain rfl := bls_inj hv5
      obtain rfl := bls_inj hv7
      subst hv8
      subst hv2
      obtain rfl : mh = mh' := HT1.out.1.symm.trans hU1.1
      obtain rfl : mo = mo' := HT2.out.1.symm.trans hU2.1
      have hm1 : mh ≤ 5000 := by
        have := HVS.out.1
        rw [hV2] at this
        have e : (bls H1).length = mh := by unfold bls; rw [List.length_map]; exact hU1.1
        have : (bls H1).length ≤ 4099 := this
        omega
      have hm2 : mo ≤ 5000 := by
        have := HVS.out.2
        rw [hV2] at this
        have e : (bls O1).length = mo := by unfold bls; rw [List.length_map]; exact hU2.1
        have : (bls O1).length ≤ 4099 := this
        omega
      obtain ⟨gz, hgz⟩ : ∃ q, w8.heap.size = q := ⟨_, rfl⟩
      obtain ⟨wz, hwz⟩ : ∃ wq, w8.alloc (.cells #[.string nm, .slice CH mh dh', .slice CO mo dj', .bool rt1] 54) = wq := ⟨_, rfl⟩
      have hb8z : Below w8.heap.size w8 wz := by rw [← hwz]; exact balloc _ (Below.refl _ _)
      have hbz : Below w1.heap.size w1 wz := bstep (bstep HB7.out hb8) hb8z
      have hyz : Below wy.heap.size wy wz := bstep (bstep HY7.out hb8) hb8z
      have z0 : wz.cell? ⟨gz, 0, none⟩ = some (.string nm) := by rw [← hwz, ← hgz]; simp
      have z1 : wz.cell? ⟨gz, 1, none⟩ = some (.slice CH mh dh') := by rw [← hwz, ← hgz]; simp
      have z2 : wz.cell? ⟨gz, 2, none⟩ = some (.slice CO mo dj') := by rw [← hwz, ← hgz]; simp
      have z3 : wz.cell? ⟨gz, 3, none⟩ = some (.bool rt1) := by rw [← hwz, ← hgz]; simp
      obtain ⟨x0, x1, x2, x3⟩ := HY.out _ hyz
      have hSame := r6SameCard_any nm H1 O1 mh dh mo dj dh' dj' BH BO CH CO rt1 wz (HT1.out.below hyz) hm1 (HT2.out.below hyz) hm2 (hU1.below hb8z) (hU2.below hb8z)
      have hee : (er == er) = true := by simp
      have HBZ := Lib.hid hbz
      clear hv hv1 hv3 hv4 hv5 hv6 hv7 hV2 hU1 hU2 hb8 hb8z hbz hyz HV hm1 hm2
      go_wp2_with fail
      with_reducible refine hSame.mono ?_
      rintro e wa ⟨rfl, hba⟩
      have hbb := bstep HB1.out (bstep HBZ.out hba)
      clear hba x0 x1 x2 x3 z0 z1 z2 z3 hSame
      go_wp2_with fail
      with_reducible refine (HAW.out _ hbb).mono ?_
      rintro e w9 ⟨rfl, hb9⟩
      have hfin := bstep hbb hb9
      clear hb9
      go_wp2
      go_ret
      exact ⟨rfl, hfin⟩
theorem texts6_any (s : ByteArray) (H O : List ByteArray) (nh ch no co : Nat) (AH AO : Option Addr) (rt : Bool) (t : ByteArray) (w : World) (hz : (s.size : Int) ≤ 9223372036854775807) (hZ : TextsZ w AH nh H) (hn : (nh : Int) ≤ 9223372036854775807) (hZ2 : TextsZ w AO no O) (hn2 : (no : Int) ≤ 9223372036854775807) (hcap : nh ≤ ch) (hcap2 : no ≤ co) (hA1 : AH = none → ch = 0) (hA2 : AO = none → co = 0) (ht : Tabs w) (hG : GL w) :
    Calls Tryz.prog 5 #[.agg #[.string s, .slice AH nh ch, .slice AO no co, .bool rt], .string t] w (Yes w) := by
  by_cases h : shC s H O = false ∨ (shC s H O = true ∧ 300 < t.size ∧ t.size ≤ 4096) ∨ (shC s H O = true ∧ 4099 < t.size)
  · exact texts6_ex s H O nh ch no co AH AO rt t w hz hZ hn hZ2 hn2 ht h
  · have h1 : shC s H O = true := by
      cases q : shC s H O with
      | true => rfl
      | false => exact absurd (.inl q) h
    exact texts6_main s H O nh ch no co AH AO rt t w hZ hZ2 hcap hcap2 hA1 hA2 ht hG h1 (by
      by_cases q : t.size ≤ 300
      · exact .inl q
      · refine .inr ⟨?_, ?_⟩
        · refine Nat.lt_of_not_le fun z => h (.inr (.inl ⟨h1, by omega, z⟩))
        · refine Nat.le_of_not_lt fun z => h (.inr (.inr ⟨h1, z⟩)))
end Go.Mk
