/-
  Proved: the times and the speeds of the legs of a run by the reference (Legs, Splits), in new memory. Conditions: legs and exchanges lie where the slices say; at most a hundred of each; for Splits what lies between two moments is not negative, has at most nine digits, and a time is above 0.
-/
import Derived.Test.YtickjnahdeikfaaGreatDoorNy
import Derived.Test.YtickjnahdeikfaaGreatDoorNo
import Derived.Test.YtickjnahdeikfaaGreatDoorNn
set_option linter.unusedVariables false
set_option linter.unusedSimpArgs false
open Go Go.Proofs Go.RowKit
set_option maxRecDepth 100000
namespace Go.Mk
theorem Pairs.of_ownE {w : World} {base : Nat} {v : Value} {L : List (Int × Int)} (h : OwnEx w base v L) : ∃ A c, v = .slice A L.length c ∧ Pairs w A L.length L ∧ (A = none → L.length = 0 ∧ c = 0) := by
  by_cases h0 : 0 < L.length
  · obtain ⟨g, c, rfl, hg1, hg2⟩ := ownSome h h0
    refine ⟨_, _, rfl, ⟨rfl, fun _ => ⟨g, 0, rfl, hg2, fun i p hp => ?_⟩⟩, fun q => by cases q⟩
    have hi := (List.getElem?_eq_some_iff.1 hp).1
    constructor
    · rw [Nat.zero_add, World.ownsRow.cellAt h (i * 2) (by omega)]
      exact (pairC_at L i p 0 hp (by decide)).trans rfl
    · rw [Nat.zero_add, World.ownsRow.cellAt h (i * 2 + 1) (by omega)]
      exact (pairC_at L i p 1 hp (by decide)).trans rfl
  · obtain rfl : L = [] := List.length_eq_zero_iff.1 (by omega)
    rcases h.2 with ⟨e, _⟩ | ⟨g, c, cur, e, _⟩
    · exact ⟨none, 0, e, ⟨rfl, fun q => absurd q (by simp)⟩, fun _ => ⟨rfl, rfl⟩⟩
    · exact ⟨_, c, e, ⟨rfl, fun q => absurd q (by simp)⟩, fun q => by cases q⟩
theorem own_lowV {w : World} {B B' e size n : Nat} {v : Value} {xs : List Value} (h : w.ownsRow B e size v n xs) (hB : B' ≤ B) : w.ownsRow B' e size v n xs :=
  ⟨h.1, h.2.imp id fun ⟨g, cap, cur, h1, h2, h3⟩ => ⟨g, cap, cur, h1, Nat.le_trans hB h2, h3⟩⟩
theorem rfOfG (g : Int × Int) (w : World) (h : okG g) : Calls Tryz.prog 65 #[.int .i64 g.1, .int .i64 g.2] w (RetPost (.string (ratG g)) w) := by
  obtain ⟨a, b⟩ := g
  obtain ⟨h1, h2, h3, h4⟩ := h
  have h1 : 0 ≤ a := h1
  have h2 : a ≤ 999999999 := h2
  have h3 : 0 < b := h3
  have h4 : b ≤ 999999999 := h4
  obtain ⟨N, rfl⟩ := Int.eq_ofNat_of_zero_le h1
  obtain ⟨D, rfl⟩ := Int.eq_ofNat_of_zero_le (Int.le_of_lt h3)
  exact rfOf_any N D w (by omega) (by omega) (by omega)
set_option maxHeartbeats 8000000 in
theorem r7Legs_any (G : List Int) (n cap : Nat) (A : Option Addr) (z b : Int) (L : List (Int × Int)) (m cE : Nat) (E : Option Addr) (f : Int) (w : World)
    (hG : IntsZ w A n G) (hn : n ≤ 100) (hE : Pairs w E m L) (hm : m ≤ 100) (hcE : E = none → m = 0 ∧ cE = 0) :
    Calls Tryz.prog 18 #[.agg #[.slice A n cap, .int .i64 z, .int .i64 b], .slice E m cE, .int .i64 f] w
      (fun e w' => ∃ v, e = .returned v ∧ OwnV w' w.heap.size 3 v ((gapF (0, 0) (L ++ [(sumW G 0, f)])).map legV) ∧ Below w.heap.size w w') := by
  obtain ⟨i0, hi, hz0, hz1, hz2⟩ := info_parts infoInt
  have hb0 : Below w.heap.size w (w.alloc (.cells #[.slice A n cap, .int .i64 z, .int .i64 b] 26)) := balloc _ (Below.refl _ _)
  have hMo := r7Moments_any G n cap A z b L m cE E f _ (hG.below hb0) hn (hE.below hb0) hm hcE
  have HB0 := Lib.hid hb0
  have HLm := Lib.hid hE.1
  obtain ⟨d, hd⟩ : ∃ d, sumW G 0 = d := ⟨_, rfl⟩
  rw [hd] at hMo ⊢
  obtain ⟨F, hF⟩ : ∃ F, (gapF (0, 0) (L ++ [(d, f)])).map legV = F := ⟨_, rfl⟩
  rw [hF]
  have HF : Hid ([] ++ (gapF (0, 0) ((L ++ [(d, f)]).drop 0)).map legV = F) := Lib.hid hF
  have hml : ((0, 0) :: (L ++ [(d, f)])).length = m + 2 := by simp [HLm.out]
  obtain ⟨M, hM⟩ : ∃ M, ((0, 0) :: (L ++ [(d, f)]) : List (Int × Int)) = M := ⟨_, rfl⟩
  have HM1 : Hid (∀ j, M[j + 1]? = (L ++ [(d, f)])[j]?) := Lib.hid fun j => by rw [← hM]; rfl
  have HM0 : M[0]? = some (0, 0) := by rw [← hM]; rfl
  rw [hM] at hMo hml
  have hmi : (m : Int) ≤ 100 := by omega
  clear hG hE hd hF hb0 hM
  go_enter Tryz.func18, Tryz.ntmps18
  go_wp2_with fail
  refine hMo.mono ?_
  rintro e w2 ⟨v2, rfl, ho, hb2⟩
  obtain ⟨AM, cM, rfl, hP, _⟩ := Pairs.of_ownE ho
  obtain ⟨bm, om, rfl, hbm, hcM⟩ := hP.2 (by omega)
  rw [hml] at *
  have HCM := Lib.hid hcM
  have HB2 := Lib.hid (bstep HB0.out hb2)
  have hw2 : w.heap.size ≤ w2.heap.size := HB2.out.size
  have HML := Lib.hid hml
  clear hMo ho hb2 hP hcM hml
  go_wp2
  go_loopw [8, 9] (fun v i wr => ∃ (j : Nat) (p : Int × Int) (P : List Value), j ≤ m + 1 ∧ P.length = j ∧ i = .int .i64 ((j : Int) + 1) ∧ M[j]? = some p ∧ Hid (P ++ (gapF p ((L ++ [(d, f)]).drop j)).map legV = F) ∧ OwnV wr w2.heap.size 3 v P ∧ Below w2.heap.size w2 wr) (fun _ i _ => m + 2 - (intOf i).toNat)
  case atStart => exact ⟨0, (0, 0), [], by omega, rfl, rfl, HM0, HF, World.ownsRow_nil _ _ _ _, Below.refl _ _⟩
  case round =>
    obtain ⟨j, p, P, hj, hP, rfl, hp, HK, hown, hb⟩ := hrel
    have hwr := hb.size
    by_cases hlt : j < m + 1
    · have hk : j < (L ++ [(d, f)]).length := by rw [List.length_append, HLm.out]; simpa using hlt
      obtain ⟨q, hq⟩ : ∃ q, (L ++ [(d, f)])[j]? = some q := ⟨_, List.getElem?_eq_getElem hk⟩
      have hqM : M[j + 1]? = some q := (HM1.out j).trans hq
      have a0 := (hb.cell (p := ⟨bm, om + j * 2, none⟩) hbm).trans (HCM.out j p hp).1
      have a1 := (hb.cell (p := ⟨bm, om + j * 2 + 1, none⟩) hbm).trans (HCM.out j p hp).2
      have b0 := (hb.cell (p := ⟨bm, om + (j + 1) * 2, none⟩) hbm).trans (HCM.out (j + 1) q hqM).1
      have b1 := (hb.cell (p := ⟨bm, om + (j + 1) * 2 + 1, none⟩) hbm).trans (HCM.out (j + 1) q hqM).2
      have hi1 : (j : Int) + 1 < (m : Int) + 2 := by omega
      have hi0 : (0 : Int) ≤ (j : Int) + 1 := by omega
      have hit : ((j : Int) + 1).toNat = j + 1 := by omega
      have hj0 : (0 : Int) ≤ (j : Int) := by omega
      have hjt : ((j : Int)).toNat = j := by omega
      have hjm : (j : Int) < (m : Int) + 2 := by omega
      have hwj : IntKind.i64.wrap (j : Int) = (j : Int) := IntWalk.i64_in _ (by omega)
      have hwj1 : IntKind.i64.wrap ((j : Int) + 1) = (j : Int) + 1 := IntWalk.i64_in _ (by omega)
      have hst : P ++ (legV (wrap64 (q.1 - p.1), wrap64 (q.2 - p.2)) :: (gapF q ((L ++ [(d, f)]).drop (j + 1))).map legV) = F := by have := HK.out; rw [gapF_drop p hq, List.map_cons] at this; exact this
      have HST : Hid ((P ++ [legV (wrap64 (q.1 - p.1), wrap64 (q.2 - p.2))]) ++ (gapF q ((L ++ [(d, f)]).drop (j + 1))).map legV = F) := Lib.hid (by rw [← hst]; simp)
      have HQM := Lib.hid hqM
      have HX := Lib.hid (fun w' (hh : Below w2.heap.size wr w') => (show w'.cell? ⟨bm, om + j * 2 + 1, none⟩ = some (.int .i64 p.2) ∧ w'.cell? ⟨bm, om + (j + 1) * 2 + 1, none⟩ = some (.int .i64 q.2) ∧ Below w2.heap.size wr w' from ⟨(hh.cell (p := ⟨bm, om + j * 2 + 1, none⟩) hbm).trans a1, (hh.cell (p := ⟨bm, om + (j + 1) * 2 + 1, none⟩) hbm).trans b1, hh⟩))
      have hrow := World.ownsRow.drew hown
      have HB := Lib.hid hb
      clear hst HK hq hqM hp hown hb a0 a1 b0 b1
      go_wp2_with fail
      refine wp_region_held_drew (S := (fun w' => w'.cell? ⟨bm, om + j * 2 + 1, none⟩ = some (.int .i64 p.2) ∧ w'.cell? ⟨bm, om + (j + 1) * 2 + 1, none⟩ = some (.int .i64 q.2) ∧ Below w2.heap.size wr w')) (by kernel_rfl) ?_ (fun hHeld => ?_)
      · exact HX.out _ (Below.drew (Below.refl _ _))
      obtain ⟨wd, hwd⟩ : ∃ wd, World.drew wr = wd := ⟨_, rfl⟩
      rw [hwd] at hHeld hrow ⊢
      clear hwd
      refine wpAnyH_take (i := 0) (oi := _) (v := ?_) rfl (by kernel_rfl) (by kernel_rfl) (by kernel_rfl) (fun _ _ _ h => h) (Or.inl ⟨by kernel_rfl, ?_⟩) (by assumption) ?_
      rotate_left
      · rintro w ⟨s1, s2, s3⟩
        go_simp
        try with_reducible rfl
      try simp only [Act.put, List.setIfInBounds_toArray, List.set_cons_zero, List.set_cons_succ, List.getElem_toArray, List.getElem_cons_zero, List.getElem_cons_succ]
      refine wpAnyH_take (i := 1) (oi := _) (v := ?_) rfl (by kernel_rfl) (by kernel_rfl) (by kernel_rfl) (fun _ _ _ h => h) (Or.inl ⟨by kernel_rfl, ?_⟩) (by assumption) ?_
      rotate_left
      · rintro w ⟨s1, s2, s3⟩
        go_simp
        try with_reducible rfl
      try simp only [Act.put, List.setIfInBounds_toArray, List.set_cons_zero, List.set_cons_succ, List.getElem_toArray, List.getElem_cons_zero, List.getElem_cons_succ]
      refine wpAnyH_take (i := 2) (oi := _) (v := ?_) rfl (by kernel_rfl) (by kernel_rfl) (by kernel_rfl) (fun _ _ _ h => h) (Or.inl ⟨by kernel_rfl, ?_⟩) (by assumption) ?_
      rotate_left
      · rintro w ⟨s1, s2, s3⟩
        go_simp
        try with_reducible rfl
      try simp only [Act.put, List.setIfInBounds_toArray, List.set_cons_zero, List.set_cons_succ, List.getElem_toArray, List.getElem_cons_zero, List.getElem_cons_succ]
      refine wpAnyH_take (i := 3) (oi := _) (v := ?_) rfl (by kernel_rfl) (by kernel_rfl) (by kernel_rfl) (fun _ _ _ h => h) (Or.inl ⟨by kernel_rfl, ?_⟩) (by assumption) ?_
      rotate_left
      · rintro w ⟨s1, s2, s3⟩
        go_simp
        try with_reducible rfl
      try simp only [Act.put, List.setIfInBounds_toArray, List.set_cons_zero, List.set_cons_succ, List.getElem_toArray, List.getElem_cons_zero, List.getElem_cons_succ]
      refine wpAnyH_take (i := 4) (oi := _) (v := ?_) rfl (by kernel_rfl) (by kernel_rfl) (by kernel_rfl) (fun _ _ _ h => h) (Or.inl ⟨by kernel_rfl, ?_⟩) (by assumption) ?_
      rotate_left
      · rintro w ⟨s1, s2, s3⟩
        go_simp
        try with_reducible rfl
      try simp only [Act.put, List.setIfInBounds_toArray, List.set_cons_zero, List.set_cons_succ, List.getElem_toArray, List.getElem_cons_zero, List.getElem_cons_succ]
      refine wpAnyH_take (i := 5) (oi := _) (v := ?_) rfl (by kernel_rfl) (by kernel_rfl) (by kernel_rfl) (fun _ _ _ h => h) (Or.inl ⟨by kernel_rfl, ?_⟩) (by assumption) ?_
      rotate_left
      · rintro w ⟨s1, s2, s3⟩
        go_simp
        try with_reducible rfl
      try simp only [Act.put, List.setIfInBounds_toArray, List.set_cons_zero, List.set_cons_succ, List.getElem_toArray, List.getElem_cons_zero, List.getElem_cons_succ]
      refine wpAnyH_take (i := 6) (oi := _) (v := ?_) rfl (by kernel_rfl) (by kernel_rfl) (by kernel_rfl) (fun _ _ _ h => h) (Or.inl ⟨by kernel_rfl, ?_⟩) (by assumption) ?_
      rotate_left
      · rintro w ⟨s1, s2, s3⟩
        go_simp
        try with_reducible rfl
      try simp only [Act.put, List.setIfInBounds_toArray, List.set_cons_zero, List.set_cons_succ, List.getElem_toArray, List.getElem_cons_zero, List.getElem_cons_succ]
      refine wpAnyH_take (i := 7) (oi := _) (v := ?_) rfl (by kernel_rfl) (by kernel_rfl) (by kernel_rfl) (fun _ _ _ h => h) (Or.inl ⟨by kernel_rfl, ?_⟩) (by assumption) ?_
      rotate_left
      · rintro w ⟨s1, s2, s3⟩
        go_simp
        try with_reducible rfl
      try simp only [Act.put, List.setIfInBounds_toArray, List.set_cons_zero, List.set_cons_succ, List.getElem_toArray, List.getElem_cons_zero, List.getElem_cons_succ]
      refine wpAnyH_take (i := 8) (oi := _) (v := ?_) rfl (by kernel_rfl) (by kernel_rfl) (by kernel_rfl) (fun _ _ _ h => h) (Or.inl ⟨by kernel_rfl, ?_⟩) (by assumption) ?_
      rotate_left
      · rintro w ⟨s1, s2, s3⟩
        go_simp
        try with_reducible rfl
      try simp only [Act.put, List.setIfInBounds_toArray, List.set_cons_zero, List.set_cons_succ, List.getElem_toArray, List.getElem_cons_zero, List.getElem_cons_succ]
      refine wpAnyH_take (i := 9) (oi := _) (v := ?_) rfl (by kernel_rfl) (by kernel_rfl) (by kernel_rfl) (fun _ _ _ h => h) (Or.inl ⟨by kernel_rfl, ?_⟩) (by assumption) ?_
      rotate_left
      · rintro w ⟨s1, s2, s3⟩
        go_simp
        try with_reducible rfl
      try simp only [Act.put, List.setIfInBounds_toArray, List.set_cons_zero, List.set_cons_succ, List.getElem_toArray, List.getElem_cons_zero, List.getElem_cons_succ]
      refine wpAnyH_take (i := 10) (oi := _) (v := ?_) rfl (by kernel_rfl) (by kernel_rfl) (by kernel_rfl) (fun _ _ _ h => h) (Or.inl ⟨by kernel_rfl, ?_⟩) (by assumption) ?_
      rotate_left
      · rintro w ⟨s1, s2, s3⟩
        go_simp
        try with_reducible rfl
      try simp only [Act.put, List.setIfInBounds_toArray, List.set_cons_zero, List.set_cons_succ, List.getElem_toArray, List.getElem_cons_zero, List.getElem_cons_succ]
      refine wpAnyH_take (i := 11) (oi := _) (v := ?_) rfl (by kernel_rfl) (by kernel_rfl) (by kernel_rfl) (fun _ _ _ h => h) (Or.inl ⟨by kernel_rfl, ?_⟩) (by assumption) ?_
      rotate_left
      · rintro w ⟨s1, s2, s3⟩
        go_simp
        try with_reducible rfl
      try simp only [Act.put, List.setIfInBounds_toArray, List.set_cons_zero, List.set_cons_succ, List.getElem_toArray, List.getElem_cons_zero, List.getElem_cons_succ]
      refine wpAnyH_take (i := 12) (oi := _) (v := ?_) rfl (by kernel_rfl) (by kernel_rfl) (by kernel_rfl) (fun _ _ _ h => h) (Or.inl ⟨by kernel_rfl, ?_⟩) (by assumption) ?_
      rotate_left
      · rintro w ⟨s1, s2, s3⟩
        go_simp
        try simp only [IntWalk.i64_left]
        try with_reducible rfl
      try simp only [Act.put, List.setIfInBounds_toArray, List.set_cons_zero, List.set_cons_succ, List.getElem_toArray, List.getElem_cons_zero, List.getElem_cons_succ]
      refine wpAnyH_ready (rs := [13]) (by kernel_rfl) (by simp) ?_
      refine AllReadyH.cons (o := _) rfl (fun K hKK => ?_) AllReadyH.nil
      go_simp
      have hNb := hHeld.2.2.alloc (by have := hHeld.2.2.size; omega) (.cells #[.int .i64 (wrap64 (q.2 - p.2))] 3)
      have hrow := World.ownsRow.alloc hrow (.cells #[.int .i64 (wrap64 (q.2 - p.2))] 3)
      have hc8 : (wd.alloc (.cells #[.int .i64 (wrap64 (q.2 - p.2))] 3)).cell? ⟨wd.heap.size, 0, none⟩ = some (.int .i64 (wrap64 (q.2 - p.2))) := by simp
      clear hHeld
      refine hKK.out _ _ ?_ (fun hHeld => ?_)
      · exact HX.out _ hNb
      clear hKK K
      try simp only [Act.put, List.setIfInBounds_toArray, List.set_cons_zero, List.set_cons_succ, List.getElem_toArray, List.getElem_cons_zero, List.getElem_cons_succ]
      clear hNb
      refine wpAnyH_ready (rs := [14]) (by kernel_rfl) (by simp) ?_
      refine AllReadyH.cons (o := _) rfl (fun K hKK => ?_) AllReadyH.nil
      refine step_append_src rfl (.tmp 20) (.tmp 33) 22 rfl w2.heap.size 3 i0 (.int .i64 0) 1 8 Tryz.underlying22 hi hz0 hz1 hz2 rfl (by decide) _ _ _ rfl hrow _ _ _ [.int .i64 (wrap64 (q.2 - p.2))] rfl rfl (fun q => by cases q) (fun ad had i u hu => by cases had; match i, hu with | 0, hu => (simp at hu; subst hu; simp [Addr.add])) (by intro u hu; rw [List.mem_singleton] at hu; subst hu; rfl) (by unfold maxLen; omega) (by omega) (by have := hHeld.2.2.size; omega) ?_
      intro v9 w9 hown9 hgrow hat
      have hNb0 : Below w2.heap.size wr w9 := hHeld.2.2.grown hgrow (by have := hHeld.2.2.size; omega) (fun r hr => (World.ownsRow.lt hrow r hr).1)
      clear hrow hat hgrow hc8
      have hrow := hown9
      clear hown9
      refine hKK.out _ _ ?_ (fun hHeld => ?_)
      · exact HX.out _ hNb0
      clear hKK K
      try simp only [Act.put, List.setIfInBounds_toArray, List.set_cons_zero, List.set_cons_succ, List.getElem_toArray, List.getElem_cons_zero, List.getElem_cons_succ]
      clear hNb0
      refine wpAnyH_ready (rs := [15]) (by kernel_rfl) (by simp) ?_
      refine AllReadyH.cons (o := _) rfl (fun K hKK => ?_) AllReadyH.nil
      go_simp
      refine hKK.out _ _ ?_ (fun hHeld => ?_)
      · exact hHeld
      clear hKK K
      try simp only [Act.put, List.setIfInBounds_toArray, List.set_cons_zero, List.set_cons_succ, List.getElem_toArray, List.getElem_cons_zero, List.getElem_cons_succ]
      refine wpAnyH_done (by kernel_rfl) ?_ _
      have hb9 := HB.out.trans hHeld.2.2
      have HO9 : Hid (OwnV w9 w2.heap.size 3 v9 (P ++ [legV (wrap64 (q.1 - p.1), wrap64 (q.2 - p.2))])) := Lib.hid (OwnV.next hrow)
      clear hrow hHeld
      go_wp2
      go_roundw
      case rel => exact ⟨j + 1, q, _, by omega, by simp [hP], by go_num, HQM.out, HST, HO9.out, hb9⟩
      case measure => simp [intOf]; omega
    · have hjn : j = m + 1 := by omega
      have hx := HK.out
      rw [hjn, List.drop_of_length_le (by rw [List.length_append, HLm.out]; simp), gapF, List.map_nil, List.append_nil] at hx
      subst hx
      have hji : ¬ ((j : Int) + 1 < (m : Int) + 2) := by omega
      have hbw := HB2.out.trans (hb.mono hw2)
      have HOW : Hid (OwnV wr w.heap.size 3 _ P) := Lib.hid (own_lowV hown hw2)
      clear HK hown hb hp
      go_wp2
      go_ret
      exact ⟨_, rfl, HOW.out, hbw⟩
set_option maxHeartbeats 8000000 in
theorem r7Splits_any (G : List Int) (n cap : Nat) (A : Option Addr) (z b : Int) (L : List (Int × Int)) (m cE : Nat) (E : Option Addr) (f : Int) (w : World)
    (hG : IntsZ w A n G) (hn : n ≤ 100) (hE : Pairs w E m L) (hm : m ≤ 100) (hcE : E = none → m = 0 ∧ cE = 0) (hok : ∀ g ∈ gapF (0, 0) (L ++ [(sumW G 0, f)]), okG g) :
    Calls Tryz.prog 19 #[.agg #[.slice A n cap, .int .i64 z, .int .i64 b], .slice E m cE, .int .i64 f] w
      (fun e w' => ∃ v, e = .returned v ∧ OwnV w' w.heap.size 70 v ((gapF (0, 0) (L ++ [(sumW G 0, f)])).map spdV) ∧ Below w.heap.size w w') := by
  obtain ⟨i0, hi, hz0, hz1, hz2⟩ := info_parts infoRat
  have hb0 : Below w.heap.size w (w.alloc (.cells #[.slice A n cap, .int .i64 z, .int .i64 b] 26)) := balloc _ (Below.refl _ _)
  have hMo := r7Moments_any G n cap A z b L m cE E f _ (hG.below hb0) hn (hE.below hb0) hm hcE
  have HB0 := Lib.hid hb0
  have HLm := Lib.hid hE.1
  obtain ⟨d, hd⟩ : ∃ d, sumW G 0 = d := ⟨_, rfl⟩
  rw [hd] at hMo hok ⊢
  obtain ⟨F, hF⟩ : ∃ F, (gapF (0, 0) (L ++ [(d, f)])).map spdV = F := ⟨_, rfl⟩
  rw [hF]
  have HF : Hid ([] ++ (gapF (0, 0) ((L ++ [(d, f)]).drop 0)).map spdV = F) := Lib.hid hF
  have HOK : Hid (∀ g ∈ gapF (0, 0) ((L ++ [(d, f)]).drop 0), okG g) := Lib.hid hok
  have hml : ((0, 0) :: (L ++ [(d, f)])).length = m + 2 := by simp [HLm.out]
  obtain ⟨M, hM⟩ : ∃ M, ((0, 0) :: (L ++ [(d, f)]) : List (Int × Int)) = M := ⟨_, rfl⟩
  have HM1 : Hid (∀ j, M[j + 1]? = (L ++ [(d, f)])[j]?) := Lib.hid fun j => by rw [← hM]; rfl
  have HM0 : M[0]? = some (0, 0) := by rw [← hM]; rfl
  rw [hM] at hMo hml
  have hmi : (m : Int) ≤ 100 := by omega
  clear hG hE hd hF hb0 hM hok
  go_enter Tryz.func19, Tryz.ntmps19
  go_wp2_with fail
  refine hMo.mono ?_
  rintro e w2 ⟨v2, rfl, ho, hb2⟩
  obtain ⟨AM, cM, rfl, hP, _⟩ := Pairs.of_ownE ho
  obtain ⟨bm, om, rfl, hbm, hcM⟩ := hP.2 (by omega)
  rw [hml] at *
  have HCM := Lib.hid hcM
  have HB2 := Lib.hid (bstep HB0.out hb2)
  have hw2 : w.heap.size ≤ w2.heap.size := HB2.out.size
  have HML := Lib.hid hml
  clear hMo ho hb2 hP hcM hml
  go_wp2
  go_loopw [8, 9] (fun v i wr => ∃ (j : Nat) (p : Int × Int) (P : List Value), j ≤ m + 1 ∧ P.length = j ∧ i = .int .i64 ((j : Int) + 1) ∧ M[j]? = some p ∧ Hid (P ++ (gapF p ((L ++ [(d, f)]).drop j)).map spdV = F) ∧ Hid (∀ g ∈ gapF p ((L ++ [(d, f)]).drop j), okG g) ∧ OwnV wr w2.heap.size 70 v P ∧ Below w2.heap.size w2 wr) (fun _ i _ => m + 2 - (intOf i).toNat)
  case atStart => exact ⟨0, (0, 0), [], by omega, rfl, rfl, HM0, HF, HOK, World.ownsRow_nil _ _ _ _, Below.refl _ _⟩
  case round =>
    obtain ⟨j, p, P, hj, hP, rfl, hp, HK, HO, hown, hb⟩ := hrel
    have hwr := hb.size
    by_cases hlt : j < m + 1
    · have hk : j < (L ++ [(d, f)]).length := by rw [List.length_append, HLm.out]; simpa using hlt
      obtain ⟨q, hq⟩ : ∃ q, (L ++ [(d, f)])[j]? = some q := ⟨_, List.getElem?_eq_getElem hk⟩
      have hqM : M[j + 1]? = some q := (HM1.out j).trans hq
      have a0 := (hb.cell (p := ⟨bm, om + j * 2, none⟩) hbm).trans (HCM.out j p hp).1
      have a1 := (hb.cell (p := ⟨bm, om + j * 2 + 1, none⟩) hbm).trans (HCM.out j p hp).2
      have b0 := (hb.cell (p := ⟨bm, om + (j + 1) * 2, none⟩) hbm).trans (HCM.out (j + 1) q hqM).1
      have b1 := (hb.cell (p := ⟨bm, om + (j + 1) * 2 + 1, none⟩) hbm).trans (HCM.out (j + 1) q hqM).2
      have hi1 : (j : Int) + 1 < (m : Int) + 2 := by omega
      have hi0 : (0 : Int) ≤ (j : Int) + 1 := by omega
      have hit : ((j : Int) + 1).toNat = j + 1 := by omega
      have hj0 : (0 : Int) ≤ (j : Int) := by omega
      have hjt : ((j : Int)).toNat = j := by omega
      have hjm : (j : Int) < (m : Int) + 2 := by omega
      have hwj : IntKind.i64.wrap (j : Int) = (j : Int) := IntWalk.i64_in _ (by omega)
      have hwj1 : IntKind.i64.wrap ((j : Int) + 1) = (j : Int) + 1 := IntWalk.i64_in _ (by omega)
      have hgap : okG (wrap64 (q.1 - p.1), wrap64 (q.2 - p.2)) := HO.out _ (by rw [gapF_drop p hq]; exact List.mem_cons_self)
      have HO2 : Hid (∀ y ∈ gapF q ((L ++ [(d, f)]).drop (j + 1)), okG y) := Lib.hid fun y hy => HO.out y (by rw [gapF_drop p hq]; exact List.mem_cons_of_mem _ hy)
      have hC := fun w => rfOfG (wrap64 (q.1 - p.1), wrap64 (q.2 - p.2)) w hgap
      clear HO hgap
      have hst : P ++ (spdV (wrap64 (q.1 - p.1), wrap64 (q.2 - p.2)) :: (gapF q ((L ++ [(d, f)]).drop (j + 1))).map spdV) = F := by have := HK.out; rw [gapF_drop p hq, List.map_cons] at this; exact this
      have HST : Hid ((P ++ [spdV (wrap64 (q.1 - p.1), wrap64 (q.2 - p.2))]) ++ (gapF q ((L ++ [(d, f)]).drop (j + 1))).map spdV = F) := Lib.hid (by rw [← hst]; simp)
      have HQM := Lib.hid hqM
      have HX := Lib.hid (fun w' (hh : Below w2.heap.size wr w') => (show w'.cell? ⟨bm, om + j * 2 + 1, none⟩ = some (.int .i64 p.2) ∧ w'.cell? ⟨bm, om + (j + 1) * 2 + 1, none⟩ = some (.int .i64 q.2) ∧ w'.cell? ⟨bm, om + j * 2, none⟩ = some (.int .i64 p.1) ∧ w'.cell? ⟨bm, om + (j + 1) * 2, none⟩ = some (.int .i64 q.1) ∧ Below w2.heap.size wr w' from ⟨(hh.cell (p := ⟨bm, om + j * 2 + 1, none⟩) hbm).trans a1, (hh.cell (p := ⟨bm, om + (j + 1) * 2 + 1, none⟩) hbm).trans b1, (hh.cell (p := ⟨bm, om + j * 2, none⟩) hbm).trans a0, (hh.cell (p := ⟨bm, om + (j + 1) * 2, none⟩) hbm).trans b0, hh⟩))
      have hrow := World.ownsRow.drew hown
      have HB := Lib.hid hb
      clear hst HK hq hqM hp hown hb a0 a1 b0 b1
      go_wp2_with fail
      refine wp_region_held_drew (S := (fun w' => w'.cell? ⟨bm, om + j * 2 + 1, none⟩ = some (.int .i64 p.2) ∧ w'.cell? ⟨bm, om + (j + 1) * 2 + 1, none⟩ = some (.int .i64 q.2) ∧ w'.cell? ⟨bm, om + j * 2, none⟩ = some (.int .i64 p.1) ∧ w'.cell? ⟨bm, om + (j + 1) * 2, none⟩ = some (.int .i64 q.1) ∧ Below w2.heap.size wr w')) (by kernel_rfl) ?_ (fun hHeld => ?_)
      · exact HX.out _ (Below.drew (Below.refl _ _))
      obtain ⟨wd, hwd⟩ : ∃ wd, World.drew wr = wd := ⟨_, rfl⟩
      rw [hwd] at hHeld hrow ⊢
      clear hwd
      refine wpAnyH_take (i := 0) (oi := _) (v := ?_) rfl (by kernel_rfl) (by kernel_rfl) (by kernel_rfl) (fun _ _ _ h => h) (Or.inl ⟨by kernel_rfl, ?_⟩) (by assumption) ?_
      rotate_left
      · rintro w ⟨s1, s2, s3, s4, s5⟩
        go_simp
        try with_reducible rfl
      try simp only [Act.put, List.setIfInBounds_toArray, List.set_cons_zero, List.set_cons_succ, List.getElem_toArray, List.getElem_cons_zero, List.getElem_cons_succ]
      refine wpAnyH_take (i := 1) (oi := _) (v := ?_) rfl (by kernel_rfl) (by kernel_rfl) (by kernel_rfl) (fun _ _ _ h => h) (Or.inl ⟨by kernel_rfl, ?_⟩) (by assumption) ?_
      rotate_left
      · rintro w ⟨s1, s2, s3, s4, s5⟩
        go_simp
        try with_reducible rfl
      try simp only [Act.put, List.setIfInBounds_toArray, List.set_cons_zero, List.set_cons_succ, List.getElem_toArray, List.getElem_cons_zero, List.getElem_cons_succ]
      refine wpAnyH_take (i := 2) (oi := _) (v := ?_) rfl (by kernel_rfl) (by kernel_rfl) (by kernel_rfl) (fun _ _ _ h => h) (Or.inl ⟨by kernel_rfl, ?_⟩) (by assumption) ?_
      rotate_left
      · rintro w ⟨s1, s2, s3, s4, s5⟩
        go_simp
        try with_reducible rfl
      try simp only [Act.put, List.setIfInBounds_toArray, List.set_cons_zero, List.set_cons_succ, List.getElem_toArray, List.getElem_cons_zero, List.getElem_cons_succ]
      refine wpAnyH_take (i := 3) (oi := _) (v := ?_) rfl (by kernel_rfl) (by kernel_rfl) (by kernel_rfl) (fun _ _ _ h => h) (Or.inl ⟨by kernel_rfl, ?_⟩) (by assumption) ?_
      rotate_left
      · rintro w ⟨s1, s2, s3, s4, s5⟩
        go_simp
        try with_reducible rfl
      try simp only [Act.put, List.setIfInBounds_toArray, List.set_cons_zero, List.set_cons_succ, List.getElem_toArray, List.getElem_cons_zero, List.getElem_cons_succ]
      refine wpAnyH_take (i := 4) (oi := _) (v := ?_) rfl (by kernel_rfl) (by kernel_rfl) (by kernel_rfl) (fun _ _ _ h => h) (Or.inl ⟨by kernel_rfl, ?_⟩) (by assumption) ?_
      rotate_left
      · rintro w ⟨s1, s2, s3, s4, s5⟩
        go_simp
        try with_reducible rfl
      try simp only [Act.put, List.setIfInBounds_toArray, List.set_cons_zero, List.set_cons_succ, List.getElem_toArray, List.getElem_cons_zero, List.getElem_cons_succ]
      refine wpAnyH_take (i := 5) (oi := _) (v := ?_) rfl (by kernel_rfl) (by kernel_rfl) (by kernel_rfl) (fun _ _ _ h => h) (Or.inl ⟨by kernel_rfl, ?_⟩) (by assumption) ?_
      rotate_left
      · rintro w ⟨s1, s2, s3, s4, s5⟩
        go_simp
        try with_reducible rfl
      try simp only [Act.put, List.setIfInBounds_toArray, List.set_cons_zero, List.set_cons_succ, List.getElem_toArray, List.getElem_cons_zero, List.getElem_cons_succ]
      refine wpAnyH_take (i := 6) (oi := _) (v := ?_) rfl (by kernel_rfl) (by kernel_rfl) (by kernel_rfl) (fun _ _ _ h => h) (Or.inl ⟨by kernel_rfl, ?_⟩) (by assumption) ?_
      rotate_left
      · rintro w ⟨s1, s2, s3, s4, s5⟩
        go_simp
        try with_reducible rfl
      try simp only [Act.put, List.setIfInBounds_toArray, List.set_cons_zero, List.set_cons_succ, List.getElem_toArray, List.getElem_cons_zero, List.getElem_cons_succ]
      refine wpAnyH_take (i := 7) (oi := _) (v := ?_) rfl (by kernel_rfl) (by kernel_rfl) (by kernel_rfl) (fun _ _ _ h => h) (Or.inl ⟨by kernel_rfl, ?_⟩) (by assumption) ?_
      rotate_left
      · rintro w ⟨s1, s2, s3, s4, s5⟩
        go_simp
        try with_reducible rfl
      try simp only [Act.put, List.setIfInBounds_toArray, List.set_cons_zero, List.set_cons_succ, List.getElem_toArray, List.getElem_cons_zero, List.getElem_cons_succ]
      refine wpAnyH_take (i := 8) (oi := _) (v := ?_) rfl (by kernel_rfl) (by kernel_rfl) (by kernel_rfl) (fun _ _ _ h => h) (Or.inl ⟨by kernel_rfl, ?_⟩) (by assumption) ?_
      rotate_left
      · rintro w ⟨s1, s2, s3, s4, s5⟩
        go_simp
        try with_reducible rfl
      try simp only [Act.put, List.setIfInBounds_toArray, List.set_cons_zero, List.set_cons_succ, List.getElem_toArray, List.getElem_cons_zero, List.getElem_cons_succ]
      refine wpAnyH_take (i := 9) (oi := _) (v := ?_) rfl (by kernel_rfl) (by kernel_rfl) (by kernel_rfl) (fun _ _ _ h => h) (Or.inl ⟨by kernel_rfl, ?_⟩) (by assumption) ?_
      rotate_left
      · rintro w ⟨s1, s2, s3, s4, s5⟩
        go_simp
        try with_reducible rfl
      try simp only [Act.put, List.setIfInBounds_toArray, List.set_cons_zero, List.set_cons_succ, List.getElem_toArray, List.getElem_cons_zero, List.getElem_cons_succ]
      refine wpAnyH_take (i := 10) (oi := _) (v := ?_) rfl (by kernel_rfl) (by kernel_rfl) (by kernel_rfl) (fun _ _ _ h => h) (Or.inl ⟨by kernel_rfl, ?_⟩) (by assumption) ?_
      rotate_left
      · rintro w ⟨s1, s2, s3, s4, s5⟩
        go_simp
        try with_reducible rfl
      try simp only [Act.put, List.setIfInBounds_toArray, List.set_cons_zero, List.set_cons_succ, List.getElem_toArray, List.getElem_cons_zero, List.getElem_cons_succ]
      refine wpAnyH_take (i := 11) (oi := _) (v := ?_) rfl (by kernel_rfl) (by kernel_rfl) (by kernel_rfl) (fun _ _ _ h => h) (Or.inl ⟨by kernel_rfl, ?_⟩) (by assumption) ?_
      rotate_left
      · rintro w ⟨s1, s2, s3, s4, s5⟩
        go_simp
        try with_reducible rfl
      try simp only [Act.put, List.setIfInBounds_toArray, List.set_cons_zero, List.set_cons_succ, List.getElem_toArray, List.getElem_cons_zero, List.getElem_cons_succ]
      refine wpAnyH_take (i := 12) (oi := _) (v := ?_) rfl (by kernel_rfl) (by kernel_rfl) (by kernel_rfl) (fun _ _ _ h => h) (Or.inl ⟨by kernel_rfl, ?_⟩) (by assumption) ?_
      rotate_left
      · rintro w ⟨s1, s2, s3, s4, s5⟩
        go_simp
        try simp only [IntWalk.i64_left]
        try with_reducible rfl
      try simp only [Act.put, List.setIfInBounds_toArray, List.set_cons_zero, List.set_cons_succ, List.getElem_toArray, List.getElem_cons_zero, List.getElem_cons_succ]
      refine wpAnyH_take (i := 13) (oi := _) (v := ?_) rfl (by kernel_rfl) (by kernel_rfl) (by kernel_rfl) (fun _ _ _ h => h) (Or.inl ⟨by kernel_rfl, ?_⟩) (by assumption) ?_
      rotate_left
      · rintro w ⟨s1, s2, s3, s4, s5⟩
        go_simp
        try with_reducible rfl
      try simp only [Act.put, List.setIfInBounds_toArray, List.set_cons_zero, List.set_cons_succ, List.getElem_toArray, List.getElem_cons_zero, List.getElem_cons_succ]
      refine wpAnyH_take (i := 14) (oi := _) (v := ?_) rfl (by kernel_rfl) (by kernel_rfl) (by kernel_rfl) (fun _ _ _ h => h) (Or.inl ⟨by kernel_rfl, ?_⟩) (by assumption) ?_
      rotate_left
      · rintro w ⟨s1, s2, s3, s4, s5⟩
        go_simp
        try with_reducible rfl
      try simp only [Act.put, List.setIfInBounds_toArray, List.set_cons_zero, List.set_cons_succ, List.getElem_toArray, List.getElem_cons_zero, List.getElem_cons_succ]
      refine wpAnyH_take (i := 15) (oi := _) (v := ?_) rfl (by kernel_rfl) (by kernel_rfl) (by kernel_rfl) (fun _ _ _ h => h) (Or.inl ⟨by kernel_rfl, ?_⟩) (by assumption) ?_
      rotate_left
      · rintro w ⟨s1, s2, s3, s4, s5⟩
        go_simp
        try with_reducible rfl
      try simp only [Act.put, List.setIfInBounds_toArray, List.set_cons_zero, List.set_cons_succ, List.getElem_toArray, List.getElem_cons_zero, List.getElem_cons_succ]
      refine wpAnyH_take (i := 16) (oi := _) (v := ?_) rfl (by kernel_rfl) (by kernel_rfl) (by kernel_rfl) (fun _ _ _ h => h) (Or.inl ⟨by kernel_rfl, ?_⟩) (by assumption) ?_
      rotate_left
      · rintro w ⟨s1, s2, s3, s4, s5⟩
        go_simp
        try with_reducible rfl
      try simp only [Act.put, List.setIfInBounds_toArray, List.set_cons_zero, List.set_cons_succ, List.getElem_toArray, List.getElem_cons_zero, List.getElem_cons_succ]
      refine wpAnyH_take (i := 17) (oi := _) (v := ?_) rfl (by kernel_rfl) (by kernel_rfl) (by kernel_rfl) (fun _ _ _ h => h) (Or.inl ⟨by kernel_rfl, ?_⟩) (by assumption) ?_
      rotate_left
      · rintro w ⟨s1, s2, s3, s4, s5⟩
        go_simp
        try with_reducible rfl
      try simp only [Act.put, List.setIfInBounds_toArray, List.set_cons_zero, List.set_cons_succ, List.getElem_toArray, List.getElem_cons_zero, List.getElem_cons_succ]
      refine wpAnyH_take (i := 18) (oi := _) (v := ?_) rfl (by kernel_rfl) (by kernel_rfl) (by kernel_rfl) (fun _ _ _ h => h) (Or.inl ⟨by kernel_rfl, ?_⟩) (by assumption) ?_
      rotate_left
      · rintro w ⟨s1, s2, s3, s4, s5⟩
        go_simp
        try with_reducible rfl
      try simp only [Act.put, List.setIfInBounds_toArray, List.set_cons_zero, List.set_cons_succ, List.getElem_toArray, List.getElem_cons_zero, List.getElem_cons_succ]
      refine wpAnyH_take (i := 19) (oi := _) (v := ?_) rfl (by kernel_rfl) (by kernel_rfl) (by kernel_rfl) (fun _ _ _ h => h) (Or.inl ⟨by kernel_rfl, ?_⟩) (by assumption) ?_
      rotate_left
      · rintro w ⟨s1, s2, s3, s4, s5⟩
        go_simp
        try with_reducible rfl
      try simp only [Act.put, List.setIfInBounds_toArray, List.set_cons_zero, List.set_cons_succ, List.getElem_toArray, List.getElem_cons_zero, List.getElem_cons_succ]
      refine wpAnyH_take (i := 20) (oi := _) (v := ?_) rfl (by kernel_rfl) (by kernel_rfl) (by kernel_rfl) (fun _ _ _ h => h) (Or.inl ⟨by kernel_rfl, ?_⟩) (by assumption) ?_
      rotate_left
      · rintro w ⟨s1, s2, s3, s4, s5⟩
        go_simp
        try with_reducible rfl
      try simp only [Act.put, List.setIfInBounds_toArray, List.set_cons_zero, List.set_cons_succ, List.getElem_toArray, List.getElem_cons_zero, List.getElem_cons_succ]
      refine wpAnyH_take (i := 21) (oi := _) (v := ?_) rfl (by kernel_rfl) (by kernel_rfl) (by kernel_rfl) (fun _ _ _ h => h) (Or.inl ⟨by kernel_rfl, ?_⟩) (by assumption) ?_
      rotate_left
      · rintro w ⟨s1, s2, s3, s4, s5⟩
        go_simp
        try with_reducible rfl
      try simp only [Act.put, List.setIfInBounds_toArray, List.set_cons_zero, List.set_cons_succ, List.getElem_toArray, List.getElem_cons_zero, List.getElem_cons_succ]
      refine wpAnyH_take (i := 22) (oi := _) (v := ?_) rfl (by kernel_rfl) (by kernel_rfl) (by kernel_rfl) (fun _ _ _ h => h) (Or.inl ⟨by kernel_rfl, ?_⟩) (by assumption) ?_
      rotate_left
      · rintro w ⟨s1, s2, s3, s4, s5⟩
        go_simp
        try with_reducible rfl
      try simp only [Act.put, List.setIfInBounds_toArray, List.set_cons_zero, List.set_cons_succ, List.getElem_toArray, List.getElem_cons_zero, List.getElem_cons_succ]
      refine wpAnyH_take (i := 23) (oi := _) (v := ?_) rfl (by kernel_rfl) (by kernel_rfl) (by kernel_rfl) (fun _ _ _ h => h) (Or.inl ⟨by kernel_rfl, ?_⟩) (by assumption) ?_
      rotate_left
      · rintro w ⟨s1, s2, s3, s4, s5⟩
        go_simp
        try with_reducible rfl
      try simp only [Act.put, List.setIfInBounds_toArray, List.set_cons_zero, List.set_cons_succ, List.getElem_toArray, List.getElem_cons_zero, List.getElem_cons_succ]
      refine wpAnyH_take (i := 24) (oi := _) (v := ?_) rfl (by kernel_rfl) (by kernel_rfl) (by kernel_rfl) (fun _ _ _ h => h) (Or.inl ⟨by kernel_rfl, ?_⟩) (by assumption) ?_
      rotate_left
      · rintro w ⟨s1, s2, s3, s4, s5⟩
        go_simp
        try simp only [IntWalk.i64_left]
        try with_reducible rfl
      try simp only [Act.put, List.setIfInBounds_toArray, List.set_cons_zero, List.set_cons_succ, List.getElem_toArray, List.getElem_cons_zero, List.getElem_cons_succ]
      refine wpAnyH_ready (rs := [25]) (by kernel_rfl) (by simp) ?_
      refine AllReadyH.cons (o := _) rfl (fun K hKK => ?_) AllReadyH.nil
      go_simp
      go_at_call 65
      refine (hC _).mono ?_
      rintro e w10 ⟨rfl, hb10⟩
      have hNb := hHeld.2.2.2.2.trans (hb10.mono (by have := hHeld.2.2.2.2.size; omega))
      have hrow := own_belowN hrow hb10
      clear hHeld hb10
      go_wp2_with fail
      refine hKK.out _ _ ?_ (fun hHeld => ?_)
      · exact HX.out _ hNb
      clear hKK K
      try simp only [Act.put, List.setIfInBounds_toArray, List.set_cons_zero, List.set_cons_succ, List.getElem_toArray, List.getElem_cons_zero, List.getElem_cons_succ]
      clear hNb
      refine wpAnyH_ready (rs := [26]) (by kernel_rfl) (by simp) ?_
      refine AllReadyH.cons (o := _) rfl (fun K hKK => ?_) AllReadyH.nil
      go_simp
      have hNb := hHeld.2.2.2.2.alloc (by have := hHeld.2.2.2.2.size; omega) (.cells #[.string (ratG (wrap64 (q.1 - p.1), wrap64 (q.2 - p.2)))] 70)
      have hrow := World.ownsRow.alloc hrow (.cells #[.string (ratG (wrap64 (q.1 - p.1), wrap64 (q.2 - p.2)))] 70)
      have hc8 : (w10.alloc (.cells #[.string (ratG (wrap64 (q.1 - p.1), wrap64 (q.2 - p.2)))] 70)).cell? ⟨w10.heap.size, 0, none⟩ = some (.string (ratG (wrap64 (q.1 - p.1), wrap64 (q.2 - p.2)))) := by simp
      clear hHeld
      refine hKK.out _ _ ?_ (fun hHeld => ?_)
      · exact HX.out _ hNb
      clear hKK K
      try simp only [Act.put, List.setIfInBounds_toArray, List.set_cons_zero, List.set_cons_succ, List.getElem_toArray, List.getElem_cons_zero, List.getElem_cons_succ]
      clear hNb
      refine wpAnyH_ready (rs := [27]) (by kernel_rfl) (by simp) ?_
      refine AllReadyH.cons (o := _) rfl (fun K hKK => ?_) AllReadyH.nil
      refine step_append_src rfl (.tmp 20) (.tmp 46) 40 rfl w2.heap.size 70 i0 (.string ⟨#[]⟩) 1 16 Tryz.underlying40 hi hz0 hz1 hz2 rfl (by decide) _ _ _ rfl hrow _ _ _ [.string (ratG (wrap64 (q.1 - p.1), wrap64 (q.2 - p.2)))] rfl rfl (fun q => by cases q) (fun ad had i u hu => by cases had; match i, hu with | 0, hu => (simp at hu; subst hu; simp [Addr.add])) (by intro u hu; rw [List.mem_singleton] at hu; subst hu; rfl) (by unfold maxLen; omega) (by omega) (by have := hHeld.2.2.2.2.size; omega) ?_
      intro v9 w9 hown9 hgrow hat
      have hNb0 : Below w2.heap.size wr w9 := hHeld.2.2.2.2.grown hgrow (by have := hHeld.2.2.2.2.size; omega) (fun r hr => (World.ownsRow.lt hrow r hr).1)
      clear hrow hat hgrow hc8
      have hrow := hown9
      clear hown9
      refine hKK.out _ _ ?_ (fun hHeld => ?_)
      · exact HX.out _ hNb0
      clear hKK K
      try simp only [Act.put, List.setIfInBounds_toArray, List.set_cons_zero, List.set_cons_succ, List.getElem_toArray, List.getElem_cons_zero, List.getElem_cons_succ]
      clear hNb0
      refine wpAnyH_ready (rs := [28]) (by kernel_rfl) (by simp) ?_
      refine AllReadyH.cons (o := _) rfl (fun K hKK => ?_) AllReadyH.nil
      go_simp
      refine hKK.out _ _ ?_ (fun hHeld => ?_)
      · exact hHeld
      clear hKK K
      try simp only [Act.put, List.setIfInBounds_toArray, List.set_cons_zero, List.set_cons_succ, List.getElem_toArray, List.getElem_cons_zero, List.getElem_cons_succ]
      refine wpAnyH_done (by kernel_rfl) ?_ _
      have hb9 := HB.out.trans hHeld.2.2.2.2
      have HO9 : Hid (OwnV w9 w2.heap.size 70 v9 (P ++ [spdV (wrap64 (q.1 - p.1), wrap64 (q.2 - p.2))])) := Lib.hid (OwnV.next hrow)
      clear hrow hHeld
      go_wp2
      go_roundw
      case rel => exact ⟨j + 1, q, _, by omega, by simp [hP], by go_num, HQM.out, HST, HO2, HO9.out, hb9⟩
      case measure => simp [intOf]; omega
    · have hjn : j = m + 1 := by omega
      have hx := HK.out
      rw [hjn, List.drop_of_length_le (by rw [List.length_append, HLm.out]; simp), gapF, List.map_nil, List.append_nil] at hx
      subst hx
      have hji : ¬ ((j : Int) + 1 < (m : Int) + 2) := by omega
      have hbw := HB2.out.trans (hb.mono hw2)
      have HOW : Hid (OwnV wr w.heap.size 70 _ P) := Lib.hid (own_lowV hown hw2)
      clear HK hown hb hp
      go_wp2
      go_ret
      exact ⟨_, rfl, HOW.out, hbw⟩
end Go.Mk
