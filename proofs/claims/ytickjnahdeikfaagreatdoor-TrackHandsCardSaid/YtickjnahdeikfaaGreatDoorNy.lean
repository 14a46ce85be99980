/-
  Proved: the moments of a run by the reference: the start, the exchanges and the finish, in new memory. Conditions: legs and exchanges lie where the slices say; at most a hundred of each.
-/
import Derived.Test.YtickjnahdeikfaaGreatDoorNp
import Derived.Test.YtickjnahdeikfaaGreatDoorYi
import Derived.Test.YtickjnahdeikfaaGreatDoorNw
set_option linter.unusedVariables false
set_option linter.unusedSimpArgs false
open Go Go.Proofs Go.RowKit
set_option maxRecDepth 100000
namespace Go.Mk
theorem pairs_len (L : List (Int × Int)) : (L.flatMap pairC).length = L.length * 2 := by
  induction L with
  | nil => rfl
  | cons p l ih => rw [List.flatMap_cons, List.length_append, ih, List.length_cons]; simp [pairC]; omega
theorem pairs_cell {w : World} {E : Option Addr} {m : Nat} {L : List (Int × Int)} (h : Pairs w E m L) (ad : Addr) (hE : E = some ad) (j : Nat) (u : Value) (hj : (L.flatMap pairC)[j]? = some u) : w.cell? (ad.add j) = some u := by
  have hl := (List.getElem?_eq_some_iff.1 hj).1
  rw [pairs_len] at hl
  obtain ⟨be, oe, e, _, hc⟩ := h.2 (by have := h.1; omega)
  rw [hE] at e
  obtain rfl : ad = ⟨be, oe, none⟩ := by injection e
  have hk : j / 2 < L.length := by omega
  have hq := List.getElem?_eq_getElem hk
  obtain ⟨q0, q1⟩ := hc (j / 2) _ hq
  have hat := pairC_at L (j / 2) _ (j % 2) hq (by omega)
  rw [show j / 2 * 2 + j % 2 = j by omega, hj] at hat
  rw [show (⟨be, oe, none⟩ : Addr).add j = ⟨be, oe + j, none⟩ from by unfold Addr.add; split <;> simp_all]
  rcases (by omega : j % 2 = 0 ∨ j % 2 = 1) with e0 | e0
  · rw [e0] at hat
    have : u = .int .i64 (L[j / 2]).1 := by simpa [pairC] using hat
    rw [this, show oe + j = oe + j / 2 * 2 by omega]
    exact q0
  · rw [e0] at hat
    have : u = .int .i64 (L[j / 2]).2 := by simpa [pairC] using hat
    rw [this, show oe + j = oe + j / 2 * 2 + 1 by omega]
    exact q1
theorem pairs_one (L : List (Int × Int)) : ∀ u ∈ L.flatMap pairC, u.oneCell' = true := by
  intro u hu
  rw [List.mem_flatMap] at hu
  obtain ⟨p, _, hp⟩ := hu
  simp [pairC] at hp
  rcases hp with rfl | rfl <;> rfl
set_option maxHeartbeats 8000000 in
theorem r7Moments_any (G : List Int) (n cap : Nat) (A : Option Addr) (z b : Int) (L : List (Int × Int)) (m cE : Nat) (E : Option Addr) (f : Int) (w : World)
    (hG : IntsZ w A n G) (hn : n ≤ 100) (hE : Pairs w E m L) (hm : m ≤ 100) (hcE : E = none → m = 0 ∧ cE = 0) :
    Calls Tryz.prog 64 #[.agg #[.slice A n cap, .int .i64 z, .int .i64 b], .slice E m cE, .int .i64 f] w
      (fun e w' => ∃ v, e = .returned v ∧ OwnEx w' (w.heap.size + 1) v ((0, 0) :: (L ++ [(sumW G 0, f)])) ∧ Below w.heap.size w w') := by
  obtain ⟨i0, hi, hz0, hz1, hz2⟩ := info_parts infoREx
  obtain ⟨w1, hw1⟩ : ∃ w1, w.alloc (.cells #[.slice A n cap, .int .i64 z, .int .i64 b] 26) = w1 := ⟨_, rfl⟩
  have hN := RelB.new (cap := cap) (z := z) (b := b) hG 26
  rw [hw1] at hN
  have hs1 : w1.heap.size = w.heap.size + 1 := by rw [← hw1]; simp
  obtain ⟨g, hg⟩ : ∃ g, w.heap.size = g := ⟨_, rfl⟩
  have HB1 := Lib.hid hN.2.2.2.2.1
  have HE := Lib.hid (hE.below hN.2.2.2.2.1)
  rw [hg] at hN hs1
  have HS : Hid (∀ w', Below (g + 1) w1 w' → w'.cell? ⟨g, 0, none⟩ = some (.slice A n cap) ∧ w'.cell? ⟨g, 1, none⟩ = some (.int .i64 z) ∧ w'.cell? ⟨g, 2, none⟩ = some (.int .i64 b) ∧ Below (g + 1) w1 w') := Lib.hid fun w' hb => by
    obtain ⟨a0, a1, a2, _⟩ := hN.old hb hs1
    exact ⟨a0, a1, a2, hb⟩
  have HZ : Hid (∀ w', Below (g + 1) w1 w' → Calls Tryz.prog 48 #[.agg #[.slice A n cap, .int .i64 z, .int .i64 b]] w' (RetPost (.int .i64 (sumW G 0)) w')) := Lib.hid fun w' hb => r7Whole_any G n cap A z b w' (hN.old hb hs1).2.2.2.2.2 hn
  obtain ⟨d, hd⟩ : ∃ d, sumW G 0 = d := ⟨_, rfl⟩
  rw [hd] at HZ ⊢
  have HLm := Lib.hid hE.1
  have HG := Lib.hid hg
  have hmi : (m : Int) ≤ 100 := by omega
  clear hG hE hN hd
  go_enter Tryz.func64, Tryz.ntmps64
  go_wp2_with fail
  clear hw1
  refine wp_region_held_drew (S := (fun w' => w'.cell? ⟨g, 0, none⟩ = some (.slice A n cap) ∧ w'.cell? ⟨g, 1, none⟩ = some (.int .i64 z) ∧ w'.cell? ⟨g, 2, none⟩ = some (.int .i64 b) ∧ Below (g + 1) w1 w')) (by kernel_rfl) ?_ (fun hHeld => ?_)
  · exact HS.out _ (Below.drew (Below.refl _ _))
  obtain ⟨wd, hwd⟩ : ∃ wd, World.drew w1 = wd := ⟨_, rfl⟩
  rw [hwd] at hHeld ⊢
  clear hwd
  refine wpAnyH_take (i := 0) (oi := _) (v := ?_) rfl (by kernel_rfl) (by kernel_rfl) (by kernel_rfl) (fun _ _ _ h => h) (Or.inl ⟨by kernel_rfl, ?_⟩) (by assumption) ?_
  rotate_left
  · rintro w ⟨s1, s2, s3, s4⟩
    go_simp
    try with_reducible rfl
  try simp only [Act.put, List.setIfInBounds_toArray, List.set_cons_zero, List.set_cons_succ, List.getElem_toArray, List.getElem_cons_zero, List.getElem_cons_succ]
  refine wpAnyH_take (i := 2) (oi := _) (v := ?_) rfl (by kernel_rfl) (by kernel_rfl) (by kernel_rfl) (fun _ _ _ h => h) (Or.inl ⟨by kernel_rfl, ?_⟩) (by assumption) ?_
  rotate_left
  · rintro w ⟨s1, s2, s3, s4⟩
    go_simp
    try with_reducible rfl
  try simp only [Act.put, List.setIfInBounds_toArray, List.set_cons_zero, List.set_cons_succ, List.getElem_toArray, List.getElem_cons_zero, List.getElem_cons_succ]
  refine wpAnyH_take (i := 4) (oi := _) (v := ?_) rfl (by kernel_rfl) (by kernel_rfl) (by kernel_rfl) (fun _ _ _ h => h) (Or.inl ⟨by kernel_rfl, ?_⟩) (by assumption) ?_
  rotate_left
  · rintro w ⟨s1, s2, s3, s4⟩
    go_simp
    try with_reducible rfl
  try simp only [Act.put, List.setIfInBounds_toArray, List.set_cons_zero, List.set_cons_succ, List.getElem_toArray, List.getElem_cons_zero, List.getElem_cons_succ]
  refine wpAnyH_take (i := 6) (oi := _) (v := ?_) rfl (by kernel_rfl) (by kernel_rfl) (by kernel_rfl) (fun _ _ _ h => h) (Or.inl ⟨by kernel_rfl, ?_⟩) (by assumption) ?_
  rotate_left
  · rintro w ⟨s1, s2, s3, s4⟩
    go_simp
    try with_reducible rfl
  try simp only [Act.put, List.setIfInBounds_toArray, List.set_cons_zero, List.set_cons_succ, List.getElem_toArray, List.getElem_cons_zero, List.getElem_cons_succ]
  refine wpAnyH_ready (rs := [1]) (by kernel_rfl) (by simp) ?_
  refine AllReadyH.cons (o := _) rfl (fun K hKK => ?_) AllReadyH.nil
  go_simp
  have hsd := hHeld.2.2.2.size
  have hrow := World.ownsRow_lit (base := g + 1) (size := 2) (e := 77) wd #[.int .i64 0, .int .i64 0] 1 (by omega) (by decide) rfl
  have hNb := hHeld.2.2.2.alloc (by omega) (.cells #[.int .i64 0, .int .i64 0] 77)
  clear hHeld
  refine hKK.out _ _ ?_ (fun hHeld => ?_)
  · exact HS.out _ hNb
  clear hKK K
  try simp only [Act.put, List.setIfInBounds_toArray, List.set_cons_zero, List.set_cons_succ, List.getElem_toArray, List.getElem_cons_zero, List.getElem_cons_succ]
  clear hNb
  refine wpAnyH_ready (rs := [3]) (by kernel_rfl) (by simp) ?_
  refine AllReadyH.cons (o := _) rfl (fun K hKK => ?_) AllReadyH.nil
  refine step_append_src rfl (.tmp 8) (.tmp 9) 27 rfl (g + 1) 77 i0 (.agg #[.int .i64 0, .int .i64 0]) 2 16 Tryz.underlying27 hi hz0 hz1 hz2 rfl (by decide) _ _ _ rfl hrow _ _ _ (L.flatMap pairC) rfl (by rw [pairs_len, HLm.out]) hcE (fun ad had j u hu => pairs_cell (HE.out.below (hHeld.2.2.2.mono (by omega))) ad had j u hu) (pairs_one L) (by unfold maxLen; omega) (by omega) (by have := hHeld.2.2.2.size; omega) ?_
  intro v9 w9 hown9 hgrow hat
  have hNb := hHeld.2.2.2.grown hgrow (by have := hHeld.2.2.2.size; omega) (fun r hr => (World.ownsRow.lt hrow r hr).1)
  clear hHeld hrow hat hgrow
  have hrow := hown9
  clear hown9
  refine hKK.out _ _ ?_ (fun hHeld => ?_)
  · exact HS.out _ hNb
  clear hKK K
  try simp only [Act.put, List.setIfInBounds_toArray, List.set_cons_zero, List.set_cons_succ, List.getElem_toArray, List.getElem_cons_zero, List.getElem_cons_succ]
  clear hNb
  refine wpAnyH_ready (rs := [5]) (by kernel_rfl) (by simp) ?_
  refine AllReadyH.cons (o := _) rfl (fun K hKK => ?_) AllReadyH.nil
  go_simp
  go_at_call 48
  refine (HZ.out _ hHeld.2.2.2).mono ?_
  rintro e w10 ⟨rfl, hb10⟩
  have hNb := hHeld.2.2.2.trans (hb10.mono (by have := hHeld.2.2.2.size; omega))
  have hrow := own_belowN hrow hb10
  clear hHeld hb10
  go_wp2_with fail
  refine hKK.out _ _ ?_ (fun hHeld => ?_)
  · exact HS.out _ hNb
  clear hKK K
  try simp only [Act.put, List.setIfInBounds_toArray, List.set_cons_zero, List.set_cons_succ, List.getElem_toArray, List.getElem_cons_zero, List.getElem_cons_succ]
  clear hNb
  refine wpAnyH_take (i := 7) (oi := _) (v := ?_) rfl (by kernel_rfl) (by kernel_rfl) (by kernel_rfl) (fun _ _ _ h => h) (Or.inl ⟨by kernel_rfl, ?_⟩) (by assumption) ?_
  rotate_left
  · rintro w ⟨s1, s2, s3, s4⟩
    go_simp
    try with_reducible rfl
  try simp only [Act.put, List.setIfInBounds_toArray, List.set_cons_zero, List.set_cons_succ, List.getElem_toArray, List.getElem_cons_zero, List.getElem_cons_succ]
  refine wpAnyH_ready (rs := [8]) (by kernel_rfl) (by simp) ?_
  refine AllReadyH.cons (o := _) rfl (fun K hKK => ?_) AllReadyH.nil
  go_simp
  have hNb := hHeld.2.2.2.alloc (by have := hHeld.2.2.2.size; omega) (.cells #[.int .i64 d, .int .i64 f] 77)
  have hrow := World.ownsRow.alloc hrow (.cells #[.int .i64 d, .int .i64 f] 77)
  have hc8 : ∀ (j : Nat) (u : Value), [Value.int .i64 d, .int .i64 f][j]? = some u → (w10.alloc (.cells #[.int .i64 d, .int .i64 f] 77)).cell? ((⟨w10.heap.size, 0, none⟩ : Addr).add j) = some u := fun j u hu => by
    match j, hu with
    | 0, hu => simp at hu; subst hu; simp [Addr.add]
    | 1, hu => simp at hu; subst hu; simp [Addr.add]
  clear hHeld
  refine hKK.out _ _ ?_ (fun hHeld => ?_)
  · exact HS.out _ hNb
  clear hKK K
  try simp only [Act.put, List.setIfInBounds_toArray, List.set_cons_zero, List.set_cons_succ, List.getElem_toArray, List.getElem_cons_zero, List.getElem_cons_succ]
  clear hNb
  refine wpAnyH_ready (rs := [9]) (by kernel_rfl) (by simp) ?_
  refine AllReadyH.cons (o := _) rfl (fun K hKK => ?_) AllReadyH.nil
  refine step_append_src rfl (.tmp 10) (.tmp 15) 27 rfl (g + 1) 77 i0 (.agg #[.int .i64 0, .int .i64 0]) 2 16 Tryz.underlying27 hi hz0 hz1 hz2 rfl (by decide) _ _ _ rfl hrow _ _ _ [.int .i64 d, .int .i64 f] rfl rfl (fun q => by cases q) (fun ad had j u hu => by cases had; exact hc8 j u hu) (by intro u hu; simp at hu; rcases hu with rfl | rfl <;> rfl) (by unfold maxLen; omega) (by omega) (by have := hHeld.2.2.2.size; omega) ?_
  intro v9 w9 hown9 hgrow hat
  have hNb := hHeld.2.2.2.grown hgrow (by have := hHeld.2.2.2.size; omega) (fun r hr => (World.ownsRow.lt hrow r hr).1)
  clear hHeld hrow hat hgrow hc8
  have hrow := hown9
  clear hown9
  refine hKK.out _ _ ?_ (fun hHeld => ?_)
  · exact HS.out _ hNb
  clear hKK K
  try simp only [Act.put, List.setIfInBounds_toArray, List.set_cons_zero, List.set_cons_succ, List.getElem_toArray, List.getElem_cons_zero, List.getElem_cons_succ]
  clear hNb
  refine wpAnyH_ready (rs := [10]) (by kernel_rfl) (by simp) ?_
  refine AllReadyH.cons (o := _) rfl (fun K hKK => ?_) AllReadyH.nil
  go_simp
  refine hKK.out _ _ ?_ (fun hHeld => ?_)
  · exact hHeld
  clear hKK K
  try simp only [Act.put, List.setIfInBounds_toArray, List.set_cons_zero, List.set_cons_succ, List.getElem_toArray, List.getElem_cons_zero, List.getElem_cons_succ]
  refine wpAnyH_done (by kernel_rfl) ?_ _
  have hOW : OwnEx w9 (g + 1) v9 ((0, 0) :: (L ++ [(d, f)])) := by
    unfold OwnEx
    have e1 : ((0, 0) :: (L ++ [(d, f)])).length = 1 + m + 1 := by simp [HLm.out]; omega
    have e2 : ((0, 0) :: (L ++ [(d, f)])).flatMap pairC = [Value.int .i64 0, .int .i64 0] ++ L.flatMap pairC ++ [.int .i64 d, .int .i64 f] := by simp [pairC]
    rw [e1, e2]
    exact hrow
  have hbw : Below w.heap.size w w9 := HB1.out.trans (hHeld.2.2.2.mono (by rw [HG.out]; omega))
  have HOW := Lib.hid hOW
  clear hOW hrow hHeld
  go_wp2
  go_ret
  exact ⟨_, rfl, by rw [HG.out]; exact HOW.out, hbw⟩
end Go.Mk
