/-
  Proved: seed.Changed returns the first error. Conditions: the runners lie where the slices say; the texts are no longer than an int says; the heap holds the program's variables.
-/
import Derived.Test.YtkjolejppnogiaaGreatDoorJf
set_option linter.unusedVariables false
set_option linter.unusedSimpArgs false
open Go Go.Proofs Go.RowKit Go.Sort Go.Maps Go.WideMaps
set_option maxRecDepth 100000
namespace Go.Mk
set_option maxHeartbeats 4000000 in
theorem seedChanged_bad (LL : List (List Run)) (n cap : Nat) (A : Option Addr) (B : Nat) (p t : Int) (r : Run) (w : World) (hZ : RHeats w B A n LL) (hn : n ≤ 20) (hs : ∀ l ∈ LL, l.length ≤ 1000 ∧ ∀ x ∈ l, x.ok) (hr : r.ok) (hg : 13 ≤ w.heap.size) (e : Int)
    (he : fstN [fstN [chkRuns LL, rngE p 0 160, rngE t 0 160], runE [] r] = e) (h0 : (e != 0) = true) :
    Calls Tryz.prog 44 #[.slice A n cap, .int .i64 p, .int .i64 t, r.agg] w (RetPost (.tuple #[.slice none 0 0, .int .i64 e]) w) := by
  have hE := fun w' (hb : Below w.heap.size w w') => advanceError_any LL n cap A B p t w' (hZ.below hb hZ.2.1) (by omega) hs (Nat.le_trans hg hb.size)
  obtain ⟨ea, hea⟩ : ∃ ea, fstN [chkRuns LL, rngE p 0 160, rngE t 0 160] = ea := ⟨_, rfl⟩
  rw [hea] at he hE
  have hR := fun M w' (hN : Named w' M 0 []) (hgw : 13 ≤ w'.heap.size) => runnerError_any M 0 [] r w' hr hN (by omega) hgw
  have HE : Hid (∀ w', CS w r w' → Calls Tryz.prog 83 #[.slice A n cap, .int .i64 p, .int .i64 t] w' (RetPost (.int .i64 ea) w')) := fun w' h => hE w' h.2.2.2.2.1
  have HCS := Lib.hid (CS.start w r)
  unfold RunPost at hR
  obtain ⟨er, her⟩ : ∃ er, runE [] r = er := ⟨_, rfl⟩
  rw [her] at he hR
  have hF := fun g w => seedFirst_any [ea, er] 2 rfl (by decide) g w
  rw [he] at hF
  have HR := Lib.hid hR
  have HF := Lib.hid hF
  have hG := hg
  obtain ⟨rn, rk, rv, rr⟩ := r
  unfold Run.agg at HR ⊢
  simp only at HR ⊢
  clear hZ hs hE hea her hR hF hg
  go_enter Tryz.func44, Tryz.ntmps44
  go_wp2
  refine wp_region_held_drew (S := CS w ⟨rn, rk, rv, rr⟩) (by kernel_rfl) ?_ (fun hHeld => ?_)
  · exact HCS.out.drew
  generalize World.drew _ = w1 at hHeld ⊢
  refine wpAnyH_take (i := 0) (oi := _) (v := ?_) rfl (by kernel_rfl) (by kernel_rfl) (by kernel_rfl) (fun _ _ _ h => h) (Or.inl ⟨by rfl, ?_⟩) (by assumption) ?_
  rotate_left
  · rintro w ⟨s0, s1, s2, s3, s4⟩
    go_simp
    try with_reducible rfl
  try simp only [Act.put, List.setIfInBounds_toArray, List.set_cons_zero, List.set_cons_succ]
  refine wpAnyH_take (i := 1) (oi := _) (v := ?_) rfl (by kernel_rfl) (by kernel_rfl) (by kernel_rfl) (fun _ _ _ h => h) (Or.inl ⟨by rfl, ?_⟩) (by assumption) ?_
  rotate_left
  · rintro w ⟨s0, s1, s2, s3, s4⟩
    go_simp
    try with_reducible rfl
  try simp only [Act.put, List.setIfInBounds_toArray, List.set_cons_zero, List.set_cons_succ]
  refine wpAnyH_take (i := 2) (oi := _) (v := ?_) rfl (by kernel_rfl) (by kernel_rfl) (by kernel_rfl) (fun _ _ _ h => h) (Or.inl ⟨by rfl, ?_⟩) (by assumption) ?_
  rotate_left
  · rintro w ⟨s0, s1, s2, s3, s4⟩
    go_simp
    try with_reducible rfl
  try simp only [Act.put, List.setIfInBounds_toArray, List.set_cons_zero, List.set_cons_succ]
  refine wpAnyH_take (i := 5) (oi := _) (v := ?_) rfl (by kernel_rfl) (by kernel_rfl) (by kernel_rfl) (fun _ _ _ h => h) (Or.inl ⟨by rfl, ?_⟩) (by assumption) ?_
  rotate_left
  · rintro w ⟨s0, s1, s2, s3, s4⟩
    go_simp
    try with_reducible rfl
  try simp only [Act.put, List.setIfInBounds_toArray, List.set_cons_zero, List.set_cons_succ]
  refine wpAnyH_ready (rs := [3, 4]) (by kernel_rfl) (by simp) ?_
  refine AllReadyH.cons (o := _) rfl (fun K hKK => ?_) (AllReadyH.cons (o := _) rfl (fun K hKK => ?_) AllReadyH.nil)
  ·
    go_simp
    go_at_call 83
    refine (HE.out _ hHeld).mono ?_
    rintro e w2 ⟨rfl, hb2⟩
    have hH2 := hHeld.below hb2
    go_wp2_with fail
    refine hKK.out _ _ ?_ (fun hHeld => ?_)
    · exact hH2
    clear hKK K
    try simp only [Act.put, List.setIfInBounds_toArray, List.set_cons_zero, List.set_cons_succ]
    refine wpAnyH_ready (rs := [4]) (by kernel_rfl) (by simp) ?_
    refine AllReadyH.cons (o := _) rfl (fun K hKK => ?_) AllReadyH.nil
    go_simp
    have hH3 := hH2.alloc (.map #[] 0)
    have hN3 := Named.made w2
    have hM : w.heap.size < w2.heap.size := hH2.2.2.2.2.2
    refine hKK.out _ _ ?_ (fun hHeld => ?_)
    · exact hH3
    clear hKK K
    try simp only [Act.put, List.setIfInBounds_toArray, List.set_cons_zero, List.set_cons_succ]
    refine wpAnyH_ready (rs := [6]) (by kernel_rfl) (by simp) ?_
    refine AllReadyH.cons (o := _) rfl (fun K hKK => ?_) AllReadyH.nil
    go_simp
    go_at_call 86
    refine (HR.out _ _ hN3 (Nat.le_trans hG hH3.2.2.2.2.1.size)).mono ?_
    rintro e w5 ⟨rfl, hN5, hb5⟩
    have hH5 := hH3.grown hb5 hM
    go_wp2_with fail
    refine hKK.out _ _ ?_ (fun hHeld => ?_)
    · exact hH5
    clear hKK K
    try simp only [Act.put, List.setIfInBounds_toArray, List.set_cons_zero, List.set_cons_succ]
    refine wpAnyH_ready (rs := [7]) (by kernel_rfl) (by simp) ?_
    refine AllReadyH.cons (o := _) rfl (fun K hKK => ?_) AllReadyH.nil
    go_simp
    have hH6 := hH5.alloc (.cells #[.int .i64 ea, .int .i64 er] 28)
    refine hKK.out _ _ ?_ (fun hHeld => ?_)
    · exact hH6
    clear hKK K
    try simp only [Act.put, List.setIfInBounds_toArray, List.set_cons_zero, List.set_cons_succ]
    refine wpAnyH_ready (rs := [8]) (by kernel_rfl) (by simp) ?_
    refine AllReadyH.cons (o := _) rfl (fun K hKK => ?_) AllReadyH.nil
    go_simp
    go_at_call 62
    refine (HF.out _ _ (es2 _ _ _ _)).mono ?_
    rintro e w6 ⟨rfl, rfl⟩
    go_wp2_with fail
    refine hKK.out _ _ ?_ (fun hHeld => ?_)
    · exact hH6
    clear hKK K
    try simp only [Act.put, List.setIfInBounds_toArray, List.set_cons_zero, List.set_cons_succ]
    refine wpAnyH_ready (rs := [9]) (by kernel_rfl) (by simp) ?_
    refine AllReadyH.cons (o := _) rfl (fun K hKK => ?_) AllReadyH.nil
    go_simp
    refine hKK.out _ _ ?_ (fun hHeld => ?_)
    · exact hH6
    clear hKK K
    try simp only [Act.put, List.setIfInBounds_toArray, List.set_cons_zero, List.set_cons_succ]
    refine wpAnyH_done (by kernel_rfl) ?_ _
    have hE0 : (e == 0) = false := by simpa using h0
    go_wp2
    go_ret2
    exact ⟨rfl, hH6.2.2.2.2.1⟩
  ·
    go_simp
    have hH2 := hHeld.alloc (.map #[] 0)
    have hM := hHeld.2.2.2.2.2
    refine hKK.out _ _ ?_ (fun hHeld => ?_)
    · exact hH2
    clear hKK K
    try simp only [Act.put, List.setIfInBounds_toArray, List.set_cons_zero, List.set_cons_succ]
    refine wpAnyH_ready (rs := [3]) (by kernel_rfl) (by simp) ?_
    refine AllReadyH.cons (o := _) rfl (fun K hKK => ?_) AllReadyH.nil
    go_simp
    go_at_call 83
    refine (HE.out _ hH2).mono ?_
    rintro e w4 ⟨rfl, hb2⟩
    have hH3 := hH2.below hb2
    have hN3 := (Named.made w1).kept (hb2.block _ (Named.made w1).lt)
    go_wp2_with fail
    refine hKK.out _ _ ?_ (fun hHeld => ?_)
    · exact hH3
    clear hKK K
    try simp only [Act.put, List.setIfInBounds_toArray, List.set_cons_zero, List.set_cons_succ]
    refine wpAnyH_ready (rs := [6]) (by kernel_rfl) (by simp) ?_
    refine AllReadyH.cons (o := _) rfl (fun K hKK => ?_) AllReadyH.nil
    go_simp
    go_at_call 86
    refine (HR.out _ _ hN3 (Nat.le_trans hG hH3.2.2.2.2.1.size)).mono ?_
    rintro e w5 ⟨rfl, hN5, hb5⟩
    have hH5 := hH3.grown hb5 hM
    go_wp2_with fail
    refine hKK.out _ _ ?_ (fun hHeld => ?_)
    · exact hH5
    clear hKK K
    try simp only [Act.put, List.setIfInBounds_toArray, List.set_cons_zero, List.set_cons_succ]
    refine wpAnyH_ready (rs := [7]) (by kernel_rfl) (by simp) ?_
    refine AllReadyH.cons (o := _) rfl (fun K hKK => ?_) AllReadyH.nil
    go_simp
    have hH6 := hH5.alloc (.cells #[.int .i64 ea, .int .i64 er] 28)
    refine hKK.out _ _ ?_ (fun hHeld => ?_)
    · exact hH6
    clear hKK K
    try simp only [Act.put, List.setIfInBounds_toArray, List.set_cons_zero, List.set_cons_succ]
    refine wpAnyH_ready (rs := [8]) (by kernel_rfl) (by simp) ?_
    refine AllReadyH.cons (o := _) rfl (fun K hKK => ?_) AllReadyH.nil
    go_simp
    go_at_call 62
    refine (HF.out _ _ (es2 _ _ _ _)).mono ?_
    rintro e w6 ⟨rfl, rfl⟩
    go_wp2_with fail
    refine hKK.out _ _ ?_ (fun hHeld => ?_)
    · exact hH6
    clear hKK K
    try simp only [Act.put, List.setIfInBounds_toArray, List.set_cons_zero, List.set_cons_succ]
    refine wpAnyH_ready (rs := [9]) (by kernel_rfl) (by simp) ?_
    refine AllReadyH.cons (o := _) rfl (fun K hKK => ?_) AllReadyH.nil
    go_simp
    refine hKK.out _ _ ?_ (fun hHeld => ?_)
    · exact hH6
    clear hKK K
    try simp only [Act.put, List.setIfInBounds_toArray, List.set_cons_zero, List.set_cons_succ]
    refine wpAnyH_done (by kernel_rfl) ?_ _
    have hE0 : (e == 0) = false := by simpa using h0
    go_wp2
    go_ret2
    exact ⟨rfl, hH6.2.2.2.2.1⟩
end Go.Mk
