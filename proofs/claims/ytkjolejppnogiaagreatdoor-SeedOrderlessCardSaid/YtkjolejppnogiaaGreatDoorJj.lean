/-
  Proved: seed.Changed returns the names of those who change between advancing and not. Conditions: the runners lie where the slices say; at most 20 heats, each at most 170 long, at most 1,000 runners; the texts are no longer than an int says; no error.
-/
import Derived.Test.YtkjolejppnogiaaGreatDoorJf
import Derived.Maps.OwnIn
import Derived.Maps.AppendAt
set_option linter.unusedVariables false
set_option linter.unusedSimpArgs false
open Go Go.Proofs Go.RowKit Go.Sort Go.Shelf Go.Maps Go.WideMaps
set_option maxRecDepth 100000
namespace Go.Mk
attribute [local go_sem] Oper.semAt_some
/-- At its end, and nowhere else. -/
def NormOnly (Q : Exit → Act → World → Prop) : Exit → Act → World → Prop
  | .normal, a, w => Q .normal a w
  | _, _, _ => False
theorem wp_normal {P : Program} {c : Code} {Q : Exit → Act → World → Prop} {a : Act} {w : World} (h : c.wp P (NormOnly Q) a w) : c.wp P Q a w :=
  wp_mono h fun e a w q => by cases e <;> first | exact q | exact q.elim
/-- Rows of runners that have grown, read as heats. -/
theorem GrowH.heats {w : World} {B G n : Nat} {LL : List (List Run)} (h : GrowH w B G n (fun i => LL.getD i [])) (hl : LL.length = n) : RHeats w w.heap.size (some ⟨G, 0, none⟩) n LL := by
  obtain ⟨hG, hBG, V, hV, hd⟩ := h
  refine ⟨hl, Nat.le_refl _, fun hn => ⟨G, 0, rfl, hG, fun i l hi => ?_⟩⟩
  have hi' : i < n := by rw [← hl]; exact (List.getElem?_eq_some_iff.1 hi).1
  obtain ⟨c, f, o, _⟩ := hV i hi'
  have eL : LL.getD i [] = l := by rw [List.getD_eq_getElem?_getD, hi]; rfl
  simp only [eL] at o
  obtain ⟨A', c', e, hR⟩ := Runs.of_ownS o
  rw [e] at c
  exact ⟨A', c', by rw [Nat.zero_add]; exact c, hR⟩
/-- Heats with another runner are as long as before. -/
theorem replS_keeps {r : Run} : ∀ {LL LL' : List (List Run)} (_ : replS r LL = some LL') (_ : ∀ l ∈ LL, l.length ≤ 170 ∧ ∀ x ∈ l, x.ok) (_ : r.ok), (∀ l ∈ LL', l.length ≤ 170 ∧ ∀ x ∈ l, x.ok) ∧ LL'.flatten.length = LL.flatten.length
  | [], _, h, _, _ => by cases h
  | l :: LL, LL', h, hs, hr => by
    have hl := hs l (List.mem_cons_self ..)
    have ht : ∀ q ∈ LL, q.length ≤ 170 ∧ ∀ x ∈ q, x.ok := fun q hq => hs q (List.mem_cons_of_mem _ hq)
    unfold replS at h
    split at h
    · cases h
      refine ⟨fun q hq => ?_, by simp⟩
      rcases List.mem_cons.1 hq with rfl | hq
      · refine ⟨by simpa using hl.1, fun x hx => ?_⟩
        rcases List.mem_or_eq_of_mem_set hx with hx | rfl
        · exact hl.2 x hx
        · exact hr
      · exact ht q hq
    · cases hT : replS r LL with
      | none => rw [hT] at h; cases h
      | some T =>
        rw [hT] at h
        cases h
        obtain ⟨k1, k2⟩ := replS_keeps hT ht hr
        refine ⟨fun q hq => ?_, by simp [k2]⟩
        rcases List.mem_cons.1 hq with rfl | hq
        · exact hl
        · exact k1 q hq
/-- The names of those who advance before or behind, but not both. -/
def chgN (LL LL' : List (List Run)) (p t : Int) : List ByteArray := (LL.flatten.map Run.name).filter fun s => isIn (advN LL p t) s != isIn (advN LL' p t) s
/-- The names, of some runners, of those who change. -/
def cN (ch : ByteArray → Bool) {N : Nat} (pre : List (HRun N)) : List ByteArray := (pre.map fun x => x.1.2.name).filter ch
theorem cN_hit {ch : ByteArray → Bool} {N : Nat} (pre : List (HRun N)) (x : HRun N) (h : ch x.1.2.name = true) : cN ch (pre ++ [x]) = cN ch pre ++ [x.1.2.name] := by simp [cN, h]
theorem cN_miss {ch : ByteArray → Bool} {N : Nat} (pre : List (HRun N)) (x : HRun N) (h : ch x.1.2.name = false) : cN ch (pre ++ [x]) = cN ch pre := by simp [cN, h]
theorem cN_len (ch : ByteArray → Bool) {N : Nat} (pre : List (HRun N)) : (cN ch pre).length ≤ pre.length := by
  unfold cN
  exact Nat.le_trans (List.length_filter_le _ _) (by simp)
/-- Behind some runners: the boxes of the two maps, and that of the names. -/
def ChgI (w4 : World) (n4 M1 M2 N : Nat) (ch : ByteArray → Bool) (pre : List (HRun N)) (W : World) : Prop :=
  (∃ v, Boxed W (n4 + 2) 68 v ∧ W.ownsRow n4 9 1 v (cN ch pre).length ((cN ch pre).map Value.string) ∧ True) ∧
    Boxed W n4 115 (.map (some M1)) ∧ Boxed W (n4 + 1) 115 (.map (some M2)) ∧ Below n4 w4 W ∧ n4 + 4 ≤ W.heap.size
theorem ChgI.own (w4 : World) (n4 M1 M2 N B : Nat) (ch : ByteArray → Bool) (hB : n4 ≤ B) (hn : n4 ≤ w4.heap.size) : OwnFrom B (ChgI w4 n4 M1 M2 N ch) := fun s A C row hs hg hr =>
  ⟨(Own.from (holdsRow_own (β := List (HRun N)) n4 (n4 + 2) 68 9 1 (fun pre => (cN ch pre).length) (fun pre => (cN ch pre).map Value.string) (fun _ _ => True)) B) s A C row hs.1 hg hr,
    (Own.from (boxed_own n4 115 (fun (_ : Unit) => .map (some M1))) B) () A C row hs.2.1 hg hr, (Own.from (boxed_own (n4 + 1) 115 (fun (_ : Unit) => .map (some M2))) B) () A C row hs.2.2.1 hg hr,
    (ownFrom_below (β := List (HRun N)) hn hB) s A C row hs.2.2.2.1 hg hr, Nat.le_trans hs.2.2.2.2 hg.size⟩
/-- The boxes at the start. -/
theorem chg_start (w4 : World) (M1 M2 N : Nat) (ch : ByteArray → Bool) (v : Value) :
    ChgI w4 w4.heap.size M1 M2 N ch [] ((((w4.alloc (.cells #[.map (some M1)] 115)).alloc (.cells #[.map (some M2)] 115)).alloc (.cells #[.slice none 0 0] 68)).alloc (.cells #[v] 58)) ∧
    ((((w4.alloc (.cells #[.map (some M1)] 115)).alloc (.cells #[.map (some M2)] 115)).alloc (.cells #[.slice none 0 0] 68)).alloc (.cells #[v] 58)).cell? ⟨w4.heap.size + 3, 0, none⟩ = some v ∧
    ((((w4.alloc (.cells #[.map (some M1)] 115)).alloc (.cells #[.map (some M2)] 115)).alloc (.cells #[.slice none 0 0] 68)).alloc (.cells #[v] 58)).heap.size = w4.heap.size + 4 := by
  have b1 := Boxed.new w4 115 (.map (some M1))
  have b2 := Boxed.new (w4.alloc (.cells #[.map (some M1)] 115)) 115 (.map (some M2))
  have b3 := Boxed.new ((w4.alloc (.cells #[.map (some M1)] 115)).alloc (.cells #[.map (some M2)] 115)) 68 (.slice none 0 0)
  have b4 := Boxed.new (((w4.alloc (.cells #[.map (some M1)] 115)).alloc (.cells #[.map (some M2)] 115)).alloc (.cells #[.slice none 0 0] 68)) 58 v
  simp only [World.size_alloc] at b2 b3 b4
  refine ⟨⟨⟨_, b3.alloc _, World.ownsRow_nil _ _ _ _, trivial⟩, ((b1.alloc _).alloc _).alloc _, (b2.alloc _).alloc _, ?_, by simp⟩, b4.cell, by simp⟩
  exact ((((Below.refl _ _).alloc (Nat.le_refl _) _).alloc (by simp) _).alloc (by simp; omega) _).alloc (by simp; omega) _
/-- What Changed leaves. -/
def ChPost (LL : List (List Run)) (p t : Int) (r : Run) (w : World) (e : Ending) (w' : World) : Prop :=
  (replS r LL = none ∧ e = .returned (.tuple #[.slice none 0 0, .int .i64 10]) ∧ Below w.heap.size w w') ∨
  (∃ LL' v, replS r LL = some LL' ∧ e = .returned (.tuple #[v, .int .i64 0]) ∧ OwnNames w' w.heap.size v (chgN LL LL' p t) ∧ Below w.heap.size w w')
set_option maxHeartbeats 8000000 in
theorem seedChanged_ok (LL : List (List Run)) (n cap : Nat) (A : Option Addr) (B : Nat) (p t : Int) (r : Run) (w : World) (hZ : RHeats w B A n LL) (hn : n ≤ 20) (hs : ∀ l ∈ LL, l.length ≤ 170 ∧ ∀ x ∈ l, x.ok) (hl : LL.flatten.length ≤ 1000) (hr : r.ok) (hg : 13 ≤ w.heap.size)
    (he : fstN [fstN [chkRuns LL, rngE p 0 160, rngE t 0 160], runE [] r] = 0) :
    Calls Tryz.prog 44 #[.slice A n cap, .int .i64 p, .int .i64 t, r.agg] w (ChPost LL p t r w) := by
  have hs2 : ∀ l ∈ LL, l.length ≤ 1000 ∧ ∀ x ∈ l, x.ok := fun l hl => ⟨by have := (hs l hl).1; omega, (hs l hl).2⟩
  have hE := fun w' (hb : Below w.heap.size w w') => advanceError_any LL n cap A B p t w' (hZ.below hb hZ.2.1) (by omega) hs2 (Nat.le_trans hg hb.size)
  obtain ⟨ea, hea⟩ : ∃ ea, fstN [chkRuns LL, rngE p 0 160, rngE t 0 160] = ea := ⟨_, rfl⟩
  rw [hea] at he hE
  have hR := fun M w' (hN : Named w' M 0 []) (hgw : 13 ≤ w'.heap.size) => runnerError_any M 0 [] r w' hr hN (by omega) hgw
  have HE : Hid (∀ w', CS w r w' → Calls Tryz.prog 83 #[.slice A n cap, .int .i64 p, .int .i64 t] w' (RetPost (.int .i64 ea) w')) := fun w' h => hE w' h.2.2.2.2.1
  have HCS := Lib.hid (CS.start w r)
  unfold RunPost at hR
  obtain ⟨er, her⟩ : ∃ er, runE [] r = er := ⟨_, rfl⟩
  rw [her] at he hR
  have hF := fun g w => seedFirst_any [ea, er] 2 rfl (by decide) g w
  rw [he] at hF
  have HR := Lib.hid hR
  have HF := Lib.hid hF
  have HP : Hid (∀ w', Below w.heap.size w w' → Calls Tryz.prog 87 #[.slice A n cap, r.agg] w' (RepPost r LL n w')) := fun w' hb => seedReplace_any LL n cap A B r w' (hZ.below hb hZ.2.1) hn hs2
  have HW : Hid (∀ w', Below w.heap.size w w' → Calls Tryz.prog 88 #[.slice A n cap, .int .i64 p, .int .i64 t] w' (WhoPost LL p t w')) := fun w' hb => whoAdvances_any LL n cap A B p t w' (hZ.below hb hZ.2.1) hn hs hl
  have HZ := Lib.hid hZ
  have HS := Lib.hid hs
  have HL := Lib.hid hl
  have HRok := Lib.hid hr
  have hG := hg
  have hni : (n : Int) ≤ 20 := by omega
  have HCP := Lib.hid (rfl : ChPost LL p t r w = ChPost LL p t r w)
  generalize hCP : ChPost LL p t r w = CP at *
  obtain ⟨rn, rk, rv, rr⟩ := r
  unfold Run.agg at HR HP ⊢
  simp only at HR HP ⊢
  clear hZ hs hs2 hE hea her hR hF hg hr hl HCP
  refine (callsIn_wide (n := 3)).1 ?_
  refine callsIn_of_wp_marks Tryz.func44 rfl trivial ?_ rfl
  simp only [Tryz.ntmps44, List.size_toArray, List.length_cons, List.length_nil, Nat.reduceAdd, Nat.reduceSub, Array.replicate_succ, Array.replicate_zero, List.push_toArray, List.append_toArray, List.nil_append, List.cons_append]
  gi_wp2
  refine wpIn_wide.2 (wp_normal ?_)
  refine wp_region_held_drew (S := CS w ⟨rn, rk, rv, rr⟩) (by kernel_rfl) ?_ (fun hHeld => ?_)
  · exact HCS.out.drew
  generalize World.drew _ = w1 at hHeld ⊢
  refine wpAnyH_take (i := 0) (oi := _) (v := ?_) rfl (by kernel_rfl) (by kernel_rfl) (by kernel_rfl) (fun _ _ _ h => h) (Or.inl ⟨by rfl, ?_⟩) (by assumption) ?_
  rotate_left
  · rintro w ⟨s0, s1, s2, s3, s4⟩
    go_simp
    try with_reducible rfl
  try simp only [Act.put, List.setIfInBounds_toArray, List.set_cons_zero, List.set_cons_succ]
  refine wpAnyH_take (i := 1) (oi := _) (v := ?_) rfl (by kernel_rfl) (by kernel_rfl) (by kernel_rfl) (fun _ _ _ h => h) (Or.inl ⟨by rfl, ?_⟩) (by assumption) ?_
  rotate_left
  · rintro w ⟨s0, s1, s2, s3, s4⟩
    go_simp
    try with_reducible rfl
  try simp only [Act.put, List.setIfInBounds_toArray, List.set_cons_zero, List.set_cons_succ]
  refine wpAnyH_take (i := 2) (oi := _) (v := ?_) rfl (by kernel_rfl) (by kernel_rfl) (by kernel_rfl) (fun _ _ _ h => h) (Or.inl ⟨by rfl, ?_⟩) (by assumption) ?_
  rotate_left
  · rintro w ⟨s0, s1, s2, s3, s4⟩
    go_simp
    try with_reducible rfl
  try simp only [Act.put, List.setIfInBounds_toArray, List.set_cons_zero, List.set_cons_succ]
  refine wpAnyH_take (i := 5) (oi := _) (v := ?_) rfl (by kernel_rfl) (by kernel_rfl) (by kernel_rfl) (fun _ _ _ h => h) (Or.inl ⟨by rfl, ?_⟩) (by assumption) ?_
  rotate_left
  · rintro w ⟨s0, s1, s2, s3, s4⟩
    go_simp
    try with_reducible rfl
  try simp only [Act.put, List.setIfInBounds_toArray, List.set_cons_zero, List.set_cons_succ]
  refine wpAnyH_ready (rs := [3, 4]) (by kernel_rfl) (by simp) ?_
  refine AllReadyH.cons (o := _) rfl (fun K hKK => ?_) (AllReadyH.cons (o := _) rfl (fun K hKK => ?_) AllReadyH.nil)
  ·
    go_simp
    go_at_call 83
    refine (HE.out _ hHeld).mono ?_
    rintro e w2 ⟨rfl, hb2⟩
    have hH2 := hHeld.below hb2
    go_wp2_with fail
    refine hKK.out _ _ ?_ (fun hHeld => ?_)
    · exact hH2
    clear hKK K
    try simp only [Act.put, List.setIfInBounds_toArray, List.set_cons_zero, List.set_cons_succ]
    refine wpAnyH_ready (rs := [4]) (by kernel_rfl) (by simp) ?_
    refine AllReadyH.cons (o := _) rfl (fun K hKK => ?_) AllReadyH.nil
    go_simp
    have hH3 := hH2.alloc (.map #[] 0)
    have hN3 := Named.made w2
    have hM : w.heap.size < w2.heap.size := hH2.2.2.2.2.2
    refine hKK.out _ _ ?_ (fun hHeld => ?_)
    · exact hH3
    clear hKK K
    try simp only [Act.put, List.setIfInBounds_toArray, List.set_cons_zero, List.set_cons_succ]
    refine wpAnyH_ready (rs := [6]) (by kernel_rfl) (by simp) ?_
    refine AllReadyH.cons (o := _) rfl (fun K hKK => ?_) AllReadyH.nil
    go_simp
    go_at_call 86
    refine (HR.out _ _ hN3 (Nat.le_trans hG hH3.2.2.2.2.1.size)).mono ?_
    rintro e w5 ⟨rfl, hN5, hb5⟩
    have hH5 := hH3.grown hb5 hM
    go_wp2_with fail
    refine hKK.out _ _ ?_ (fun hHeld => ?_)
    · exact hH5
    clear hKK K
    try simp only [Act.put, List.setIfInBounds_toArray, List.set_cons_zero, List.set_cons_succ]
    refine wpAnyH_ready (rs := [7]) (by kernel_rfl) (by simp) ?_
    refine AllReadyH.cons (o := _) rfl (fun K hKK => ?_) AllReadyH.nil
    go_simp
    have hH6 := hH5.alloc (.cells #[.int .i64 ea, .int .i64 er] 28)
    refine hKK.out _ _ ?_ (fun hHeld => ?_)
    · exact hH6
    clear hKK K
    try simp only [Act.put, List.setIfInBounds_toArray, List.set_cons_zero, List.set_cons_succ]
    refine wpAnyH_ready (rs := [8]) (by kernel_rfl) (by simp) ?_
    refine AllReadyH.cons (o := _) rfl (fun K hKK => ?_) AllReadyH.nil
    go_simp
    go_at_call 62
    refine (HF.out _ _ (es2 _ _ _ _)).mono ?_
    rintro e w6 ⟨rfl, rfl⟩
    go_wp2_with fail
    refine hKK.out _ _ ?_ (fun hHeld => ?_)
    · exact hH6
    clear hKK K
    try simp only [Act.put, List.setIfInBounds_toArray, List.set_cons_zero, List.set_cons_succ]
    refine wpAnyH_ready (rs := [9]) (by kernel_rfl) (by simp) ?_
    refine AllReadyH.cons (o := _) rfl (fun K hKK => ?_) AllReadyH.nil
    go_simp
    refine hKK.out _ _ ?_ (fun hHeld => ?_)
    · exact hH6
    clear hKK K
    try simp only [Act.put, List.setIfInBounds_toArray, List.set_cons_zero, List.set_cons_succ]
    refine wpAnyH_done (by kernel_rfl) ?_ _
    unfold NormOnly
    generalize World.alloc w5 _ = W at hH6 ⊢
    generalize w5.heap.size = g5
    generalize w2.heap.size = gM
    obtain ⟨c0, c1, c2, c3, hbW, hlW⟩ := hH6
    clear hHeld
    gi_wp2_with (refine ⟨trivial, ?_⟩; gi_at_call 87; refine (callsIn_wide.2 (HP.out _ hbW)).mono ?_; rintro e w2 (⟨LL', g2, hRS, rfl, hG2, hl2, hb2⟩ | ⟨hRS, rfl, hb2⟩))
    · have hbw2 : Below w.heap.size w w2 := hbW.trans (hb2.mono hbW.size)
      refine ⟨trivial, ?_⟩
      refine (callsIn_wide.2 (HW.out _ hbw2)).mono ?_
      rintro e w3 ⟨M1, m1, rfl, hN1, hM1, hb3⟩
      have hbw3 : Below w.heap.size w w3 := hbw2.trans (hb3.mono hbw2.size)
      have hZ2 : RHeats w3 w3.heap.size (some ⟨g2, 0, none⟩) n LL' := (GrowH.heats hG2 hl2).below hb3 (Nat.le_refl _) |>.up (by exact hb3.size) (Nat.le_refl _)
      have hK2 := (replS_keeps hRS HS.out HRok.out)
      have hW2 := callsIn_wide (n := 2).2 (whoAdvances_any LL' n n (some ⟨g2, 0, none⟩) w3.heap.size p t w3 hZ2 hn hK2.1 (by rw [hK2.2]; exact HL.out))
      dsimp only
      have hAR := fun A N cap w => callsIn_wide (n := 2).2 (allRunner_any A N cap w)
      gi_wp2_with (first | (refine ⟨trivial, ?_⟩; gi_at_call 88; refine hW2.mono ?_; rintro e w4 ⟨M2, m2, rfl, hN2, hM2, hb4⟩) | (refine ⟨trivial, ?_⟩; gi_at_call 89; refine (hAR _ _ _ _).mono ?_; rintro e w' ⟨rfl, rfl⟩))
      have hbw4 : Below w.heap.size w w4 := hbw3.trans (hb4.mono hbw3.size)
      have hN1' : Named w4 M1 m1 (advN LL p t) := hN1.kept (hb4.block _ hN1.lt)
      have HNN : Hid (Named w4 M1 m1 (advN LL p t) ∧ Named w4 M2 m2 (advN LL' p t)) := Lib.hid ⟨hN1', hN2⟩
      obtain ⟨ch, hch⟩ : ∃ ch : ByteArray → Bool, ch = fun s => isIn (advN LL p t) s != isIn (advN LL' p t) s := ⟨_, rfl⟩
      have HCH := Lib.hid hch
      clear hch
      obtain ⟨hI0, hBn, hsz⟩ := chg_start w4 M1 M2 n ch (.slice A n cap)
      have hZ0 := HZ.out.below (hbw4.trans (hI0.2.2.2.1.mono hbw4.size)) HZ.out.2.1
      obtain ⟨b, off, Af, cf, hX⟩ := RHx.of hZ0
      have HFIN : Hid ((replS { name := rn, kind := rk, value := rv, reason := rr } LL = some LL') ∧ Below w.heap.size w w4) := Lib.hid ⟨hRS, hbw4⟩
      have HIN : Hid (w.heap.size ≤ w4.heap.size ∧ B ≤ w.heap.size) := Lib.hid ⟨hbw4.size, HZ.out.2.1⟩
      clear hN1 hN2 hN1' hb3 hb4 hZ2 hK2 hW2 hAR hG2 hl2 hb2 hRS hM1 hM2 hbw2 hbw3 hbw4 hZ0 HP HW HE HR HCS HF c0 c1 c2 c3 hbW hlW
      generalize hWW : ((((w4.alloc (.cells #[.map (some M1)] 115)).alloc (.cells #[.map (some M2)] 115)).alloc (.cells #[.slice none 0 0] 68)).alloc (.cells #[.slice A n cap] 58)) = W0 at hI0 hBn hsz hX ⊢
      obtain ⟨n4, hn4⟩ : ∃ n4, n4 = w4.heap.size := ⟨_, rfl⟩
      rw [← hn4] at hI0 hBn hsz ⊢
      have e2 : n4 + 1 + 1 = n4 + 2 := rfl
      have e3 : n4 + 1 + 1 + 1 = n4 + 3 := rfl
      rw [← hn4] at HIN
      have h4l : n4 ≤ w4.heap.size := Nat.le_of_eq hn4
      have HN4 := Lib.hid hn4
      clear hn4
      simp only [e3, e2]
      clear hWW
      refine wpIn_rangeFunc_ownH rfl (by omega) (gf := 121) (lb := #[.pointer (some ⟨n4 + 3, 0, none⟩)]) rfl trivial (enters_of Tryz.func121 (by kernel_rfl) rfl)
        (all_stops _ (by omega) (n4 + 3) n B B cap b off A LL Af cf (by omega) (fun q hq => ⟨by have := (HS.out q hq).1; omega, (HS.out q hq).2⟩) W0 (by omega) hBn hX) Kx.trans (fun W l o o' hl _ _ _ => Kx.putObj W l o' (by have := HIN.out; omega)) (Below.refl _ _) (fun _ => rfl)
        (ChgI w4 n4 M1 M2 n ch) (fun _ _ _ => False) (ChgI.own w4 n4 M1 M2 n _ ch (by omega) (by omega)) (fun c s A C row hs hg hr => hs) hI0
        (fun x a' W => ∃ Bx, RunBox W Bx x.1.2 ∧ n4 + 4 ≤ Bx ∧ a' = { tmps := #[.slice A n cap, .int .i64 p, .int .i64 t, .agg #[.string rn, .string rk, .int .i64 rv, .string rr], undef, undef, undef, .pointer (some ⟨w.heap.size, 0, none⟩), .slice none 0 0, .int .i64 0, .int .i64 0, .slice (some ⟨g2, 0, none⟩) n n, .bool true, .pointer (some ⟨n4, 0, none⟩), .pointer (some ⟨n4 + 1, 0, none⟩), .pointer (some ⟨n4 + 2, 0, none⟩), undef, .pointer (some ⟨Bx, 0, none⟩), .slice A n cap, .int .i64 p, .int .i64 t, .int .i64 ea, .map (some gM), .agg #[.string rn, .string rk, .int .i64 rv, .string rr], .int .i64 er, .slice (some ⟨g5, 0, none⟩) 2 2, .int .i64 0, .int .i64 0, .bool false, undef, .tuple #[.slice (some ⟨g2, 0, none⟩) n n, .bool true], .slice A n cap, .agg #[.string rn, .string rk, .int .i64 rv, .string rr], .tuple #[.slice (some ⟨g2, 0, none⟩) n n, .bool true], .slice (some ⟨g2, 0, none⟩) n n, .bool true, .bool true, .bool false, .slice A n cap, .int .i64 p, .int .i64 t, .map (some M1), .slice (some ⟨g2, 0, none⟩) n n, .int .i64 p, .int .i64 t, .map (some M2), .slice A n cap, .func (.func 121) #[] #[.pointer (some ⟨n4 + 3, 0, none⟩)], .int .i64 x.1.1, x.1.2.agg, undef, undef, undef, undef, undef, undef, undef, undef, undef, undef, undef, undef, undef, undef, undef], defers := [] })
        (fun x a' s X Y row hs hg hr => by obtain ⟨Bx, h1, h2⟩ := hs; exact ⟨Bx, RunBox.own Bx _ _ () X Y row h1 hg hr, h2⟩) ?assign ?body ?done ?stop
      case assign => 
        rintro l pre ⟨⟨i, ⟨nm, kd, v, r⟩⟩, hx⟩ W K h1 hK
        dsimp only [Run.agg] at *
        gi_wp2
        refine hK _ _ ((KeepsOthers.alloc _ _).from _) ((Kx.refl _ _ _).alloc (by have := HIN.out; have := h1.2.2.2.2; omega) _) ((ChgI.own w4 n4 M1 M2 n (n4 + 4) ch (by omega) (by omega)).alloc _ h1) ⟨W.heap.size, RunBox.new W ⟨nm, kd, v, r⟩, h1.2.2.2.2, rfl⟩
      case body => 
        rintro l pre ⟨⟨i, ⟨nm, kd, v, r⟩⟩, hx⟩ a' W hl ⟨rr', hr⟩ ⟨⟨vv, hv, hrow, _⟩, hB1, hB2, hbl, hsW⟩ ⟨Bx, hB, hBx, rfl⟩ hlt
        have hz : nm.size ≤ maxLen := hx.2
        have k1 := (HNN.out.1.kept (hbl.block _ (by have := HNN.out.1.lt; have := HN4.out; omega))).look nm hz
        have k2 := (HNN.out.2.kept (hbl.block _ (by have := HNN.out.2.lt; have := HN4.out; omega))).look nm hz
        have hchn : ch nm = (isIn (advN LL p t) nm != isIn (advN LL' p t) nm) := by rw [HCH.out]
        generalize isIn (advN LL p t) nm = b1 at k1 hchn
        generalize isIn (advN LL' p t) nm = b2 at k2 hchn
        have d1 := hB1.cell
        have d2 := hB2.cell
        have d3 := hv.cell
        have d4 := hv.frozen
        obtain ⟨c0, -, -, -⟩ := hB.cells
        simp only at c0
        dsimp only [Run.agg]
        obtain ⟨i0, hi, hz0, hz1, hz2⟩ := info_parts infoS
        have hsame : (b1 != b2) = false → ChgI w4 n4 M1 M2 n ch (pre ++ [⟨(i, ⟨nm, kd, v, r⟩), hx⟩]) W := fun h => by
          refine ⟨⟨vv, hv, ?_, trivial⟩, hB1, hB2, hbl, hsW⟩
          rw [cN_miss pre _ (hchn.trans h)]
          exact hrow
        have hlen : (cN ch pre).length ≤ 1000 := by have := cN_len ch pre; have := HL.out; omega
        have hb4 : n4 ≤ W.heap.size := by omega
        have hBn4 : B ≤ n4 := by have := HIN.out; omega
        have Hlt := Lib.hid hlt
        clear hlt
        cases b1 <;> cases b2
        · clear hchn
          gi_wp2
          exact ⟨(KeepsOthers.refl _).from _, Kx.refl _ _ _, hsame rfl⟩
        iterate 2
          · clear hsame
            gi_wp2_with (gi_at_builtin; refine wpListIn_append_own _ rfl _ _ 68 rfl n4 9 i0 (.string ⟨#[]⟩) 1 16 Tryz.underlying68 hi hz0 hz1 hz2 rfl (by decide) _ _ _ rfl (World.ownsRow.alloc hrow _) ⟨W.heap.size, 0, none⟩ 1 1 [.string nm] rfl rfl (new1 _) (by intro u hu; simp at hu; subst hu; rfl) (by unfold maxLen; omega) (by omega) (by simp; omega) ?_)
            intro v' u1 hown' hgrow _
            obtain ⟨a1, a2, a3, a4, a5⟩ := hv.appended (by decide) hrow hb4 (by omega) hown' hgrow
            have q1 := ((hB1.alloc _).kept hgrow (hB1.not_row (by decide) hrow)).kept (grownBy_setCell' u1 (n4 + 2) v') (by simp)
            have q2 := ((hB2.alloc _).kept hgrow (hB2.not_row (by decide) hrow)).kept (grownBy_setCell' u1 (n4 + 2) v') (by simp)
            have f1 := a1.cell
            have f2 := a1.frozen
            obtain ⟨g', cap', rfl⟩ := ownsRow_succ hown'
            have HR3 := Lib.hid (And.intro a3 (And.intro a4 a5))
            have HR4 := Lib.hid (And.intro a2 (And.intro q1 q2))
            clear hown' hgrow a1 a2 a3 a4 a5 q1 q2 d1 d2 d3 d4 c0 hrow k1 k2
            gi_wp2
            refine ⟨HR3.out.2.1.from _, Kx.of_below (HR3.out.2.2.mono hBn4), ⟨_, HR4.out.1, ?_, trivial⟩, HR4.out.2.1, HR4.out.2.2, hbl.trans HR3.out.2.2, Nat.le_trans hsW HR3.out.2.2.size⟩
            have := HR3.out.1
            rw [cN_hit pre _ hchn, List.length_append, List.map_append]
            exact this
        · clear hchn
          gi_wp2
          exact ⟨(KeepsOthers.refl _).from _, Kx.refl _ _ _, hsame rfl⟩
      case done =>
        rintro D ys W hD hS ⟨⟨vv, hv, hrow, _⟩, hB1, hB2, hbl, hsW⟩ hK
        obtain ⟨a', c', rfl⟩ := OwnNames.shape (L := cN ch ys) hrow
        have d3 := hv.cell
        have hNm : cN ch ys = chgN LL LL' p t := by
          unfold cN chgN
          have e1 : (ys.map fun x => x.1.2.name) = ((ys.map (·.1)).map (·.2)).map Run.name := by rw [List.map_map, List.map_map]; rfl
          rw [e1, hS, prs_snd, HCH.out]
        rw [hNm] at hrow d3 hv
        have HFF : Hid (OwnNames W n4 (.slice a' (chgN LL LL' p t).length c') (chgN LL LL' p t)) := Lib.hid hrow
        clear hrow hB1 hB2 hv hS hNm
        gi_wp2
        refine ⟨by simp, .inl ⟨_, _, rfl, run_takeDeferred hK, ?_⟩⟩
        refine ⟨_, results_tmp2 rfl _ _ _, ?_⟩
        rw [← hCP]
        refine .inr ⟨LL', _, HFIN.out.1, rfl, ?_, ?_⟩
        · exact (ownsRow_putObj (HFF.out.low HIN.out.1) _ hK rfl)
        · exact (HFIN.out.2.trans (hbl.mono HIN.out.1)).trans (belowK_b (w := w) (Nat.le_refl _) W D _ _ (by have := HIN.out; omega) hK rfl rfl)
      case stop =>
        rintro D c pre W hD _ hs hK
        exact hs.elim
    · refine ⟨_, results_tmp2 rfl _ _ _, ?_⟩
      rw [← hCP]
      exact .inl ⟨hRS, rfl, hbW.trans (hb2.mono hbW.size)⟩
  ·
    go_simp
    have hH2 := hHeld.alloc (.map #[] 0)
    have hM := hHeld.2.2.2.2.2
    refine hKK.out _ _ ?_ (fun hHeld => ?_)
    · exact hH2
    clear hKK K
    try simp only [Act.put, List.setIfInBounds_toArray, List.set_cons_zero, List.set_cons_succ]
    refine wpAnyH_ready (rs := [3]) (by kernel_rfl) (by simp) ?_
    refine AllReadyH.cons (o := _) rfl (fun K hKK => ?_) AllReadyH.nil
    go_simp
    go_at_call 83
    refine (HE.out _ hH2).mono ?_
    rintro e w4 ⟨rfl, hb2⟩
    have hH3 := hH2.below hb2
    have hN3 := (Named.made w1).kept (hb2.block _ (Named.made w1).lt)
    go_wp2_with fail
    refine hKK.out _ _ ?_ (fun hHeld => ?_)
    · exact hH3
    clear hKK K
    try simp only [Act.put, List.setIfInBounds_toArray, List.set_cons_zero, List.set_cons_succ]
    refine wpAnyH_ready (rs := [6]) (by kernel_rfl) (by simp) ?_
    refine AllReadyH.cons (o := _) rfl (fun K hKK => ?_) AllReadyH.nil
    go_simp
    go_at_call 86
    refine (HR.out _ _ hN3 (Nat.le_trans hG hH3.2.2.2.2.1.size)).mono ?_
    rintro e w5 ⟨rfl, hN5, hb5⟩
    have hH5 := hH3.grown hb5 hM
    go_wp2_with fail
    refine hKK.out _ _ ?_ (fun hHeld => ?_)
    · exact hH5
    clear hKK K
    try simp only [Act.put, List.setIfInBounds_toArray, List.set_cons_zero, List.set_cons_succ]
    refine wpAnyH_ready (rs := [7]) (by kernel_rfl) (by simp) ?_
    refine AllReadyH.cons (o := _) rfl (fun K hKK => ?_) AllReadyH.nil
    go_simp
    have hH6 := hH5.alloc (.cells #[.int .i64 ea, .int .i64 er] 28)
    refine hKK.out _ _ ?_ (fun hHeld => ?_)
    · exact hH6
    clear hKK K
    try simp only [Act.put, List.setIfInBounds_toArray, List.set_cons_zero, List.set_cons_succ]
    refine wpAnyH_ready (rs := [8]) (by kernel_rfl) (by simp) ?_
    refine AllReadyH.cons (o := _) rfl (fun K hKK => ?_) AllReadyH.nil
    go_simp
    go_at_call 62
    refine (HF.out _ _ (es2 _ _ _ _)).mono ?_
    rintro e w6 ⟨rfl, rfl⟩
    go_wp2_with fail
    refine hKK.out _ _ ?_ (fun hHeld => ?_)
    · exact hH6
    clear hKK K
    try simp only [Act.put, List.setIfInBounds_toArray, List.set_cons_zero, List.set_cons_succ]
    refine wpAnyH_ready (rs := [9]) (by kernel_rfl) (by simp) ?_
    refine AllReadyH.cons (o := _) rfl (fun K hKK => ?_) AllReadyH.nil
    go_simp
    refine hKK.out _ _ ?_ (fun hHeld => ?_)
    · exact hH6
    clear hKK K
    try simp only [Act.put, List.setIfInBounds_toArray, List.set_cons_zero, List.set_cons_succ]
    refine wpAnyH_done (by kernel_rfl) ?_ _
    unfold NormOnly
    generalize World.alloc w5 _ = W at hH6 ⊢
    generalize w5.heap.size = g5
    generalize w1.heap.size = gM
    obtain ⟨c0, c1, c2, c3, hbW, hlW⟩ := hH6
    clear hHeld
    gi_wp2_with (refine ⟨trivial, ?_⟩; gi_at_call 87; refine (callsIn_wide.2 (HP.out _ hbW)).mono ?_; rintro e w2 (⟨LL', g2, hRS, rfl, hG2, hl2, hb2⟩ | ⟨hRS, rfl, hb2⟩))
    · have hbw2 : Below w.heap.size w w2 := hbW.trans (hb2.mono hbW.size)
      refine ⟨trivial, ?_⟩
      refine (callsIn_wide.2 (HW.out _ hbw2)).mono ?_
      rintro e w3 ⟨M1, m1, rfl, hN1, hM1, hb3⟩
      have hbw3 : Below w.heap.size w w3 := hbw2.trans (hb3.mono hbw2.size)
      have hZ2 : RHeats w3 w3.heap.size (some ⟨g2, 0, none⟩) n LL' := (GrowH.heats hG2 hl2).below hb3 (Nat.le_refl _) |>.up (by exact hb3.size) (Nat.le_refl _)
      have hK2 := (replS_keeps hRS HS.out HRok.out)
      have hW2 := callsIn_wide (n := 2).2 (whoAdvances_any LL' n n (some ⟨g2, 0, none⟩) w3.heap.size p t w3 hZ2 hn hK2.1 (by rw [hK2.2]; exact HL.out))
      dsimp only
      have hAR := fun A N cap w => callsIn_wide (n := 2).2 (allRunner_any A N cap w)
      gi_wp2_with (first | (refine ⟨trivial, ?_⟩; gi_at_call 88; refine hW2.mono ?_; rintro e w4 ⟨M2, m2, rfl, hN2, hM2, hb4⟩) | (refine ⟨trivial, ?_⟩; gi_at_call 89; refine (hAR _ _ _ _).mono ?_; rintro e w' ⟨rfl, rfl⟩))
      have hbw4 : Below w.heap.size w w4 := hbw3.trans (hb4.mono hbw3.size)
      have hN1' : Named w4 M1 m1 (advN LL p t) := hN1.kept (hb4.block _ hN1.lt)
      have HNN : Hid (Named w4 M1 m1 (advN LL p t) ∧ Named w4 M2 m2 (advN LL' p t)) := Lib.hid ⟨hN1', hN2⟩
      obtain ⟨ch, hch⟩ : ∃ ch : ByteArray → Bool, ch = fun s => isIn (advN LL p t) s != isIn (advN LL' p t) s := ⟨_, rfl⟩
      have HCH := Lib.hid hch
      clear hch
      obtain ⟨hI0, hBn, hsz⟩ := chg_start w4 M1 M2 n ch (.slice A n cap)
      have hZ0 := HZ.out.below (hbw4.trans (hI0.2.2.2.1.mono hbw4.size)) HZ.out.2.1
      obtain ⟨b, off, Af, cf, hX⟩ := RHx.of hZ0
      have HFIN : Hid ((replS { name := rn, kind := rk, value := rv, reason := rr } LL = some LL') ∧ Below w.heap.size w w4) := Lib.hid ⟨hRS, hbw4⟩
      have HIN : Hid (w.heap.size ≤ w4.heap.size ∧ B ≤ w.heap.size) := Lib.hid ⟨hbw4.size, HZ.out.2.1⟩
      clear hN1 hN2 hN1' hb3 hb4 hZ2 hK2 hW2 hAR hG2 hl2 hb2 hRS hM1 hM2 hbw2 hbw3 hbw4 hZ0 HP HW HE HR HCS HF c0 c1 c2 c3 hbW hlW
      generalize hWW : ((((w4.alloc (.cells #[.map (some M1)] 115)).alloc (.cells #[.map (some M2)] 115)).alloc (.cells #[.slice none 0 0] 68)).alloc (.cells #[.slice A n cap] 58)) = W0 at hI0 hBn hsz hX ⊢
      obtain ⟨n4, hn4⟩ : ∃ n4, n4 = w4.heap.size := ⟨_, rfl⟩
      rw [← hn4] at hI0 hBn hsz ⊢
      have e2 : n4 + 1 + 1 = n4 + 2 := rfl
      have e3 : n4 + 1 + 1 + 1 = n4 + 3 := rfl
      rw [← hn4] at HIN
      have h4l : n4 ≤ w4.heap.size := Nat.le_of_eq hn4
      have HN4 := Lib.hid hn4
      clear hn4
      simp only [e3, e2]
      clear hWW
      refine wpIn_rangeFunc_ownH rfl (by omega) (gf := 121) (lb := #[.pointer (some ⟨n4 + 3, 0, none⟩)]) rfl trivial (enters_of Tryz.func121 (by kernel_rfl) rfl)
        (all_stops _ (by omega) (n4 + 3) n B B cap b off A LL Af cf (by omega) (fun q hq => ⟨by have := (HS.out q hq).1; omega, (HS.out q hq).2⟩) W0 (by omega) hBn hX) Kx.trans (fun W l o o' hl _ _ _ => Kx.putObj W l o' (by have := HIN.out; omega)) (Below.refl _ _) (fun _ => rfl)
        (ChgI w4 n4 M1 M2 n ch) (fun _ _ _ => False) (ChgI.own w4 n4 M1 M2 n _ ch (by omega) (by omega)) (fun c s A C row hs hg hr => hs) hI0
        (fun x a' W => ∃ Bx, RunBox W Bx x.1.2 ∧ n4 + 4 ≤ Bx ∧ a' = { tmps := #[.slice A n cap, .int .i64 p, .int .i64 t, .agg #[.string rn, .string rk, .int .i64 rv, .string rr], undef, undef, undef, .pointer (some ⟨w.heap.size, 0, none⟩), .slice none 0 0, .int .i64 0, .int .i64 0, .slice (some ⟨g2, 0, none⟩) n n, .bool true, .pointer (some ⟨n4, 0, none⟩), .pointer (some ⟨n4 + 1, 0, none⟩), .pointer (some ⟨n4 + 2, 0, none⟩), undef, .pointer (some ⟨Bx, 0, none⟩), .slice A n cap, .int .i64 p, .int .i64 t, .int .i64 ea, .map (some gM), .agg #[.string rn, .string rk, .int .i64 rv, .string rr], .int .i64 er, .slice (some ⟨g5, 0, none⟩) 2 2, .int .i64 0, .int .i64 0, .bool false, undef, .tuple #[.slice (some ⟨g2, 0, none⟩) n n, .bool true], .slice A n cap, .agg #[.string rn, .string rk, .int .i64 rv, .string rr], .tuple #[.slice (some ⟨g2, 0, none⟩) n n, .bool true], .slice (some ⟨g2, 0, none⟩) n n, .bool true, .bool true, .bool false, .slice A n cap, .int .i64 p, .int .i64 t, .map (some M1), .slice (some ⟨g2, 0, none⟩) n n, .int .i64 p, .int .i64 t, .map (some M2), .slice A n cap, .func (.func 121) #[] #[.pointer (some ⟨n4 + 3, 0, none⟩)], .int .i64 x.1.1, x.1.2.agg, undef, undef, undef, undef, undef, undef, undef, undef, undef, undef, undef, undef, undef, undef, undef], defers := [] })
        (fun x a' s X Y row hs hg hr => by obtain ⟨Bx, h1, h2⟩ := hs; exact ⟨Bx, RunBox.own Bx _ _ () X Y row h1 hg hr, h2⟩) ?assign ?body ?done ?stop
      case assign => 
        rintro l pre ⟨⟨i, ⟨nm, kd, v, r⟩⟩, hx⟩ W K h1 hK
        dsimp only [Run.agg] at *
        gi_wp2
        refine hK _ _ ((KeepsOthers.alloc _ _).from _) ((Kx.refl _ _ _).alloc (by have := HIN.out; have := h1.2.2.2.2; omega) _) ((ChgI.own w4 n4 M1 M2 n (n4 + 4) ch (by omega) (by omega)).alloc _ h1) ⟨W.heap.size, RunBox.new W ⟨nm, kd, v, r⟩, h1.2.2.2.2, rfl⟩
      case body => 
        rintro l pre ⟨⟨i, ⟨nm, kd, v, r⟩⟩, hx⟩ a' W hl ⟨rr', hr⟩ ⟨⟨vv, hv, hrow, _⟩, hB1, hB2, hbl, hsW⟩ ⟨Bx, hB, hBx, rfl⟩ hlt
        have hz : nm.size ≤ maxLen := hx.2
        have k1 := (HNN.out.1.kept (hbl.block _ (by have := HNN.out.1.lt; have := HN4.out; omega))).look nm hz
        have k2 := (HNN.out.2.kept (hbl.block _ (by have := HNN.out.2.lt; have := HN4.out; omega))).look nm hz
        have hchn : ch nm = (isIn (advN LL p t) nm != isIn (advN LL' p t) nm) := by rw [HCH.out]
        generalize isIn (advN LL p t) nm = b1 at k1 hchn
        generalize isIn (advN LL' p t) nm = b2 at k2 hchn
        have d1 := hB1.cell
        have d2 := hB2.cell
        have d3 := hv.cell
        have d4 := hv.frozen
        obtain ⟨c0, -, -, -⟩ := hB.cells
        simp only at c0
        dsimp only [Run.agg]
        obtain ⟨i0, hi, hz0, hz1, hz2⟩ := info_parts infoS
        have hsame : (b1 != b2) = false → ChgI w4 n4 M1 M2 n ch (pre ++ [⟨(i, ⟨nm, kd, v, r⟩), hx⟩]) W := fun h => by
          refine ⟨⟨vv, hv, ?_, trivial⟩, hB1, hB2, hbl, hsW⟩
          rw [cN_miss pre _ (hchn.trans h)]
          exact hrow
        have hlen : (cN ch pre).length ≤ 1000 := by have := cN_len ch pre; have := HL.out; omega
        have hb4 : n4 ≤ W.heap.size := by omega
        have hBn4 : B ≤ n4 := by have := HIN.out; omega
        have Hlt := Lib.hid hlt
        clear hlt
        cases b1 <;> cases b2
        · clear hchn
          gi_wp2
          exact ⟨(KeepsOthers.refl _).from _, Kx.refl _ _ _, hsame rfl⟩
        iterate 2
          · clear hsame
            gi_wp2_with (gi_at_builtin; refine wpListIn_append_own _ rfl _ _ 68 rfl n4 9 i0 (.string ⟨#[]⟩) 1 16 Tryz.underlying68 hi hz0 hz1 hz2 rfl (by decide) _ _ _ rfl (World.ownsRow.alloc hrow _) ⟨W.heap.size, 0, none⟩ 1 1 [.string nm] rfl rfl (new1 _) (by intro u hu; simp at hu; subst hu; rfl) (by unfold maxLen; omega) (by omega) (by simp; omega) ?_)
            intro v' u1 hown' hgrow _
            obtain ⟨a1, a2, a3, a4, a5⟩ := hv.appended (by decide) hrow hb4 (by omega) hown' hgrow
            have q1 := ((hB1.alloc _).kept hgrow (hB1.not_row (by decide) hrow)).kept (grownBy_setCell' u1 (n4 + 2) v') (by simp)
            have q2 := ((hB2.alloc _).kept hgrow (hB2.not_row (by decide) hrow)).kept (grownBy_setCell' u1 (n4 + 2) v') (by simp)
            have f1 := a1.cell
            have f2 := a1.frozen
            obtain ⟨g', cap', rfl⟩ := ownsRow_succ hown'
            have HR3 := Lib.hid (And.intro a3 (And.intro a4 a5))
            have HR4 := Lib.hid (And.intro a2 (And.intro q1 q2))
            clear hown' hgrow a1 a2 a3 a4 a5 q1 q2 d1 d2 d3 d4 c0 hrow k1 k2
            gi_wp2
            refine ⟨HR3.out.2.1.from _, Kx.of_below (HR3.out.2.2.mono hBn4), ⟨_, HR4.out.1, ?_, trivial⟩, HR4.out.2.1, HR4.out.2.2, hbl.trans HR3.out.2.2, Nat.le_trans hsW HR3.out.2.2.size⟩
            have := HR3.out.1
            rw [cN_hit pre _ hchn, List.length_append, List.map_append]
            exact this
        · clear hchn
          gi_wp2
          exact ⟨(KeepsOthers.refl _).from _, Kx.refl _ _ _, hsame rfl⟩
      case done =>
        rintro D ys W hD hS ⟨⟨vv, hv, hrow, _⟩, hB1, hB2, hbl, hsW⟩ hK
        obtain ⟨a', c', rfl⟩ := OwnNames.shape (L := cN ch ys) hrow
        have d3 := hv.cell
        have hNm : cN ch ys = chgN LL LL' p t := by
          unfold cN chgN
          have e1 : (ys.map fun x => x.1.2.name) = ((ys.map (·.1)).map (·.2)).map Run.name := by rw [List.map_map, List.map_map]; rfl
          rw [e1, hS, prs_snd, HCH.out]
        rw [hNm] at hrow d3 hv
        have HFF : Hid (OwnNames W n4 (.slice a' (chgN LL LL' p t).length c') (chgN LL LL' p t)) := Lib.hid hrow
        clear hrow hB1 hB2 hv hS hNm
        gi_wp2
        refine ⟨by simp, .inl ⟨_, _, rfl, run_takeDeferred hK, ?_⟩⟩
        refine ⟨_, results_tmp2 rfl _ _ _, ?_⟩
        rw [← hCP]
        refine .inr ⟨LL', _, HFIN.out.1, rfl, ?_, ?_⟩
        · exact (ownsRow_putObj (HFF.out.low HIN.out.1) _ hK rfl)
        · exact (HFIN.out.2.trans (hbl.mono HIN.out.1)).trans (belowK_b (w := w) (Nat.le_refl _) W D _ _ (by have := HIN.out; omega) hK rfl rfl)
      case stop =>
        rintro D c pre W hD _ hs hK
        exact hs.elim
    · refine ⟨_, results_tmp2 rfl _ _ _, ?_⟩
      rw [← hCP]
      exact .inl ⟨hRS, rfl, hbW.trans (hb2.mono hbW.size)⟩
end Go.Mk
