/-
  Proved: seed.copyOf returns new heats with the same runners. Conditions: the runners lie where the slices say; at most 20 heats, each at most 1,000 long, at most 10,000 runners.
-/
import Derived.Test.YtkjolejppnogiaaGreatDoorJa
set_option linter.unusedVariables false
set_option linter.unusedSimpArgs false
open Go Go.Proofs Go.RowKit Go.Sort Go.Shelf Go.Maps Go.WideMaps
set_option maxRecDepth 100000
namespace Go.Mk
attribute [local go_sem] Oper.semAt_some
/-- The runners of one heat among numbered ones. -/
def rowAt {N : Nat} (pre : List (HRun N)) (i : Nat) : List Run := (pre.filter fun q => decide (q.1.1 = i)).map fun q => q.1.2
theorem flatten_le' (m : Nat) : ∀ (LL : List (List Run)), (∀ l ∈ LL, l.length ≤ m) → LL.flatten.length ≤ m * LL.length
  | [], _ => by simp
  | l :: LL, h => by
    have h1 := h l (by simp)
    have h2 := flatten_le' m LL (fun q hq => h q (by simp [hq]))
    rw [List.flatten_cons, List.length_append, List.length_cons, Nat.mul_add]
    omega
theorem rowAt_snoc {N : Nat} (pre : List (HRun N)) (x : HRun N) (i : Nat) : rowAt (pre ++ [x]) i = rowAt pre i ++ (if x.1.1 = i then [x.1.2] else []) := by
  unfold rowAt
  rw [List.filter_append, List.map_append]
  by_cases h : x.1.1 = i <;> simp [h]
theorem prs_fst (i : Nat) (LL : List (List Run)) : ∀ q ∈ prs i LL, i ≤ q.1 := by
  induction LL generalizing i with
  | nil => intro q hq; cases hq
  | cons l L ih =>
    intro q hq
    rw [prs] at hq
    rcases List.mem_append.1 hq with h | h
    · obtain ⟨x, _, rfl⟩ := List.mem_map.1 h
      exact Nat.le_refl _
    · have := ih (i + 1) q h
      omega
theorem prs_row' (LL : List (List Run)) : ∀ (s i : Nat), ((prs s LL).filter fun q => decide (q.1 = s + i)).map (fun q => q.2) = LL.getD i [] := by
  induction LL with
  | nil => intro s i; simp [prs]
  | cons l L ih =>
    intro s i
    rw [prs, List.filter_append, List.map_append]
    cases i with
    | zero =>
      have e1 : (l.map fun x => (s, x)).filter (fun q => decide (q.1 = s + 0)) = l.map fun x => (s, x) := List.filter_eq_self.2 (fun q hq => by obtain ⟨x, _, rfl⟩ := List.mem_map.1 hq; simp)
      have e2 : (prs (s + 1) L).filter (fun q => decide (q.1 = s + 0)) = [] := List.filter_eq_nil_iff.2 (fun q hq => by have := prs_fst _ _ q hq; simp; omega)
      rw [e1, e2, List.map_map]
      simp
      exact List.map_id _
    | succ i =>
      have e1 : (l.map fun x => (s, x)).filter (fun q => decide (q.1 = s + (i + 1))) = [] := List.filter_eq_nil_iff.2 (fun q hq => by obtain ⟨x, _, rfl⟩ := List.mem_map.1 hq; simp)
      rw [e1, show s + (i + 1) = s + 1 + i by omega, ih (s + 1) i]
      simp
theorem prs_row (LL : List (List Run)) (i : Nat) : ((prs 0 LL).filter fun q => decide (q.1 = i)).map (fun q => q.2) = LL.getD i [] := by
  have := prs_row' LL 0 i
  rwa [Nat.zero_add] at this
/-- Behind some runners: they stand in the new heats. -/
def CI (w : World) (G N : Nat) (pre : List (HRun N)) (W : World) : Prop :=
  GrowH W w.heap.size G N (rowAt pre) ∧ Boxed W (G + 1) 58 (.slice (some ⟨G, 0, none⟩) N N) ∧ Below w.heap.size w W ∧ G + 3 ≤ W.heap.size
theorem CI.own (w : World) (G N B : Nat) (hB : w.heap.size ≤ B) : OwnFrom B (CI w G N) := fun s A C row hs hg hr =>
  ⟨GrowH.own (w := w) hs.1 hg (fun r e => (hr r e).2), (Own.from (boxed_own (G + 1) 58 (fun (_ : Unit) => .slice (some ⟨G, 0, none⟩) N N)) B) () A C row hs.2.1 hg hr, (ownFrom_below (β := List (HRun N)) (Nat.le_refl _) hB) s A C row hs.2.2.1 hg hr, Nat.le_trans hs.2.2.2 hg.size⟩
set_option maxHeartbeats 4000000 in
theorem copyOf_any (LL : List (List Run)) (n cap : Nat) (A : Option Addr) (B : Nat) (w : World) (hZ : RHeats w B A n LL) (hn : n ≤ 20) (hs : ∀ l ∈ LL, l.length ≤ 1000 ∧ ∀ x ∈ l, x.ok) :
    Calls Tryz.prog 118 #[.slice A n cap] w (fun e w' => ∃ g, e = .returned (.slice (some ⟨g, 0, none⟩) n n) ∧ w.heap.size ≤ g ∧ GrowH w' w.heap.size g n (fun i => LL.getD i []) ∧ Below w.heap.size w w') := by
  obtain ⟨i0, hi, hz0, hz1, hz2⟩ := info_parts infoSRuns
  obtain ⟨i1, hi1, hy0, hy1, hy2⟩ := info_parts infoSRun
  have hmk : ∀ w : World, (Instr.makeSlice 58 (.int .i64 (n : Int)) (.int .i64 (n : Int))).run Tryz.prog w = .ok (.slice (some ⟨w.heap.size, 0, none⟩) n n) (w.alloc (.cells (madeCells #[.slice none 0 0] n) 65)) := by
    intro w
    have := run_make (P := Tryz.prog) w 58 65 i0 (.slice none 0 0) Tryz.underlying58 hi hz0 .i64 .i64 n n (by omega) (by omega) (by rw [hz2]; omega) (by omega)
    rw [hz1] at this
    simpa [Value.cells] using this
  have hni : (n : Int) ≤ 20 := by omega
  have hAR := fun A N cap w => callsIn_wide (n := 2).2 (allRunner_any A N cap w)
  have HZ := Lib.hid hZ
  have HS := Lib.hid hs
  clear hZ hs hi hz0 hz1 hz2
  refine (callsIn_wide (n := 3)).1 ?_
  refine callsIn_of_wp_marks Tryz.func118 rfl trivial ?_ rfl
  simp only [Tryz.ntmps118, List.size_toArray, List.length_cons, List.length_nil, Nat.reduceAdd, Nat.reduceSub, Array.replicate_succ, Array.replicate_zero, List.push_toArray, List.append_toArray, List.nil_append, List.cons_append]
  gi_wp2_with (refine ⟨trivial, ?_⟩; gi_at_call 89; refine (hAR _ _ _ _).mono ?_; rintro e w' ⟨rfl, rfl⟩)
  obtain ⟨G, hGe⟩ : ∃ G, G = w.heap.size := ⟨_, rfl⟩
  have hR0 := GrowH.start w w.heap.size n (Nat.le_refl _)
  have hBx := Boxed.new (w.alloc (.cells (madeCells #[.slice none 0 0] n) 65)) 58 (.slice (some ⟨w.heap.size, 0, none⟩) n n)
  have hBb := Boxed.new ((w.alloc (.cells (madeCells #[.slice none 0 0] n) 65)).alloc (.cells #[.slice (some ⟨w.heap.size, 0, none⟩) n n] 58)) 58 (.slice A n cap)
  simp only [World.size_alloc] at hBx hBb
  have hW1 : Below (w.heap.size + 1) (w.alloc (.cells (madeCells #[.slice none 0 0] n) 65)) (((w.alloc (.cells (madeCells #[.slice none 0 0] n) 65)).alloc (.cells #[.slice (some ⟨w.heap.size, 0, none⟩) n n] 58)).alloc (.cells #[.slice A n cap] 58)) := ((Below.refl _ _).alloc (by simp) _).alloc (by simp) _
  have hW0 : Below w.heap.size w (((w.alloc (.cells (madeCells #[.slice none 0 0] n) 65)).alloc (.cells #[.slice (some ⟨w.heap.size, 0, none⟩) n n] 58)).alloc (.cells #[.slice A n cap] 58)) := balloc _ (balloc _ (balloc _ (Below.refl _ _)))
  have hsz : (((w.alloc (.cells (madeCells #[.slice none 0 0] n) 65)).alloc (.cells #[.slice (some ⟨w.heap.size, 0, none⟩) n n] 58)).alloc (.cells #[.slice A n cap] 58)).heap.size = G + 3 := by simp; omega
  have hI0 : CI w G n [] (((w.alloc (.cells (madeCells #[.slice none 0 0] n) 65)).alloc (.cells #[.slice (some ⟨w.heap.size, 0, none⟩) n n] 58)).alloc (.cells #[.slice A n cap] 58)) := by
    refine ⟨?_, by rw [hGe]; exact hBx.alloc _, hW0, by omega⟩
    rw [hGe]
    exact hR0.below (by simpa using hW1)
  obtain ⟨b, off, Af, cf, hX⟩ := RHx.of (HZ.out.below hW0 HZ.out.2.1)
  have hBn := hBb.cell
  have e1 : w.heap.size + 1 = G + 1 := by omega
  have e2 : w.heap.size + 1 + 1 = G + 2 := by omega
  rw [e2] at hBn
  rw [e2, e1, ← hGe]
  rw [← hGe] at hI0 hsz hX hBn
  generalize (((w.alloc (.cells (madeCells #[.slice none 0 0] n) 65)).alloc (.cells #[.slice (some ⟨G, 0, none⟩) n n] 58)).alloc (.cells #[.slice A n cap] 58)) = W0 at *
  have hBw : B ≤ G := by rw [hGe]; exact HZ.out.2.1
  have hBw2 : B ≤ w.heap.size := HZ.out.2.1
  have hwG : w.heap.size ≤ G := Nat.le_of_eq hGe.symm
  have hll := HZ.out.1
  clear hR0 hBx hBb hW1 hW0 e1 e2 hmk hAR HZ hGe
  refine wpIn_rangeFunc_ownH rfl (by omega) (gf := 121) (lb := #[.pointer (some ⟨G + 2, 0, none⟩)]) rfl trivial (enters_of Tryz.func121 (by kernel_rfl) rfl)
    (all_stops _ (by omega) (G + 2) n B B cap b off A LL Af cf (by omega) HS.out W0 (by omega) hBn hX) Kx.trans (fun W l o o' hl _ _ _ => Kx.putObj W l o' (by omega)) (Below.refl _ _) (fun _ => rfl)
    (CI w G n) (fun _ _ _ => False) (CI.own w G n _ (by omega)) (fun c s A C row hs hg hr => hs) hI0
    (fun x a' W => ∃ Bx, RunBox W Bx x.1.2 ∧ a' = { tmps := #[.slice A n cap, undef, .slice none 0 0, .pointer (some ⟨G + 1, 0, none⟩), .int .i64 x.1.1, .pointer (some ⟨Bx, 0, none⟩), .slice A n cap, .int .i64 n, .slice (some ⟨G, 0, none⟩) n n, .slice A n cap, .func (.func 121) #[] #[.pointer (some ⟨G + 2, 0, none⟩)], .int .i64 x.1.1, x.1.2.agg, undef, undef, undef, undef, undef, undef, undef, undef, undef, undef, undef], defers := [] })
    (fun x a' s X Y row hs hg hr => by obtain ⟨Bx, h1, h2⟩ := hs; exact ⟨Bx, RunBox.own Bx _ _ () X Y row h1 hg hr, h2⟩) ?assign ?body ?done ?stop
  case assign =>
    rintro l pre ⟨⟨i, ⟨nm, kd, v, r⟩⟩, hx⟩ W K ⟨h1, h2, h3, h4⟩ hK
    dsimp only [Run.agg] at *
    gi_wp2
    refine hK _ _ ((KeepsOthers.alloc _ _).from _) ((Kx.refl _ _ _).alloc (by omega) _) ⟨h1.below (Below.refl _ _ |>.alloc (Nat.le_refl _) _), h2.alloc _, h3.alloc h3.size _, by simp; omega⟩ ⟨W.heap.size, RunBox.new W ⟨nm, kd, v, r⟩, rfl⟩
  case body =>
    rintro l pre ⟨⟨i, ⟨nm, kd, v, r⟩⟩, hx⟩ a' W hl ⟨rr, hr⟩ ⟨h1, h2, h3, h4⟩ ⟨Bx, hB, rfl⟩ hlt
    have hc := h2.cell
    obtain ⟨c0, k1, k2, k3⟩ := hB.cells
    simp only at c0 k1 k2 k3
    dsimp only [Run.agg]
    obtain ⟨g1, g2, V, hV, hD⟩ := id h1
    have hin : i < n := hx.1
    obtain ⟨vc, vf, vo, vg⟩ := hV i hin
    obtain ⟨va, vk, hve⟩ : ∃ a c, V i = .slice a (rowAt pre i).length c := by
      rcases vo.2 with ⟨hv, h0⟩ | ⟨g, cap, cur, hv, _⟩
      · exact ⟨none, 0, by rw [hv, h0]⟩
      · exact ⟨_, _, hv⟩
    rw [hve] at vc vo vg
    have hR0 : GrowH W w.heap.size G n (rowAt pre) := h1
    have hii : (i : Int) < (n : Int) := by omega
    have hi0 : (0 : Int) ≤ (i : Int) := by omega
    have hit : ((i : Int)).toNat = i := by omega
    gi_wp2
    refine region_in_round l 1 (by kernel_rfl) (by kernel_rfl) ?_
    refine wpAny_of_X (S := fun w' => w'.cell? ⟨G + 1, 0, none⟩ = some (.slice (some ⟨G, 0, none⟩) n n) ∧ w'.cell? ⟨G, i, none⟩ = some (.slice va (rowAt pre i).length vk)) (X := fun j => decide (9 ≤ j)) _ _ _ _ ?_
    have hS0 : W.drew.cell? ⟨G + 1, 0, none⟩ = some (.slice (some ⟨G, 0, none⟩) n n) ∧ W.drew.cell? ⟨G, i, none⟩ = some (.slice va (rowAt pre i).length vk) := ⟨hc, vc⟩
    have x0 : W.drew.cell? ⟨Bx, 0, none⟩ = some (.string nm) := c0
    have x1 : W.drew.cell? ⟨Bx, 1, none⟩ = some (.string kd) := k1
    have x2 : W.drew.cell? ⟨Bx, 2, none⟩ = some (.int .i64 v) := k2
    have x3 : W.drew.cell? ⟨Bx, 3, none⟩ = some (.string r) := k3
    refine wpAnyX_take (i := 0) (oi := _) (v := ?_) rfl (by kernel_rfl) (by kernel_rfl) (by kernel_rfl) (by kernel_rfl) (fun _ _ _ h => h) (Or.inl ⟨by rfl, ?_⟩) (by assumption) ?_
    rotate_left
    · rintro w ⟨s1, s2⟩
      go_simp
      try with_reducible rfl
    try simp only [Act.put, List.setIfInBounds_toArray, List.set_cons_zero, List.set_cons_succ]
    refine wpAnyX_take (i := 1) (oi := _) (v := ?_) rfl (by kernel_rfl) (by kernel_rfl) (by kernel_rfl) (by kernel_rfl) (fun _ _ _ h => h) (Or.inl ⟨by rfl, ?_⟩) (by assumption) ?_
    rotate_left
    · rintro w ⟨s1, s2⟩
      go_simp
      try with_reducible rfl
    try simp only [Act.put, List.setIfInBounds_toArray, List.set_cons_zero, List.set_cons_succ]
    refine wpAnyX_take (i := 2) (oi := _) (v := ?_) rfl (by kernel_rfl) (by kernel_rfl) (by kernel_rfl) (by kernel_rfl) (fun _ _ _ h => h) (Or.inl ⟨by rfl, ?_⟩) (by assumption) ?_
    rotate_left
    · rintro w ⟨s1, s2⟩
      go_simp
      try with_reducible rfl
    try simp only [Act.put, List.setIfInBounds_toArray, List.set_cons_zero, List.set_cons_succ]
    refine wpAnyX_take (i := 3) (oi := _) (v := ?_) rfl (by kernel_rfl) (by kernel_rfl) (by kernel_rfl) (by kernel_rfl) (fun _ _ _ h => h) (Or.inl ⟨by rfl, ?_⟩) (by assumption) ?_
    rotate_left
    · rintro w ⟨s1, s2⟩
      go_simp
      try with_reducible rfl
    try simp only [Act.put, List.setIfInBounds_toArray, List.set_cons_zero, List.set_cons_succ]
    refine wpAnyX_take (i := 4) (oi := _) (v := ?_) rfl (by kernel_rfl) (by kernel_rfl) (by kernel_rfl) (by kernel_rfl) (fun _ _ _ h => h) (Or.inl ⟨by rfl, ?_⟩) (by assumption) ?_
    rotate_left
    · rintro w ⟨s1, s2⟩
      go_simp
      try with_reducible rfl
    try simp only [Act.put, List.setIfInBounds_toArray, List.set_cons_zero, List.set_cons_succ]
    refine wpAnyX_take (i := 5) (oi := _) (v := ?_) rfl (by kernel_rfl) (by kernel_rfl) (by kernel_rfl) (by kernel_rfl) (fun _ _ _ h => h) (Or.inl ⟨by rfl, ?_⟩) (by assumption) ?_
    rotate_left
    · rintro w ⟨s1, s2⟩
      go_simp
      try with_reducible rfl
    try simp only [Act.put, List.setIfInBounds_toArray, List.set_cons_zero, List.set_cons_succ]
    refine wpAnyX_one (i := 6) (o := _) (by kernel_rfl) rfl (by rfl) (fun K hKK => ?_)
    go_simp
    refine hKK.out _ _ (fun _ => ?_) ?_
    · assumption
    clear hKK K
    try simp only [Act.put, List.setIfInBounds_toArray, List.set_cons_zero, List.set_cons_succ]
    have hbA : Below W.heap.size W ((W.alloc (.cells #[.string nm, .string kd, .int .i64 v, .string r] 79)).drew) := ((Below.refl _ _).alloc (Nat.le_refl _) _).drew
    have hS1 : ((W.alloc (.cells #[.string nm, .string kd, .int .i64 v, .string r] 79)).drew).cell? ⟨G + 1, 0, none⟩ = some (.slice (some ⟨G, 0, none⟩) n n) ∧ ((W.alloc (.cells #[.string nm, .string kd, .int .i64 v, .string r] 79)).drew).cell? ⟨G, i, none⟩ = some (.slice va (rowAt pre i).length vk) := ⟨(hbA.cell (p := ⟨G + 1, 0, none⟩) h2.lt).trans hc, (hbA.cell (p := ⟨G, i, none⟩) g1).trans vc⟩
    refine wpAnyX_one (i := 7) (o := _) (by kernel_rfl) rfl (by rfl) (fun K hKK => ?_)
    go_simp
    refine hKK.out _ _ (fun _ => ?_) ?_
    · assumption
    clear hKK K
    try simp only [Act.put, List.setIfInBounds_toArray, List.set_cons_zero, List.set_cons_succ]
    have hoA : ((W.alloc (.cells #[.string nm, .string kd, .int .i64 v, .string r] 79)).drew).ownsRow w.heap.size 79 4 (.slice va (rowAt pre i).length vk) (rowAt pre i).length ((rowAt pre i).flatMap runC) := World.ownsRow.drew (World.ownsRow.alloc vo _)
    have hlen : (rowAt pre i).length ≤ 20000 := by
      have q1 : (rowAt pre i).length ≤ pre.length := by
        unfold rowAt
        rw [List.length_map]
        exact List.length_filter_le _ _
      have q2 := flatten_le' 1000 LL (fun q hq => (HS.out q hq).1)
      omega
    have HL := Lib.hid hlen
    have hszA : ((W.alloc (.cells #[.string nm, .string kd, .int .i64 v, .string r] 79)).drew).heap.size = W.heap.size + 1 := by simp
    have hww : w.heap.size ≤ W.heap.size := h3.size
    have hnr := h2.not_row (show (58 : Nat) ≠ 79 by decide) vo
    refine wpAnyX_one (i := 8) (o := _) (by kernel_rfl) rfl (by rfl) (fun K hKK => ?_)
    refine wp_append_lies _ _ _ 65 rfl w.heap.size 79 i1 (.agg #[.string ⟨#[]⟩, .string ⟨#[]⟩, .int .i64 0, .string ⟨#[]⟩]) 4 56 Tryz.underlying65 hi1 hy0 hy1 hy2 rfl (by decide) _ _ _ rfl hoA ⟨W.drew.heap.size, 0, none⟩ 1 1 (runC ⟨nm, kd, v, r⟩) rfl rfl (news4 _ rfl) (one4 _) (by decide) (by have := HL.out; unfold maxLen; omega) (by have := HL.out; omega) (by omega) (W.heap.size + 1) hszA ?_
    intro g' cap' w1 hown' hgrow hat hlt'
    have hcG : w1.cell? ⟨G, i, none⟩ = some (.slice va (rowAt pre i).length vk) := (hgrow.cell_far ⟨G, i, none⟩ (by rw [hszA]; show G < _; omega) (fun q => vg q.symm)).trans hS1.2
    have hfG : w1.frozen? ⟨G, i, none⟩ = false := (hgrow.frozen_far ⟨G, i, none⟩ (by rw [hszA]; show G < _; omega) (fun q => vg q.symm)).trans ((hbA.frozen (p := ⟨G, i, none⟩) g1).trans vf)
    have hb1 : Boxed w1 (G + 1) 58 (.slice (some ⟨G, 0, none⟩) n n) := Boxed.kept ((hbA.block (G + 1) h2.lt).trans h2) hgrow hnr
    have hS2 : w1.cell? ⟨G + 1, 0, none⟩ = some (.slice (some ⟨G, 0, none⟩) n n) ∧ w1.cell? ⟨G, i, none⟩ = some (.slice va (rowAt pre i).length vk) := ⟨hb1.cell, hcG⟩
    refine hKK.out _ _ (fun _ => hS2) ?_
    clear hKK K
    try simp only [Act.put, List.setIfInBounds_toArray, List.set_cons_zero, List.set_cons_succ]
    refine wpAnyX_one (i := 9) (o := _) (by kernel_rfl) rfl (by rfl) (fun K hKK => ?_)
    go_simp
    refine hKK.out _ _ (fun q => absurd q (by decide)) ?_
    clear hKK K
    try simp only [Act.put, List.setIfInBounds_toArray, List.set_cons_zero, List.set_cons_succ]
    refine wpAnyX_one (i := 10) (o := _) (by kernel_rfl) rfl (by rfl) (fun K hKK => ?_)
    go_simp
    refine hKK.out _ _ (fun q => absurd q (by decide)) ?_
    clear hKK K
    try simp only [Act.put, List.setIfInBounds_toArray, List.set_cons_zero, List.set_cons_succ]
    refine wpAnyX_done (by kernel_rfl) ?_ _
    have hgo := hgrow
    have hbS : Below w.heap.size W (w1.setCell ⟨G, i, none⟩ (.slice (some ⟨g', 0, none⟩) ((rowAt pre i).length + 1) cap')) := ((hbA.mono hww).grown hgrow (by omega) (fun k e => (World.ownsRow.lt vo k e).1)).setCell (p := ⟨G, i, none⟩) hwG _
    have hko : KeepsOthers W (w1.setCell ⟨G, i, none⟩ (.slice (some ⟨g', 0, none⟩) ((rowAt pre i).length + 1) cap')) := by
      refine ((KeepsOthers.alloc W _).trans ((KeepsOthers.drew _).trans (KeepsOthers.of_grownBy hgrow fun j o hj ho => ?_))).trans (KeepsOthers.setCell _ _ _)
      rcases hoA.2 with ⟨e, _⟩ | ⟨g, cap, cur, e, _, hb, _⟩
      · rw [e] at hj; cases hj
      · rw [e] at hj; cases hj
        rw [hb] at ho; cases ho; rfl
    have hst := GrowH.step (R' := rowAt (pre ++ [⟨(i, ⟨nm, kd, v, r⟩), hx⟩])) hR0 hin vc hbA hgrow hown' (by rw [hszA]; exact hat) (by rw [rowAt_snoc]; simp) (fun k hk => by rw [rowAt_snoc, if_neg (fun q => hk q.symm), List.append_nil])
    exact (show KeepsFrom W0.heap.size W _ ∧ Kx B B W _ ∧ CI w G n (pre ++ [⟨(i, ⟨nm, kd, v, r⟩), hx⟩]) _ from ⟨hko.from _, Kx.of_below (hbS.mono (by omega)), hst, hb1.kept (grown_set w1 G i _) (fun e => by have := Option.some.inj e; omega), h3.trans hbS, by have := hbS.size; omega⟩)
  case done =>
    rintro D ys W hD hS ⟨h1, h2, h3, h4⟩ hK
    have hc := h2.cell
    have hrow : ∀ i, i < n → rowAt ys i = LL.getD i [] := fun i hi => by
      have e1 : rowAt ys i = ((ys.map (·.1)).filter fun q => decide (q.1 = i)).map fun q => q.2 := by
        unfold rowAt
        rw [List.filter_map, List.map_map]
        rfl
      rw [e1, hS]
      exact prs_row LL i
    have hG : GrowH W w.heap.size G n (fun i => LL.getD i []) := by
      obtain ⟨g1, g2, V, hV, hD⟩ := h1
      exact ⟨g1, g2, V, fun i hi => by show _ ∧ _ ∧ OwnS W w.heap.size (V i) (LL.getD i []) ∧ _; rw [← hrow i hi]; exact hV i hi, hD⟩
    have HF := Lib.hid hG
    clear h1 hS hG hrow
    gi_wp2
    refine ⟨by simp, .inl ⟨_, _, rfl, run_takeDeferred hK, ?_⟩⟩
    refine ⟨_, results_tmp rfl _ _ _, G, rfl, hwG, ?_, ?_⟩
    · exact GrowH.own (w := w) HF.out (grownBy_putObj' W D (.deferred none)) (fun r e => by cases e; exact ⟨_, hK, rfl⟩)
    · exact h3.trans (belowK_b (w := w) (Nat.le_refl _) W D _ _ (by omega) hK rfl rfl)
  case stop =>
    rintro D c pre W hD _ hs hK
    exact hs.elim
end Go.Mk
