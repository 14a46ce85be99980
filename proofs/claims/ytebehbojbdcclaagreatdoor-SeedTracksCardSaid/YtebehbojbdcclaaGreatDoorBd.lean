/-
  Proved: the reference's Chart returns the rounds of an event. Conditions: athletes and lanes in their ranges, at most as many heats as there may be.
-/
import Derived.Test.YtebehbojbdcclaaGreatDoorBc
set_option linter.unusedVariables false
set_option linter.unusedSimpArgs false
open Go Go.Proofs Go.RowKit Go.Sort
set_option maxRecDepth 100000
namespace Go.Mk
theorem ownB {w w' : World} {base e size n : Nat} {v : Value} {xs : List Value} (h : w.ownsRow base e size v n xs) (hb : Below w.heap.size w w') : w'.ownsRow base e size v n xs := by
  refine ⟨h.1, ?_⟩
  rcases h.2 with ⟨a, b⟩ | ⟨g, cap, cur, a, b, c, d⟩
  · exact .inl ⟨a, b⟩
  · refine .inr ⟨g, cap, cur, a, b, ?_, d⟩
    have hg : g < w.heap.size := by
      rcases Nat.lt_or_ge g w.heap.size with hl | hl
      · exact hl
      · rw [Array.getElem?_eq_none hl] at c; cases c
    exact (hb.block g hg).trans c
theorem own_some {w : World} {base e size n : Nat} {v : Value} {xs : List Value} (h : w.ownsRow base e size v n xs) (hn : 0 < n) : ∃ g cap, v = .slice (some ⟨g, 0, none⟩) n cap ∧ base ≤ g ∧ g < w.heap.size := by
  rcases h.2 with ⟨_, h0⟩ | ⟨g, cap, cur, hv, hb, hg, _⟩
  · omega
  · refine ⟨g, cap, hv, hb, ?_⟩
    rcases Nat.lt_or_ge g w.heap.size with hlt | hge
    · exact hlt
    · rw [Array.getElem?_eq_none hge] at hg; cases hg
theorem roundC_one (L : List (Int × Int × Int)) : ∀ u ∈ L.flatMap roundC, u.oneCell' = true := by
  intro u hu
  obtain ⟨r, _, hu⟩ := List.mem_flatMap.1 hu
  simp [roundC] at hu
  rcases hu with rfl | rfl | rfl <;> rfl
theorem roundC_len (L : List (Int × Int × Int)) : (L.flatMap roundC).length = L.length * 3 := by
  induction L with
  | nil => rfl
  | cons r l ih => simp [List.flatMap_cons, ih, roundC]; omega
theorem chartN_pos (lanes : Int) (k : Nat) : 1 ≤ (chartN lanes k).length := by
  by_cases hk : k ≤ 1
  · rw [chartN_one lanes k hk]; simp
  · rw [chartN_more lanes k (by omega)]; simp
theorem chartN_len (lanes : Int) (k : Nat) : (chartN lanes k).length ≤ k + 1 := by
  induction k using Nat.strongRecOn with
  | ind k ihk =>
    by_cases hk : k ≤ 1
    · rw [chartN_one lanes k hk]; simp
    · rw [chartN_more lanes k (by omega)]
      have := ihk ((k + 1) / 2) (by omega)
      simp only [List.length_cons]
      omega
/-- What the reference's chart leaves. -/
def Charted2 (t : TypeId) (L : List (Int × Int × Int)) (w : World) (e : Ending) (w' : World) : Prop :=
  ∃ v, e = .returned v ∧ OwnRounds w' w.heap.size t v L ∧ Below w.heap.size w w'
theorem up_mul (lanes : Int) (m : Nat) (h2 : 1 ≤ lanes) (hm : 1 ≤ m) : (lanes * (m : Int) + lanes - 1) / lanes = (m : Int) := by
  have e : lanes * (m : Int) + lanes - 1 = (lanes - 1) + lanes * (m : Int) := by omega
  rw [e, Int.add_mul_ediv_left _ _ (by omega), Int.ediv_eq_zero_of_lt (by omega) (by omega)]
  omega
set_option maxHeartbeats 1000000 in
theorem r4Chart_none (lanes : Int) (w : World) :
    Calls Tryz.prog 18 #[.int .i64 0, .int .i64 lanes] w (Charted2 43 [] w) := by
  go_enter Tryz.func18, Tryz.ntmps18
  go_wp2
  go_ret
  exact ⟨_, rfl, World.ownsRow_nil _ _ _ _, Below.refl _ _⟩
set_option maxHeartbeats 4000000 in
theorem r4Chart_ok (lanes : Int) (h2 : 1 ≤ lanes) (h3 : lanes ≤ 10) (h : Nat) : ∀ (a : Int) (w : World) (h0 : 1 ≤ a) (h1 : a ≤ 160) (h4 : (a + lanes - 1) / lanes = h) (h5 : h ≤ 16),
    Calls Tryz.prog 18 #[.int .i64 a, .int .i64 lanes] w (Charted2 43 (chartN lanes h) w) := by
  induction h using Nat.strongRecOn with
  | ind h ih =>
  intro a w h0 h1 h4 h5
  have h6 : 1 ≤ h := by
    have : 1 ≤ (a + lanes - 1) / lanes := (Int.le_ediv_iff_mul_le (by omega)).2 (by omega)
    omega
  obtain ⟨i0, hi, hz0, hz1, hz2⟩ := info_parts infoRRound
  have ha0 : (a == 0) = false := by rw [beq_eq_false_iff_ne]; omega
  have hq0 : Int.tdiv (a + lanes - 1) lanes = h := by rw [← h4]; exact Int.tdiv_eq_ediv_of_nonneg (by omega)
  by_cases hlt : 1 < h
  · have hh1 : ((h : Int) == 1) = false := by rw [beq_eq_false_iff_ne]; omega
    obtain ⟨m, hm⟩ : ∃ m : Nat, (h + 1) / 2 = m := ⟨_, rfl⟩
    have hm2 : ((h : Int) + 1) / 2 = (m : Int) := by omega
    have hm3 : Int.tdiv ((h : Int) + 1) 2 = (m : Int) := by rw [← hm2]; exact Int.tdiv_eq_ediv_of_nonneg (by omega)
    have hml : 0 ≤ lanes * (m : Int) := Int.mul_nonneg (by omega) (by omega)
    have hmu : lanes * (m : Int) ≤ 10 * 8 := Int.mul_le_mul h3 (by omega) (by omega) (by omega)
    have hm1 : 1 ≤ lanes * (m : Int) := by
      have : 1 * 1 ≤ lanes * (m : Int) := Int.mul_le_mul h2 (by omega) (by omega) (by omega)
      omega
    have hst := chartN_more lanes h hlt
    rw [hm] at hst
    have HI := fun w => ih m (by omega) (lanes * (m : Int)) w hm1 (by omega) (up_mul lanes m h2 (by omega)) (by omega)
    obtain ⟨p, hp⟩ : ∃ p, lanes * (m : Int) = p := ⟨_, rfl⟩
    rw [hp] at hml hmu hm1 hst HI
    obtain ⟨d, hd⟩ : ∃ d, p / (h : Int) = d := ⟨_, rfl⟩
    obtain ⟨r, hr⟩ : ∃ r, p % (h : Int) = r := ⟨_, rfl⟩
    have hkn : h ≠ 0 := by omega
    have hq : Int.tdiv p (h : Int) = d := by rw [← hd]; exact Int.tdiv_eq_ediv_of_nonneg hml
    have hqr : Int.tmod p (h : Int) = r := by rw [← hr]; exact Int.tmod_eq_emod_of_nonneg hml
    have hd1 : 0 ≤ d ∧ d ≤ 80 := by
      have h1 : 0 ≤ p / (h : Int) := Int.ediv_nonneg hml (by omega)
      have h2 : p / (h : Int) ≤ p := Int.ediv_le_self _ hml
      omega
    have hw1 : IntKind.i64.wrap d = d := IntWalk.i64_in d (by omega)
    rw [hd, hr] at hst
    have hlen : (chartN lanes m).length ≤ 16 := by have := chartN_len lanes m; omega
    have hpos := chartN_pos lanes m
    rw [hst]
    generalize chartN lanes m = C at *
    clear hst hd hr ih h4 hm2
    go_enter Tryz.func18, Tryz.ntmps18
    go_wp2_with fail
    go_region
    have hown0 : ((w.alloc (.cells #[.int .i64 (h : Int), .int .i64 d, .int .i64 r] 43)).drew).ownsRow w.heap.size 43 3 (.slice (some ⟨w.heap.size, 0, none⟩) 1 1) 1 (roundC ((h : Int), d, r)) := World.ownsRow_lit w #[.int .i64 (h : Int), .int .i64 d, .int .i64 r] 1 (Nat.le_refl _) (by decide) rfl
    have hb0 : Below w.heap.size w ((w.alloc (.cells #[.int .i64 (h : Int), .int .i64 d, .int .i64 r] 43)).drew) := ((Below.refl _ _).alloc (Nat.le_refl _) _).drew
    generalize (w.alloc (.cells #[.int .i64 (h : Int), .int .i64 d, .int .i64 r] 43)).drew = w0 at *
    go_wp2_with fail
    refine (HI _).mono ?_
    rintro e w1 ⟨v, rfl, hv, hb1⟩
    replace hown0 := ownB hown0 hb1
    have hg1 : w.heap.size ≤ w1.heap.size := Nat.le_trans hb0.size hb1.size
    obtain ⟨g, cap, rfl, hgb, hgl⟩ := own_some hv hpos
    have hnews := World.ownsRow.cells hv (g := g) rfl
    go_wp2_with (at_builtin; refine wpList_append_own _ rfl _ _ 40 rfl w.heap.size 43 i0 (.agg #[.int .i64 0, .int .i64 0, .int .i64 0]) 3 24 Tryz.underlying40 hi hz0 hz1 hz2 rfl (by decide) _ _ _ rfl hown0 ⟨g, 0, none⟩ C.length cap (C.flatMap roundC) rfl (roundC_len C) hnews (roundC_one C) ?c3 ?c4 hg1 ?_)
    case c3 => unfold maxLen; omega
    case c4 => omega
    · intro v' w2 hown' hgrow _
      have hb2 : Below w.heap.size w w2 := (hb0.trans (hb1.mono hb0.size)).grown hgrow hg1 (fun r hr => (World.ownsRow.lt hown0 r hr).1)
      have ho : OwnRounds w2 w.heap.size 43 v' (((h : Int), d, r) :: C) := by
        unfold OwnRounds
        rw [List.length_cons, List.flatMap_cons, Nat.add_comm]
        exact hown'
      clear hown' hgrow hown0 hv hnews
      go_wp2
      go_ret
      exact ⟨_, rfl, ho, hb2⟩
  · obtain rfl : h = 1 := by omega
    rw [chartN_one lanes 1 (by omega)]
    go_enter Tryz.func18, Tryz.ntmps18
    go_wp2
    go_ret
    exact ⟨_, rfl, World.ownsRow_lit w #[.int .i64 1, .int .i64 0, .int .i64 0] 1 (Nat.le_refl _) (by decide) rfl, (Below.refl _ _).alloc (Nat.le_refl _) _⟩
end Go.Mk
