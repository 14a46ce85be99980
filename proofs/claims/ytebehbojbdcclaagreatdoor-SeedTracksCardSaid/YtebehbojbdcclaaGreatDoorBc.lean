/-
  Proved: seed.Chart returns the rounds of an event, or the first error. Condition: none.
-/
import Derived.Test.YtebehbojbdcclaaGreatDoorBb
import Derived.Laws.OwnMore
import Derived.Laws.AppendOwn
import Derived.Lib.SmallJoins
import Derived.Deep.AppendLies
import Derived.Deep.RegionLaw
import Derived.Outline
import Derived.Deep.DeepCutAuto
import Derived.Deep.LoopGhost
set_option linter.unusedVariables false
set_option linter.unusedSimpArgs false
open Go Go.Proofs Go.RowKit Go.Sort
set_option maxRecDepth 100000
namespace Go.Mk
/-- The rounds of an event with as many heats, and lanes. -/
def chartN (lanes : Int) (h : Nat) : List (Int × Int × Int) :=
  if h ≤ 1 then [(1, 0, 0)] else ((h : Int), lanes * (((h + 1) / 2 : Nat) : Int) / h, lanes * (((h + 1) / 2 : Nat) : Int) % h) :: chartN lanes ((h + 1) / 2)
termination_by h
decreasing_by omega
def roundC (r : Int × Int × Int) : List Value := [.int .i64 r.1, .int .i64 r.2.1, .int .i64 r.2.2]
theorem chartN_one (lanes : Int) (h : Nat) (h1 : h ≤ 1) : chartN lanes h = [(1, 0, 0)] := by rw [chartN, if_pos h1]
theorem chartN_more (lanes : Int) (h : Nat) (h1 : 1 < h) : chartN lanes h = ((h : Int), lanes * (((h + 1) / 2 : Nat) : Int) / h, lanes * (((h + 1) / 2 : Nat) : Int) % h) :: chartN lanes ((h + 1) / 2) := by
  rw [chartN, if_neg (by omega)]
theorem infoRound : (Tryz.prog.info? 44).map (fun i => (i.zero, i.size, i.bytes)) = some (some (.agg #[.int .i64 0, .int .i64 0, .int .i64 0]), 3, 24) := by kernel_rfl
theorem infoRRound : (Tryz.prog.info? 43).map (fun i => (i.zero, i.size, i.bytes)) = some (some (.agg #[.int .i64 0, .int .i64 0, .int .i64 0]), 3, 24) := by kernel_rfl
/-- A list of rounds in new memory. -/
def OwnRounds (w : World) (B : Nat) (t : TypeId) (v : Value) (L : List (Int × Int × Int)) : Prop := w.ownsRow B t 3 v L.length (L.flatMap roundC)
theorem OwnRounds.next {w1 : World} {B t : Nat} {v' : Value} {L : List (Int × Int × Int)} {r : Int × Int × Int} (h : w1.ownsRow B t 3 v' (L.length + 1) (L.flatMap roundC ++ roundC r)) : OwnRounds w1 B t v' (L ++ [r]) := by
  unfold OwnRounds
  rw [List.length_append, List.flatMap_append]
  simpa using h
theorem first2_es (w : World) (x y : Int) (t : TypeId) : Es (w.alloc (.cells #[.int .i64 x, .int .i64 y] t)) w.heap.size [x, y] := by
  intro i v hv
  match i, hv with
  | 0, hv => simp at hv; subst hv; simp
  | 1, hv => simp at hv; subst hv; simp

set_option maxHeartbeats 1000000 in
theorem Chart_bad (a lanes : Int) (w : World) (e : Int) (he : fstN [rngE a 0 160, rngE lanes 1 10] = e) (h0 : (e != 0) = true) :
    Calls Tryz.prog 16 #[.int .i64 a, .int .i64 lanes] w (RetPost (.tuple #[.slice none 0 0, .int .i64 e]) w) := by
  have hA := athletesError_any a
  have hL := lanesError_any lanes
  have hF := fun g w => seedFirst_any [rngE a 0 160, rngE lanes 1 10] 2 rfl (by decide) g w
  rw [he] at hF
  clear he
  generalize rngE a 0 160 = e1 at *
  generalize rngE lanes 1 10 = e2 at *
  go_enter Tryz.func16, Tryz.ntmps16
  go_wp2_with fail
  refine (hA _).mono ?_
  rintro x w' ⟨rfl, rfl⟩
  go_wp2_with fail
  refine (hL _).mono ?_
  rintro x w' ⟨rfl, rfl⟩
  go_wp2_with fail
  refine (hF _ _ (first2_es _ _ _ _)).mono ?_
  rintro x w' ⟨rfl, rfl⟩
  go_wp2
  go_ret2
  exact ⟨rfl, (Below.refl _ _).alloc (Nat.le_refl _) _⟩
set_option maxHeartbeats 1000000 in
theorem Chart_many (a lanes : Int) (w : World) (h0 : 0 ≤ a) (h1 : a ≤ 160) (h2 : 1 ≤ lanes) (h3 : lanes ≤ 10) (h4 : 16 < (a + lanes - 1) / lanes) :
    Calls Tryz.prog 16 #[.int .i64 a, .int .i64 lanes] w (RetPost (.tuple #[.slice none 0 0, .int .i64 5]) w) := by
  have hA := athletesError_any a
  have hL := lanesError_any lanes
  have hF := fun g w => seedFirst_any [rngE a 0 160, rngE lanes 1 10] 2 rfl (by decide) g w
  have r1 : rngE a 0 160 = 0 := by unfold rngE; rw [if_neg (by omega)]
  have r2 : rngE lanes 1 10 = 0 := by unfold rngE; rw [if_neg (by omega)]
  rw [r1, r2, show fstN [0, 0] = 0 from rfl] at hF
  rw [r1] at hA
  rw [r2] at hL
  have hD := fun w => divideUp_any a lanes w h0 (by omega) h2 (by omega)
  clear r1 r2
  go_enter Tryz.func16, Tryz.ntmps16
  go_wp2_with fail
  refine (hA _).mono ?_
  rintro x w' ⟨rfl, rfl⟩
  go_wp2_with fail
  refine (hL _).mono ?_
  rintro x w' ⟨rfl, rfl⟩
  go_wp2_with fail
  refine (hF _ _ (first2_es _ _ _ _)).mono ?_
  rintro x w' ⟨rfl, rfl⟩
  go_wp2_with fail
  refine (hD _).mono ?_
  rintro x w' ⟨rfl, rfl⟩
  go_wp2
  go_ret2
  exact ⟨rfl, (Below.refl _ _).alloc (Nat.le_refl _) _⟩
/-- What a chart leaves. -/
def Charted (t : TypeId) (L : List (Int × Int × Int)) (w : World) (e : Ending) (w' : World) : Prop :=
  ∃ v, e = .returned (.tuple #[v, .int .i64 0]) ∧ OwnRounds w' w.heap.size t v L ∧ Below w.heap.size w w'
set_option maxHeartbeats 1000000 in
theorem Chart_none (lanes : Int) (w : World) (h2 : 1 ≤ lanes) (h3 : lanes ≤ 10) :
    Calls Tryz.prog 16 #[.int .i64 0, .int .i64 lanes] w (Charted 44 [] w) := by
  have hA := athletesError_any 0
  have hL := lanesError_any lanes
  have hF := fun g w => seedFirst_any [rngE 0 0 160, rngE lanes 1 10] 2 rfl (by decide) g w
  have r1 : rngE 0 0 160 = 0 := rfl
  have r2 : rngE lanes 1 10 = 0 := by unfold rngE; rw [if_neg (by omega)]
  rw [r1, r2, show fstN [0, 0] = 0 from rfl] at hF
  rw [r1] at hA
  rw [r2] at hL
  have hD := fun w => divideUp_any 0 lanes w (by omega) (by omega) h2 (by omega)
  have hq : (0 + lanes - 1) / lanes = 0 := Int.ediv_eq_zero_of_lt (by omega) (by omega)
  rw [hq] at hD
  clear r1 r2 hq
  go_enter Tryz.func16, Tryz.ntmps16
  go_wp2_with fail
  refine (hA _).mono ?_
  rintro x w' ⟨rfl, rfl⟩
  go_wp2_with fail
  refine (hL _).mono ?_
  rintro x w' ⟨rfl, rfl⟩
  go_wp2_with fail
  refine (hF _ _ (first2_es _ _ _ _)).mono ?_
  rintro x w' ⟨rfl, rfl⟩
  go_wp2_with fail
  refine (hD _).mono ?_
  rintro x w' ⟨rfl, rfl⟩
  go_wp2
  go_ret2
  exact ⟨_, rfl, World.ownsRow_nil _ _ _ _, (Below.refl _ _).alloc (Nat.le_refl _) _⟩
set_option maxHeartbeats 4000000 in
theorem Chart_ok (a lanes : Int) (h : Nat) (w : World) (h0 : 1 ≤ a) (h1 : a ≤ 160) (h2 : 1 ≤ lanes) (h3 : lanes ≤ 10) (h4 : (a + lanes - 1) / lanes = h) (h5 : h ≤ 16) :
    Calls Tryz.prog 16 #[.int .i64 a, .int .i64 lanes] w (Charted 44 (chartN lanes h) w) := by
  have hA := athletesError_any a
  have hL := lanesError_any lanes
  have hF := fun g w => seedFirst_any [rngE a 0 160, rngE lanes 1 10] 2 rfl (by decide) g w
  have r1 : rngE a 0 160 = 0 := by unfold rngE; rw [if_neg (by omega)]
  have r2 : rngE lanes 1 10 = 0 := by unfold rngE; rw [if_neg (by omega)]
  rw [r1, r2, show fstN [0, 0] = 0 from rfl] at hF
  rw [r1] at hA
  rw [r2] at hL
  have hD := fun w => divideUp_any a lanes w (by omega) (by omega) h2 (by omega)
  have h6 : 1 ≤ h := by
    have : 1 ≤ (a + lanes - 1) / lanes := (Int.le_ediv_iff_mul_le (by omega)).2 (by omega)
    omega
  rw [h4] at hD
  have hhi : (h : Int) ≤ 16 := by omega
  have ha0 : (a == 0) = false := by rw [beq_eq_false_iff_ne]; omega
  obtain ⟨i0, hi, hz0, hz1, hz2⟩ := info_parts infoRound
  obtain ⟨F, hFF⟩ : ∃ F, chartN lanes h = F := ⟨_, rfl⟩
  rw [hFF]
  have HF := Lib.hid hFF
  clear r1 r2 h4 hFF
  go_enter Tryz.func16, Tryz.ntmps16
  go_wp2_with fail
  refine (hA _).mono ?_
  rintro x w' ⟨rfl, rfl⟩
  go_wp2_with fail
  refine (hL _).mono ?_
  rintro x w' ⟨rfl, rfl⟩
  go_wp2_with fail
  refine (hF _ _ (first2_es _ _ _ _)).mono ?_
  rintro x w' ⟨rfl, rfl⟩
  go_wp2_with fail
  refine (hD _).mono ?_
  rintro x w' ⟨rfl, rfl⟩
  go_wp2
  have hb0 : Below w.heap.size w (w.alloc (.cells #[.int .i64 0, .int .i64 0] 26)) := (Below.refl _ _).alloc (Nat.le_refl _) _
  generalize w.alloc (.cells #[.int .i64 0, .int .i64 0] 26) = w0 at *
  clear hA hL hF hD
  go_loopw [8, 7] (fun v q wr => ∃ (L : List (Int × Int × Int)) (k : Nat), q = .int .i64 k ∧ 1 ≤ k ∧ k ≤ 16 ∧ L.length + k ≤ 16 ∧ Hid (L ++ chartN lanes k = F) ∧ OwnRounds wr w.heap.size 44 v L ∧ Below w.heap.size w wr) (fun _ q _ => (intOf q).toNat)
  case atStart => exact ⟨[], h, rfl, h6, h5, by simpa using h5, HF, World.ownsRow_nil _ _ _ _, hb0⟩
  case round =>
    obtain ⟨L, k, rfl, hk1, hk2, hLk, HL, hown, hb⟩ := hrel
    by_cases hlt : 1 < k
    · have hD := fun w => divideUp_any (k : Int) 2 w (by omega) (by omega) (by omega) (by omega)
      obtain ⟨m, hm⟩ : ∃ m : Nat, (k + 1) / 2 = m := ⟨_, rfl⟩
      have hm2 : ((k : Int) + 2 - 1) / 2 = (m : Int) := by omega
      rw [hm2] at hD
      have hst := HL.out
      rw [chartN_more lanes k hlt, hm] at hst
      have hml : 0 ≤ lanes * (m : Int) := Int.mul_nonneg (by omega) (by omega)
      have hmu : lanes * (m : Int) ≤ 10 * 8 := Int.mul_le_mul h3 (by omega) (by omega) (by omega)
      obtain ⟨p, hp⟩ : ∃ p, lanes * (m : Int) = p := ⟨_, rfl⟩
      have Hst := Lib.hid hst
      clear hst
      go_wp2_with fail
      refine (hD _).mono ?_
      rintro x w' ⟨rfl, rfl⟩
      go_upto_region 13 with fail
      rw [hp] at hml hmu Hst
      obtain ⟨d, hd⟩ : ∃ d, p / (k : Int) = d := ⟨_, rfl⟩
      obtain ⟨r, hr⟩ : ∃ r, p % (k : Int) = r := ⟨_, rfl⟩
      have hk0 : ((k : Int) == 0) = false := by rw [beq_eq_false_iff_ne]; omega
      have hk00 : (k : Int) ≠ 0 := by omega
      have hq : Int.tdiv p (k : Int) = d := by rw [← hd]; exact Int.tdiv_eq_ediv_of_nonneg hml
      have hqr : Int.tmod p (k : Int) = r := by rw [← hr]; exact Int.tmod_eq_emod_of_nonneg hml
      have hd1 : 0 ≤ d ∧ d ≤ 80 := by
        have h1 : 0 ≤ p / (k : Int) := Int.ediv_nonneg hml (by omega)
        have h2 : p / (k : Int) ≤ p := Int.ediv_le_self _ hml
        omega
      have hkn : k ≠ 0 := by omega
      have hw1 : IntKind.i64.wrap d = d := IntWalk.i64_in d (by omega)
      have hnews : ∀ (j : Nat) (u : Value), (roundC (k, d, r))[j]? = some u → ((wr.alloc (.cells #[.int .i64 (k : Int), .int .i64 d, .int .i64 r] 44)).drew).cell? ((⟨wr.heap.size, 0, none⟩ : Addr).add j) = some u := by
        intro j u hj
        match j, hj with
        | 0, hj => simp [roundC] at hj; subst hj; simp [Addr.add]
        | 1, hj => simp [roundC] at hj; subst hj; simp [Addr.add]
        | 2, hj => simp [roundC] at hj; subst hj; simp [Addr.add]
      have hone : ∀ u ∈ roundC (k, d, r), u.oneCell' = true := by intro u hu; simp [roundC] at hu; rcases hu with rfl | rfl | rfl <;> rfl
      have hownA : ((wr.alloc (.cells #[.int .i64 (k : Int), .int .i64 d, .int .i64 r] 44)).drew).ownsRow w.heap.size 44 3 u8 L.length (L.flatMap roundC) := World.ownsRow.alloc hown _
      have hbs : w.heap.size ≤ ((wr.alloc (.cells #[.int .i64 (k : Int), .int .i64 d, .int .i64 r] 44)).drew).heap.size := by have := hb.size; simp; omega
      have hmx : L.length + 1 ≤ maxLen := by unfold maxLen; omega
      have hmb : (L.length + 1) * 24 ≤ 140737488355328 := by omega
      have Hst2 : Hid ((L ++ [((k : Int), d, r)]) ++ chartN lanes m = F) := (show _ = _ by rw [← Hst.out, hd, hr]; simp)
      clear HL Hst hd hr hp
      go_region_law (refine step_append_lies _ rfl (.tmp 34) (.tmp 43) 36 rfl w.heap.size 44 i0 (.agg #[.int .i64 0, .int .i64 0, .int .i64 0]) 3 24 Tryz.underlying36 hi hz0 hz1 hz2 rfl (by decide) u8 L.length (L.flatMap roundC) (by simp [Act.eval, Act.put]) hownA ⟨wr.heap.size, 0, none⟩ 1 1 (roundC (k, d, r)) (by simp [Act.eval, Act.put]) rfl hnews hone (by decide) hmx hmb hbs _ rfl ?_; intro g cap w1 hown' hgrow hat hlt1)
      have hb1 : Below w.heap.size w w1 := ((hb.alloc hb.size (.cells #[.int .i64 (k : Int), .int .i64 d, .int .i64 r] 44)).drew).grown hgrow (by have := hb.size; simp; omega) (fun r hr => (World.ownsRow.lt hown r hr).1)
      have ho1 : OwnRounds w1 w.heap.size 44 (.slice (some ⟨g, 0, none⟩) (L.length + 1) cap) (L ++ [((k : Int), d, r)]) := OwnRounds.next hown'
      clear hown' hgrow hown hownA hnews hat
      go_wp2
      go_roundw
      case rel => exact ⟨_, m, rfl, by omega, by omega, by simp; omega, Hst2, ho1, hb1⟩
      case measure => simp [intOf]; omega
    · have hL1 : L ++ [(1, 0, 0)] = F := by rw [← HL.out, chartN_one lanes k (by omega)]
      have HL1 := Lib.hid hL1
      clear hL1
      go_wp2_with (at_builtin; refine wpList_append_own _ rfl _ _ 36 rfl w.heap.size 44 i0 (.agg #[.int .i64 0, .int .i64 0, .int .i64 0]) 3 24 Tryz.underlying36 hi hz0 hz1 hz2 rfl (by decide) _ _ _ rfl (World.ownsRow.alloc hown _) ⟨wr.heap.size, 0, none⟩ 1 1 (roundC (1, 0, 0)) rfl rfl ?c1 ?c2 ?c3 ?c4 ?c5 ?_)
      case c1 =>
        intro j u hj
        match j, hj with
        | 0, hj => simp [roundC] at hj; subst hj; simp [Addr.add]
        | 1, hj => simp [roundC] at hj; subst hj; simp [Addr.add]
        | 2, hj => simp [roundC] at hj; subst hj; simp [Addr.add]
      case c2 => intro u hu; simp [roundC] at hu; rcases hu with rfl | rfl <;> rfl
      case c3 => unfold maxLen; omega
      case c4 => omega
      case c5 => have := hb.size; simp; omega
      · intro v' w1 hown' hgrow _
        have hb1 : Below w.heap.size w w1 := (hb.alloc hb.size _).grown hgrow (by have := hb.size; simp; omega) (fun r hr => (World.ownsRow.lt hown r hr).1)
        have ho1 : OwnRounds w1 w.heap.size 44 v' F := by
          rw [← HL1.out]
          exact OwnRounds.next (by simpa using hown')
        clear hown' hgrow hown
        go_wp2
        go_ret2
        exact ⟨_, rfl, ho1, hb1⟩
end Go.Mk
