/-
  Proved: the reference's Zigzag returns the ranks of each heat, in new memory; one number of such rows can be replaced. Condition: up to 160 ranks and from 1 to 16 heats.
  Proved: seed.Heats returns the entrants of each heat, in new memory, or the first error. Conditions: the entrants lie where the slice says, at most 40 where there is no error; the texts are no longer than an int says; the heap holds the program's variables.
-/
import Derived.Test.YtccgahkoekcefaaGreatDoorZa
import Derived.Test.YtccgahkoekcefaaGreatDoorQn
section
set_option linter.unusedVariables false
set_option linter.unusedSimpArgs false
open Go Go.Proofs Go.RowKit Go.Sort
set_option maxRecDepth 100000
namespace Go.Mk
def ZiggedR (h n : Nat) (w : World) (e : Ending) (w' : World) : Prop :=
  ∃ g, e = .returned (.slice (some ⟨g, 0, none⟩) h h) ∧ GrowR w' w.heap.size g h (rowsZ h n) ∧ Below w.heap.size w w'
set_option maxHeartbeats 4000000 in
theorem r4Zigzag_any (n h : Nat) (w : World) (hn : n ≤ 160) (h1 : 1 ≤ h) (h2 : h ≤ 16) : Calls Tryz.prog 23 #[.int .i64 (n : Int), .int .i64 (h : Int)] w (ZiggedR h n w) := by
  obtain ⟨i0, hi, hz0, hz1, hz2⟩ := info_parts infoInt
  obtain ⟨j0, hj, hy0, hy1, hy2⟩ := info_parts infoInts
  have hmk : ∀ w : World, (Instr.makeSlice 33 (.int .i64 (h : Int)) (.int .i64 (h : Int))).run Tryz.prog w = .ok (.slice (some ⟨w.heap.size, 0, none⟩) h h) (w.alloc (.cells (madeCells #[.slice none 0 0] h) 30)) := by
    intro w
    have := run_make (P := Tryz.prog) w 33 30 j0 (.slice none 0 0) Tryz.underlying33 hj hy0 .i64 .i64 h h (by omega) (by omega) (by rw [hy2]; omega) (by omega)
    rw [hy1] at this
    simpa [Value.cells] using this
  have hni : (n : Int) ≤ 160 := by omega
  have hhi : (h : Int) ≤ 16 := by omega
  have hh0 : 0 ≤ (h : Int) := by omega
  have hhn : (h : Int) ≠ 0 := by omega
  clear hj hy0 hy1 hy2
  have hR0 := GrowR.start w _ w.heap.size h (Nat.le_refl _) rfl
  have hb1 : Below w.heap.size w (w.alloc (.cells (madeCells #[.slice none 0 0] h) 30)) := (Below.refl _ _).alloc (Nat.le_refl _) _
  obtain ⟨g, hg⟩ : ∃ g, g = w.heap.size := ⟨_, rfl⟩
  have HG := Lib.hid hg
  go_enter Tryz.func23, Tryz.ntmps23
  go_wp2
  generalize w.alloc (.cells (madeCells #[.slice none 0 0] h) 30) = w0 at *
  rw [← hg] at hR0 hb1 ⊢
  clear hg hmk
  go_loopw [6] (fun i wr => ∃ k : Nat, k ≤ n ∧ i = .int .i64 k ∧ GrowR wr g g h (rowsZ h k) ∧ Below g w wr) (fun i _ => n - (intOf i).toNat)
  case atStart => exact ⟨0, by omega, rfl, hR0, hb1⟩
  case round =>
    obtain ⟨k, hk, rfl, hR, hb⟩ := hrel
    by_cases hlt : k < n
    · obtain ⟨q, hq⟩ : ∃ q, k / h = q := ⟨_, rfl⟩
      obtain ⟨p, hp⟩ : ∃ p, k % h = p := ⟨_, rfl⟩
      have hq1 : Int.tdiv (k : Int) (h : Int) = (q : Int) := by rw [Int.tdiv_eq_ediv_of_nonneg (by omega), ← hq]; simp
      have hp1 : Int.tmod (k : Int) (h : Int) = (p : Int) := by rw [Int.tmod_eq_emod_of_nonneg (by omega), ← hp]; simp
      have hpl : p < h := by rw [← hp]; exact Nat.mod_lt _ (by omega)
      have hql : q ≤ k := by rw [← hq]; exact Nat.div_le_self _ _
      have hqw : IntKind.i64.wrap (q : Int) = (q : Int) := IntWalk.i64_in _ (by omega)
      obtain ⟨j, hj⟩ : ∃ j, zHeat h k = j := ⟨_, rfl⟩
      have hjl : j < h := by rw [← hj]; exact zHeat_lt h k h1
      have hjz : (q % 2 = 1 ∧ ((h : Int) - 1 - (p : Int) = (j : Int))) ∨ (q % 2 = 0 ∧ p = j) := by
        rw [← hj]; unfold zHeat; rw [hq, hp]
        by_cases ho : q % 2 = 1
        · rw [if_pos ho]; exact .inl ⟨ho, by omega⟩
        · rw [if_neg ho]; exact .inr ⟨by omega, rfl⟩
      have e1 : rowsZ h (k + 1) j = rowsZ h k j ++ [k] := by rw [rowsZ, if_pos hj.symm]
      have e2 : ∀ i, i ≠ j → rowsZ h (k + 1) i = rowsZ h k i := fun i q => by rw [rowsZ, if_neg (by rw [hj]; exact q)]
      have hlen : (rowsZ h k j).length ≤ 160 := by
        rw [rowsZ_closed h j h1 hjl k]
        have : k / h ≤ k := Nat.div_le_self _ _
        simp only [List.length_map, List.length_range, zLen]
        split <;> omega
      have HE := Lib.hid e1
      have HE2 := Lib.hid e2
      have hki : (k : Int) < (n : Int) := by omega
      have hji : (j : Int) < (h : Int) := by omega
      have hj0 : (0 : Int) ≤ (j : Int) := by omega
      have hpi : (p : Int) < (h : Int) := by omega
      clear e1 e2 hj hq hp
      have hR' := hR
      obtain ⟨hg, hB, V, hV, hD⟩ := hR'
      obtain ⟨a, b, c, d⟩ := hV j hjl
      obtain ⟨v, hv⟩ : ∃ v, V j = v := ⟨_, rfl⟩
      rw [hv] at a c d
      clear hV hD hv
      have HC := Lib.hid c
      clear c
      rcases hjz with ⟨hodd, hE⟩ | ⟨heven, rfl⟩
      · have hm : Int.tmod (q : Int) 2 = 1 := by rw [Int.tmod_eq_emod_of_nonneg (by omega)]; omega
        clear hodd
        go_wp2_with (at_builtin; refine wpList_append_lies _ rfl _ _ 30 rfl g 3 i0 (.int .i64 0) 1 8 Tryz.underlying30 hi hz0 hz1 hz2 rfl (by decide) _ _ _ rfl (World.ownsRow.alloc HC.out _) ⟨wr.heap.size, 0, none⟩ 1 1 [.int .i64 (k : Int)] rfl rfl ?c1 ?c2 (by decide) ?c3 ?c4 ?c5 _ rfl ?_)
        case c1 =>
          intro j u hj
          match j, hj with
          | 0, hj => simp at hj; subst hj; simp [Addr.add]
        case c2 => intro u hu; simp at hu; subst hu; rfl
        case c3 => unfold maxLen; omega
        case c4 => omega
        case c5 => have := hb.size; simp; omega
        intro g' cap w1 hown' hgrow hat hlt1
        have q1 : w1.cell? ⟨g, j, none⟩ = some v := (hgrow.cell_far ⟨g, j, none⟩ (by simp; omega) (fun q => d q.symm)).trans ((((Below.refl wr.heap.size wr).alloc (Nat.le_refl _) _).cell (p := ⟨g, j, none⟩) hg).trans a)
        have q2 : w1.frozen? ⟨g, j, none⟩ = false := (hgrow.frozen_far ⟨g, j, none⟩ (by simp; omega) (fun q => d q.symm)).trans ((((Below.refl wr.heap.size wr).alloc (Nat.le_refl _) _).frozen (p := ⟨g, j, none⟩) hg).trans b)
        have hR2 := hR.step hjl a hgrow hown' (by simpa using hat) hlt1 HE.out HE2.out
        have hb1' : Below g w w1 := (hb.alloc (Nat.le_of_lt hg) _).grown hgrow (by simp; omega) (fun r hr => (World.ownsRow.lt HC.out r hr).1)
        have hb2 : Below g w (w1.setCell ⟨g, j, none⟩ (.slice (some ⟨g', 0, none⟩) ((rowsZ h k j).length + 1) cap)) := hb1'.setCell hB _
        clear hown' hgrow hat hR HC
        go_wp2
        go_roundw
        case rel => exact ⟨k + 1, by omega, by go_num, hR2, hb2⟩
        case measure => simp [intOf]; omega
      · have hm : Int.tmod (q : Int) 2 = 0 := by rw [Int.tmod_eq_emod_of_nonneg (by omega)]; omega
        clear heven
        go_wp2_with (at_builtin; refine wpList_append_lies _ rfl _ _ 30 rfl g 3 i0 (.int .i64 0) 1 8 Tryz.underlying30 hi hz0 hz1 hz2 rfl (by decide) _ _ _ rfl (World.ownsRow.alloc HC.out _) ⟨wr.heap.size, 0, none⟩ 1 1 [.int .i64 (k : Int)] rfl rfl ?c1 ?c2 (by decide) ?c3 ?c4 ?c5 _ rfl ?_)
        case c1 =>
          intro j u hj
          match j, hj with
          | 0, hj => simp at hj; subst hj; simp [Addr.add]
        case c2 => intro u hu; simp at hu; subst hu; rfl
        case c3 => unfold maxLen; omega
        case c4 => omega
        case c5 => have := hb.size; simp; omega
        intro g' cap w1 hown' hgrow hat hlt1
        have q1 : w1.cell? ⟨g, p, none⟩ = some v := (hgrow.cell_far ⟨g, p, none⟩ (by simp; omega) (fun q => d q.symm)).trans ((((Below.refl wr.heap.size wr).alloc (Nat.le_refl _) _).cell (p := ⟨g, p, none⟩) hg).trans a)
        have q2 : w1.frozen? ⟨g, p, none⟩ = false := (hgrow.frozen_far ⟨g, p, none⟩ (by simp; omega) (fun q => d q.symm)).trans ((((Below.refl wr.heap.size wr).alloc (Nat.le_refl _) _).frozen (p := ⟨g, p, none⟩) hg).trans b)
        have hR2 := hR.step hjl a hgrow hown' (by simpa using hat) hlt1 HE.out HE2.out
        have hb1' : Below g w w1 := (hb.alloc (Nat.le_of_lt hg) _).grown hgrow (by simp; omega) (fun r hr => (World.ownsRow.lt HC.out r hr).1)
        have hb2 : Below g w (w1.setCell ⟨g, p, none⟩ (.slice (some ⟨g', 0, none⟩) ((rowsZ h k p).length + 1) cap)) := hb1'.setCell hB _
        clear hown' hgrow hat hR HC
        go_wp2
        go_roundw
        case rel => exact ⟨k + 1, by omega, by go_num, hR2, hb2⟩
        case measure => simp [intOf]; omega
    · have hkn : k = n := by omega
      subst hkn
      have HF := Lib.hid (And.intro hR hb)
      clear hR hb
      go_wp2
      go_ret
      exact ⟨g, rfl, by rw [← HG.out]; exact HF.out.1, by rw [← HG.out]; exact HF.out.2⟩
theorem GrowR.set_ {w : World} {B g h j k x : Nat} {R R' : Nat → List Nat} (hR : GrowR w B g h R) (hj : j < h) {g' n cap : Nat} (hv : w.cell? ⟨g, j, none⟩ = some (.slice (some ⟨g', 0, none⟩) n cap)) (h1 : R' j = (R j).set k x) (h2 : ∀ i, i ≠ j → R' i = R i) :
    GrowR (w.setCell ⟨g', k, none⟩ (.int .i64 (x : Int))) B g h R' := by
  obtain ⟨hg, hB, V, hV, hD⟩ := hR
  obtain ⟨a, b, c, d⟩ := hV j hj
  have hvj : V j = .slice (some ⟨g', 0, none⟩) n cap := Option.some.inj (a.symm.trans hv)
  rw [hvj] at c d
  have hgg : g' ≠ g := fun q => d (by rw [q]; rfl)
  have hn : n = (R j).length := by
    rcases c.2 with ⟨q, _⟩ | ⟨_, _, _, q, _⟩
    · cases q
    · injection q
  refine ⟨by simpa using hg, hB, V, fun i hi => ?_, hD⟩
  obtain ⟨a', b', c', d'⟩ := hV i hi
  refine ⟨?_, by simpa using b', ?_, d'⟩
  · rw [World.cell?_setCell_other w _ _ _ (by intro e2; injection e2 with e3; exact hgg e3)]
    exact a'
  · by_cases e : i = j
    · subst e
      rw [hvj, h1, List.length_set, List.map_set]
      subst hn
      exact (World.ownsRow.stored c k (.int .i64 (x : Int))).1
    · rw [h2 i e]
      refine c'.kept (grown_set w g' k _) ?_
      rcases hD i j hi hj e with q | q
      · exact .inl q
      · right
        rw [hvj] at q
        exact q
end Go.Mk
end
section
set_option linter.unusedVariables false
set_option linter.unusedSimpArgs false
open Go Go.Proofs Go.RowKit Go.Sort
set_option maxRecDepth 100000
namespace Go.Mk
def mixR (f : Nat → Nat) (R : Nat → List Nat) (i k : Nat) : Nat → List Nat := fun j => if j < i then (R j).map f else if j = i then ((R j).take k).map f ++ (R j).drop k else R j
theorem mixR_len (f : Nat → Nat) (R : Nat → List Nat) (i k j : Nat) : (mixR f R i k j).length = (R j).length := by
  unfold mixR
  split
  · rw [List.length_map]
  · split
    · rw [List.length_append, List.length_map, ← List.length_append, List.take_append_drop]
    · rfl
theorem mixR_at (f : Nat → Nat) (R : Nat → List Nat) (i k : Nat) : (mixR f R i k i)[k]? = (R i)[k]? := by
  unfold mixR
  rw [if_neg (Nat.lt_irrefl _), if_pos rfl]
  by_cases h : k < (R i).length
  · rw [List.getElem?_append_right (by rw [List.length_map, List.length_take]; omega), List.length_map, List.length_take, show k - min k (R i).length = 0 by omega, List.getElem?_drop, Nat.add_zero]
  · rw [List.getElem?_eq_none (by rw [List.length_append, List.length_map, ← List.length_append, List.take_append_drop]; omega), List.getElem?_eq_none (by omega)]
theorem mixR_step (f : Nat → Nat) (R : Nat → List Nat) (i k r : Nat) (h : (R i)[k]? = some r) : mixR f R i (k + 1) i = (mixR f R i k i).set k (f r) := by
  have hk := (List.getElem?_eq_some_iff.1 h).1
  unfold mixR
  rw [if_neg (Nat.lt_irrefl _), if_pos rfl, if_neg (Nat.lt_irrefl _), if_pos rfl]
  rw [List.set_append_right _ _ (by rw [List.length_map, List.length_take]; omega), List.length_map, List.length_take, show k - min k (R i).length = 0 by omega, List.take_add_one, h, List.map_append, List.drop_eq_getElem_cons hk, List.set_cons_zero]
  simp
theorem mixR_other (f : Nat → Nat) (R : Nat → List Nat) (i k j : Nat) (h : j ≠ i) : mixR f R i (k + 1) j = mixR f R i k j := by
  unfold mixR
  rw [if_neg h, if_neg h]
theorem mixR_next (f : Nat → Nat) (R : Nat → List Nat) (i : Nat) : mixR f R i (R i).length = mixR f R (i + 1) 0 := by
  funext j
  unfold mixR
  by_cases h1 : j < i
  · rw [if_pos h1, if_pos (by omega)]
  · rw [if_neg h1]
    by_cases h2 : j = i
    · rw [if_pos h2, if_pos (by omega), h2, List.take_of_length_le (Nat.le_refl _), List.drop_of_length_le (Nat.le_refl _), List.append_nil]
    · rw [if_neg h2, if_neg (by omega)]
      by_cases h3 : j = i + 1
      · rw [if_pos h3]; simp
      · rw [if_neg h3]
theorem mixR_zero (f : Nat → Nat) (R : Nat → List Nat) : mixR f R 0 0 = R := by
  funext j
  unfold mixR
  rw [if_neg (by omega)]
  by_cases h3 : j = 0
  · rw [if_pos h3]; simp
  · rw [if_neg h3]
theorem GrowR.congr {w : World} {B g h : Nat} {R R' : Nat → List Nat} (hR : GrowR w B g h R) (he : ∀ j, j < h → R' j = R j) : GrowR w B g h R' := by
  obtain ⟨hg, hB, V, hV, hD⟩ := hR
  refine ⟨hg, hB, V, fun i hi => ?_, hD⟩
  rw [he i hi]
  exact hV i hi
theorem GrowR.at_ {w : World} {B g h j : Nat} {R : Nat → List Nat} (hR : GrowR w B g h R) (hj : j < h) : ∃ a c, w.cell? ⟨g, j, none⟩ = some (.slice a (R j).length c) ∧ ∀ k r : Nat, (R j)[k]? = some r → ∃ g', a = some ⟨g', 0, none⟩ ∧ B ≤ g' ∧ g' < w.heap.size ∧ g' ≠ g ∧ w.cell? ⟨g', k, none⟩ = some (.int .i64 (r : Int)) ∧ w.frozen? ⟨g', k, none⟩ = false := by
  obtain ⟨hg, hB, V, hV, hD⟩ := hR
  obtain ⟨a, b, c, d⟩ := hV j hj
  rcases c.2 with ⟨q, q0⟩ | ⟨g', cap, cur, q, qB, qg, _⟩
  · refine ⟨none, 0, by rw [a, q, q0], fun k r hr => ?_⟩
    have := (List.getElem?_eq_some_iff.1 hr).1
    omega
  · rw [q] at c d
    refine ⟨_, _, by rw [a, q], fun k r hr => ⟨g', rfl, qB, ?_, fun e => d (by rw [e]; rfl), ?_, World.ownsRow.frozenAt c k⟩⟩
    · rcases Nat.lt_or_ge g' w.heap.size with hl | hl
      · exact hl
      · rw [Array.getElem?_eq_none hl] at qg; cases qg
    · have hk := (List.getElem?_eq_some_iff.1 hr).1
      rw [World.ownsRow.cellAt c k (by omega), List.getElem?_map, hr]; rfl
def heatsR (O : List Int) (h n : Nat) : Nat → List Nat := fun i => (rowsZ h n i).map fun r => (ga O r).toNat
theorem mixR_all (f : Nat → Nat) (R : Nat → List Nat) (h j : Nat) (hj : j < h) : (fun i => (R i).map f) j = mixR f R h 0 j := by
  unfold mixR
  rw [if_pos hj]
set_option maxHeartbeats 1000000 in
theorem orderInHeats_bad (L : List Ent) (n cap : Nat) (A : Option Addr) (B : Nat) (h key e : Int) (w : World) (hZ : Ents w B A n L) (hn : n ≤ 1000) (hs : ∀ x ∈ L, x.ok) (hg : 13 ≤ w.heap.size) (he : fstN [chkEnts L, rngE h 1 16] = e) (hne : (e != 0) = true) :
    Calls Tryz.prog 57 #[.slice A n cap, .int .i64 h, .int .i64 key] w (RetPost (.tuple #[.slice none 0 0, .int .i64 e]) w) := by
  have HC : Hid (∀ w', Below w.heap.size w w' → Calls Tryz.prog 12 #[.slice A n cap] w' (RetPost (.int .i64 (chkEnts L)) w')) := Lib.hid fun w' hb => seedCheckEntrants_all L n cap A B w' (hZ.below hb hZ.2.1) hn hs (Nat.le_trans hg hb.size)
  have HH := Lib.hid (heatsError_any h)
  have HF : Hid (∀ g w, Es w g [chkEnts L, rngE h 1 16] → Calls Tryz.prog 49 #[.slice (some ⟨g, 0, none⟩) 2 2] w (RetSame (.int .i64 (fstN [chkEnts L, rngE h 1 16])) w)) := Lib.hid fun g w => seedFirst_any [chkEnts L, rngE h 1 16] 2 rfl (by decide) g w
  rw [he] at HF
  generalize chkEnts L = x at *
  generalize rngE h 1 16 = y at *
  clear he hZ hs hg
  go_enter Tryz.func57, Tryz.ntmps57
  go_wp2_with fail
  refine (HC.out _ (Below.refl _ _)).mono ?_
  rintro e1 w1 ⟨rfl, hb1⟩
  go_wp2_with fail
  refine (HH.out _).mono ?_
  rintro e2 w2 ⟨rfl, rfl⟩
  go_wp2_with fail
  refine (HF.out _ _ (es2 _ _ _ _)).mono ?_
  rintro e3 w3 ⟨rfl, rfl⟩
  have hB3 := balloc (.cells #[.int .i64 x, .int .i64 y] 28) hb1
  generalize World.alloc _ _ = w3 at *
  go_wp2
  go_ret2
  exact ⟨rfl, hB3⟩
def OEnd (Q : World → Value → Int → World → Prop) (w : World) (e : Ending) (w' : World) : Prop := ∃ v z, e = .returned (.tuple #[v, .int .i64 z]) ∧ Q w v z w'
set_option maxHeartbeats 1000000 in
theorem orderInHeats_pass (L : List Ent) (n cap : Nat) (A : Option Addr) (B : Nat) (h key : Int) (w : World) (hZ : Ents w B A n L) (hn : n ≤ 1000) (hs : ∀ x ∈ L, x.ok) (hg : 13 ≤ w.heap.size) (h0 : chkEnts L = 0) (h1 : rngE h 1 16 = 0) (Q : World → Value → Int → World → Prop)
    (hO : ∀ w', Below w.heap.size w w' → Calls Tryz.prog 13 #[.slice A n cap, .int .i64 key] w' (OEnd Q w')) :
    Calls Tryz.prog 57 #[.slice A n cap, .int .i64 h, .int .i64 key] w fun e w' => ∃ v z w1, e = .returned (.tuple #[v, .int .i64 z]) ∧ Below w.heap.size w w1 ∧ Q w1 v z w' := by
  have HC : Hid (∀ w', Below w.heap.size w w' → Calls Tryz.prog 12 #[.slice A n cap] w' (RetPost (.int .i64 0) w')) := Lib.hid fun w' hb => by
    have := seedCheckEntrants_all L n cap A B w' (hZ.below hb hZ.2.1) hn hs (Nat.le_trans hg hb.size)
    rwa [h0] at this
  have HH : Hid (∀ w, Calls Tryz.prog 60 #[.int .i64 h] w (RetSame (.int .i64 0) w)) := Lib.hid fun w => by
    have := heatsError_any h w
    rwa [h1] at this
  have HF : Hid (∀ g w, Es w g [0, 0] → Calls Tryz.prog 49 #[.slice (some ⟨g, 0, none⟩) 2 2] w (RetSame (.int .i64 0) w)) := Lib.hid fun g w => seedFirst_any [0, 0] 2 rfl (by decide) g w
  have HO := Lib.hid hO
  unfold OEnd at HO
  clear h0 h1 hZ hs hg hO
  go_enter Tryz.func57, Tryz.ntmps57
  go_wp2_with fail
  refine (HC.out _ (Below.refl _ _)).mono ?_
  rintro e1 w1 ⟨rfl, hb1⟩
  go_wp2_with fail
  refine (HH.out _).mono ?_
  rintro e2 w2 ⟨rfl, rfl⟩
  go_wp2_with fail
  refine (HF.out _ _ (es2 _ _ _ _)).mono ?_
  rintro e3 w3 ⟨rfl, rfl⟩
  have hB3 := balloc (.cells #[.int .i64 0, .int .i64 0] 28) hb1
  generalize World.alloc _ _ = w3 at *
  go_wp2_with fail
  refine (HO.out _ hB3).mono ?_
  rintro e4 w4 ⟨v, z, rfl, hq⟩
  have HQ := Lib.hid (And.intro hB3 hq)
  clear hB3 hq hb1
  go_wp2
  go_ret2
  exact ⟨v, z, _, rfl, HQ.out.1, HQ.out.2⟩
end Go.Mk
end
