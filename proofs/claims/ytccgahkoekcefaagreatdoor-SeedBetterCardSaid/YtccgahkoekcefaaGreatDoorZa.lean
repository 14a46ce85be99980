/-
  Proved: plain facts on a zigzag: the ranks of each heat, in closed form; each rank is in just one heat; two heats with as many athletes, an even number, have the same sum. No condition.
  Proved: seed.Zigzag returns the ranks of each heat, in new memory. Condition: up to 160 ranks and from 1 to 16 heats.
-/
import Derived.WalkKit
import Derived.Test.YtccgahkoekcefaaGreatDoorEe
import Derived.Deep.AppendLies
import Derived.Deep.RegionLaw
section
namespace Go.Mk
def zHeat (h r : Nat) : Nat := if r / h % 2 = 1 then h - 1 - r % h else r % h
def rowsZ (h : Nat) : Nat → Nat → List Nat
  | 0, _ => []
  | r + 1, i => if i = zHeat h r then rowsZ h r i ++ [r] else rowsZ h r i
def zz (h i k : Nat) : Nat := k * h + (if k % 2 = 1 then h - 1 - i else i)
def zLen (h i r : Nat) : Nat := r / h + (if zz h i (r / h) < r then 1 else 0)
theorem zHeat_lt (h r : Nat) (hh : 1 ≤ h) : zHeat h r < h := by
  have := Nat.mod_lt r (show 0 < h by omega)
  unfold zHeat
  split <;> omega
theorem zz_heat (h r : Nat) (hh : 1 ≤ h) : zz h (zHeat h r) (r / h) = r := by
  have h1 := Nat.mod_lt r (show 0 < h by omega)
  have h2 := Nat.div_add_mod r h
  have h3 : h * (r / h) = r / h * h := Nat.mul_comm _ _
  unfold zz zHeat
  split
  · omega
  · omega
theorem zz_inj (h i r : Nat) (hh : 1 ≤ h) (hi : i < h) (e : zz h i (r / h) = r) : i = zHeat h r := by
  have h1 := Nat.mod_lt r (show 0 < h by omega)
  have h2 := Nat.div_add_mod r h
  have h3 : h * (r / h) = r / h * h := Nat.mul_comm _ _
  unfold zz at e
  unfold zHeat
  split
  · rename_i q; rw [if_pos q] at e; omega
  · rename_i q; rw [if_neg q] at e; omega
theorem zz_group (h i k : Nat) (hi : i < h) : zz h i k / h = k := by
  unfold zz
  have hr : (if k % 2 = 1 then h - 1 - i else i) < h := by split <;> omega
  rw [Nat.add_comm, Nat.add_mul_div_right _ _ (by omega), Nat.div_eq_of_lt hr]
  omega
theorem zz_bounds (h i k : Nat) (hi : i < h) : k * h ≤ zz h i k ∧ zz h i k < k * h + h := by
  unfold zz
  have hr : (if k % 2 = 1 then h - 1 - i else i) < h := by split <;> omega
  omega
theorem zLen_step (h i r : Nat) (hh : 1 ≤ h) (hi : i < h) : zLen h i (r + 1) = zLen h i r + (if i = zHeat h r then 1 else 0) := by
  have h1 := Nat.mod_lt r (show 0 < h by omega)
  have h2 := Nat.div_add_mod r h
  have h3 : h * (r / h) = r / h * h := Nat.mul_comm _ _
  have hb := zz_bounds h i (r / h) hi
  have heq : zz h i (r / h) = r ↔ i = zHeat h r := ⟨zz_inj h i r hh hi, fun e => by rw [e]; exact zz_heat h r hh⟩
  unfold zLen
  by_cases q : r % h + 1 < h
  · have hd : (r + 1) / h = r / h := by
      rw [show r + 1 = (r % h + 1) + r / h * h from by omega, Nat.add_mul_div_right _ _ (by omega), Nat.div_eq_of_lt q]
      omega
    rw [hd]
    by_cases e : i = zHeat h r
    · have := heq.2 e
      rw [if_pos (by omega), if_neg (by omega), if_pos e]
    · have : ¬ zz h i (r / h) = r := fun z => e (heq.1 z)
      rw [if_neg e]
      by_cases z : zz h i (r / h) < r
      · rw [if_pos (by omega), if_pos z]
      · rw [if_neg (by omega), if_neg z]
  · have hd : (r + 1) / h = r / h + 1 := by
      rw [show r + 1 = 0 + (r / h + 1) * h from by rw [Nat.add_mul]; omega, Nat.add_mul_div_right _ _ (by omega)]
      simp
    have hb2 := zz_bounds h i (r / h + 1) hi
    have hm : (r / h + 1) * h = r / h * h + h := by rw [Nat.add_mul]; omega
    rw [hd, if_neg (by omega)]
    by_cases e : i = zHeat h r
    · have := heq.2 e
      rw [if_neg (by omega), if_pos e]
    · have : ¬ zz h i (r / h) = r := fun z => e (heq.1 z)
      rw [if_neg e, if_pos (by omega)]
theorem rowsZ_closed (h i : Nat) (hh : 1 ≤ h) (hi : i < h) (r : Nat) : rowsZ h r i = (List.range (zLen h i r)).map (zz h i) := by
  induction r with
  | zero => simp [rowsZ, zLen, zz]
  | succ r ih =>
    rw [rowsZ, zLen_step h i r hh hi, ih]
    by_cases e : i = zHeat h r
    · rw [if_pos e, if_pos e, List.range_succ, List.map_append]
      congr 1
      have hz : zLen h i r = r / h := by
        have := zz_heat h r hh
        unfold zLen
        rw [if_neg (by rw [e]; omega)]
        omega
      simp only [List.map_cons, List.map_nil, hz]
      rw [e, zz_heat h r hh]
    · rw [if_neg e, if_neg e]
      rfl
theorem rowsZ_mem (h i x : Nat) (r : Nat) : x ∈ rowsZ h r i ↔ x < r ∧ zHeat h x = i := by
  induction r with
  | zero => simp [rowsZ]
  | succ r ih =>
    rw [rowsZ]
    by_cases e : i = zHeat h r
    · rw [if_pos e, List.mem_append, ih, List.mem_singleton]
      constructor
      · rintro (⟨a, b⟩ | rfl)
        · exact ⟨by omega, b⟩
        · exact ⟨by omega, e.symm⟩
      · rintro ⟨a, b⟩
        by_cases q : x = r
        · exact .inr q
        · exact .inl ⟨by omega, b⟩
    · rw [if_neg e, ih]
      constructor
      · rintro ⟨a, b⟩; exact ⟨by omega, b⟩
      · rintro ⟨a, b⟩
        refine ⟨?_, b⟩
        by_cases q : x = r
        · subst q; exact absurd b.symm e
        · omega
theorem rowsZ_nodup (h i : Nat) (r : Nat) : (rowsZ h r i).Nodup := by
  induction r with
  | zero => simp [rowsZ]
  | succ r ih =>
    rw [rowsZ]
    split
    · rw [List.nodup_append]
      refine ⟨ih, by simp, fun a ha b hb => ?_⟩
      have := ((rowsZ_mem h i a r).1 ha).1
      simp at hb
      omega
    · exact ih
def flatZ (h n : Nat) : List Nat := (List.range h).flatMap (rowsZ h n)
theorem flatZ_mem (h n x : Nat) : x ∈ flatZ h n → x < n := by
  intro hx
  obtain ⟨i, _, hx⟩ := List.mem_flatMap.1 hx
  exact ((rowsZ_mem h i x n).1 hx).1
theorem flat_nodup {α : Type} (f : Nat → List α) (m : Nat) (h1 : ∀ i, (f i).Nodup) (h2 : ∀ i j x, x ∈ f i → x ∈ f j → i = j) : ((List.range m).flatMap f).Nodup := by
  induction m with
  | zero => simp
  | succ m ih =>
    rw [List.range_succ, List.flatMap_append, List.nodup_append]
    refine ⟨ih, by simpa using h1 m, fun a ha b hb e => ?_⟩
    subst e
    obtain ⟨i, hi, ha⟩ := List.mem_flatMap.1 ha
    simp at hb
    have := h2 i m a ha hb
    have := List.mem_range.1 hi
    omega
theorem flatZ_nodup (h n : Nat) : (flatZ h n).Nodup := by
  refine flat_nodup _ _ (fun i => rowsZ_nodup h i n) fun i j x hi hj => ?_
  have a := ((rowsZ_mem h i x n).1 hi).2
  have b := ((rowsZ_mem h j x n).1 hj).2
  omega
theorem sumLen_step (f g : Nat → List Nat) (m j : Nat) (hj : j < m) (h1 : (g j).length = (f j).length + 1) (h2 : ∀ i, i ≠ j → g i = f i) : ((List.range m).flatMap g).length = ((List.range m).flatMap f).length + 1 := by
  induction m with
  | zero => omega
  | succ m ih =>
    simp only [List.range_succ, List.flatMap_append, List.length_append, List.flatMap_cons, List.flatMap_nil, List.append_nil]
    by_cases e : m = j
    · subst e
      rw [h1]
      have : ∀ k, k ≤ m → ((List.range k).flatMap g) = ((List.range k).flatMap f) := by
        intro k hk
        induction k with
        | zero => rfl
        | succ k ihk =>
          simp only [List.range_succ, List.flatMap_append, List.flatMap_cons, List.flatMap_nil, List.append_nil]
          rw [ihk (by omega), h2 k (by omega)]
      rw [this m (Nat.le_refl _)]
      omega
    · rw [ih (by omega), h2 m e]
      omega
theorem flatZ_len (h n : Nat) (hh : 1 ≤ h) : (flatZ h n).length = n := by
  induction n with
  | zero =>
    unfold flatZ
    rw [List.length_eq_zero_iff, List.flatMap_eq_nil_iff]
    intro x _
    rfl
  | succ n ih =>
    have := sumLen_step (rowsZ h n) (rowsZ h (n + 1)) h (zHeat h n) (zHeat_lt h n hh) (by rw [rowsZ, if_pos rfl]; simp) (fun i hi => by rw [rowsZ, if_neg hi])
    unfold flatZ at ih ⊢
    rw [this, ih]
def sumZ (h i c : Nat) : Nat := ((List.range c).map (zz h i)).sum
theorem sumZ_succ (h i c : Nat) : sumZ h i (c + 1) = sumZ h i c + zz h i c := by
  unfold sumZ
  rw [List.range_succ, List.map_append, List.sum_append]
  simp
theorem sumZ_even (h i j m : Nat) (hi : i < h) (hj : j < h) : sumZ h i (2 * m) = sumZ h j (2 * m) := by
  induction m with
  | zero => rfl
  | succ m ih =>
    rw [show 2 * (m + 1) = 2 * m + 1 + 1 from by omega, sumZ_succ, sumZ_succ, sumZ_succ, sumZ_succ, ih]
    unfold zz
    rw [if_neg (by omega), if_pos (by omega), if_neg (by omega), if_pos (by omega)]
    omega
end Go.Mk
end
section
set_option linter.unusedVariables false
set_option linter.unusedSimpArgs false
open Go Go.Proofs Go.RowKit Go.Sort
set_option maxRecDepth 100000
namespace Go.Mk
theorem zA1 {α : Type} (l : List α) (i : Nat) (a : α) : l.toArray.setIfInBounds i a = (l.set i a).toArray := List.setIfInBounds_toArray l i a
theorem zA2 {α : Type} {x : α} {l : List α} {a : α} : (x :: l).set 0 a = a :: l := rfl
theorem zA3 {α : Type} {x : α} {l : List α} {i : Nat} {a : α} : (x :: l).set (i + 1) a = x :: l.set i a := rfl
theorem zA4 {α : Type} {l : List α} {i : Nat} (h : i < l.toArray.size) : l.toArray[i] = l[i]'(by simpa using h) := List.getElem_toArray h
theorem zA5 {α : Type} (a : α) (l : List α) (h : 0 < (a :: l).length) : (a :: l)[0] = a := rfl
theorem zA6 {α : Type} (a : α) (l : List α) (i : Nat) (h : i + 1 < (a :: l).length) : (a :: l)[i + 1] = l[i]'(by simpa using h) := rfl
theorem infoInts : (Tryz.prog.info? 30).map (fun i => (i.zero, i.size, i.bytes)) = some (some (.slice none 0 0), 1, 24) := by kernel_rfl
def GrowR (w : World) (B g h : Nat) (R : Nat → List Nat) : Prop :=
  g < w.heap.size ∧ B ≤ g ∧ ∃ V : Nat → Value,
    (∀ i, i < h → w.cell? ⟨g, i, none⟩ = some (V i) ∧ w.frozen? ⟨g, i, none⟩ = false ∧ w.ownsRow B 3 1 (V i) (R i).length ((R i).map fun x => Value.int .i64 ((x : Nat) : Int)) ∧ (V i).ownBlock ≠ some g) ∧
    ∀ i j, i < h → j < h → i ≠ j → (V i).ownBlock = none ∨ (V i).ownBlock ≠ (V j).ownBlock
theorem grown_set (w : World) (g j : Nat) (u : Value) : w.grownBy (w.setCell ⟨g, j, none⟩ u) (some g) :=
  ⟨rfl, rfl, rfl, by simp, fun k _ hk => heap_setCell_other w ⟨g, j, none⟩ k u (fun e => hk (by simp [e]))⟩
theorem GrowR.start (w w0 : World) (B h : Nat) (hB : B ≤ w.heap.size) (hw : w0 = w.alloc (.cells (madeCells #[.slice none 0 0] h) 30)) : GrowR w0 B w.heap.size h fun _ => [] := by
  subst hw
  refine ⟨by simp, hB, fun _ => .slice none 0 0, fun i hi => ⟨?_, by simp, World.ownsRow_nil _ _ _ _, by simp [Value.ownBlock]⟩, fun i j _ _ _ => .inl rfl⟩
  simp [madeCells, hi, Nat.mod_one]
theorem own_drew {w : World} {B e size n : Nat} {v : Value} {xs : List Value} (h : w.ownsRow B e size v n xs) : w.drew.ownsRow B e size v n xs := h
theorem GrowR.below {w w' : World} {B g h : Nat} {R : Nat → List Nat} (hR : GrowR w B g h R) (hb : Below w.heap.size w w') : GrowR w' B g h R := by
  obtain ⟨hg, hB, V, h1, h2⟩ := hR
  refine ⟨Nat.lt_of_lt_of_le hg hb.size, hB, V, fun i hi => ?_, h2⟩
  obtain ⟨a, b, c, d⟩ := h1 i hi
  exact ⟨(hb.cell (p := ⟨g, i, none⟩) hg).trans a, (hb.frozen (p := ⟨g, i, none⟩) hg).trans b, ownN c hb, d⟩
theorem GrowR.step {wr w1 : World} {B g h j : Nat} {R R' : Nat → List Nat} {x : Nat} {t : TypeId} {v : Value} {g' cap : Nat} (hR : GrowR wr B g h R) (hj : j < h) (hv : wr.cell? ⟨g, j, none⟩ = some v)
    (hgrow : (wr.alloc (.cells #[.int .i64 (x : Int)] t)).grownBy w1 v.ownBlock) (hown : w1.ownsRow B 3 1 (.slice (some ⟨g', 0, none⟩) ((R j).length + 1) cap) ((R j).length + 1) ((R j).map (fun x => Value.int .i64 ((x : Nat) : Int)) ++ [.int .i64 (x : Int)]))
    (hat : v.ownBlock = some g' ∨ g' = wr.heap.size + 1) (hlt : g' < w1.heap.size) (h1 : R' j = R j ++ [x]) (h2 : ∀ i, i ≠ j → R' i = R i) :
    GrowR (w1.setCell ⟨g, j, none⟩ (.slice (some ⟨g', 0, none⟩) ((R j).length + 1) cap)) B g h R' := by
  obtain ⟨hg, hB, V, hV, hD⟩ := hR
  obtain ⟨a, b, c, d⟩ := hV j hj
  obtain rfl : v = V j := Option.some.inj (hv.symm.trans a)
  have hs : (wr.alloc (.cells #[.int .i64 (x : Int)] t)).heap.size = wr.heap.size + 1 := by simp
  have hsz : wr.heap.size + 1 ≤ w1.heap.size := by have := hgrow.size; omega
  have hgg : g' ≠ g := by
    rcases hat with e | e
    · intro q; exact d (by rw [e, q])
    · omega
  have cellg : ∀ i, w1.cell? ⟨g, i, none⟩ = wr.cell? ⟨g, i, none⟩ := fun i => (hgrow.cell_far ⟨g, i, none⟩ (by simp; omega) (fun q => d q.symm)).trans (((Below.refl wr.heap.size wr).alloc (Nat.le_refl _) _).cell (p := ⟨g, i, none⟩) hg)
  have frozg : ∀ i, w1.frozen? ⟨g, i, none⟩ = wr.frozen? ⟨g, i, none⟩ := fun i => (hgrow.frozen_far ⟨g, i, none⟩ (by simp; omega) (fun q => d q.symm)).trans (((Below.refl wr.heap.size wr).alloc (Nat.le_refl _) _).frozen (p := ⟨g, i, none⟩) hg)
  refine ⟨by simpa using (show g < w1.heap.size by omega), hB, fun i => if i = j then .slice (some ⟨g', 0, none⟩) ((R j).length + 1) cap else V i, fun i hi => ?_, fun i k hi hk hik => ?_⟩
  · by_cases e : i = j
    · subst e
      simp only [if_true]
      refine ⟨World.cell?_setCell_same w1 _ _ ((cellg i).trans a), by simpa using (frozg i).trans b, ?_, by simpa [Value.ownBlock] using hgg⟩
      rw [h1, List.length_append, List.map_append]
      exact hown.kept (grown_set w1 g i _) (.inr (by simpa [Value.ownBlock] using hgg))
    · simp only [if_neg e]
      obtain ⟨a', b', c', d'⟩ := hV i hi
      refine ⟨?_, by simpa using (frozg i).trans b', ?_, d'⟩
      · rw [World.cell?_setCell_other w1 _ _ _ (by intro e2; injection e2 with _ e3; exact e e3.symm)]
        exact (cellg i).trans a'
      · rw [h2 i e]
        refine (((c'.alloc _).kept hgrow ?_)).kept (grown_set w1 g j _) (.inr d')
        exact hD i j hi hj e
  · by_cases e : i = j
    · subst e
      simp only [if_true, if_neg (fun q => hik q.symm : ¬ k = i)]
      right
      intro q
      replace q : some g' = (V k).ownBlock := q
      rcases hat with e2 | e2
      · rcases hD k i hk hi (fun q => hik q.symm) with e3 | e3
        · rw [e3] at q; cases q
        · exact e3 (q.symm.trans e2.symm)
      · have := World.ownsRow.lt (hV k hk).2.2.1 g' q.symm
        omega
    · simp only [if_neg e]
      by_cases e2 : k = j
      · subst e2
        simp only [if_true]
        rcases hD i k hi hk hik with e3 | e3
        · exact .inl e3
        · right
          intro q
          replace q : (V i).ownBlock = some g' := q
          rcases hat with e4 | e4
          · exact e3 (q.trans e4.symm)
          · have := World.ownsRow.lt (hV i hi).2.2.1 g' q
            omega
      · simp only [if_neg e2]
        exact hD i k hi hk hik
set_option maxHeartbeats 1000000 in
theorem zigzagHeat_any (r h : Nat) (w : World) (hr : r ≤ 1000) (h1 : 1 ≤ h) (h2 : h ≤ 16) : Calls Tryz.prog 61 #[.int .i64 (r : Int), .int .i64 (h : Int)] w (RetPost (.int .i64 ((zHeat h r : Nat) : Int)) w) := by
  obtain ⟨q, hq⟩ : ∃ q, r / h = q := ⟨_, rfl⟩
  obtain ⟨p, hp⟩ : ∃ p, r % h = p := ⟨_, rfl⟩
  have hq1 : Int.tdiv (r : Int) (h : Int) = (q : Int) := by rw [Int.tdiv_eq_ediv_of_nonneg (by omega), ← hq]; simp
  have hp1 : Int.tmod (r : Int) (h : Int) = (p : Int) := by rw [Int.tmod_eq_emod_of_nonneg (by omega), ← hp]; simp
  have hpl : p < h := by rw [← hp]; exact Nat.mod_lt _ (by omega)
  have hql : q ≤ r := by rw [← hq]; exact Nat.div_le_self _ _
  have hh0 : h ≠ 0 := by omega
  have hqw : IntKind.i64.wrap (q : Int) = (q : Int) := IntWalk.i64_in _ (by omega)
  have hzz : (zHeat h r : Nat) = if q % 2 = 1 then h - 1 - p else p := by unfold zHeat; rw [hq, hp]
  by_cases hodd : q % 2 = 1
  · rw [if_pos hodd] at hzz
    have h3 : ((zHeat h r : Nat) : Int) = (h : Int) - 1 - (p : Int) := by omega
    rw [h3]
    have hm : Int.tmod (q : Int) 2 = 1 := by rw [Int.tmod_eq_emod_of_nonneg (by omega)]; omega
    clear hq hp hzz h3
    go_enter Tryz.func61, Tryz.ntmps61
    go_wp2_with fail
    go_region
    go_wp2
    go_ret
    exact ⟨rfl, (Below.refl _ _).drew⟩
  · rw [if_neg hodd] at hzz
    rw [hzz]
    have hm : Int.tmod (q : Int) 2 = 0 := by rw [Int.tmod_eq_emod_of_nonneg (by omega)]; omega
    clear hq hp hzz
    go_enter Tryz.func61, Tryz.ntmps61
    go_wp2_with fail
    go_region
    go_wp2
    go_ret
    exact ⟨rfl, (Below.refl _ _).drew⟩
def Zigged (h n : Nat) (w : World) (e : Ending) (w' : World) : Prop :=
  ∃ g, e = .returned (.tuple #[.slice (some ⟨g, 0, none⟩) h h, .int .i64 0]) ∧ GrowR w' w.heap.size g h (rowsZ h n) ∧ Below w.heap.size w w'
set_option maxHeartbeats 4000000 in
theorem Zigzag_any (n h : Nat) (w : World) (hn : n ≤ 160) (h1 : 1 ≤ h) (h2 : h ≤ 16) : Calls Tryz.prog 22 #[.int .i64 (n : Int), .int .i64 (h : Int)] w (Zigged h n w) := by
  have hA := athletesError_any (n : Int)
  have hL := heatsError_any (h : Int)
  have hF := fun g w => seedFirst_any [rngE (n : Int) 0 160, rngE (h : Int) 1 16] 2 rfl (by decide) g w
  have r1 : rngE (n : Int) 0 160 = 0 := by unfold rngE; rw [if_neg (by omega)]
  have r2 : rngE (h : Int) 1 16 = 0 := by unfold rngE; rw [if_neg (by omega)]
  rw [r1, r2, show fstN [0, 0] = 0 from rfl] at hF
  rw [r1] at hA
  rw [r2] at hL
  obtain ⟨i0, hi, hz0, hz1, hz2⟩ := info_parts infoInt
  obtain ⟨j0, hj, hy0, hy1, hy2⟩ := info_parts infoInts
  have hmk : ∀ w : World, (Instr.makeSlice 33 (.int .i64 (h : Int)) (.int .i64 (h : Int))).run Tryz.prog w = .ok (.slice (some ⟨w.heap.size, 0, none⟩) h h) (w.alloc (.cells (madeCells #[.slice none 0 0] h) 30)) := by
    intro w
    have := run_make (P := Tryz.prog) w 33 30 j0 (.slice none 0 0) Tryz.underlying33 hj hy0 .i64 .i64 h h (by omega) (by omega) (by rw [hy2]; omega) (by omega)
    rw [hy1] at this
    simpa [Value.cells] using this
  have hni : (n : Int) ≤ 160 := by omega
  have hhi : (h : Int) ≤ 16 := by omega
  have hh0 : 0 ≤ (h : Int) := by omega
  clear r1 r2 hj hy0 hy1 hy2
  go_enter Tryz.func22, Tryz.ntmps22
  go_wp2_with fail
  refine (hA _).mono ?_
  rintro x w' ⟨rfl, rfl⟩
  go_wp2_with fail
  refine (hL _).mono ?_
  rintro x w' ⟨rfl, rfl⟩
  go_wp2_with fail
  refine (hF _ _ (es2 _ _ _ _)).mono ?_
  rintro x w' ⟨rfl, rfl⟩
  have hb0 : Below w.heap.size w (w.alloc (.cells #[.int .i64 0, .int .i64 0] 28)) := (Below.refl _ _).alloc (Nat.le_refl _) _
  generalize w.alloc (.cells #[.int .i64 0, .int .i64 0] 28) = wa at *
  go_wp2
  have hR0 := GrowR.start wa _ w.heap.size h hb0.size rfl
  have hb1 : Below w.heap.size w (wa.alloc (.cells (madeCells #[.slice none 0 0] h) 30)) := hb0.alloc hb0.size _
  obtain ⟨g, hg⟩ : ∃ g, g = wa.heap.size := ⟨_, rfl⟩
  rw [← hg] at hR0 ⊢
  generalize wa.alloc (.cells (madeCells #[.slice none 0 0] h) 30) = w0 at *
  clear hg hb0 hmk hA hL hF
  go_loopw [22] (fun i wr => ∃ k : Nat, k ≤ n ∧ i = .int .i64 k ∧ GrowR wr w.heap.size g h (rowsZ h k) ∧ Below w.heap.size w wr) (fun i _ => n - (intOf i).toNat)
  case atStart => exact ⟨0, by omega, rfl, hR0, hb1⟩
  case round =>
    obtain ⟨k, hk, rfl, hR, hb⟩ := hrel
    by_cases hlt : k < n
    · have hZ := fun w => zigzagHeat_any k h w (by omega) h1 h2
      obtain ⟨j, hj⟩ : ∃ j, zHeat h k = j := ⟨_, rfl⟩
      have hjl : j < h := by rw [← hj]; exact zHeat_lt h k h1
      rw [hj] at hZ
      have e1 : rowsZ h (k + 1) j = rowsZ h k j ++ [k] := by rw [rowsZ, if_pos hj.symm]
      have e2 : ∀ i, i ≠ j → rowsZ h (k + 1) i = rowsZ h k i := fun i q => by rw [rowsZ, if_neg (by rw [hj]; exact q)]
      have hlen : (rowsZ h k j).length ≤ 160 := by
        rw [rowsZ_closed h j h1 hjl k]
        have : k / h ≤ k := Nat.div_le_self _ _
        simp only [List.length_map, List.length_range, zLen]
        split <;> omega
      have HE := Lib.hid e1
      have HE2 := Lib.hid e2
      have hki : (k : Int) < (n : Int) := by omega
      have hji : (j : Int) < (h : Int) := by omega
      have hj0 : (0 : Int) ≤ (j : Int) := by omega
      clear e1 e2 hj
      go_wp2_with fail
      refine (hZ _).mono ?_
      rintro e w2 ⟨rfl, hb2⟩
      replace hR := hR.below hb2
      replace hb := hb.trans (hb2.mono hb.size)
      clear hb2 hZ
      have hR' := hR
      obtain ⟨hg, hB, V, hV, hD⟩ := hR'
      obtain ⟨a, b, c, d⟩ := hV j hjl
      obtain ⟨v, hv⟩ : ∃ v, V j = v := ⟨_, rfl⟩
      rw [hv] at a c d
      clear hV hD hv
      have HC := Lib.hid c
      clear c
      go_wp2_with (at_builtin; refine wpList_append_lies _ rfl _ _ 30 rfl w.heap.size 3 i0 (.int .i64 0) 1 8 Tryz.underlying30 hi hz0 hz1 hz2 rfl (by decide) _ _ _ rfl (World.ownsRow.alloc HC.out _) ⟨w2.heap.size, 0, none⟩ 1 1 [.int .i64 (k : Int)] rfl rfl ?c1 ?c2 (by decide) ?c3 ?c4 ?c5 _ rfl ?_)
      case c1 =>
        intro j u hj
        match j, hj with
        | 0, hj => simp at hj; subst hj; simp [Addr.add]
      case c2 => intro u hu; simp at hu; subst hu; rfl
      case c3 => unfold maxLen; omega
      case c4 => omega
      case c5 => have := hb.size; simp; omega
      intro g' cap w1 hown' hgrow hat hlt1
      have q1 : w1.cell? ⟨g, j, none⟩ = some v := (hgrow.cell_far ⟨g, j, none⟩ (by simp; omega) (fun q => d q.symm)).trans ((((Below.refl w2.heap.size w2).alloc (Nat.le_refl _) _).cell (p := ⟨g, j, none⟩) hg).trans a)
      have q2 : w1.frozen? ⟨g, j, none⟩ = false := (hgrow.frozen_far ⟨g, j, none⟩ (by simp; omega) (fun q => d q.symm)).trans ((((Below.refl w2.heap.size w2).alloc (Nat.le_refl _) _).frozen (p := ⟨g, j, none⟩) hg).trans b)
      have hR2 := hR.step hjl a hgrow hown' (by simpa using hat) hlt1 HE.out HE2.out
      have hb1' : Below w.heap.size w w1 := (hb.alloc hb.size _).grown hgrow (by have := hb.size; simp; omega) (fun r hr => (World.ownsRow.lt HC.out r hr).1)
      have hb2 : Below w.heap.size w (w1.setCell ⟨g, j, none⟩ (.slice (some ⟨g', 0, none⟩) ((rowsZ h k j).length + 1) cap)) := hb1'.setCell hB _
      clear hown' hgrow hat hR HC
      go_wp2
      go_roundw
      case rel => exact ⟨k + 1, by omega, by go_num, hR2, hb2⟩
      case measure => simp [intOf]; omega
    · have hkn : k = n := by omega
      subst hkn
      go_wp2
      go_ret2
      exact ⟨g, rfl, hR, hb⟩
end Go.Mk
end
