/-
  Proved: plain facts on who advances: whatever the order of heats and runners; nobody twice; nobody without a time; as many as the numbers say; and who becomes faster still advances. No condition beside those named.
  Proved: plain facts: who becomes faster, and would have advanced, still does; nobody whose advancement stays is among those who change. No condition beside those named.
  Proved: the law SeedOrderless returns true where it does not look further. Conditions: the tables that awake reads lie where the program lays them; the runners lie where the slices say; texts and lists are no longer than an int says, and no larger than memory.
  Proved: rows of rows of runners of package seed, in new memory: another row in front; read as heats. No condition.
-/
import Derived.Test.YtkjolejppnogiaaGreatDoorKa
import Derived.Test.YtkjolejppnogiaaGreatDoorJj
import Derived.Test.YtkjolejppnogiaaGreatDoorHm
import Derived.Test.YtkjolejppnogiaaGreatDoorJf
section
set_option linter.unusedVariables false
set_option linter.unusedSimpArgs false
open Go Go.Proofs Go.RowKit Go.Sort
set_option maxRecDepth 100000
namespace Go.Mk
theorem inP_iff {L : List Run} {p : Int} {x : Run} : inP L p x = true ↔ x.kind = sTime ∧ (1 + cntR x.value L : Int) ≤ p := by
  unfold inP plcN
  rw [Bool.and_eq_true, decide_eq_true_iff, decide_eq_true_iff]
  by_cases h : x.kind = sTime
  · rw [if_pos h]; simp [h]
  · rw [if_neg h]; simp [h]
theorem cntR_append (v : Int) : ∀ (l m : List Run), cntR v (l ++ m) = cntR v l + cntR v m
  | [], m => by simp [cntR]
  | x :: l, m => by rw [List.cons_append, cntR, cntR_append v l m, cntR]; omega
theorem cntR_reverse (v : Int) : ∀ l : List Run, cntR v l.reverse = cntR v l
  | [] => rfl
  | x :: l => by rw [List.reverse_cons, cntR_append, cntR_reverse v l, cntR, cntR, cntR]; omega
theorem inP_reverse (L : List Run) (p : Int) (x : Run) : inP L.reverse p x = inP L p x := by
  rw [Bool.eq_iff_iff, inP_iff, inP_iff, cntR_reverse]
/-- The heats in the other order, and the runners within them. -/
def turnR (LL : List (List Run)) : List (List Run) := (LL.map List.reverse).reverse
theorem turn_flat : ∀ LL : List (List Run), (turnR LL).flatten = LL.flatten.reverse
  | [] => rfl
  | l :: LL => by
    have ih := turn_flat LL
    unfold turnR at ih ⊢
    rw [List.map_cons, List.reverse_cons, List.flatten_append, ih]
    simp
theorem turn_flatMap (f g : List Run → List Run) (h : ∀ l, g l.reverse = (f l).reverse) : ∀ LL : List (List Run), (turnR LL).flatMap g = (LL.flatMap f).reverse
  | [] => rfl
  | l :: LL => by
    have ih := turn_flatMap f g h LL
    unfold turnR at ih ⊢
    rw [List.map_cons, List.reverse_cons, List.flatMap_append, ih]
    simp [h l]
theorem byPl_turn (LL : List (List Run)) (p : Int) : byPl (turnR LL) p = (byPl LL p).reverse := by
  unfold byPl
  refine turn_flatMap _ _ (fun l => ?_) LL
  rw [List.filter_reverse]
  congr 1
  exact List.filter_congr fun x _ => inP_reverse l p x
theorem oth_turn (LL : List (List Run)) (p : Int) : othR (turnR LL) p = (othR LL p).reverse := by
  unfold othR
  refine turn_flatMap _ _ (fun l => ?_) LL
  rw [List.filter_reverse]
  congr 1
  exact List.filter_congr fun x _ => by rw [inP_reverse]
theorem byTm_turn (LL : List (List Run)) (p t : Int) : byTm (turnR LL) p t = (byTm LL p t).reverse := by
  unfold byTm
  rw [oth_turn, List.filter_reverse]
  congr 1
  exact List.filter_congr fun x _ => inP_reverse _ t x
theorem isIn_reverse (P : List ByteArray) (s : ByteArray) : isIn P.reverse s = isIn P s := by
  rw [Bool.eq_iff_iff, isIn_mem, isIn_mem, List.mem_reverse]
/-- Runners without an error, whose names are new and different. -/
theorem runsE_zero : ∀ (l : List Run) (P : List ByteArray), runsE P l = 0 ↔ (∀ x ∈ l, crE x = 0) ∧ (l.map Run.name).Nodup ∧ ∀ x ∈ l, x.name ∉ P
  | [], P => by simp [runsE]
  | x :: l, P => by
    have h8 : isNm x.name = false → crE x = 8 := fun h => by unfold crE; rw [h]; rfl
    have hE : runE P x = 0 ↔ crE x = 0 ∧ x.name ∉ P := by
      rw [runE_ref]
      cases hn : isNm x.name with
      | false => rw [h8 hn]; simp
      | true =>
        cases hi : isIn P x.name with
        | false =>
          have : x.name ∉ P := fun q => by rw [isIn_mem.2 q] at hi; cases hi
          simp [this]
        | true =>
          have := isIn_mem.1 hi
          simp [this]
    rw [runsE]
    by_cases h0 : runE P x = 0
    · rw [if_pos h0, runsE_zero l]
      obtain ⟨h1, h2⟩ := hE.1 h0
      constructor
      · rintro ⟨a, b, c⟩
        refine ⟨fun y hy => ?_, ?_, fun y hy => ?_⟩
        · rcases List.mem_cons.1 hy with rfl | hy
          · exact h1
          · exact a y hy
        · rw [List.map_cons, List.nodup_cons]
          refine ⟨fun q => ?_, b⟩
          obtain ⟨y, hy, e⟩ := List.mem_map.1 q
          exact c y hy (by rw [e]; simp)
        · rcases List.mem_cons.1 hy with rfl | hy
          · exact h2
          · exact fun q => c y hy (by simp [q])
      · rintro ⟨a, b, c⟩
        rw [List.map_cons, List.nodup_cons] at b
        refine ⟨fun y hy => a y (List.mem_cons_of_mem _ hy), b.2, fun y hy q => ?_⟩
        rcases List.mem_append.1 q with q | q
        · exact c y (List.mem_cons_of_mem _ hy) q
        · rw [List.mem_singleton] at q
          exact b.1 (by rw [← q]; exact List.mem_map.2 ⟨y, hy, rfl⟩)
    · rw [if_neg h0]
      constructor
      · intro h; exact absurd h h0
      · rintro ⟨a, b, c⟩
        exact absurd (hE.2 ⟨a x (List.mem_cons_self ..), c x (List.mem_cons_self ..)⟩) h0
theorem heatsE_zero : ∀ (LL : List (List Run)) (P : List ByteArray), heatsE P LL = 0 ↔ (∀ l ∈ LL, l.length ≤ 160) ∧ (∀ x ∈ LL.flatten, crE x = 0) ∧ (LL.flatten.map Run.name).Nodup ∧ ∀ x ∈ LL.flatten, x.name ∉ P
  | [], P => by simp [heatsE]
  | l :: LL, P => by
    rw [heatsE, List.flatten_cons]
    by_cases h3 : 160 < l.length
    · have e : heatE P l = 5 := by unfold heatE; rw [if_pos h3]
      rw [e, if_neg (by decide)]
      constructor
      · intro h; cases h
      · rintro ⟨a, _⟩
        have := a l (List.mem_cons_self ..)
        omega
    · have e : heatE P l = runsE P l := by unfold heatE; rw [if_neg h3]
      rw [e]
      by_cases h0 : runsE P l = 0
      · rw [if_pos h0, heatsE_zero LL]
        obtain ⟨k1, k2, k3⟩ := (runsE_zero l P).1 h0
        rw [List.map_append, List.nodup_append]
        constructor
        · rintro ⟨a, b, c, d⟩
          refine ⟨fun q hq => ?_, fun x hx => ?_, ⟨k2, c, fun s hs u hu e => ?_⟩, fun x hx => ?_⟩
          · rcases List.mem_cons.1 hq with rfl | hq
            · omega
            · exact a q hq
          · rcases List.mem_append.1 hx with hx | hx
            · exact k1 x hx
            · exact b x hx
          · obtain ⟨y, hy, e2⟩ := List.mem_map.1 hu
            exact d y hy (by rw [e2, ← e]; exact List.mem_append_right _ hs)
          · rcases List.mem_append.1 hx with hx | hx
            · exact k3 x hx
            · exact fun q => d x hx (List.mem_append_left _ q)
        · rintro ⟨a, b, ⟨_, c, c'⟩, d⟩
          refine ⟨fun q hq => a q (List.mem_cons_of_mem _ hq), fun x hx => b x (List.mem_append_right _ hx), c, fun x hx q => ?_⟩
          rcases List.mem_append.1 q with q | q
          · exact d x (List.mem_append_right _ hx) q
          · exact c' _ q _ (List.mem_map.2 ⟨x, hx, rfl⟩) rfl
      · rw [if_neg h0]
        constructor
        · intro h; exact absurd h h0
        · rintro ⟨a, b, c, d⟩
          rw [List.map_append, List.nodup_append] at c
          exact absurd ((runsE_zero l P).2 ⟨fun x hx => b x (List.mem_append_left _ hx), c.1, fun x hx => d x (List.mem_append_left _ hx)⟩) h0
theorem chk_zero (LL : List (List Run)) : chkRuns LL = 0 ↔ LL.length ≤ 16 ∧ (∀ l ∈ LL, l.length ≤ 160) ∧ (∀ x ∈ LL.flatten, crE x = 0) ∧ (LL.flatten.map Run.name).Nodup := by
  unfold chkRuns
  by_cases h : 16 < LL.length
  · rw [if_pos h]
    constructor
    · intro h; cases h
    · rintro ⟨a, _⟩; omega
  · rw [if_neg h, heatsE_zero]
    constructor
    · rintro ⟨a, b, c, _⟩; exact ⟨by omega, a, b, c⟩
    · rintro ⟨_, a, b, c⟩; exact ⟨a, b, c, by simp⟩
theorem chk_turn {LL : List (List Run)} (h : chkRuns LL = 0) : chkRuns (turnR LL) = 0 := by
  rw [chk_zero] at h ⊢
  obtain ⟨a, b, c, d⟩ := h
  rw [turn_flat]
  refine ⟨?_, fun l hl => ?_, fun x hx => c x (by simpa using hx), ?_⟩
  · unfold turnR; simpa using a
  · unfold turnR at hl
    obtain ⟨q, hq, rfl⟩ := List.mem_map.1 (List.mem_reverse.1 hl)
    rw [List.length_reverse]
    exact b q hq
  · rw [List.map_reverse]
    exact (List.reverse_perm _).nodup_iff.2 d
/-- Those by place and the others are all. -/
theorem parts_perm (p : Int) : ∀ LL : List (List Run), (byPl LL p ++ othR LL p).Perm LL.flatten
  | [] => List.Perm.refl _
  | l :: LL => by
    have ih := parts_perm p LL
    unfold byPl othR at ih ⊢
    rw [List.flatMap_cons, List.flatMap_cons, List.flatten_cons]
    have h1 : (l.filter (inP l p) ++ l.filter fun x => !inP l p x).Perm l := List.filter_append_perm (inP l p) l
    refine List.Perm.trans ?_ (h1.append ih)
    simp only [List.append_assoc]
    refine List.Perm.append_left _ ?_
    rw [← List.append_assoc, ← List.append_assoc]
    exact List.Perm.append_right _ List.perm_append_comm
theorem name_inj {l : List Run} (h : (l.map Run.name).Nodup) {x y : Run} (hx : x ∈ l) (hy : y ∈ l) (e : x.name = y.name) : x = y := by
  induction l with
  | nil => cases hx
  | cons z l ih =>
    rw [List.map_cons, List.nodup_cons] at h
    rcases List.mem_cons.1 hx with e1 | h1
    · rcases List.mem_cons.1 hy with e2 | h2
      · rw [e1, e2]
      · exact absurd (List.mem_map.2 ⟨y, h2, by rw [← e, e1]⟩) h.1
    · rcases List.mem_cons.1 hy with e2 | h2
      · exact absurd (List.mem_map.2 ⟨x, h1, by rw [e, e2]⟩) h.1
      · exact ih h.2 h1 h2
theorem mem_byPl {LL : List (List Run)} {p : Int} {x : Run} (h : x ∈ byPl LL p) : x ∈ LL.flatten ∧ x.kind = sTime := by
  unfold byPl at h
  obtain ⟨l, hl, hx⟩ := List.mem_flatMap.1 h
  obtain ⟨h1, h2⟩ := List.mem_filter.1 hx
  exact ⟨List.mem_flatten.2 ⟨l, hl, h1⟩, (inP_iff.1 h2).1⟩
theorem mem_oth {LL : List (List Run)} {p : Int} {x : Run} (h : x ∈ othR LL p) : x ∈ LL.flatten := by
  unfold othR at h
  obtain ⟨l, hl, hx⟩ := List.mem_flatMap.1 h
  exact List.mem_flatten.2 ⟨l, hl, (List.mem_filter.1 hx).1⟩
theorem mem_byTm {LL : List (List Run)} {p t : Int} {x : Run} (h : x ∈ byTm LL p t) : x ∈ LL.flatten ∧ x.kind = sTime := by
  unfold byTm at h
  obtain ⟨h1, h2⟩ := List.mem_filter.1 h
  exact ⟨mem_oth h1, (inP_iff.1 h2).1⟩
/-- Nobody advances both by place and by time, and nobody without a time. -/
theorem adv_once {LL : List (List Run)} (hn : (LL.flatten.map Run.name).Nodup) (p t : Int) {x : Run} (hx : x ∈ LL.flatten) :
    (isIn ((byPl LL p).map Run.name) x.name && isIn ((byTm LL p t).map Run.name) x.name) = false ∧
    ((isIn ((byPl LL p).map Run.name) x.name || isIn ((byTm LL p t).map Run.name) x.name) = true → x.kind = sTime) := by
  constructor
  · rw [Bool.and_eq_false_iff]
    by_cases h : isIn ((byPl LL p).map Run.name) x.name = true
    · right
      rw [← Bool.not_eq_true]
      intro h2
      obtain ⟨y, hy, e⟩ := List.mem_map.1 (isIn_mem.1 h)
      obtain ⟨z, hz, e2⟩ := List.mem_map.1 (isIn_mem.1 h2)
      have hz2 : z ∈ othR LL p := by unfold byTm at hz; exact (List.mem_filter.1 hz).1
      have hp : ((byPl LL p ++ othR LL p).map Run.name).Nodup := ((parts_perm p LL).map Run.name).nodup_iff.2 hn
      rw [List.map_append, List.nodup_append] at hp
      exact hp.2.2 _ (List.mem_map.2 ⟨y, hy, rfl⟩) _ (List.mem_map.2 ⟨z, hz2, rfl⟩) (by rw [e, e2])
    · left; simpa using h
  · intro h
    rw [Bool.or_eq_true] at h
    rcases h with h | h
    · obtain ⟨y, hy, e⟩ := List.mem_map.1 (isIn_mem.1 h)
      obtain ⟨h1, h2⟩ := mem_byPl hy
      rw [← name_inj hn h1 hx e]; exact h2
    · obtain ⟨y, hy, e⟩ := List.mem_map.1 (isIn_mem.1 h)
      obtain ⟨h1, h2⟩ := mem_byTm hy
      rw [← name_inj hn h1 hx e]; exact h2
/-- How many have a time. -/
def tmC (l : List Run) : Nat := l.countP fun x => decide (x.kind = sTime)
theorem tms_tmC (l : List Run) : (tms l).length = tmC l := by
  unfold tms tmC
  rw [List.length_map, List.countP_eq_length_filter]
theorem countP_take {S : List Int} (hs : S.Pairwise (· ≤ ·)) {i : Nat} {v : Int} (h : S[i]? = some v) : S.countP (fun y => decide (y < v)) ≤ i := by
  have hl := (List.getElem?_eq_some_iff.1 h).1
  have e : S = S.take i ++ S.drop i := (List.take_append_drop i S).symm
  have h0 : (S.drop i).countP (fun y => decide (y < v)) = 0 := by
    rw [List.countP_eq_zero]
    intro y hy
    have hd : S.drop i = v :: S.drop (i + 1) := by rw [drop_cons h]
    rw [hd] at hy
    have hp : (S.drop i).Pairwise (· ≤ ·) := hs.sublist (List.drop_sublist i S)
    rw [hd, List.pairwise_cons] at hp
    rcases List.mem_cons.1 hy with rfl | hy
    · simp
    · have := hp.1 y hy
      simp; omega
  calc S.countP (fun y => decide (y < v)) = (S.take i ++ S.drop i).countP (fun y => decide (y < v)) := by rw [← e]
    _ = (S.take i).countP (fun y => decide (y < v)) := by rw [List.countP_append, h0, Nat.add_zero]
    _ ≤ (S.take i).length := List.countP_le_length
    _ ≤ i := by simp; omega
theorem in_many (l : List Run) (p : Int) (hp : 0 ≤ p) : min p (tmC l : Int) ≤ ((l.filter (inP l p)).length : Int) := by
  obtain ⟨k, rfl⟩ : ∃ k : Nat, p = k := ⟨p.toNat, by omega⟩
  have e1 : (l.filter (inP l k)).length = (tms l).countP fun v => decide ((1 + cntR v l : Int) ≤ k) := by
    unfold tms
    rw [List.countP_map, List.countP_filter, List.countP_eq_length_filter]
    congr 1
    refine List.filter_congr fun x _ => ?_
    rw [Bool.eq_iff_iff, inP_iff]
    simp [and_comm]
  have e2 : (tms l).countP (fun v => decide ((1 + cntR v l : Int) ≤ k)) = (sortZ (tms l)).countP fun v => decide ((1 + cntR v l : Int) ≤ k) := ((List.mergeSort_perm (tms l) _).countP_eq _).symm
  have hs := sortZ_sorted (tms l)
  have hc : ∀ v, cntR v l = (sortZ (tms l)).countP fun y => decide (y < v) := fun v => by rw [sortZ_count, cntR_tms]
  have hl : (sortZ (tms l)).length = tmC l := by rw [sortZ_len, tms_tmC]
  rw [e1, e2]
  generalize sortZ (tms l) = S at *
  have h3 : ((S.take k).countP fun v => decide ((1 + cntR v l : Int) ≤ k)) = (S.take k).length := by
    rw [List.countP_eq_length]
    intro v hv
    obtain ⟨i, hi⟩ := List.mem_iff_getElem?.1 hv
    have hik : i < k := by
      have := (List.getElem?_eq_some_iff.1 hi).1
      rw [List.length_take] at this
      omega
    rw [List.getElem?_take, if_pos hik] at hi
    have := countP_take hs hi
    rw [hc v, decide_eq_true_iff]
    omega
  have h4 : (S.take k).countP (fun v => decide ((1 + cntR v l : Int) ≤ k)) ≤ S.countP fun v => decide ((1 + cntR v l : Int) ≤ k) := (List.take_sublist k S).countP_le
  rw [h3, List.length_take, hl] at h4
  omega
/-- How many advance by place at least. -/
def needS (p : Int) (LL : List (List Run)) : Int := (LL.map fun l => min p (tmC l : Int)).sum
theorem byPl_many (p : Int) (hp : 0 ≤ p) : ∀ LL : List (List Run), needS p LL ≤ ((byPl LL p).length : Int)
  | [] => by simp [needS, byPl]
  | l :: LL => by
    have ih := byPl_many p hp LL
    have h := in_many l p hp
    unfold needS byPl at ih ⊢
    rw [List.map_cons, List.sum_cons, List.flatMap_cons, List.length_append]
    omega
theorem adv_many (LL : List (List Run)) (p t : Int) (hp : 0 ≤ p) (ht : 0 ≤ t) : min (t + needS p LL) (tmC LL.flatten : Int) ≤ ((byPl LL p).length : Int) + ((byTm LL p t).length : Int) := by
  have h1 := byPl_many p hp LL
  have h2 := in_many (othR LL p) t ht
  have h3 : tmC (byPl LL p) + tmC (othR LL p) = tmC LL.flatten := by
    unfold tmC
    rw [← List.countP_append]
    exact (parts_perm p LL).countP_eq _
  have h4 : tmC (byPl LL p) = (byPl LL p).length := by
    unfold tmC
    rw [List.countP_eq_length]
    intro x hx
    exact decide_eq_true (mem_byPl hx).2
  have h5 : ((othR LL p).filter (inP (othR LL p) t)).length = (byTm LL p t).length := rfl
  omega
end Go.Mk
end
section
set_option linter.unusedVariables false
set_option linter.unusedSimpArgs false
open Go Go.Proofs Go.RowKit Go.Sort
set_option maxRecDepth 100000
namespace Go.Mk
/-- What is put in the place of a runner is no slower. -/
def NoSlow (f : Run) (l : List Run) : Prop := ∀ y ∈ l, y.name = f.name → y.kind = sTime ∧ f.value ≤ y.value
theorem NoSlow.tail {f y : Run} {l : List Run} (h : NoSlow f (y :: l)) : NoSlow f l := fun z hz => h z (List.mem_cons_of_mem _ hz)
theorem cntR_mono {v w : Int} (h : v ≤ w) : ∀ l : List Run, cntR v l ≤ cntR w l
  | [] => Nat.le_refl _
  | y :: l => by
    have ih := cntR_mono h l
    rw [cntR, cntR]
    by_cases h1 : y.kind = sTime ∧ y.value < v
    · rw [if_pos h1, if_pos ⟨h1.1, by omega⟩]; omega
    · rw [if_neg h1]; split <;> omega
theorem put_same {f : Run} {w : Int} (h : w ≤ f.value) : ∀ l : List Run, NoSlow f l → cntR w (l.map (putR f)) = cntR w l
  | [], _ => rfl
  | y :: l, hs => by
    have ih := put_same h l hs.tail
    rw [List.map_cons, cntR, cntR, ih]
    congr 1
    unfold putR
    by_cases e : y.name = f.name
    · rw [if_pos e]
      have := (hs y (List.mem_cons_self ..) e).2
      rw [if_neg (fun q => by have := q.2; omega), if_neg (fun q => by have := q.2; omega)]
    · rw [if_neg e]
theorem put_less {f : Run} {w : Int} (h : f.value ≤ w) : ∀ l : List Run, cntR f.value (l.map (putR f)) ≤ cntR w l
  | [] => Nat.le_refl _
  | y :: l => by
    have ih := put_less h l
    rw [List.map_cons, cntR, cntR]
    unfold putR at ih ⊢
    by_cases e : y.name = f.name
    · rw [if_pos e, if_neg (fun q => by have := q.2; omega)]
      omega
    · rw [if_neg e]
      by_cases h1 : y.kind = sTime ∧ y.value < f.value
      · rw [if_pos h1, if_pos ⟨h1.1, by omega⟩]; omega
      · rw [if_neg h1]; omega
theorem put_more {f : Run} (hf : f.kind = sTime) {w : Int} (h : f.value < w) : ∀ l : List Run, hasL f l = true → cntR f.value (l.map (putR f)) + 1 ≤ cntR w (l.map (putR f))
  | [], hh => by simp [hasL] at hh
  | y :: l, hh => by
    have hm := cntR_mono (Int.le_of_lt h) (l.map (putR f))
    rw [List.map_cons, cntR, cntR]
    by_cases e : y.name = f.name
    · have e2 : putR f y = f := by unfold putR; rw [if_pos e]
      rw [e2, if_neg (fun q => by have := q.2; omega), if_pos ⟨hf, h⟩]
      omega
    · have e2 : putR f y = y := by unfold putR; rw [if_neg e]
      have hl : hasL f l = true := by
        unfold hasL at hh ⊢
        rw [List.any_cons, decide_eq_false e, Bool.false_or] at hh
        exact hh
      have ih := put_more hf h l hl
      rw [e2]
      by_cases h1 : y.kind = sTime ∧ y.value < f.value
      · rw [if_pos h1, if_pos ⟨h1.1, by omega⟩]; omega
      · rw [if_neg h1]; split <;> omega
theorem in_put {f : Run} (hf : f.kind = sTime) {l : List Run} (hs : NoSlow f l) {p : Int} (hp : hasL f l = true → p < 1 + (cntR f.value (l.map (putR f)) : Int)) :
    ∀ x ∈ l, inP (l.map (putR f)) p (putR f x) = inP l p x := by
  intro x hx
  cases hh : hasL f l with
  | false =>
    have e : putR f x = x := by
      unfold hasL at hh
      rw [List.any_eq_false] at hh
      have := hh x hx
      rw [decide_eq_true_iff] at this
      unfold putR
      rw [if_neg this]
    rw [put_none f l hh, e]
  | true =>
    have hp2 := hp hh
    have nt : ∀ {L : List Run} {y : Run}, (y.kind = sTime → p < 1 + (cntR y.value L : Int)) → inP L p y = false := fun {L y} h => by
      rw [← Bool.not_eq_true]
      intro q
      obtain ⟨q1, q2⟩ := inP_iff.1 q
      have := h q1
      omega
    by_cases e : x.name = f.name
    · have e2 : putR f x = f := by unfold putR; rw [if_pos e]
      have h2 := (hs x hx e).2
      have h3 := put_less h2 l
      rw [e2, nt (fun _ => hp2), nt (fun _ => by omega)]
    · have e2 : putR f x = x := by unfold putR; rw [if_neg e]
      rw [e2]
      by_cases h1 : x.value ≤ f.value
      · have := put_same h1 l hs
        rw [Bool.eq_iff_iff, inP_iff, inP_iff, this]
      · have k1 := put_more hf (w := x.value) (by omega) l hh
        have k2 := put_less (f := f) (w := x.value) (by omega) l
        rw [nt (fun _ => by omega), nt (fun _ => by omega)]
theorem oth_with {f : Run} (hf : f.kind = sTime) {p : Int} : ∀ (LL : List (List Run)), (∀ l ∈ LL, NoSlow f l) → (∀ l ∈ LL, hasL f l = true → p < 1 + (cntR f.value (l.map (putR f)) : Int)) → othR (withS f LL) p = (othR LL p).map (putR f)
  | [], _, _ => rfl
  | l :: LL, hs, hp => by
    have ih := oth_with hf LL (fun q hq => hs q (List.mem_cons_of_mem _ hq)) (fun q hq => hp q (List.mem_cons_of_mem _ hq))
    unfold othR withS at ih ⊢
    rw [List.map_cons, List.flatMap_cons, List.flatMap_cons, List.map_append, ih, List.filter_map]
    congr 2
    refine List.filter_congr fun x hx => ?_
    have := in_put hf (hs l (List.mem_cons_self ..)) (hp l (List.mem_cons_self ..)) x hx
    simp only [Function.comp]
    rw [this]
/-- Who becomes faster still advances. -/
theorem adv_faster {LL : List (List Run)} (hn : (LL.flatten.map Run.name).Nodup) {p t : Int} {r f : Run} (hr : r ∈ LL.flatten) (he : f.name = r.name) (hk : f.kind = sTime) (hrk : r.kind = sTime) (hv : f.value ≤ r.value)
    (h : isIn (advN LL p t) r.name = true) : isIn (advN (withS f LL) p t) r.name = true := by
  have huniq : ∀ y ∈ LL.flatten, y.name = f.name → y = r := fun y hy e => name_inj hn hy hr (by rw [e, he])
  have hs : ∀ l ∈ LL, NoSlow f l := fun l hl y hy e => by
    have := huniq y (List.mem_flatten.2 ⟨l, hl, hy⟩) e
    subst this
    exact ⟨hrk, hv⟩
  have hput : ∀ {l : List Run}, r ∈ l → f ∈ l.map (putR f) := fun {l} h => List.mem_map.2 ⟨r, h, by unfold putR; rw [if_pos he.symm]⟩
  have hhas : ∀ {l : List Run}, r ∈ l → hasL f l = true := fun {l} h => by
    unfold hasL
    rw [List.any_eq_true]
    exact ⟨r, h, decide_eq_true he.symm⟩
  have hof : ∀ {l : List Run}, l ∈ LL → hasL f l = true → r ∈ l := fun {l} hl h => by
    unfold hasL at h
    obtain ⟨y, hy, e⟩ := List.any_eq_true.1 h
    rw [decide_eq_true_iff] at e
    rw [← huniq y (List.mem_flatten.2 ⟨l, hl, hy⟩) e]
    exact hy
  rw [isIn_mem]
  unfold advN
  by_cases hP : ∃ l ∈ LL, hasL f l = true ∧ (1 + cntR f.value (l.map (putR f)) : Int) ≤ p
  · obtain ⟨l, hl, h1, h2⟩ := hP
    refine List.mem_append_left _ (List.mem_map.2 ⟨f, ?_, he⟩)
    unfold byPl withS
    refine List.mem_flatMap.2 ⟨l.map (putR f), List.mem_map.2 ⟨l, hl, rfl⟩, List.mem_filter.2 ⟨hput (hof hl h1), inP_iff.2 ⟨hk, h2⟩⟩⟩
  · have hP2 : ∀ l ∈ LL, hasL f l = true → p < 1 + (cntR f.value (l.map (putR f)) : Int) := fun l hl h1 => by
      by_cases q : (1 + cntR f.value (l.map (putR f)) : Int) ≤ p
      · exact absurd ⟨l, hl, h1, q⟩ hP
      · omega
    have ho := oth_with hk LL hs hP2
    refine List.mem_append_right _ (List.mem_map.2 ⟨f, ?_, he⟩)
    have hm := isIn_mem.1 h
    unfold advN at hm
    rcases List.mem_append.1 hm with hm | hm
    · obtain ⟨y, hy, e⟩ := List.mem_map.1 hm
      have := huniq y (mem_byPl hy).1 (by rw [e, he])
      subst this
      unfold byPl at hy
      obtain ⟨l, hl, hx⟩ := List.mem_flatMap.1 hy
      obtain ⟨h1, h2⟩ := List.mem_filter.1 hx
      have h3 := (inP_iff.1 h2).2
      have h4 := put_less hv l
      have h5 := hP2 l hl (hhas h1)
      omega
    · obtain ⟨y, hy, e⟩ := List.mem_map.1 hm
      have := huniq y (mem_byTm hy).1 (by rw [e, he])
      subst this
      unfold byTm at hy ⊢
      obtain ⟨h1, h2⟩ := List.mem_filter.1 hy
      rw [ho]
      refine List.mem_filter.2 ⟨hput h1, inP_iff.2 ⟨hk, ?_⟩⟩
      have h3 := (inP_iff.1 h2).2
      have h4 := put_less hv (othR LL p)
      omega
theorem isIn_append (P T : List ByteArray) (s : ByteArray) : isIn (P ++ T) s = (isIn P s || isIn T s) := by unfold isIn; rw [List.any_append]
theorem chg_not {LL LL' : List (List Run)} {p t : Int} {s : ByteArray} (h : isIn (advN LL p t) s = isIn (advN LL' p t) s) : isIn (chgN LL LL' p t) s = false := by
  rw [← Bool.not_eq_true, isIn_mem]
  unfold chgN
  intro q
  have := (List.mem_filter.1 q).2
  simp only [h, bne_self_eq_false] at this
  cases this
theorem cr_time {r : Run} (h : crE r = 0) (hk : r.kind = sTime) : 1 ≤ r.value ∧ r.value ≤ 863999999 ∧ ∀ v : Int, 1 ≤ v → v ≤ r.value → crE ⟨r.name, sTime, v, ⟨#[]⟩⟩ = 0 := by
  unfold crE at h ⊢
  cases hn : isNm r.name with
  | false => rw [hn] at h; simp at h
  | true =>
    rw [hn, hk] at h
    unfold chk at h ⊢
    simp only [if_true, if_neg sTN] at h ⊢
    have he : (⟨#[]⟩ : ByteArray).toList.isEmpty = true := by rw [ByteArray.toList, ByteArray.toList.loop]; rfl
    by_cases h1 : r.reason.toList.isEmpty = true
    · rw [if_pos h1] at h
      by_cases h2 : r.value < 1 ∨ 863999999 < r.value
      · rw [if_pos h2] at h; simp at h
      · refine ⟨by omega, by omega, fun v h3 h4 => ?_⟩
        have h5 : ¬ (v < 1 ∨ 863999999 < v) := by omega
        simp only [if_pos he, if_neg h5]
        simp [hn, tkE]
    · rw [if_neg h1] at h; simp at h
end Go.Mk
end
section
set_option linter.unusedVariables false
set_option linter.unusedSimpArgs false
open Go Go.Proofs Go.RowKit Go.Sort
set_option maxRecDepth 100000
namespace Go.Mk
/-- The pairs lie in their boxes; the rest as it was. -/
def BY (w1 : World) (q : Nat) (p t c d : Int) (w' : World) : Prop :=
  w'.cell? ⟨q, 0, none⟩ = some (.int .i64 p) ∧ w'.cell? ⟨q, 1, none⟩ = some (.int .i64 t) ∧ w'.cell? ⟨q + 1, 0, none⟩ = some (.int .u8 c) ∧ w'.cell? ⟨q + 1, 1, none⟩ = some (.int .u8 d) ∧ Below w1.heap.size w1 w'
theorem BY.next {w1 a b : World} {q : Nat} {p t c d : Int} (h : BY w1 q p t c d a) (hb : Below a.heap.size a b) : BY w1 q p t c d b := by
  obtain ⟨c0, c1, c2, c3, h⟩ := h
  exact ⟨(hb.cell (p := ⟨q, 0, none⟩) (cell_some c0).2).trans c0, (hb.cell (p := ⟨q, 1, none⟩) (cell_some c1).2).trans c1, (hb.cell (p := ⟨q + 1, 0, none⟩) (cell_some c2).2).trans c2, (hb.cell (p := ⟨q + 1, 1, none⟩) (cell_some c3).2).trans c3, bstep h hb⟩
theorem BY.rebase {w1 a : World} {q : Nat} {p t c d : Int} (h : BY w1 q p t c d a) : BY a q p t c d a := ⟨h.1, h.2.1, h.2.2.1, h.2.2.2.1, Below.refl _ _⟩
theorem BY.start (w : World) (p t c d : Int) (w1 : World) (hb : Below ((w.alloc (.cells #[.int .i64 p, .int .i64 t] 75)).alloc (.cells #[.int .u8 c, .int .u8 d] 89)).heap.size ((w.alloc (.cells #[.int .i64 p, .int .i64 t] 75)).alloc (.cells #[.int .u8 c, .int .u8 d] 89)) w1) :
    BY w1 w.heap.size p t c d w1 := by
  have k := fun (q j : Nat) (h : q < w.heap.size + 2) => hb.cell (p := ⟨q, j, none⟩) (by simpa using h)
  refine ⟨(k _ 0 (by omega)).trans ?_, (k _ 1 (by omega)).trans ?_, (k _ 0 (by omega)).trans ?_, (k _ 1 (by omega)).trans ?_, Below.refl _ _⟩
  · rw [World.cell?_alloc_old _ _ _ (by simp)]; simp
  · rw [World.cell?_alloc_old _ _ _ (by simp)]; simp
  all_goals
    rw [show w.heap.size + 1 = (w.alloc (.cells #[.int .i64 p, .int .i64 t] 75)).heap.size from by simp]
    simp
/-- Does the law look further? -/
def furtherO (LL : List (List Run)) (p t : Int) : Prop := LL.length ≤ 6 ∧ shortH LL = true ∧ chkRuns LL = 0 ∧ 0 ≤ p ∧ p ≤ 9 ∧ 0 ≤ t ∧ t ≤ 9
set_option maxHeartbeats 8000000 in
theorem orderless_exit (LL : List (List Run)) (n cap : Nat) (A : Option Addr) (B : Nat) (p t c d : Int) (w : World) (ht : Tabs w) (hZ : RHeats w B A n LL) (hn : n * 24 ≤ 140737488351232) (hs : ∀ l ∈ LL, l.length * 56 ≤ 140737488351232) (hok : ∀ l ∈ LL, ∀ x ∈ l, x.ok) (hx : ¬ furtherO LL p t) :
    Calls Tryz.prog 7 #[.slice A n cap, .agg #[.int .i64 p, .int .i64 t], .agg #[.int .u8 c, .int .u8 d]] w (Yes w) := by
  obtain ⟨wA, hwA⟩ : ∃ wA, wA = (w.alloc (.cells #[.int .i64 p, .int .i64 t] 75)).alloc (.cells #[.int .u8 c, .int .u8 d] 89) := ⟨_, rfl⟩
  have hbA : Below w.heap.size w wA := by rw [hwA]; exact balloc _ (balloc _ (Below.refl _ _))
  have hszA := hbA.size
  have hR := l4runners_big LL n cap A B wA (hZ.below hbA hZ.2.1) hn hs
  have hn2 : (n : Int) ≤ 9223372036854775807 := by omega
  have hl := hZ.1
  have HST : Hid (∀ w1, Below wA.heap.size wA w1 → BY w1 w.heap.size p t c d w1) := fun w1 hb => by rw [hwA] at hb; exact BY.start w p t c d w1 hb
  have HWA := Lib.hid hwA
  have htA := ht.grow hbA
  clear hZ hwA ht
  go_enter Tryz.func7, Tryz.ntmps7
  go_wp2_with fail
  rw [← HWA.out]
  refine hR.mono ?_
  rintro e w1 ⟨v, rfl, hO, hb1⟩
  obtain ⟨A1, c1, rfl, hR1⟩ := RHeats.of_own hO
  rw [hl] at hR1 ⊢
  have HS : Hid (∀ w', Below w1.heap.size w1 w' → Calls Tryz.prog 36 #[.slice A1 n c1] w' (RetPost (.bool (shortH LL)) w')) := fun w' hb => short_any LL n c1 A1 _ w' (hR1.below hb (Nat.le_refl _)) hn2
  have ht1 := htA.grow hb1
  have hbW1 : Below w.heap.size w w1 := hbA.trans (hb1.mono hszA)
  have hB1 := HST.out _ hb1
  go_wp2_with fail
  refine (aw _ ht1).mono ?_
  rintro e w2 ⟨rfl, hb2⟩
  have hS := HS.out _ hb2
  have hb12 := hbW1.trans (hb2.mono hbW1.size)
  have ht2 := ht1.grow hb2
  by_cases g1 : 6 < (n : Int)
  · clear hx hO hR1 hR htA HST HWA hbA hS HS hs hok
    as_aux_lemma =>
      go_wp2_with fail
      refine (aw _ ht2).mono ?_
      rintro e w4 ⟨rfl, hb4⟩
      go_wp2
      go_ret
      exact ⟨rfl, hb12.trans (hb4.mono hb12.size)⟩
  · cases hX : shortH LL with
    | false =>
      rw [hX] at hS
      clear hx hO hR1 hR htA HST HWA hbA HS hs hok hX
      as_aux_lemma =>
        go_wp2_with fail
        refine hS.mono ?_
        rintro e w3 ⟨rfl, hb3⟩
        have ht3 := ht2.grow hb3
        have hb13 := hb12.trans (hb3.mono hb12.size)
        go_wp2_with fail
        refine (aw _ ht3).mono ?_
        rintro e w4 ⟨rfl, hb4⟩
        go_wp2
        go_ret
        exact ⟨rfl, hb13.trans (hb4.mono hb13.size)⟩
    | true =>
      rw [hX] at hS
      obtain ⟨_, hsh⟩ := shortH_yes hX
      have hs1 : ∀ l ∈ LL, l.length ≤ 1000 ∧ ∀ x ∈ l, x.ok := fun l hl => ⟨by have := (hsh l hl).1; omega, hok l hl⟩
      have HRC : Hid (∀ w', Below w1.heap.size w1 w' → Calls Tryz.prog 37 #[.slice A1 n c1] w' (RetPost (.int .i64 (chkRuns LL)) w')) := fun w' hb => r4CheckRunners_all LL n c1 A1 _ w' (hR1.below hb (Nat.le_refl _)) (by omega) hs1
      unfold furtherO at hx
      have hx2 : ¬ (chkRuns LL = 0 ∧ 0 ≤ p ∧ p ≤ 9 ∧ 0 ≤ t ∧ t ≤ 9) := fun q => hx ⟨by omega, hX, q⟩
      obtain ⟨E, hE⟩ : ∃ E, chkRuns LL = E := ⟨_, rfl⟩
      rw [hE] at HRC hx2
      clear hx hO hR1 hR htA HST HWA hbA HS hs hok hX hsh hs1 hE
      go_wp2_with fail
      refine hS.mono ?_
      rintro e w3 ⟨rfl, hb3⟩
      have hbs := bstep hb2 hb3
      have hRC := HRC.out _ hbs
      clear hS HRC
      have ht3 := ht2.grow hb3
      have hb13 := hb12.trans (hb3.mono hb12.size)
      go_wp2_with fail
      refine hRC.mono ?_
      rintro e w4 ⟨rfl, hb4⟩
      have ht4 := ht3.grow hb4
      have hb14 := hb13.trans (hb4.mono hb13.size)
      obtain ⟨d0, d1, d2, d3, _⟩ := hB1.next (bstep hbs hb4)
      clear hRC hB1 hb2 hb3 hb4 hb12 hb13 hbW1 hbs ht1 ht2 ht3
      by_cases g2 : E = 0
      · subst g2
        have g0 : ((0 : Int) != 0) = false := by decide
        by_cases g3 : p < 0
        · clear hx2
          as_aux_lemma =>
            go_wp2_with fail
            refine (aw _ ht4).mono ?_
            rintro e w5 ⟨rfl, hb5⟩
            go_wp2
            go_ret
            exact ⟨rfl, hb14.trans (hb5.mono hb14.size)⟩
        · by_cases g4 : 9 < p
          · clear hx2
            as_aux_lemma =>
              go_wp2_with fail
              refine (aw _ ht4).mono ?_
              rintro e w5 ⟨rfl, hb5⟩
              go_wp2
              go_ret
              exact ⟨rfl, hb14.trans (hb5.mono hb14.size)⟩
          · by_cases g5 : t < 0
            · clear hx2
              as_aux_lemma =>
                go_wp2_with fail
                refine (aw _ ht4).mono ?_
                rintro e w5 ⟨rfl, hb5⟩
                go_wp2
                go_ret
                exact ⟨rfl, hb14.trans (hb5.mono hb14.size)⟩
            · have g6 : 9 < t := by omega
              clear hx2
              as_aux_lemma =>
                go_wp2_with fail
                refine (aw _ ht4).mono ?_
                rintro e w5 ⟨rfl, hb5⟩
                go_wp2
                go_ret
                exact ⟨rfl, hb14.trans (hb5.mono hb14.size)⟩
      · have g0 : (E != 0) = true := by rw [bne_iff_ne]; exact g2
        clear hx2 g2
        as_aux_lemma =>
          go_wp2_with fail
          refine (aw _ ht4).mono ?_
          rintro e w5 ⟨rfl, hb5⟩
          go_wp2
          go_ret
          exact ⟨rfl, hb14.trans (hb5.mono hb14.size)⟩
end Go.Mk
end
section
set_option linter.unusedVariables false
set_option linter.unusedSimpArgs false
open Go Go.Proofs Go.RowKit Go.Sort
set_option maxRecDepth 100000
namespace Go.Mk
/-- Heats of runners of package seed in new memory. -/
def OwnSH (w : World) (B : Nat) (v : Value) (LL : List (List Run)) : Prop :=
  ∃ vs : List Value, vs.length = LL.length ∧ w.ownsRow B 65 1 v LL.length vs ∧ (∀ u ∈ vs, u.oneCell' = true) ∧ ∀ (i : Nat) (l : List Run), LL[i]? = some l → ∃ u, vs[i]? = some u ∧ OwnS w B u l
theorem OwnSH.below {w w' : World} {B : Nat} {v : Value} {LL : List (List Run)} (h : OwnSH w B v LL) (hb : Below w.heap.size w w') : OwnSH w' B v LL := by
  obtain ⟨vs, hl, ho, h1, hi⟩ := h
  exact ⟨vs, hl, ownN ho hb, h1, fun i l hx => by obtain ⟨u, hu, hr⟩ := hi i l hx; exact ⟨u, hu, ownN hr hb⟩⟩
theorem OwnSH.heats {w : World} {base : Nat} {v : Value} {LL : List (List Run)} (h : OwnSH w base v LL) : ∃ A c, v = .slice A LL.length c ∧ RHeats w w.heap.size A LL.length LL := by
  obtain ⟨vs, hl, ho, _, hi⟩ := h
  by_cases h0 : 0 < LL.length
  · obtain ⟨g, c, rfl, hgb, hgl⟩ := ownSome ho h0
    refine ⟨_, _, rfl, rfl, Nat.le_refl _, fun _ => ⟨g, 0, rfl, hgl, fun i l hx => ?_⟩⟩
    obtain ⟨u, hu, hr⟩ := hi i l hx
    obtain ⟨A', c', rfl, hR⟩ := Runs.of_ownS hr
    have := World.ownsRow.cells ho (g := g) rfl i _ hu
    rw [show (⟨g, 0, none⟩ : Addr).add i = ⟨g, 0 + i, none⟩ from by unfold Addr.add; split <;> simp_all] at this
    exact ⟨A', c', this, hR⟩
  · obtain ⟨a, c, rfl⟩ : ∃ a c, v = .slice a LL.length c := by
      rcases ho.2 with ⟨hv, h0⟩ | ⟨g, cap, cur, hv, _⟩
      · exact ⟨none, 0, by rw [hv, h0]⟩
      · exact ⟨_, _, hv⟩
    exact ⟨a, c, rfl, rfl, Nat.le_refl _, fun q => absurd q h0⟩
/-- The rows of a list of rows, as a source of append. -/
theorem OwnSH.src {w : World} {B : Nat} {v : Value} {LL : List (List Run)} (h : OwnSH w B v LL) : ∃ (vs : List Value) (ao : Option Addr) (c : Nat), v = .slice ao LL.length c ∧ vs.length = LL.length ∧ (∀ u ∈ vs, u.oneCell' = true) ∧ (ao = none → LL.length = 0 ∧ c = 0) ∧
    (∀ ad, ao = some ad → ∀ (j : Nat) (u : Value), vs[j]? = some u → w.cell? (ad.add j) = some u) ∧ ∀ (i : Nat) (l : List Run), LL[i]? = some l → ∃ u, vs[i]? = some u ∧ OwnS w B u l := by
  obtain ⟨vs, hl, ho, h1, hi⟩ := h
  rcases ho.2 with ⟨rfl, h0⟩ | ⟨g, cap, cur, rfl, hrest⟩
  · exact ⟨vs, none, 0, by rw [h0], hl, h1, fun _ => ⟨h0, rfl⟩, (fun ad e => by cases e), hi⟩
  · exact ⟨vs, _, cap, rfl, hl, h1, (fun e => by cases e), (fun ad e => by cases e; exact World.ownsRow.cells ho (g := g) rfl), hi⟩
/-- A row in front of rows. -/
theorem OwnSH.front {w w1 : World} {B : Nat} {v' u : Value} {row : Option Nat} {L : List Run} {LL : List (List Run)} {vs : List Value} (hl : vs.length = LL.length) (h1 : ∀ u ∈ vs, u.oneCell' = true)
    (hi : ∀ (i : Nat) (l : List Run), LL[i]? = some l → ∃ u, vs[i]? = some u ∧ OwnS w B u l) (hu : OwnS w B u L) (hown : w1.ownsRow B 65 1 v' (1 + LL.length) ([u] ++ vs)) (hg : w.grownBy w1 row) (hr : ∀ b, row = some b → w.heap.size ≤ b) : OwnSH w1 B v' (L :: LL) := by
  have kept : ∀ {x : Value} {l : List Run}, OwnS w B x l → OwnS w1 B x l := fun {x l} h => by
    refine World.ownsRow.kept h hg ?_
    cases e : x.ownBlock with
    | none => exact .inl rfl
    | some b =>
      refine .inr fun q => ?_
      have h2 := hr b q.symm
      have h3 := (World.ownsRow.lt h b e).2
      omega
  refine ⟨u :: vs, by simp [hl], by rw [List.length_cons, Nat.add_comm]; exact hown, fun x hx => ?_, fun i l hx => ?_⟩
  · rcases List.mem_cons.1 hx with rfl | hx
    · rcases hu.2 with ⟨a, _⟩ | ⟨g, cap, cur, a, _⟩ <;> rw [a] <;> rfl
    · exact h1 x hx
  · cases i with
    | zero =>
      simp at hx
      subst hx
      exact ⟨u, rfl, kept hu⟩
    | succ i =>
      obtain ⟨x, h2, h3⟩ := hi i l (by simpa using hx)
      exact ⟨x, by simpa using h2, kept h3⟩
theorem flatten_take {LL : List (List Run)} {k : Nat} {l : List Run} (h : LL[k]? = some l) : (LL.take (k + 1)).flatten = (LL.take k).flatten ++ l := by
  rw [List.take_add_one, h]; simp
theorem flatten_take_le (LL : List (List Run)) (k : Nat) : (LL.take k).flatten.length ≤ LL.flatten.length := by
  have : LL.flatten = (LL.take k).flatten ++ (LL.drop k).flatten := by rw [← List.flatten_append, List.take_append_drop]
  rw [this, List.length_append]
  omega
theorem flatten_step_le {LL : List (List Run)} {k : Nat} {l : List Run} (h : LL[k]? = some l) : (LL.take k).flatten.length + l.length ≤ LL.flatten.length := by
  have := flatten_take_le LL (k + 1)
  rwa [flatten_take h, List.length_append] at this
theorem turn_next {LL : List (List Run)} {k : Nat} {l : List Run} (h : LL[k]? = some l) : turnR (LL.take (k + 1)) = l.reverse :: turnR (LL.take k) := by
  unfold turnR
  rw [List.take_add_one, h]
  simp
theorem tmC_snoc (l : List Run) (x : Run) : tmC (l ++ [x]) = tmC l + (if x.kind = sTime then 1 else 0) := by
  unfold tmC
  rw [List.countP_append]
  by_cases h : x.kind = sTime <;> simp [h]
theorem tmC_append (l m : List Run) : tmC (l ++ m) = tmC l + tmC m := by unfold tmC; rw [List.countP_append]
theorem tmC_le (l : List Run) : tmC l ≤ l.length := List.countP_le_length
theorem tmC_take {l : List Run} {j : Nat} {x : Run} (h : l[j]? = some x) : tmC (l.take (j + 1)) = tmC (l.take j) + (if x.kind = sTime then 1 else 0) := by
  rw [List.take_add_one, h, Option.toList_some, tmC_snoc]
theorem rev_take {l : List Run} {j : Nat} {x : Run} (h : l[l.length - 1 - j]? = some x) (hj : j < l.length) : l.reverse.take (j + 1) = l.reverse.take j ++ [x] := by
  have : l.reverse[j]? = some x := by rw [List.getElem?_reverse hj]; exact h
  rw [List.take_add_one, this]; rfl
theorem wrapI (x : Int) (h : -1000 ≤ x ∧ x ≤ 1000000) : IntKind.i64.wrap x = x := by
  simp [IntKind.wrap, IntKind.bits, IntKind.signed]
  omega
theorem needS_take (p : Int) {LL : List (List Run)} {k : Nat} {l : List Run} (h : LL[k]? = some l) : needS p (LL.take (k + 1)) = needS p (LL.take k) + min p (tmC l : Int) := by
  unfold needS
  rw [List.take_add_one, h]
  simp
theorem needS_le (p : Int) : ∀ LL : List (List Run), needS p LL ≤ (tmC LL.flatten : Int)
  | [] => by simp [needS]
  | l :: LL => by
    have ih := needS_le p LL
    unfold needS at ih ⊢
    rw [List.map_cons, List.sum_cons, List.flatten_cons, tmC_append]
    omega
theorem needS_pos (p : Int) (hp : 0 ≤ p) : ∀ LL : List (List Run), 0 ≤ needS p LL
  | [] => by simp [needS]
  | l :: LL => by
    have ih := needS_pos p hp LL
    unfold needS at ih ⊢
    rw [List.map_cons, List.sum_cons]
    omega
/-- A runner lies in a box; the rest as it was. -/
def RB (w0 : World) (nb : Nat) (x : Run) (w' : World) : Prop :=
  w'.cell? ⟨nb, 0, none⟩ = some (.string x.name) ∧ w'.cell? ⟨nb, 1, none⟩ = some (.string x.kind) ∧ w'.cell? ⟨nb, 2, none⟩ = some (.int .i64 x.value) ∧ w'.cell? ⟨nb, 3, none⟩ = some (.string x.reason) ∧ Below w0.heap.size w0 w'
theorem RB.next {w0 a b : World} {nb : Nat} {x : Run} (h : RB w0 nb x a) (hb : Below a.heap.size a b) : RB w0 nb x b := by
  obtain ⟨c0, c1, c2, c3, h⟩ := h
  exact ⟨(hb.cell (p := ⟨nb, 0, none⟩) (cell_some c0).2).trans c0, (hb.cell (p := ⟨nb, 1, none⟩) (cell_some c1).2).trans c1, (hb.cell (p := ⟨nb, 2, none⟩) (cell_some c2).2).trans c2, (hb.cell (p := ⟨nb, 3, none⟩) (cell_some c3).2).trans c3, bstep h hb⟩
theorem RB.rebase {w0 a : World} {nb : Nat} {x : Run} (h : RB w0 nb x a) : RB a nb x a := ⟨h.1, h.2.1, h.2.2.1, h.2.2.2.1, Below.refl _ _⟩
end Go.Mk
end
