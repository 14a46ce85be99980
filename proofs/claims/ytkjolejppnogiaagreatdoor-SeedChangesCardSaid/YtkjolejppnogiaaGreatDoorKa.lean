/-
  Proved: plain facts: heats with another runner, as the reference has them, are those of package seed, where the names are different; and the errors are the same. No condition of its own.
  Proved: the reference's Has says whether a text is one of a list. Conditions: the texts lie where the slice says; there are at most 100,000.
  Proved: the reference's With, as a plain function. Conditions: the heats are rows of the call's own making; at most 20 heats, each at most 1,000 long.
-/
import Derived.Test.YtkjolejppnogiaaGreatDoorJf
import Derived.Test.YtkjolejppnogiaaGreatDoorHm
section
set_option linter.unusedVariables false
set_option linter.unusedSimpArgs false
open Go Go.Proofs Go.RowKit Go.Sort
set_option maxRecDepth 100000
namespace Go.Mk
/-- A runner, or the other one of that name. -/
def putR (r x : Run) : Run := if x.name = r.name then r else x
def withS (r : Run) (LL : List (List Run)) : List (List Run) := LL.map fun l => l.map (putR r)
def hasL (r : Run) (l : List Run) : Bool := l.any fun x => decide (x.name = r.name)
def hasS (r : Run) (LL : List (List Run)) : Bool := LL.any (hasL r)
theorem isIn_mem {P : List ByteArray} {s : ByteArray} : isIn P s = true ↔ s ∈ P := by
  unfold isIn
  rw [List.any_eq_true]
  constructor
  · rintro ⟨t, ht, h⟩
    rw [decide_eq_true_iff] at h
    subst h
    exact ht
  · intro h
    exact ⟨s, h, by simp⟩
theorem runE_new {P : List ByteArray} {x : Run} (h : runE P x = 0) : x.name ∉ P := by
  rw [runE_ref] at h
  intro q
  rw [isIn_mem.2 q] at h
  split at h <;> simp at h
theorem runsE_new : ∀ (l : List Run) (P : List ByteArray), runsE P l = 0 → (l.map Run.name).Nodup ∧ ∀ x ∈ l, x.name ∉ P
  | [], _, _ => ⟨List.nodup_nil, fun x hx => by cases hx⟩
  | x :: l, P, h => by
    rw [runsE] at h
    by_cases h0 : runE P x = 0
    · rw [if_pos h0] at h
      obtain ⟨h1, h2⟩ := runsE_new l _ h
      have hx := runE_new h0
      refine ⟨?_, fun y hy => ?_⟩
      · rw [List.map_cons, List.nodup_cons]
        refine ⟨fun q => ?_, h1⟩
        obtain ⟨y, hy, e⟩ := List.mem_map.1 q
        exact h2 y hy (by rw [e]; simp)
      · rcases List.mem_cons.1 hy with rfl | hy
        · exact hx
        · exact fun q => h2 y hy (by simp [q])
    · rw [if_neg h0] at h
      exact absurd h h0
theorem heatsE_new : ∀ (LL : List (List Run)) (P : List ByteArray), heatsE P LL = 0 → (LL.flatten.map Run.name).Nodup ∧ ∀ x ∈ LL.flatten, x.name ∉ P
  | [], _, _ => ⟨List.nodup_nil, fun x hx => by cases hx⟩
  | l :: LL, P, h => by
    rw [heatsE] at h
    by_cases h0 : heatE P l = 0
    · rw [if_pos h0] at h
      obtain ⟨h1, h2⟩ := heatsE_new LL _ h
      unfold heatE at h0
      by_cases h3 : 160 < l.length
      · rw [if_pos h3] at h0; cases h0
      · rw [if_neg h3] at h0
        obtain ⟨h4, h5⟩ := runsE_new l P h0
        refine ⟨?_, fun y hy => ?_⟩
        · rw [List.flatten_cons, List.map_append, List.nodup_append]
          refine ⟨h4, h1, fun a ha b hb e => ?_⟩
          obtain ⟨y, hy, e2⟩ := List.mem_map.1 hb
          exact h2 y hy (by rw [e2, ← e]; exact List.mem_append_right _ ha)
        · rw [List.flatten_cons] at hy
          rcases List.mem_append.1 hy with hy | hy
          · exact h5 y hy
          · exact fun q => h2 y hy (List.mem_append_left _ q)
    · rw [if_neg h0] at h
      exact absurd h h0
theorem chk_nodup {LL : List (List Run)} (h : chkRuns LL = 0) : (LL.flatten.map Run.name).Nodup := by
  unfold chkRuns at h
  by_cases h1 : 16 < LL.length
  · rw [if_pos h1] at h; cases h
  · rw [if_neg h1] at h
    exact (heatsE_new LL [] h).1
theorem hasR_any (r : Run) : ∀ l : List Run, hasR r.name l = hasL r l
  | [] => by simp [hasR, hasL, fdx]
  | x :: l => by
    have ih := hasR_any r l
    unfold hasR hasL at ih ⊢
    rw [List.any_cons, fdx]
    by_cases h : x.name = r.name
    · rw [if_pos h]; simp [h]
    · rw [if_neg h, ← ih]; simp [h]
theorem put_none (r : Run) : ∀ (l : List Run), hasL r l = false → l.map (putR r) = l
  | [], _ => rfl
  | x :: l, h => by
    unfold hasL at h
    rw [List.any_cons, Bool.or_eq_false_iff] at h
    rw [List.map_cons, put_none r l h.2]
    unfold putR
    rw [if_neg (of_decide_eq_false h.1)]
theorem put_hit (r : Run) : ∀ (l : List Run), (l.map Run.name).Nodup → hasL r l = true → l.map (putR r) = l.set (fdx r.name l) r
  | [], _, h => by simp [hasL] at h
  | x :: l, hn, h => by
    rw [List.map_cons, List.nodup_cons] at hn
    rw [fdx, List.map_cons]
    by_cases hx : x.name = r.name
    · rw [if_pos hx, List.set_cons_zero]
      have : hasL r l = false := by
        unfold hasL
        rw [List.any_eq_false]
        intro y hy q
        rw [decide_eq_true_iff] at q
        exact hn.1 (by rw [hx, ← q]; exact List.mem_map.2 ⟨y, hy, rfl⟩)
      rw [put_none r l this]
      unfold putR
      rw [if_pos hx]
    · rw [if_neg hx, List.set_cons_succ]
      unfold hasL at h
      rw [List.any_cons, decide_eq_false hx, Bool.false_or] at h
      rw [put_hit r l hn.2 h]
      unfold putR
      rw [if_neg hx]
theorem with_none (r : Run) : ∀ (LL : List (List Run)), hasS r LL = false → withS r LL = LL
  | [], _ => rfl
  | l :: LL, h => by
    unfold hasS at h
    rw [List.any_cons, Bool.or_eq_false_iff] at h
    have ih := with_none r LL h.2
    unfold withS at ih ⊢
    rw [List.map_cons, ih, put_none r l h.1]
theorem repl_with (r : Run) : ∀ (LL : List (List Run)), (LL.flatten.map Run.name).Nodup → replS r LL = if hasS r LL then some (withS r LL) else none
  | [], _ => rfl
  | l :: LL, hn => by
    rw [List.flatten_cons, List.map_append, List.nodup_append] at hn
    obtain ⟨n1, n2, n3⟩ := hn
    have ih := repl_with r LL n2
    unfold hasS at ih ⊢
    rw [replS, List.any_cons, hasR_any]
    cases h : hasL r l with
    | true =>
      have hno : LL.any (hasL r) = false := by
        rw [List.any_eq_false]
        intro q hq e
        unfold hasL at e h
        obtain ⟨y, hy, ey⟩ := List.any_eq_true.1 e
        obtain ⟨x, hx, ex⟩ := List.any_eq_true.1 h
        rw [decide_eq_true_iff] at ey ex
        exact n3 x.name (List.mem_map.2 ⟨x, hx, rfl⟩) y.name (List.mem_map.2 ⟨y, List.mem_flatten.2 ⟨q, hq, hy⟩, rfl⟩) (by rw [ex, ey])
      have hw := with_none r LL hno
      simp only [if_true, Bool.true_or]
      unfold withS at hw ⊢
      rw [List.map_cons, hw, put_hit r l n1 h]
    | false =>
      simp only [Bool.false_eq_true, if_false, Bool.false_or]
      rw [ih]
      unfold withS
      rw [List.map_cons, put_none r l h]
      cases LL.any (hasL r) <;> rfl
theorem runE_nil (x : Run) : runE [] x = crE x := by
  rw [runE_ref]
  unfold crE
  cases isNm x.name <;> simp [isIn]
theorem fst_flat (a b c d : Int) : fstN [fstN [a, b, c], d] = fstN [a, b, c, d] := by
  simp only [fstN]
  by_cases h1 : a = 0 <;> by_cases h2 : b = 0 <;> by_cases h3 : c = 0 <;> by_cases h4 : d = 0 <;> simp [h1, h2, h3, h4]
theorem with_len (r : Run) (LL : List (List Run)) : (withS r LL).length = LL.length := by unfold withS; rw [List.length_map]
theorem with_flat (r : Run) (LL : List (List Run)) : (withS r LL).flatten.length = LL.flatten.length := by
  unfold withS
  induction LL with
  | nil => rfl
  | cons l LL ih => rw [List.map_cons, List.flatten_cons, List.flatten_cons, List.length_append, List.length_append, ih, List.length_map]
theorem with_each {r : Run} {LL : List (List Run)} {m : Nat} (h : ∀ l ∈ LL, l.length ≤ m) : ∀ l ∈ withS r LL, l.length ≤ m := by
  intro l hl
  unfold withS at hl
  obtain ⟨q, hq, rfl⟩ := List.mem_map.1 hl
  rw [List.length_map]
  exact h q hq
end Go.Mk
end
section
set_option linter.unusedVariables false
set_option linter.unusedSimpArgs false
open Go Go.Proofs Go.RowKit Go.Sort
set_option maxRecDepth 100000
namespace Go.Mk
set_option maxHeartbeats 2000000 in
theorem r4Has_any (L : List ByteArray) (s : ByteArray) (n cap : Nat) (A : Option Addr) (w : World) (hZ : TextsZ w A n L) (hn : n ≤ 100000) :
    Calls Tryz.prog 49 #[.slice A n cap, .string s] w (RetPost (.bool (isIn L s)) w) := by
  have hn0 : (n : Int) ≤ 100000 := by omega
  have HM := Lib.hid hZ
  have Hlen : Hid (L.length = n) := hZ.1
  obtain ⟨X, hX⟩ : ∃ X, isIn L s = X := ⟨_, rfl⟩
  have HX := Lib.hid hX
  rw [hX]
  clear hZ hX hn
  go_enter Tryz.func49, Tryz.ntmps49
  go_wp2
  go_loopw [5] (fun i wr => ∃ k : Nat, k ≤ n ∧ i = .int .i64 k ∧ Hid (isIn (L.take k) s = false) ∧ Below w.heap.size w wr) (fun i _ => n - (RowKit.intOf i).toNat)
  case atStart => exact ⟨0, by omega, rfl, Lib.hid rfl, Below.refl _ _⟩
  case round =>
    obtain ⟨k, hk, rfl, HK, hb⟩ := hrel
    by_cases hlt : k < n
    · have g1 := HM.out.below hb
      obtain ⟨p1, f1, rfl, _, q1⟩ := g1.2 (by omega)
      have hkl : k < L.length := by rw [g1.1]; exact hlt
      have hLk := List.getElem?_eq_getElem hkl
      have c1' := q1 k L[k] hLk
      obtain ⟨x, hx⟩ : ∃ x, L[k] = x := ⟨_, rfl⟩
      rw [hx] at c1' hLk
      have hki : (k : Int) < (n : Int) := by omega
      have hk0 : (0 : Int) ≤ (k : Int) := by omega
      have hkt : ((k : Int)).toNat = k := by omega
      by_cases g : x = s
      · have hXt : true = X := by rw [← HX.out, ← g]; exact (isIn_at hLk).symm
        subst hXt
        have gb : (x.toList == s.toList) = true := by rw [g]; simp
        clear q1 g1 hx hkl hLk g HK HX
        as_aux_lemma =>
          go_wp2
          go_ret
          exact ⟨rfl, hb⟩
      · have HK2 : Hid (isIn (L.take (k + 1)) s = false) := (show _ = _ by rw [isIn_take hLk, HK.out, decide_eq_false g]; rfl)
        have gb : (x.toList == s.toList) = false := tl_ne g
        clear q1 g1 hx hkl hLk g HK HX
        as_aux_lemma =>
          go_wp2
          go_roundw
          case rel => exact ⟨k + 1, by omega, by go_num, HK2, hb⟩
          case measure => simp [RowKit.intOf]; omega
    · have hz := HK.out
      rw [List.take_of_length_le (by rw [Hlen.out]; omega), HX.out] at hz
      subst hz
      go_wp2
      go_ret
      exact ⟨rfl, hb⟩
end Go.Mk
end
section
set_option linter.unusedVariables false
set_option linter.unusedSimpArgs false
open Go Go.Proofs Go.RowKit Go.Sort
set_option maxRecDepth 100000
namespace Go.Mk
theorem withS_take (r : Run) {LL : List (List Run)} {k : Nat} {l : List Run} (h : LL[k]? = some l) : withS r (LL.take (k + 1)) = withS r (LL.take k) ++ [l.map (putR r)] := by
  unfold withS
  exact map_snoc (fun l : List Run => l.map (putR r)) h
theorem hasS_take (r : Run) {LL : List (List Run)} {k : Nat} {l : List Run} (h : LL[k]? = some l) : hasS r (LL.take (k + 1)) = (hasS r (LL.take k) || hasL r l) := by
  unfold hasS
  rw [List.take_add_one, h]; simp
theorem hasL_take (r : Run) {l : List Run} {j : Nat} {x : Run} (h : l[j]? = some x) : hasL r (l.take (j + 1)) = (hasL r (l.take j) || decide (x.name = r.name)) := by
  unfold hasL
  rw [List.take_add_one, h]; simp
/-- A heat of which the first runners have been looked at. -/
def midR (r : Run) (l : List Run) (j : Nat) : List Run := (l.take j).map (putR r) ++ l.drop j
theorem mid_len (r : Run) (l : List Run) (j : Nat) : (midR r l j).length = l.length := by
  unfold midR
  rw [List.length_append, List.length_map, List.length_take, List.length_drop]
  omega
theorem mid_at (r : Run) {l : List Run} {j : Nat} {x : Run} (h : l[j]? = some x) : (midR r l j)[j]? = some x := by
  have hl := (List.getElem?_eq_some_iff.1 h).1
  unfold midR
  rw [List.getElem?_append_right (by simp; omega)]
  simp only [List.length_map, List.length_take, List.getElem?_drop]
  rw [show j + (j - min j l.length) = j from by omega, h]
theorem mid_next (r : Run) {l : List Run} {j : Nat} {x : Run} (h : l[j]? = some x) : midR r l (j + 1) = (midR r l j).set j (putR r x) := by
  have hl := (List.getElem?_eq_some_iff.1 h).1
  unfold midR
  rw [List.set_append_right _ _ (by simp; omega), List.take_add_one, h, drop_cons h]
  simp only [List.length_map, List.length_take, Option.toList_some, List.map_append, List.map_cons, List.map_nil, List.append_assoc, List.cons_append, List.nil_append]
  rw [show j - min j l.length = 0 from by omega, List.set_cons_zero]
theorem mid_hit {r : Run} {l : List Run} {j : Nat} {x : Run} (h : l[j]? = some x) (e : x.name = r.name) : midR r l (j + 1) = (midR r l j).set j r := by
  rw [mid_next r h]; unfold putR; rw [if_pos e]
theorem mid_miss {r : Run} {l : List Run} {j : Nat} {x : Run} (h : l[j]? = some x) (e : x.name ≠ r.name) : midR r l (j + 1) = midR r l j := by
  rw [mid_next r h]; unfold putR; rw [if_neg e]
  have := mid_at r h
  obtain ⟨hl, hx⟩ := List.getElem?_eq_some_iff.1 this
  rw [← hx, List.set_getElem_self]
theorem mid_end (r : Run) (l : List Run) : midR r l l.length = l.map (putR r) := by
  unfold midR
  rw [List.take_length, List.drop_length, List.append_nil]
theorem mid_zero (r : Run) (l : List Run) : midR r l 0 = l := by simp [midR]
/-- A row of one's own as a source of append. -/
theorem OwnRuns.src {w : World} {B : Nat} {v : Value} {L : List Run} (h : OwnRuns w B v L) : ∃ ao c, v = .slice ao L.length c ∧ (ao = none → L.length = 0 ∧ c = 0) ∧
    (∀ ad, ao = some ad → ∀ (j : Nat) (u : Value), (L.flatMap runC)[j]? = some u → w.cell? (ad.add j) = some u) := by
  rcases h.2 with ⟨rfl, h0⟩ | ⟨g, cap, cur, rfl, hrest⟩
  · exact ⟨none, 0, by rw [h0], fun _ => ⟨h0, rfl⟩, (fun ad e => by cases e)⟩
  · exact ⟨_, cap, rfl, (fun e => by cases e), (fun ad e => by cases e; exact World.ownsRow.cells h (g := g) rfl)⟩
theorem OwnHeats.at_ {w : World} {B n c k : Nat} {A : Option Addr} {LL : List (List Run)} (h : OwnHeats w B (.slice A n c) LL) (hk : k < n) :
    ∃ g u l, A = some ⟨g, 0, none⟩ ∧ LL[k]? = some l ∧ w.cell? ⟨g, k, none⟩ = some u ∧ OwnRuns w B u l := by
  obtain ⟨vs, hl, ho, hi⟩ := h
  have hn : n = LL.length := by
    rcases ho.2 with ⟨a, b⟩ | ⟨g, cap, cur, a, _⟩
    · injection a with a1 a2 a3; omega
    · injection a
  obtain ⟨g, c', e, _, _⟩ := ownSome ho (by omega)
  injection e with e1 e2 e3
  subst e1 e3
  have hkl : k < LL.length := by omega
  obtain ⟨u, hu, hr⟩ := hi k LL[k] (List.getElem?_eq_getElem hkl)
  refine ⟨g, u, LL[k], rfl, List.getElem?_eq_getElem hkl, ?_, hr⟩
  have := World.ownsRow.cells ho (g := g) rfl k u hu
  rwa [show (⟨g, 0, none⟩ : Addr).add k = ⟨g, k, none⟩ from by unfold Addr.add; split <;> simp_all] at this
theorem flat_set_keep (r : Run) (l : List Run) (j : Nat) (h : j < l.length) : ((l.flatMap runC).set (j * 4) (.string r.name) |>.set (j * 4 + 1) (.string r.kind) |>.set (j * 4 + 2) (.int .i64 r.value) |>.set (j * 4 + 3) (.string r.reason)) = (l.set j r).flatMap runC := flat_set r l j h
theorem OwnHeats.low {w : World} {B B' : Nat} {v : Value} {LL : List (List Run)} (h : OwnHeats w B v LL) (hB : B' ≤ B) : OwnHeats w B' v LL := by
  obtain ⟨vs, hl, ho, hi⟩ := h
  refine ⟨vs, hl, ⟨ho.1, ?_⟩, fun i l hx => by obtain ⟨u, hu, hr⟩ := hi i l hx; exact ⟨u, hu, OwnRuns.low hr hB⟩⟩
  rcases ho.2 with ⟨a, b⟩ | ⟨g, cap, cur, a, b, c, d⟩
  · exact .inl ⟨a, b⟩
  · exact .inr ⟨g, cap, cur, a, Nat.le_trans hB b, c, d⟩
/-- What With leaves. -/
def WithPost (LL : List (List Run)) (r : Run) (w : World) (e : Ending) (w' : World) : Prop :=
  ∃ v, e = .returned (.tuple #[v, .bool (hasS r LL)]) ∧ OwnHeats w' w.heap.size v (withS r LL) ∧ Below w.heap.size w w'
set_option maxHeartbeats 8000000 in
theorem r4With_any (LL : List (List Run)) (n cap : Nat) (A : Option Addr) (B : Nat) (r : Run) (w : World) (hB : B ≤ w.heap.size) (hZ : OwnHeats w B (.slice A n cap) LL) (hn : n ≤ 20) (hs : ∀ l ∈ LL, l.length ≤ 1000) :
    Calls Tryz.prog 47 #[.slice A n cap, r.agg] w (WithPost LL r w) := by
  obtain ⟨i0, hi, hz0, hz1, hz2⟩ := info_parts infoRRun
  obtain ⟨i1, hj', hy0, hy1, hy2⟩ := info_parts infoRRuns
  have hni : (n : Int) ≤ 20 := by omega
  have HS := Lib.hid hs
  have Hlen : Hid (LL.length = n) := hZ.cap.1.symm
  obtain ⟨wA, hwA⟩ : ∃ wA, wA = w.alloc (.cells #[.string r.name, .string r.kind, .int .i64 r.value, .string r.reason] 83) := ⟨_, rfl⟩
  have hszA : wA.heap.size = w.heap.size + 1 := by rw [hwA]; simp
  have hbA : Below w.heap.size w wA := by rw [hwA]; exact balloc _ (Below.refl _ _)
  have HRB : Hid (∀ w', Below wA.heap.size wA w' → w'.cell? ⟨w.heap.size, 0, none⟩ = some (.string r.name) ∧ w'.cell? ⟨w.heap.size, 1, none⟩ = some (.string r.kind) ∧ w'.cell? ⟨w.heap.size, 2, none⟩ = some (.int .i64 r.value) ∧ w'.cell? ⟨w.heap.size, 3, none⟩ = some (.string r.reason)) := fun w' hb => by
    subst hwA
    obtain ⟨a, b, c, d, _⟩ := boxKept hb
    exact ⟨a, b, c, d⟩
  have HT : Hid (∀ w', Below wA.heap.size wA w' → Below w.heap.size w w') := fun w' hb => hbA.trans (hb.mono (by omega))
  have HM : Hid (∀ w', Below wA.heap.size wA w' → OwnHeats w' B (.slice A n cap) LL) := fun w' hb => hZ.below (HT.out w' hb)
  have HWA := Lib.hid hwA
  have hsz0 : w.heap.size ≤ wA.heap.size := by omega
  unfold WithPost
  unfold Run.agg
  clear hZ hs hbA hwA hszA
  go_enter Tryz.func47, Tryz.ntmps47
  go_wp2
  rw [← HWA.out]
  clear HWA
  go_loopw [6, 7, 8] (fun f v i wr => ∃ k : Nat, k ≤ n ∧ i = .int .i64 k ∧ f = .bool (hasS r (LL.take k)) ∧ OwnHeats wr wA.heap.size v (withS r (LL.take k)) ∧ Below wA.heap.size wA wr) (fun _ _ i _ => n - (RowKit.intOf i).toNat)
  case atStart => exact ⟨0, by omega, rfl, rfl, ⟨[], rfl, World.ownsRow_nil _ _ _ _, fun i l h => by simp [withS] at h⟩, Below.refl _ _⟩
  case round =>
    obtain ⟨k, hk, rfl, rfl, hown, hb⟩ := hrel
    by_cases hlt : k < n
    · obtain ⟨b, u, l, rfl, hL, hc, hZl⟩ := (HM.out _ hb).at_ hlt
      obtain ⟨ao, cc, rfl, hno, hce⟩ := hZl.src
      have hki : (k : Int) < (n : Int) := by omega
      have hk0 : (0 : Int) ≤ (k : Int) := by omega
      have hkt : ((k : Int)).toNat = k := by omega
      have hm1 := HS.out l (List.mem_of_getElem? hL)
      have W1 := Lib.hid (withS_take r hL)
      have W2 := Lib.hid (hasS_take r hL)
      have hPl : (withS r (LL.take k)).length = k := by rw [with_len, List.length_take, Hlen.out]; omega
      have HPL := Lib.hid hPl
      obtain ⟨m, hm⟩ : ∃ m, l.length = m := ⟨_, rfl⟩
      rw [hm] at hc hm1 hno
      have Hm := Lib.hid hm
      have HNO : Hid ((l.flatMap runC).length = m * 4 ∧ (ao = none → m = 0 ∧ cc = 0)) := ⟨by rw [← hm]; exact runC_len l, hno⟩
      have hmi : (m : Int) ≤ 1000 := by omega
      have hszr := hb.size
      have hbl : b < wr.heap.size := (cell_some hc).2
      have hAl : Below wr.heap.size wr (wr.alloc (.cells #[] 83)) := balloc _ (Below.refl _ _)
      have HCE : Hid (∀ ad, ao = some ad → ∀ (j : Nat) (u : Value), (l.flatMap runC)[j]? = some u → (wr.alloc (.cells #[] 83)).cell? (ad.add j) = some u) := fun ad e j u hj => by
        have h := hce ad e j u hj
        exact (hAl.cell (cell_some h).2).trans h
      have hown0 : (wr.alloc (.cells #[] 83)).ownsRow wr.heap.size 83 4 (.slice (some ⟨wr.heap.size, 0, none⟩) 0 0) 0 [] := World.ownsRow_lit wr #[] 0 (Nat.le_refl _) (by decide) rfl
      have HOW := Lib.hid hown0
      have HO := Lib.hid hown
      have HL := Lib.hid hL
      have HB := Lib.hid hb
      clear hZl hno hce hm hPl hown hown0 hL
      go_wp2_with (at_builtin; refine wpList_append_src _ rfl _ _ 67 rfl wr.heap.size 83 i0 (.agg #[.string ⟨#[]⟩, .string ⟨#[]⟩, .int .i64 0, .string ⟨#[]⟩]) 4 56 Tryz.underlying67 hi hz0 hz1 hz2 rfl (by decide) _ _ _ rfl HOW.out ao m cc (l.flatMap runC) rfl HNO.out.1 HNO.out.2 HCE.out (runC_one l) ?c3 ?c4 ?c5 ?_)
      case c3 => unfold maxLen; omega
      case c4 => omega
      case c5 => exact hAl.size
      intro u3 w3 hown3 hgrow3 hat3
      have hu3 : OwnRuns w3 wr.heap.size u3 (midR r l 0) := by
        rw [mid_zero]
        have : w3.ownsRow wr.heap.size 83 4 u3 m (l.flatMap runC) := by simpa using hown3
        unfold OwnRuns
        rw [Hm.out]
        exact this
      have hb3 : Below wr.heap.size wr w3 := hAl.grown hgrow3 hAl.size (fun q hq => by simp [Value.ownBlock] at hq; omega)
      obtain ⟨a3, c3, rfl⟩ := OwnRuns.shape hu3
      rw [mid_len, Hm.out] at hu3 ⊢
      have hb3' : Below wA.heap.size wA w3 := hb.trans (hb3.mono hszr)
      have H3 := Lib.hid hu3
      clear hown3 hgrow3 hat3 hu3 HOW hAl HNO HCE hb hc hbl
      obtain ⟨wy, rfl⟩ : ∃ wy : World, wy = wr := ⟨_, rfl⟩
      go_wp2
      go_loopw [6, 10] (fun f i wx => ∃ j : Nat, j ≤ m ∧ i = .int .i64 j ∧ f = .bool (hasS r (LL.take k) || hasL r (l.take j)) ∧ OwnRuns wx wy.heap.size (.slice a3 m c3) (midR r l j) ∧ Below wy.heap.size wy wx) (fun _ i _ => m - (RowKit.intOf i).toNat)
      case atStart => exact ⟨0, by omega, rfl, by simp [hasL], H3.out, hb3⟩
      case round =>
        obtain ⟨j, hj, rfl, rfl, hownx, hbx⟩ := hrel
        have hbW : Below wA.heap.size wA wr := HB.out.trans (hbx.mono hszr)
        obtain ⟨x0, x1, x2, x3⟩ := HRB.out _ hbW
        clear H3 hb3 hb3'
        by_cases hjm : j < m
        · have hlj : j < l.length := by rw [Hm.out]; exact hjm
          obtain ⟨x, hx⟩ : ∃ x, l[j]? = some x := ⟨l[j], List.getElem?_eq_getElem hlj⟩
          have hji : (j : Int) < (m : Int) := by omega
          have hj0 : (0 : Int) ≤ (j : Int) := by omega
          have hjt : ((j : Int)).toNat = j := by omega
          have hat := mid_at r hx
          have vo4 : wr.ownsRow wy.heap.size 83 4 (.slice a3 m c3) m ((midR r l j).flatMap runC) := by
            have h := hownx
            unfold OwnRuns at h
            rw [mid_len, Hm.out] at h
            exact h
          obtain ⟨g', cc, hge, hgb, hgl⟩ := ownSome vo4 (by omega)
          cases hge
          have u0 : wr.cell? ⟨g', j * 4, none⟩ = some (.string x.name) := (World.ownsRow.cellAt vo4 (j * 4) (by omega)).trans (runC_at _ j x 0 hat (by decide))
          have u1 : wr.cell? ⟨g', j * 4 + 1, none⟩ = some (.string x.kind) := (World.ownsRow.cellAt vo4 (j * 4 + 1) (by omega)).trans (runC_at _ j x 1 hat (by decide))
          have u2 : wr.cell? ⟨g', j * 4 + 2, none⟩ = some (.int .i64 x.value) := (World.ownsRow.cellAt vo4 (j * 4 + 2) (by omega)).trans (runC_at _ j x 2 hat (by decide))
          have u3 : wr.cell? ⟨g', j * 4 + 3, none⟩ = some (.string x.reason) := (World.ownsRow.cellAt vo4 (j * 4 + 3) (by omega)).trans (runC_at _ j x 3 hat (by decide))
          have W3 := Lib.hid (hasL_take r hx)
          by_cases g : x.name = r.name
          · have gb : (x.name.toList == r.name.toList) = true := by rw [g]; simp
            have hmid := Lib.hid (mid_hit hx g)
            rw [decide_eq_true g, Bool.or_true] at W3
            have z0 := World.ownsRow.frozenAt vo4 (j * 4)
            have z1 := World.ownsRow.frozenAt vo4 (j * 4 + 1)
            have z2 := World.ownsRow.frozenAt vo4 (j * 4 + 2)
            have z3 := World.ownsRow.frozenAt vo4 (j * 4 + 3)
            have VO := Lib.hid vo4
            clear hx hat g vo4 hownx
            go_wp2_with fail
            go_quiet (fail)
            go_wp2
            have vo5 := ownN VO.out (below_drewN (Below.refl wr.heap.size wr) nq)
            have s1 := World.ownsRow.stored vo5 (j * 4) (.string r.name)
            have s2 := World.ownsRow.stored s1.1 (j * 4 + 1) (.string r.kind)
            have s3 := World.ownsRow.stored s2.1 (j * 4 + 2) (.int .i64 r.value)
            have s4 := World.ownsRow.stored s3.1 (j * 4 + 3) (.string r.reason)
            have s4 := s4.1
            rw [flat_set r (midR r l j) j (by rw [mid_len, Hm.out]; exact hjm), ← hmid.out] at s4
            have hbn := ((((below_drewN hbx nq).setCell (p := ⟨g', j * 4, none⟩) (by show _ ≤ g'; omega) (.string r.name)).setCell (p := ⟨g', j * 4 + 1, none⟩) (by show _ ≤ g'; omega) (.string r.kind)).setCell (p := ⟨g', j * 4 + 2, none⟩) (by show _ ≤ g'; omega) (.int .i64 r.value)).setCell (p := ⟨g', j * 4 + 3, none⟩) (by show _ ≤ g'; omega) (.string r.reason)
            refine ⟨⟨j + 1, by omega, by go_num, by rw [W3.out, Bool.or_true], ?_, hbn⟩, by simp [RowKit.intOf]; omega⟩
            unfold OwnRuns
            rw [mid_len, Hm.out]
            exact s4
          · have gb : (x.name.toList == r.name.toList) = false := tl_ne g
            have hmid := Lib.hid (mid_miss hx g)
            rw [decide_eq_false g, Bool.or_false] at W3
            have HO2 := Lib.hid hownx
            clear hx hat g vo4 hownx
            as_aux_lemma =>
              go_wp2_with fail
              go_quiet (fail)
              go_wp2
              go_roundw
              case rel => exact ⟨j + 1, by omega, by go_num, by rw [W3.out], by rw [hmid.out]; exact ownN HO2.out (below_drewN (Below.refl _ _) _), below_drewN hbx _⟩
              case measure => simp [RowKit.intOf]; omega
        · obtain rfl : j = m := by omega
          have htl : l.take j = l := List.take_of_length_le (by rw [Hm.out]; omega)
          have W3 : Hid (hasS r (LL.take (k + 1)) = (hasS r (LL.take k) || hasL r (l.take j))) := (show _ = _ by rw [W2.out, htl])
          have hme : midR r l j = l.map (putR r) := by rw [← Hm.out, mid_end]
          rw [hme] at hownx
          obtain ⟨vs, hvl, hvo, hvi⟩ := OwnHeats.below HO.out hbx
          have hP2 := HPL.out
          have hml : (l.map (putR r)).length = j := by rw [List.length_map, Hm.out]
          have hu : OwnRuns wr wA.heap.size (.slice a3 j c3) (l.map (putR r)) := OwnRuns.low hownx hszr
          rw [hP2] at hvo
          have HUQ := Lib.hid hu
          have HV := Lib.hid hvi
          have hbw := HT.out _ hbW
          clear hu hvi hownx hml hme htl
          as_aux_lemma =>
            go_wp2_with (at_builtin; refine wpList_append_own _ rfl _ _ 59 rfl wA.heap.size 67 i1 (.slice none 0 0) 1 24 Tryz.underlying59 hj' hy0 hy1 hy2 rfl (by decide) _ _ _ rfl (World.ownsRow.alloc hvo _) ⟨wr.heap.size, 0, none⟩ 1 1 [.slice a3 j c3] rfl rfl ?c1 ?c2 ?c3 ?c4 ?c5 ?_)
            case c1 =>
              intro j u hj
              match j, hj with
              | 0, hj => simp at hj; subst hj; simp [Addr.add]
            case c2 => intro u hu; simp at hu; subst hu; rfl
            case c3 => unfold maxLen; omega
            case c4 => omega
            case c5 => have := hbW.size; simp; omega
            · intro v' w1 hown' hgrow _
              have hb1 : Below wA.heap.size wA w1 := (hbW.alloc hbW.size _).grown hgrow (by have := hbW.size; simp; omega) (fun r hr => (World.ownsRow.lt hvo r hr).1)
              have ho1 : OwnHeats w1 wA.heap.size v' (withS r (LL.take (k + 1))) := by
                rw [W1.out]
                exact heats_next hvl (by rw [hP2]; exact World.ownsRow.alloc hvo _) (fun i l hl => by obtain ⟨u, h1, h2⟩ := HV.out i l hl; exact ⟨u, h1, World.ownsRow.alloc h2 _⟩) (World.ownsRow.alloc HUQ.out _) (by rw [hP2]; exact hown') hgrow
              clear hown' hgrow hvo
              go_wp2
              go_roundw
              case rel => exact ⟨k + 1, by omega, by go_num, by rw [W3.out], ho1, hb1⟩
              case measure => simp [RowKit.intOf]; omega
    · obtain rfl : k = n := by omega
      have htk : LL.take k = LL := List.take_of_length_le (by rw [Hlen.out]; omega)
      rw [htk] at hown ⊢
      have HO := Lib.hid hown
      have hbw := HT.out _ hb
      clear hown htk
      go_wp2
      go_ret2
      exact ⟨_, rfl, HO.out.low hsz0, hbw⟩
end Go.Mk
end
