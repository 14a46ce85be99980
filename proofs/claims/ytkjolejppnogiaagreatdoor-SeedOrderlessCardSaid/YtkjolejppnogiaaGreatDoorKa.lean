/-
  Proved: plain facts: heats with another runner, as the reference has them, are those of package seed, where the names are different; and the errors are the same. No condition of its own.
  Proved: the reference's Has says whether a text is one of a list. Conditions: the texts lie where the slice says; there are at most 100,000.
-/
import Derived.Test.YtkjolejppnogiaaGreatDoorJf
import Derived.Test.YtkjolejppnogiaaGreatDoorHm
section
set_option linter.unusedVariables false
set_option linter.unusedSimpArgs false
open Go Go.Proofs Go.RowKit Go.Sort
set_option maxRecDepth 100000
namespace Go.Mk
/-- A runner, or the other one of that name. -/
def putR (r x : Run) : Run := if x.name = r.name then r else x
def withS (r : Run) (LL : List (List Run)) : List (List Run) := LL.map fun l => l.map (putR r)
def hasL (r : Run) (l : List Run) : Bool := l.any fun x => decide (x.name = r.name)
def hasS (r : Run) (LL : List (List Run)) : Bool := LL.any (hasL r)
theorem isIn_mem {P : List ByteArray} {s : ByteArray} : isIn P s = true ↔ s ∈ P := by
  unfold isIn
  rw [List.any_eq_true]
  constructor
  · rintro ⟨t, ht, h⟩
    rw [decide_eq_true_iff] at h
    subst h
    exact ht
  · intro h
    exact ⟨s, h, by simp⟩
theorem runE_new {P : List ByteArray} {x : Run} (h : runE P x = 0) : x.name ∉ P := by
  rw [runE_ref] at h
  intro q
  rw [isIn_mem.2 q] at h
  split at h <;> simp at h
theorem runsE_new : ∀ (l : List Run) (P : List ByteArray), runsE P l = 0 → (l.map Run.name).Nodup ∧ ∀ x ∈ l, x.name ∉ P
  | [], _, _ => ⟨List.nodup_nil, fun x hx => by cases hx⟩
  | x :: l, P, h => by
    rw [runsE] at h
    by_cases h0 : runE P x = 0
    · rw [if_pos h0] at h
      obtain ⟨h1, h2⟩ := runsE_new l _ h
      have hx := runE_new h0
      refine ⟨?_, fun y hy => ?_⟩
      · rw [List.map_cons, List.nodup_cons]
        refine ⟨fun q => ?_, h1⟩
        obtain ⟨y, hy, e⟩ := List.mem_map.1 q
        exact h2 y hy (by rw [e]; simp)
      · rcases List.mem_cons.1 hy with rfl | hy
        · exact hx
        · exact fun q => h2 y hy (by simp [q])
    · rw [if_neg h0] at h
      exact absurd h h0
theorem heatsE_new : ∀ (LL : List (List Run)) (P : List ByteArray), heatsE P LL = 0 → (LL.flatten.map Run.name).Nodup ∧ ∀ x ∈ LL.flatten, x.name ∉ P
  | [], _, _ => ⟨List.nodup_nil, fun x hx => by cases hx⟩
  | l :: LL, P, h => by
    rw [heatsE] at h
    by_cases h0 : heatE P l = 0
    · rw [if_pos h0] at h
      obtain ⟨h1, h2⟩ := heatsE_new LL _ h
      unfold heatE at h0
      by_cases h3 : 160 < l.length
      · rw [if_pos h3] at h0; cases h0
      · rw [if_neg h3] at h0
        obtain ⟨h4, h5⟩ := runsE_new l P h0
        refine ⟨?_, fun y hy => ?_⟩
        · rw [List.flatten_cons, List.map_append, List.nodup_append]
          refine ⟨h4, h1, fun a ha b hb e => ?_⟩
          obtain ⟨y, hy, e2⟩ := List.mem_map.1 hb
          exact h2 y hy (by rw [e2, ← e]; exact List.mem_append_right _ ha)
        · rw [List.flatten_cons] at hy
          rcases List.mem_append.1 hy with hy | hy
          · exact h5 y hy
          · exact fun q => h2 y hy (List.mem_append_left _ q)
    · rw [if_neg h0] at h
      exact absurd h h0
theorem chk_nodup {LL : List (List Run)} (h : chkRuns LL = 0) : (LL.flatten.map Run.name).Nodup := by
  unfold chkRuns at h
  by_cases h1 : 16 < LL.length
  · rw [if_pos h1] at h; cases h
  · rw [if_neg h1] at h
    exact (heatsE_new LL [] h).1
theorem hasR_any (r : Run) : ∀ l : List Run, hasR r.name l = hasL r l
  | [] => by simp [hasR, hasL, fdx]
  | x :: l => by
    have ih := hasR_any r l
    unfold hasR hasL at ih ⊢
    rw [List.any_cons, fdx]
    by_cases h : x.name = r.name
    · rw [if_pos h]; simp [h]
    · rw [if_neg h, ← ih]; simp [h]
theorem put_none (r : Run) : ∀ (l : List Run), hasL r l = false → l.map (putR r) = l
  | [], _ => rfl
  | x :: l, h => by
    unfold hasL at h
    rw [List.any_cons, Bool.or_eq_false_iff] at h
    rw [List.map_cons, put_none r l h.2]
    unfold putR
    rw [if_neg (of_decide_eq_false h.1)]
theorem put_hit (r : Run) : ∀ (l : List Run), (l.map Run.name).Nodup → hasL r l = true → l.map (putR r) = l.set (fdx r.name l) r
  | [], _, h => by simp [hasL] at h
  | x :: l, hn, h => by
    rw [List.map_cons, List.nodup_cons] at hn
    rw [fdx, List.map_cons]
    by_cases hx : x.name = r.name
    · rw [if_pos hx, List.set_cons_zero]
      have : hasL r l = false := by
        unfold hasL
        rw [List.any_eq_false]
        intro y hy q
        rw [decide_eq_true_iff] at q
        exact hn.1 (by rw [hx, ← q]; exact List.mem_map.2 ⟨y, hy, rfl⟩)
      rw [put_none r l this]
      unfold putR
      rw [if_pos hx]
    · rw [if_neg hx, List.set_cons_succ]
      unfold hasL at h
      rw [List.any_cons, decide_eq_false hx, Bool.false_or] at h
      rw [put_hit r l hn.2 h]
      unfold putR
      rw [if_neg hx]
theorem with_none (r : Run) : ∀ (LL : List (List Run)), hasS r LL = false → withS r LL = LL
  | [], _ => rfl
  | l :: LL, h => by
    unfold hasS at h
    rw [List.any_cons, Bool.or_eq_false_iff] at h
    have ih := with_none r LL h.2
    unfold withS at ih ⊢
    rw [List.map_cons, ih, put_none r l h.1]
theorem repl_with (r : Run) : ∀ (LL : List (List Run)), (LL.flatten.map Run.name).Nodup → replS r LL = if hasS r LL then some (withS r LL) else none
  | [], _ => rfl
  | l :: LL, hn => by
    rw [List.flatten_cons, List.map_append, List.nodup_append] at hn
    obtain ⟨n1, n2, n3⟩ := hn
    have ih := repl_with r LL n2
    unfold hasS at ih ⊢
    rw [replS, List.any_cons, hasR_any]
    cases h : hasL r l with
    | true =>
      have hno : LL.any (hasL r) = false := by
        rw [List.any_eq_false]
        intro q hq e
        unfold hasL at e h
        obtain ⟨y, hy, ey⟩ := List.any_eq_true.1 e
        obtain ⟨x, hx, ex⟩ := List.any_eq_true.1 h
        rw [decide_eq_true_iff] at ey ex
        exact n3 x.name (List.mem_map.2 ⟨x, hx, rfl⟩) y.name (List.mem_map.2 ⟨y, List.mem_flatten.2 ⟨q, hq, hy⟩, rfl⟩) (by rw [ex, ey])
      have hw := with_none r LL hno
      simp only [if_true, Bool.true_or]
      unfold withS at hw ⊢
      rw [List.map_cons, hw, put_hit r l n1 h]
    | false =>
      simp only [Bool.false_eq_true, if_false, Bool.false_or]
      rw [ih]
      unfold withS
      rw [List.map_cons, put_none r l h]
      cases LL.any (hasL r) <;> rfl
theorem runE_nil (x : Run) : runE [] x = crE x := by
  rw [runE_ref]
  unfold crE
  cases isNm x.name <;> simp [isIn]
theorem fst_flat (a b c d : Int) : fstN [fstN [a, b, c], d] = fstN [a, b, c, d] := by
  simp only [fstN]
  by_cases h1 : a = 0 <;> by_cases h2 : b = 0 <;> by_cases h3 : c = 0 <;> by_cases h4 : d = 0 <;> simp [h1, h2, h3, h4]
theorem with_len (r : Run) (LL : List (List Run)) : (withS r LL).length = LL.length := by unfold withS; rw [List.length_map]
theorem with_flat (r : Run) (LL : List (List Run)) : (withS r LL).flatten.length = LL.flatten.length := by
  unfold withS
  induction LL with
  | nil => rfl
  | cons l LL ih => rw [List.map_cons, List.flatten_cons, List.flatten_cons, List.length_append, List.length_append, ih, List.length_map]
theorem with_each {r : Run} {LL : List (List Run)} {m : Nat} (h : ∀ l ∈ LL, l.length ≤ m) : ∀ l ∈ withS r LL, l.length ≤ m := by
  intro l hl
  unfold withS at hl
  obtain ⟨q, hq, rfl⟩ := List.mem_map.1 hl
  rw [List.length_map]
  exact h q hq
end Go.Mk
end
section
set_option linter.unusedVariables false
set_option linter.unusedSimpArgs false
open Go Go.Proofs Go.RowKit Go.Sort
set_option maxRecDepth 100000
namespace Go.Mk
set_option maxHeartbeats 2000000 in
theorem r4Has_any (L : List ByteArray) (s : ByteArray) (n cap : Nat) (A : Option Addr) (w : World) (hZ : TextsZ w A n L) (hn : n ≤ 100000) :
    Calls Tryz.prog 49 #[.slice A n cap, .string s] w (RetPost (.bool (isIn L s)) w) := by
  have hn0 : (n : Int) ≤ 100000 := by omega
  have HM := Lib.hid hZ
  have Hlen : Hid (L.length = n) := hZ.1
  obtain ⟨X, hX⟩ : ∃ X, isIn L s = X := ⟨_, rfl⟩
  have HX := Lib.hid hX
  rw [hX]
  clear hZ hX hn
  go_enter Tryz.func49, Tryz.ntmps49
  go_wp2
  go_loopw [5] (fun i wr => ∃ k : Nat, k ≤ n ∧ i = .int .i64 k ∧ Hid (isIn (L.take k) s = false) ∧ Below w.heap.size w wr) (fun i _ => n - (RowKit.intOf i).toNat)
  case atStart => exact ⟨0, by omega, rfl, Lib.hid rfl, Below.refl _ _⟩
  case round =>
    obtain ⟨k, hk, rfl, HK, hb⟩ := hrel
    by_cases hlt : k < n
    · have g1 := HM.out.below hb
      obtain ⟨p1, f1, rfl, _, q1⟩ := g1.2 (by omega)
      have hkl : k < L.length := by rw [g1.1]; exact hlt
      have hLk := List.getElem?_eq_getElem hkl
      have c1' := q1 k L[k] hLk
      obtain ⟨x, hx⟩ : ∃ x, L[k] = x := ⟨_, rfl⟩
      rw [hx] at c1' hLk
      have hki : (k : Int) < (n : Int) := by omega
      have hk0 : (0 : Int) ≤ (k : Int) := by omega
      have hkt : ((k : Int)).toNat = k := by omega
      by_cases g : x = s
      · have hXt : true = X := by rw [← HX.out, ← g]; exact (isIn_at hLk).symm
        subst hXt
        have gb : (x.toList == s.toList) = true := by rw [g]; simp
        clear q1 g1 hx hkl hLk g HK HX
        as_aux_lemma =>
          go_wp2
          go_ret
          exact ⟨rfl, hb⟩
      · have HK2 : Hid (isIn (L.take (k + 1)) s = false) := (show _ = _ by rw [isIn_take hLk, HK.out, decide_eq_false g]; rfl)
        have gb : (x.toList == s.toList) = false := tl_ne g
        clear q1 g1 hx hkl hLk g HK HX
        as_aux_lemma =>
          go_wp2
          go_roundw
          case rel => exact ⟨k + 1, by omega, by go_num, HK2, hb⟩
          case measure => simp [RowKit.intOf]; omega
    · have hz := HK.out
      rw [List.take_of_length_le (by rw [Hlen.out]; omega), HX.out] at hz
      subst hz
      go_wp2
      go_ret
      exact ⟨rfl, hb⟩
end Go.Mk
end
