/-
  Proved: the error of a runner, and of the runners of a heat, beside the names that have been there (package seed), as plain functions. Conditions: the texts are no longer than an int says; the map's block holds just the names that have been there; the heap holds the program's variables.
-/
import Derived.Test.YtkjolejppnogiaaGreatDoorEc
set_option linter.unusedVariables false
set_option linter.unusedSimpArgs false
open Go Go.Proofs Go.RowKit Go.Maps Go.WideMaps
set_option maxRecDepth 100000
namespace Go.Mk
/-- A runner: name, and the mark's kind, value and reason. -/
structure Run where
  name : ByteArray
  kind : ByteArray
  value : Int
  reason : ByteArray
def Run.agg (x : Run) : Value := .agg #[.string x.name, .string x.kind, .int .i64 x.value, .string x.reason]
def Run.ok (x : Run) : Prop := x.name.size ≤ maxLen
/-- The error of a kind that is neither a time nor none. -/
def tkE (k : ByteArray) : Int := if k = sTime ∨ k = sNone then 0 else 13
/-- The error of a runner. -/
def runE (P : List ByteArray) (x : Run) : Int := fstN [twE P x.name, chk x.kind x.value x.reason, tkE x.kind]
theorem timeB (s : ByteArray) : (s.toList == [116, 105, 109, 101]) = decide (s = sTime) := by
  have e : sTime.toList = [116, 105, 109, 101] := by rw [ByteArray.toList_eq]; rfl
  rw [← e]
  by_cases h : s = sTime
  · subst h; simp
  · rw [tl_ne h]; simp [h]
@[reducible] def BoxR (W : World) (B b : Nat) (n k : ByteArray) (v : Int) (r : ByteArray) (w' : World) : Prop :=
  w'.cell? ⟨b, 0, none⟩ = some (.string n) ∧ w'.cell? ⟨b, 1, none⟩ = some (.string k) ∧ w'.cell? ⟨b, 2, none⟩ = some (.int .i64 v) ∧ w'.cell? ⟨b, 3, none⟩ = some (.string r) ∧ b < w'.heap.size ∧ B ≠ b ∧ W.grownBy w' (some B)
theorem BoxR.grown {W a c : World} {B b : Nat} {n k : ByteArray} {v : Int} {r : ByteArray} (h : BoxR W B b n k v r a) (hg : a.grownBy c (some B)) : BoxR W B b n k v r c := by
  obtain ⟨h0, h1, h2, h3, h5, h6, h7⟩ := h
  have q : some b ≠ some B := fun q => h6 (Option.some.inj q).symm
  exact ⟨(gcell hg h5 q).trans h0, (gcell hg h5 q).trans h1, (gcell hg h5 q).trans h2, (gcell hg h5 q).trans h3, Nat.lt_of_lt_of_le h5 hg.size, h6, h7.trans hg⟩
theorem BoxR.below {W a c : World} {B b : Nat} {n k : ByteArray} {v : Int} {r : ByteArray} (h : BoxR W B b n k v r a) (hb : Below a.heap.size a c) : BoxR W B b n k v r c := h.grown (grown_below hb _)
theorem BoxR.start (w : World) (B : Nat) (hB : B < w.heap.size) (n k : ByteArray) (v : Int) (r : ByteArray) (t : TypeId) :
    BoxR w B w.heap.size n k v r (w.alloc (.cells #[.string n, .string k, .int .i64 v, .string r] t)).drew := by
  refine ⟨?_, ?_, ?_, ?_, ?_, ?_, grown_below ((Below.refl _ _).alloc (Nat.le_refl _) _).drew _⟩
  all_goals first | (simp; done) | omega
def RunPost (B n : Nat) (P : List ByteArray) (x : Run) (w : World) (e : Ending) (w' : World) : Prop :=
  e = .returned (.int .i64 (runE P x)) ∧ Named w' B (n + 1) (P ++ [x.name]) ∧ w.grownBy w' (some B)
set_option maxHeartbeats 8000000 in
theorem runnerError_any (B n : Nat) (P : List ByteArray) (x : Run) (w : World) (hz : x.ok) (hM : Named w B n P) (hn : n ≤ 1000000) (hg : 13 ≤ w.heap.size) :
    Calls Tryz.prog 86 #[.map (some B), x.agg] w (RunPost B n P x w) := by
  obtain ⟨nm, k, v, r⟩ := x
  have hz1 : nm.size ≤ maxLen := hz
  unfold RunPost Run.agg runE
  simp only at *
  have hlt := hM.lt
  have HM0 : Hid (∀ w', Below w.heap.size w w' → Named w' B n P) := fun w' hb => hM.kept (hb.block B hlt)
  have hA := fun w' hN => namesNameError_any B n P nm w' hz1 hN hn
  have hK := fun w hg => CheckMark_any k r v w hg
  have HA : Hid (∀ w', Named w' B n P → Calls Tryz.prog 102 #[.map (some B), .string nm] w' (NamePost B n P nm w')) := hA
  have HS := fun t => BoxR.start w B hlt nm k v r t
  obtain ⟨y, hy⟩ : ∃ y, fstN [twE P nm, chk k v r, tkE k] = y := ⟨_, rfl⟩
  rw [hy]
  unfold NamePost at HA
  generalize twE P nm = e1 at *
  generalize chk k v r = e2 at *
  have hF := fun g w => seedFirst_any [e1, e2, tkE k] 3 rfl (by decide) g w
  rw [hy] at hF
  have HS' := Lib.hid HS
  clear hy hM hz hz1 hA HS
  by_cases g1 : k = sTime
  · have k1 : (k.toList == [116, 105, 109, 101]) = true := by rw [timeB]; simp [g1]
    have k2 : (k.toList == [110, 111, 110, 101]) = false := by rw [noneB]; simp [g1, sTN]
    have hW := fun w => seedWhen_any false 13 w
    rw [show tkE k = 0 by unfold tkE; rw [if_pos (.inl g1)]] at hF
    clear g1
    as_aux_lemma =>
      go_enter Tryz.func86, Tryz.ntmps86
      go_wp2_with fail
      refine wp_region_held_drew (S := BoxR w B w.heap.size nm k v r) (by kernel_rfl) ?_ (fun hHeld => ?_)
      · try dsimp only
        (first | (exact HS'.out _) | (assumption) | (exact BoxR.grown (by assumption) hg1) | (exact BoxR.below (by assumption) hb3) | (refine BoxR.below (by assumption) ?_; exact (Below.refl _ _).alloc (Nat.le_refl _) _))
      refine wpAnyH_take (i := 0) (oi := _) (v := ?_) rfl (by kernel_rfl) (by kernel_rfl) (by kernel_rfl) (fun _ _ _ h => h) (Or.inl ⟨by rfl, ?_⟩) (by assumption) ?_
      rotate_left
      · intro w hSw
        try dsimp only at hSw
        go_simp
        try with_reducible rfl
      try simp only [Act.put, List.setIfInBounds_toArray, List.set_cons_zero, List.set_cons_succ]
      refine wpAnyH_take (i := 1) (oi := _) (v := ?_) rfl (by kernel_rfl) (by kernel_rfl) (by kernel_rfl) (fun _ _ _ h => h) (Or.inl ⟨by rfl, ?_⟩) (by assumption) ?_
      rotate_left
      · intro w hSw
        try dsimp only at hSw
        go_simp
        try with_reducible rfl
      try simp only [Act.put, List.setIfInBounds_toArray, List.set_cons_zero, List.set_cons_succ]
      refine wpAnyH_take (i := 2) (oi := _) (v := ?_) rfl (by kernel_rfl) (by kernel_rfl) (by kernel_rfl) (fun _ _ _ h => h) (Or.inl ⟨by rfl, ?_⟩) (by assumption) ?_
      rotate_left
      · intro w hSw
        try dsimp only at hSw
        go_simp
        try with_reducible rfl
      try simp only [Act.put, List.setIfInBounds_toArray, List.set_cons_zero, List.set_cons_succ]
      refine wpAnyH_take (i := 4) (oi := _) (v := ?_) rfl (by kernel_rfl) (by kernel_rfl) (by kernel_rfl) (fun _ _ _ h => h) (Or.inl ⟨by rfl, ?_⟩) (by assumption) ?_
      rotate_left
      · intro w hSw
        try dsimp only at hSw
        go_simp
        try with_reducible rfl
      try simp only [Act.put, List.setIfInBounds_toArray, List.set_cons_zero, List.set_cons_succ]
      refine wpAnyH_take (i := 5) (oi := _) (v := ?_) rfl (by kernel_rfl) (by kernel_rfl) (by kernel_rfl) (fun _ _ _ h => h) (Or.inl ⟨by rfl, ?_⟩) (by assumption) ?_
      rotate_left
      · intro w hSw
        try dsimp only at hSw
        go_simp
        try with_reducible rfl
      try simp only [Act.put, List.setIfInBounds_toArray, List.set_cons_zero, List.set_cons_succ]
      refine wpAnyH_take (i := 7) (oi := _) (v := ?_) rfl (by kernel_rfl) (by kernel_rfl) (by kernel_rfl) (fun _ _ _ h => h) (Or.inl ⟨by rfl, ?_⟩) (by assumption) ?_
      rotate_left
      · intro w hSw
        try dsimp only at hSw
        go_simp
        try with_reducible rfl
      try simp only [Act.put, List.setIfInBounds_toArray, List.set_cons_zero, List.set_cons_succ]
      refine wpAnyH_take (i := 8) (oi := _) (v := ?_) rfl (by kernel_rfl) (by kernel_rfl) (by kernel_rfl) (fun _ _ _ h => h) (Or.inl ⟨by rfl, ?_⟩) (by assumption) ?_
      rotate_left
      · intro w hSw
        try dsimp only at hSw
        go_simp
        try with_reducible rfl
      try simp only [Act.put, List.setIfInBounds_toArray, List.set_cons_zero, List.set_cons_succ]
      refine wpAnyH_take (i := 9) (oi := _) (v := ?_) rfl (by kernel_rfl) (by kernel_rfl) (by kernel_rfl) (fun _ _ _ h => h) (Or.inl ⟨by rfl, ?_⟩) (by assumption) ?_
      rotate_left
      · intro w hSw
        try dsimp only at hSw
        go_simp
        try with_reducible rfl
      try simp only [Act.put, List.setIfInBounds_toArray, List.set_cons_zero, List.set_cons_succ]
      refine wpAnyH_take (i := 10) (oi := _) (v := ?_) rfl (by kernel_rfl) (by kernel_rfl) (by kernel_rfl) (fun _ _ _ h => h) (Or.inl ⟨by rfl, ?_⟩) (by assumption) ?_
      rotate_left
      · intro w hSw
        try dsimp only at hSw
        go_simp
        try with_reducible rfl
      try simp only [Act.put, List.setIfInBounds_toArray, List.set_cons_zero, List.set_cons_succ]
      refine wpAnyH_ready (rs := [3]) (by kernel_rfl) (by simp) ?_
      refine AllReadyH.cons (o := _) rfl (fun K hKK => ?_) AllReadyH.nil
      go_simp
      (go_at_call 102; (with_reducible refine (HA.out _ (HM0.out _ ((Below.refl _ _).alloc (Nat.le_refl _) _).drew)).mono ?_); rintro e w1 ⟨rfl, hN1, hg1⟩)
      go_wp2_with fail
      refine hKK.out _ _ ?_ (fun hHeld => ?_)
      · try dsimp only
        (first | (exact HS'.out _) | (assumption) | (exact BoxR.grown (by assumption) hg1) | (exact BoxR.below (by assumption) hb3) | (refine BoxR.below (by assumption) ?_; exact (Below.refl _ _).alloc (Nat.le_refl _) _))
      clear hKK K
      try simp only [Act.put, List.setIfInBounds_toArray, List.set_cons_zero, List.set_cons_succ]
      refine wpAnyH_ready (rs := [6]) (by kernel_rfl) (by simp) ?_
      refine AllReadyH.cons (o := _) rfl (fun K hKK => ?_) AllReadyH.nil
      go_simp
      (go_at_call 104; (with_reducible refine (hK _ ?_).mono ?_); (have := hg1.size; simp at *; omega); rintro e w3 ⟨rfl, hb3⟩)
      go_wp2_with fail
      refine hKK.out _ _ ?_ (fun hHeld => ?_)
      · try dsimp only
        (first | (exact HS'.out _) | (assumption) | (exact BoxR.grown (by assumption) hg1) | (exact BoxR.below (by assumption) hb3) | (refine BoxR.below (by assumption) ?_; exact (Below.refl _ _).alloc (Nat.le_refl _) _))
      clear hKK K
      try simp only [Act.put, List.setIfInBounds_toArray, List.set_cons_zero, List.set_cons_succ]
      refine wpAnyH_take (i := 11) (oi := _) (v := ?_) rfl (by kernel_rfl) (by kernel_rfl) (by kernel_rfl) (fun _ _ _ h => h) (Or.inl ⟨by rfl, ?_⟩) (by assumption) ?_
      rotate_left
      · intro w hSw
        try dsimp only at hSw
        go_simp
        try with_reducible rfl
      try simp only [Act.put, List.setIfInBounds_toArray, List.set_cons_zero, List.set_cons_succ]
      refine wpAnyH_take (i := 12) (oi := _) (v := undef) rfl (by kernel_rfl) (by kernel_rfl) (by kernel_rfl) (fun _ _ _ h => h) (Or.inr ⟨by rfl, rfl⟩) (by assumption) ?_
      try simp only [Act.put, List.setIfInBounds_toArray, List.set_cons_zero, List.set_cons_succ]
      refine wpAnyH_take (i := 13) (oi := _) (v := undef) rfl (by kernel_rfl) (by kernel_rfl) (by kernel_rfl) (fun _ _ _ h => h) (Or.inr ⟨by rfl, rfl⟩) (by assumption) ?_
      try simp only [Act.put, List.setIfInBounds_toArray, List.set_cons_zero, List.set_cons_succ]
      refine wpAnyH_take (i := 14) (oi := _) (v := undef) rfl (by kernel_rfl) (by kernel_rfl) (by kernel_rfl) (fun _ _ _ h => h) (Or.inr ⟨by rfl, rfl⟩) (by assumption) ?_
      try simp only [Act.put, List.setIfInBounds_toArray, List.set_cons_zero, List.set_cons_succ]
      refine wpAnyH_take (i := 15) (oi := _) (v := undef) rfl (by kernel_rfl) (by kernel_rfl) (by kernel_rfl) (fun _ _ _ h => h) (Or.inr ⟨by rfl, rfl⟩) (by assumption) ?_
      try simp only [Act.put, List.setIfInBounds_toArray, List.set_cons_zero, List.set_cons_succ]
      refine wpAnyH_take (i := 16) (oi := _) (v := ?_) rfl (by kernel_rfl) (by kernel_rfl) (by kernel_rfl) (fun _ _ _ h => h) (Or.inl ⟨by rfl, ?_⟩) (by assumption) ?_
      rotate_left
      · intro w hSw
        try dsimp only at hSw
        go_simp
        try with_reducible rfl
      try simp only [Act.put, List.setIfInBounds_toArray, List.set_cons_zero, List.set_cons_succ]
      refine wpAnyH_ready (rs := [17]) (by kernel_rfl) (by simp) ?_
      refine AllReadyH.cons (o := _) rfl (fun K hKK => ?_) AllReadyH.nil
      go_simp
      (go_at_call 77; (with_reducible refine (hW _).mono ?_); rintro e w' ⟨rfl, rfl⟩)
      go_wp2_with fail
      refine hKK.out _ _ ?_ (fun hHeld => ?_)
      · try dsimp only
        (first | (exact HS'.out _) | (assumption) | (exact BoxR.grown (by assumption) hg1) | (exact BoxR.below (by assumption) hb3) | (refine BoxR.below (by assumption) ?_; exact (Below.refl _ _).alloc (Nat.le_refl _) _))
      clear hKK K
      try simp only [Act.put, List.setIfInBounds_toArray, List.set_cons_zero, List.set_cons_succ]
      refine wpAnyH_ready (rs := [18]) (by kernel_rfl) (by simp) ?_
      refine AllReadyH.cons (o := _) rfl (fun K hKK => ?_) AllReadyH.nil
      go_simp
      refine hKK.out _ _ ?_ (fun hHeld => ?_)
      · try dsimp only
        (first | (exact HS'.out _) | (assumption) | (exact BoxR.grown (by assumption) hg1) | (exact BoxR.below (by assumption) hb3) | (refine BoxR.below (by assumption) ?_; exact (Below.refl _ _).alloc (Nat.le_refl _) _))
      clear hKK K
      try simp only [Act.put, List.setIfInBounds_toArray, List.set_cons_zero, List.set_cons_succ]
      refine wpAnyH_ready (rs := [19]) (by kernel_rfl) (by simp) ?_
      refine AllReadyH.cons (o := _) rfl (fun K hKK => ?_) AllReadyH.nil
      go_simp
      (go_at_call 62; (refine (hF _ _ ?_).mono ?_); (exact es3 _ _ _ _ _); rintro e w' ⟨rfl, rfl⟩)
      go_wp2_with fail
      refine hKK.out _ _ ?_ (fun hHeld => ?_)
      · try dsimp only
        (first | (exact HS'.out _) | (assumption) | (exact BoxR.grown (by assumption) hg1) | (exact BoxR.below (by assumption) hb3) | (refine BoxR.below (by assumption) ?_; exact (Below.refl _ _).alloc (Nat.le_refl _) _))
      clear hKK K
      try simp only [Act.put, List.setIfInBounds_toArray, List.set_cons_zero, List.set_cons_succ]
      refine wpAnyH_ready (rs := [20]) (by kernel_rfl) (by simp) ?_
      refine AllReadyH.cons (o := _) rfl (fun K hKK => ?_) AllReadyH.nil
      go_simp
      refine hKK.out _ _ ?_ (fun hHeld => ?_)
      · try dsimp only
        (first | (exact HS'.out _) | (assumption) | (exact BoxR.grown (by assumption) hg1) | (exact BoxR.below (by assumption) hb3) | (refine BoxR.below (by assumption) ?_; exact (Below.refl _ _).alloc (Nat.le_refl _) _))
      clear hKK K
      try simp only [Act.put, List.setIfInBounds_toArray, List.set_cons_zero, List.set_cons_succ]
      refine wpAnyH_done (by kernel_rfl) ?_ _
      all_goals
        rename_i hH
        have hN2 := hN1.below hb3
        have hN4 := hN2.below (balloc (.cells #[.int .i64 e1, .int .i64 e2, .int .i64 0] 28) (Below.refl _ _))
        go_wp2
        go_ret
        exact ⟨rfl, hN4, hH.2.2.2.2.2.2⟩
  · have k1 : (k.toList == [116, 105, 109, 101]) = false := by rw [timeB]; simp [g1]
    by_cases g2 : k = sNone
    · have k2 : (k.toList == [110, 111, 110, 101]) = true := by rw [noneB]; simp [g2]
      have hW := fun w => seedWhen_any false 13 w
      rw [show tkE k = 0 by unfold tkE; rw [if_pos (.inr g2)]] at hF
      clear g1 g2
      as_aux_lemma =>
        go_enter Tryz.func86, Tryz.ntmps86
        go_wp2_with fail
        go_region_held3 (BoxR w B w.heap.size nm k v r) ((first | (exact HS'.out _) | (assumption) | (exact BoxR.grown (by assumption) hg1) | (exact BoxR.below (by assumption) hb3) | (refine BoxR.below (by assumption) ?_; exact (Below.refl _ _).alloc (Nat.le_refl _) _))) ((first | (go_at_call 102; (with_reducible refine (HA.out _ (HM0.out _ ((Below.refl _ _).alloc (Nat.le_refl _) _).drew)).mono ?_); rintro e w1 ⟨rfl, hN1, hg1⟩) | (go_at_call 104; (with_reducible refine (hK _ ?_).mono ?_); (have := hg1.size; simp at *; omega); rintro e w3 ⟨rfl, hb3⟩) | (go_at_call 77; (with_reducible refine (hW _).mono ?_); rintro e w' ⟨rfl, rfl⟩) | (go_at_call 62; (refine (hF _ _ ?_).mono ?_); (exact es3 _ _ _ _ _); rintro e w' ⟨rfl, rfl⟩)))
        all_goals
          rename_i hH
          have hN2 := hN1.below hb3
          have hN4 := hN2.below (balloc (.cells #[.int .i64 e1, .int .i64 e2, .int .i64 0] 28) (Below.refl _ _))
          go_wp2
          go_ret
          exact ⟨rfl, hN4, hH.2.2.2.2.2.2⟩
    · have k2 : (k.toList == [110, 111, 110, 101]) = false := by rw [noneB]; simp [g2]
      have hW := fun w => seedWhen_any true 13 w
      rw [show tkE k = 13 by unfold tkE; rw [if_neg (fun q => q.elim g1 g2)]] at hF
      clear g1 g2
      as_aux_lemma =>
        go_enter Tryz.func86, Tryz.ntmps86
        go_wp2_with fail
        go_region_held3 (BoxR w B w.heap.size nm k v r) ((first | (exact HS'.out _) | (assumption) | (exact BoxR.grown (by assumption) hg1) | (exact BoxR.below (by assumption) hb3) | (refine BoxR.below (by assumption) ?_; exact (Below.refl _ _).alloc (Nat.le_refl _) _))) ((first | (go_at_call 102; (with_reducible refine (HA.out _ (HM0.out _ ((Below.refl _ _).alloc (Nat.le_refl _) _).drew)).mono ?_); rintro e w1 ⟨rfl, hN1, hg1⟩) | (go_at_call 104; (with_reducible refine (hK _ ?_).mono ?_); (have := hg1.size; simp at *; omega); rintro e w3 ⟨rfl, hb3⟩) | (go_at_call 77; (with_reducible refine (hW _).mono ?_); rintro e w' ⟨rfl, rfl⟩) | (go_at_call 62; (refine (hF _ _ ?_).mono ?_); (exact es3 _ _ _ _ _); rintro e w' ⟨rfl, rfl⟩)))
        all_goals
          rename_i hH
          have hN2 := hN1.below hb3
          have hN4 := hN2.below (balloc (.cells #[.int .i64 e1, .int .i64 e2, .int .i64 13] 28) (Below.refl _ _))
          go_wp2
          go_ret
          exact ⟨rfl, hN4, hH.2.2.2.2.2.2⟩
end Go.Mk
