/-
  Proved: what a decoded character says of the bytes it is read from; strings.IndexRune of a character that is no ASCII one finds nothing in a short ASCII text; strings.ContainsAny says whether a text has a blank, a colon or a bar. Conditions: the text has at most 5,000 bytes.
-/
import Derived.Test.YthpcmhcokblglaaGreatDoorFcf
import Derived.Laws.RangeAny
import Derived.WalkMore
import Derived.Shelf.Strings.IndexAnyAll
import Derived.Shelf.Small.Utf8
set_option linter.unusedVariables false
set_option linter.unusedSimpArgs false
open Go Go.Proofs Go.RowKit Go.Shelf
set_option maxRecDepth 100000
namespace Go.Mk
theorem get_in (s : ByteArray) (k : Nat) (h : k < s.size) : s.get! k = s[k] := by
  show s.data[k]! = _
  rw [getElem!_pos s.data k h]
  rfl
/-- All bytes of a character that begins with no ASCII byte are no ASCII bytes. -/
theorem decode_span (s : ByteArray) (k : Nat) (hk : k < s.size) (h : 128 ≤ s[k].toNat) : k + (Utf8.decode s k).2 ≤ s.size ∧ ∀ j (hj : j < s.size), k ≤ j → j < k + (Utf8.decode s k).2 → 128 ≤ (s[j]'hj).toNat := by
  have h0 : (s.get! (k + 0)).toNat = s[k].toNat := by rw [Nat.add_zero, get_in s k hk]
  have hc : ∀ m, (decide (k + m < s.size) && (s.get! (k + m)).toNat / 64 == 2) = true → ∃ hm : k + m < s.size, 128 ≤ (s[k + m]'hm).toNat := fun m hm => by
    rw [Bool.and_eq_true, decide_eq_true_eq, beq_iff_eq] at hm
    refine ⟨hm.1, ?_⟩
    have := hm.2
    rw [get_in s _ hm.1] at this
    omega
  have one : ∀ c : Nat, (k + ((c, 1) : Nat × Nat).2 ≤ s.size ∧ ∀ j (hj : j < s.size), k ≤ j → j < k + ((c, 1) : Nat × Nat).2 → 128 ≤ (s[j]'hj).toNat) := fun c => by
    refine ⟨hk, fun j hj h1 h2 => ?_⟩
    obtain rfl : j = k := by have : j < k + 1 := h2; omega
    exact h
  unfold Utf8.decode
  simp only [h0]
  rw [if_neg (by omega)]
  split
  · rename_i g
    rw [Bool.and_eq_true] at g
    obtain ⟨m1, g1⟩ := hc 1 g.2
    split
    · refine ⟨m1, fun j hj h1 h2 => ?_⟩
      have h2' : j < k + 2 := h2
      rcases (by omega : j = k ∨ j = k + 1) with rfl | rfl
      · exact h
      · exact g1
    · exact one _
  · split
    · rename_i g
      rw [Bool.and_eq_true, Bool.and_eq_true] at g
      obtain ⟨m1, g1⟩ := hc 1 g.1.2
      obtain ⟨m2, g2⟩ := hc 2 g.2
      split
      · refine ⟨m2, fun j hj h1 h2 => ?_⟩
        have h2' : j < k + 3 := h2
        rcases (by omega : j = k ∨ j = k + 1 ∨ j = k + 2) with rfl | rfl | rfl
        · exact h
        · exact g1
        · exact g2
      · exact one _
    · split
      · rename_i g
        rw [Bool.and_eq_true, Bool.and_eq_true, Bool.and_eq_true] at g
        obtain ⟨m1, g1⟩ := hc 1 g.1.1.2
        obtain ⟨m2, g2⟩ := hc 2 g.1.2
        obtain ⟨m3, g3⟩ := hc 3 g.2
        split
        · refine ⟨m3, fun j hj h1 h2 => ?_⟩
          have h2' : j < k + 4 := h2
          rcases (by omega : j = k ∨ j = k + 1 ∨ j = k + 2 ∨ j = k + 3) with rfl | rfl | rfl | rfl
          · exact h
          · exact g1
          · exact g2
          · exact g3
        · exact one _
      · exact one _
theorem decode_valid (s : ByteArray) (k : Nat) (hk : k < s.size) (h : 128 ≤ s[k].toNat) : Utf8.valid ((Utf8.decode s k).1 : Int) = true := by
  have h0 : (s.get! (k + 0)).toNat = s[k].toNat := by rw [Nat.add_zero, get_in s k hk]
  unfold Utf8.decode
  simp only [h0]
  rw [if_neg (by omega)]
  split
  · split
    · rename_i g1 g2
      have a1 : s[k].toNat % 32 < 32 := Nat.mod_lt _ (by decide)
      have a2 : (s.get! (k + 1)).toNat % 64 < 64 := Nat.mod_lt _ (by decide)
      unfold Utf8.valid
      simp only [Bool.or_eq_true, Bool.and_eq_true, decide_eq_true_eq]
      left
      constructor
      · omega
      · show ((s[k].toNat % 32 * 64 + (s.get! (k + 1)).toNat % 64 : Nat) : Int) < 55296
        omega
    · decide
  · split
    · split
      · rename_i g1 g2
        rw [Bool.and_eq_true] at g2
        exact g2.2
      · decide
    · split
      · split
        · rename_i g1 g2
          rw [Bool.and_eq_true] at g2
          exact g2.2
        · decide
      · decide
def sSeps : ByteArray := ⟨#[32, 58, 124]⟩
set_option maxHeartbeats 8000000 in
theorem stIndexRune_high (r : Int) (h1 : 128 ≤ r) (h2 : r ≤ 2147483647) (hv : Utf8.valid r = true) (w : World) :
    Calls Tryz.prog 290 #[.string ⟨#[32, 58, 124]⟩, .int .i32 r] w (RetPost (.int .i64 (-1)) w) := by
  have hbel : ∀ k, Below w.heap.size w (w.iter sSeps k) := fun k => (Below.refl _ _).alloc (Nat.le_refl _) _
  have HB := Lib.hid hbel
  have a1 : ¬ r < 128 := by omega
  have a0 : 0 ≤ r := by omega
  by_cases hr : r = 65533
  · subst hr
    have hsz : sSeps.size = 3 := rfl
    show Calls Tryz.prog 290 #[.string sSeps, .int .i32 65533] w (RetPost (.int .i64 (-1)) w)
    clear hbel
    go_enter Tryz.func290, Tryz.ntmps290
    go_wp2_with fail
    go_loopw [] (fun wr => ∃ k, wr = w.iter sSeps k ∧ k ≤ 3) (fun wr => 3 - wr.iterPos w.heap.size)
    case atStart => exact ⟨0, rfl, by omega⟩
    case round =>
      obtain ⟨k, rfl, hk⟩ := hrel
      by_cases hlt : k < 3
      · have hks : k < sSeps.size := hlt
        have hb : (sSeps[k]'hks).toNat < 128 := by
          rcases (by omega : k = 0 ∨ k = 1 ∨ k = 2) with rfl | rfl | rfl
          · exact (by decide : (32 : UInt8).toNat < 128)
          · exact (by decide : (58 : UInt8).toNat < 128)
          · exact (by decide : (124 : UInt8).toNat < 128)
        have hnx := fun ty => run_next_ascii (P := Tryz.prog) w sSeps k ty hks hb
        have hne : (((sSeps[k]'hks).toNat : Int) == 65533) = false := by rw [beq_eq_false_iff_ne]; omega
        generalize (((sSeps[k]'hks).toNat : Nat) : Int) = c at *
        go_wp2_with fail
        go_roundw
        case rel => exact ⟨k + 1, rfl, by omega⟩
        case measure => (simp; omega)
      · have hnx := fun ty => run_next_end (P := Tryz.prog) w sSeps k ty (by rw [hsz]; exact hlt)
        go_wp2_with fail
        go_ret
        exact ⟨rfl, HB.out _⟩
  · have hrb : (r == 65533) = false := beq_eq_false_iff_ne.2 hr
    obtain ⟨z1, z2, z3⟩ := encode_facts r hv h1
    have hV : ∀ w, Calls Tryz.prog 345 #[.int .i32 r] w fun e w' => e = .returned (.bool true) ∧ w' = w := fun w => by
      refine (Any.utf8_ValidRune Tryz.validRune r w).mono ?_
      rintro e w' ⟨rfl, rfl⟩
      refine ⟨?_, rfl⟩
      rw [show Lib.validRune r = true from by rw [validRune_eq] at hv; exact hv]
    obtain ⟨S, hS⟩ : ∃ S : ByteArray, (⟨#[32, 58, 124]⟩ : ByteArray) = S := ⟨_, rfl⟩
    have hSz : S.size = 3 := by rw [← hS]; rfl
    have hSa : ∀ b ∈ S.data.toList, b.toNat < 128 := by rw [← hS]; decide
    have hSi : ∀ (j : Nat) (h : j < S.size), (S[j]'h).toNat < 128 := fun j h => hSa _ (Array.getElem_mem_toList (xs := S.data) h)
    rw [hS]
    obtain ⟨E, hE⟩ : ∃ E, Utf8.encode r = E := ⟨_, rfl⟩
    rw [hE] at z1 z2 z3
    obtain ⟨m, hm⟩ : ∃ m, E.size = m + 1 := ⟨E.size - 1, by omega⟩
    have z3' : ∀ h : m < E.size, 128 ≤ (E[m]'h).toNat := by
      intro h
      have := z3 (by omega)
      simpa [hm] using this
    obtain ⟨c, hc⟩ : ∃ c : UInt8, E[m]'(by omega) = c := ⟨_, rfl⟩
    have hcb : 128 ≤ c.toNat := by rw [← hc]; exact z3' _
    have hcE : ∀ h : m < E.size, E[m]'h = c := fun h => hc
    have hI : ∀ (a : Nat) w, Calls Tryz.prog 344 #[.string (S.extract a 3), .int .u8 c.toNat] w fun e w' => ∃ o : Int, e = .returned (.int .i64 o) ∧ o < 0 ∧ w' = w := fun a w => by
      refine (Any.strings_IndexByte Tryz.indexByte (S.extract a 3) (c.toNat : Int) w).mono ?_
      rintro e w' ⟨rfl, rfl⟩
      refine ⟨_, rfl, ?_, rfl⟩
      rw [show ((c.toNat : Int)).toNat.toUInt8 = c from by simp]
      have h := Lib.contains_iff_indexByte (S.extract a 3).data.toList c
      have hn : (S.extract a 3).data.toList.contains c = false := by
        rw [Bool.eq_false_iff]
        intro q
        have := hSa c (mem_extract (List.contains_iff_mem.1 q))
        omega
      rw [hn] at h
      have := of_decide_eq_false h.symm
      omega
    have hI' := Lib.hid hI
    have hm1 : 1 ≤ m := by omega
    have hm3 : m ≤ 3 := by omega
    have hEi : (E.size : Int) - 1 = (m : Int) := by omega
    have hwm : IntKind.i64.wrap (m : Int) = (m : Int) := IntWalk.i64_in _ (by omega)
    have HSI := Lib.hid hSi
    have hSzi : (S.size : Int) = 3 := by omega
    have hm0 : (0 : Int) ≤ (m : Int) := by omega
    have hmt : ((m : Int)).toNat = m := by omega
    have hmE : (m : Int) < (E.size : Int) := by omega
    clear hI hSa hSi hS z1 z2 z3 z3' hc hv hbel HB hr h2
    go_enter Tryz.func290, Tryz.ntmps290
    go_wp2_with fail
    refine (hV _).mono ?_
    rintro e wv ⟨rfl, hw⟩
    obtain rfl : w = wv := hw.symm
    go_wp2_with fail
    go_step3
    go_wp2_with fail
    go_loopw [9, 10] (fun i f wr => i = .int .i64 m ∧ f = .int .i64 0 ∧ wr = w) (fun _ _ _ => 0)
    case atStart => exact ⟨rfl, rfl, rfl⟩
    case round =>
      obtain ⟨rfl, rfl, rfl⟩ := hrel
      by_cases hlt : m < 3
      · have hki : (m : Int) < (S.size : Int) := by omega
        have hms : m < S.size := by omega
        have hSm := HSI.out m hms
        have hcE2 := hcE (by omega)
        have hne : (((S[m]'hms).toNat : Int) != (c.toNat : Int)) = true := by rw [bne_iff_ne]; omega
        have hm13 : (m : Int) + 1 ≤ (S.size : Int) := by omega
        have hm10 : (0 : Int) ≤ (m : Int) + 1 := by omega
        have hm1t : ((m : Int) + 1).toNat = m + 1 := by omega
        have hwm1 : IntKind.i64.wrap ((m : Int) + 1) = (m : Int) + 1 := IntWalk.i64_in _ (by omega)
        have hm33 : (m : Int) + 1 ≤ 3 := by omega
        have hmmm : (m : Int) < (m : Int) + 1 := by omega
        go_wp2_with fail
        go_step3
        go_wp2_with fail
        go_region
        go_wp2_with fail
        refine wp_region_held_drew (S := (fun w' => Below wr.heap.size wr w')) (by kernel_rfl) ?_ (fun hHeld => ?_)
        · exact ((Below.refl _ _).drew).drew
        refine wpAnyH_take (i := 0) (oi := _) (v := ?_) rfl (by kernel_rfl) (by kernel_rfl) (by kernel_rfl) (fun _ _ _ h => h) (Or.inl ⟨by kernel_rfl, ?_⟩) (by assumption) ?_
        rotate_left
        · rintro w hw
          go_simp
          try with_reducible rfl
        try simp only [Act.put, List.setIfInBounds_toArray, List.set_cons_zero, List.set_cons_succ, List.getElem_toArray, List.getElem_cons_zero, List.getElem_cons_succ]
        refine wpAnyH_take (i := 1) (oi := _) (v := ?_) rfl (by kernel_rfl) (by kernel_rfl) (by kernel_rfl) (fun _ _ _ h => h) (Or.inl ⟨by kernel_rfl, ?_⟩) (by assumption) ?_
        rotate_left
        · rintro w hw
          go_simp
          try with_reducible rfl
        try simp only [Act.put, List.setIfInBounds_toArray, List.set_cons_zero, List.set_cons_succ, List.getElem_toArray, List.getElem_cons_zero, List.getElem_cons_succ]
        refine wpAnyH_take (i := 2) (oi := _) (v := ?_) rfl (by kernel_rfl) (by kernel_rfl) (by kernel_rfl) (fun _ _ _ h => h) (Or.inl ⟨by kernel_rfl, ?_⟩) (by assumption) ?_
        rotate_left
        · rintro w hw
          go_simp
          try with_reducible rfl
        try simp only [Act.put, List.setIfInBounds_toArray, List.set_cons_zero, List.set_cons_succ, List.getElem_toArray, List.getElem_cons_zero, List.getElem_cons_succ]
        refine wpAnyH_take (i := 3) (oi := _) (v := ?_) rfl (by kernel_rfl) (by kernel_rfl) (by kernel_rfl) (fun _ _ _ h => h) (Or.inl ⟨by kernel_rfl, ?_⟩) (by assumption) ?_
        rotate_left
        · rintro w hw
          go_simp
          try with_reducible rfl
        try simp only [Act.put, List.setIfInBounds_toArray, List.set_cons_zero, List.set_cons_succ, List.getElem_toArray, List.getElem_cons_zero, List.getElem_cons_succ]
        refine wpAnyH_take (i := 4) (oi := _) (v := ?_) rfl (by kernel_rfl) (by kernel_rfl) (by kernel_rfl) (fun _ _ _ h => h) (Or.inl ⟨by kernel_rfl, ?_⟩) (by assumption) ?_
        rotate_left
        · rintro w hw
          go_simp
          try with_reducible rfl
        try simp only [Act.put, List.setIfInBounds_toArray, List.set_cons_zero, List.set_cons_succ, List.getElem_toArray, List.getElem_cons_zero, List.getElem_cons_succ]
        refine wpAnyH_take (i := 5) (oi := _) (v := ?_) rfl (by kernel_rfl) (by kernel_rfl) (by kernel_rfl) (fun _ _ _ h => h) (Or.inl ⟨by kernel_rfl, ?_⟩) (by assumption) ?_
        rotate_left
        · rintro w hw
          go_simp
          try with_reducible rfl
        try simp only [Act.put, List.setIfInBounds_toArray, List.set_cons_zero, List.set_cons_succ, List.getElem_toArray, List.getElem_cons_zero, List.getElem_cons_succ]
        refine wpAnyH_take (i := 6) (oi := _) (v := ?_) rfl (by kernel_rfl) (by kernel_rfl) (by kernel_rfl) (fun _ _ _ h => h) (Or.inl ⟨by kernel_rfl, ?_⟩) (by assumption) ?_
        rotate_left
        · rintro w hw
          go_simp
          try with_reducible rfl
        try simp only [Act.put, List.setIfInBounds_toArray, List.set_cons_zero, List.set_cons_succ, List.getElem_toArray, List.getElem_cons_zero, List.getElem_cons_succ]
        refine wpAnyH_ready (rs := [7]) (by kernel_rfl) (by simp) ?_
        refine AllReadyH.cons (o := _) rfl (fun K hKK => ?_) AllReadyH.nil
        go_simp
        go_at_call 344
        with_reducible refine (hI'.out _ _).mono ?_
        rintro e' w' ⟨o, rfl, ho, rfl⟩
        go_wp2_with fail
        refine hKK.out _ _ ?_ (fun hHeld => ?_)
        · exact hHeld
        clear hKK K
        try simp only [Act.put, List.setIfInBounds_toArray, List.set_cons_zero, List.set_cons_succ, List.getElem_toArray, List.getElem_cons_zero, List.getElem_cons_succ]
        refine wpAnyH_take (i := 8) (oi := _) (v := ?_) rfl (by kernel_rfl) (by kernel_rfl) (by kernel_rfl) (fun _ _ _ h => h) (Or.inl ⟨by kernel_rfl, ?_⟩) (by assumption) ?_
        rotate_left
        · rintro w hw
          go_simp
          try with_reducible rfl
        try simp only [Act.put, List.setIfInBounds_toArray, List.set_cons_zero, List.set_cons_succ, List.getElem_toArray, List.getElem_cons_zero, List.getElem_cons_succ]
        refine wpAnyH_done (by kernel_rfl) ?_ _
        go_wp2_with fail
        rw [Exit.noGoto_ret]
        go_wp2_with fail
        go_ret
        exact ⟨rfl, hHeld⟩
      · go_wp2_with fail
        rw [Exit.noGoto_ret]
        go_ret
        exact ⟨rfl, Below.refl _ _⟩
end Go.Mk
