/-
  Proved: the error of a relay by package track, as a plain function of what machine integers reckon; its zones. Conditions: the legs lie where the slice says.
-/
import Derived.Test.YtickjnahdeikfaaGreatDoorYf
import Derived.Deep.RegionHeld3
set_option linter.unusedVariables false
set_option linter.unusedSimpArgs false
open Go Go.Proofs Go.RowKit
set_option maxRecDepth 100000
namespace Go.Mk
/-- The error of a relay. -/
def relW (L : List Int) (z b : Int) : Int := if L.length < 2 ∨ 8 < L.length then 2 else fstN [fstN (L.map fun x => rngE x 1 999999), rngE z 1 999999, rngE b 0 z, zErr (zonesW z b (L.take (L.length - 1)) 0) (-1) (sumW L 0)]
theorem es4 (w : World) (a b c d : Int) (t : TypeId) : Es (w.alloc (.cells #[.int .i64 a, .int .i64 b, .int .i64 c, .int .i64 d] t)) w.heap.size [a, b, c, d] := by
  intro i v hv
  match i, hv with
  | 0, hv => simp at hv; subst hv; simp
  | 1, hv => simp at hv; subst hv; simp
  | 2, hv => simp at hv; subst hv; simp
  | 3, hv => simp at hv; subst hv; simp
/-- A box of a relay, and what was there. -/
@[reducible] def RelB (W : World) (g : Nat) (A : Option Addr) (n cap : Nat) (z b : Int) (L : List Int) (w' : World) : Prop :=
  w'.cell? ⟨g, 0, none⟩ = some (.slice A n cap) ∧ w'.cell? ⟨g, 1, none⟩ = some (.int .i64 z) ∧ w'.cell? ⟨g, 2, none⟩ = some (.int .i64 b) ∧ g < w'.heap.size ∧ Below W.heap.size W w' ∧ IntsZ w' A n L
theorem RelB.next {W w w' : World} {A : Option Addr} {g n cap : Nat} {z b : Int} {L : List Int} (h : RelB W g A n cap z b L w) (hb : Below w.heap.size w w') : RelB W g A n cap z b L w' := by
  obtain ⟨a0, a1, a2, hl, hW, hZ⟩ := h
  exact ⟨(hb.cell (p := ⟨g, _, none⟩) hl).trans a0, (hb.cell (p := ⟨g, _, none⟩) hl).trans a1, (hb.cell (p := ⟨g, _, none⟩) hl).trans a2, Nat.lt_of_lt_of_le hl hb.size, bstep hW hb, hZ.below hb⟩
theorem RelB.new {w : World} {A : Option Addr} {n cap : Nat} {z b : Int} {L : List Int} (hZ : IntsZ w A n L) (t : TypeId) : RelB w w.heap.size A n cap z b L (w.alloc (.cells #[.slice A n cap, .int .i64 z, .int .i64 b] t)) :=
  ⟨by simp, by simp, by simp, by simp, balloc _ (Below.refl _ _), hZ.below (balloc _ (Below.refl _ _))⟩
set_option maxHeartbeats 4000000 in
theorem trCheckRelay_any (L : List Int) (n cap : Nat) (A : Option Addr) (z b : Int) (w : World) (hZ : IntsZ w A n L) (hn : (n : Int) ≤ 9223372036854775807) (hc : n ≤ cap) :
    Calls Tryz.prog 15 #[.agg #[.slice A n cap, .int .i64 z, .int .i64 b]] w (RetPost (.int .i64 (relW L z b)) w) := by
  have hb0 : Below w.heap.size w (w.alloc (.cells #[.slice A n cap, .int .i64 z, .int .i64 b] 24)) := balloc _ (Below.refl _ _)
  unfold relW
  rw [hZ.1]
  by_cases h1 : n < 2
  · have h1i : (n : Int) < 2 := by omega
    rw [if_pos (.inl h1)]
    clear hZ
    go_enter Tryz.func15, Tryz.ntmps15
    go_wp2
    go_ret
    exact ⟨rfl, hb0⟩
  · have h1i : ¬ (n : Int) < 2 := by omega
    by_cases h2 : 8 < n
    · have h2i : 8 < (n : Int) := by omega
      rw [if_pos (.inr h2)]
      clear hZ
      go_enter Tryz.func15, Tryz.ntmps15
      go_wp2
      go_ret
      exact ⟨rfl, hb0⟩
    · have h2i : ¬ 8 < (n : Int) := by omega
      rw [if_neg (by omega)]
      have HF1 : Hid (∀ w', IntsZ w' A n L → Calls Tryz.prog 60 #[.slice A n cap, LegF] w' (fun e w'' => ∃ at_ : Int, e = .returned (.tuple #[.int .i64 at_, .int .i64 (fstN (L.map fun x => rngE x 1 999999))]) ∧ w' = w'')) := Lib.hid fun w' hz => trFirstInt_any L n cap A w' hz (by omega)
      have HZE : Hid (∀ w', IntsZ w' A n L → Calls Tryz.prog 63 #[.agg #[.slice A n cap, .int .i64 z, .int .i64 b]] w' (RetPost (.int .i64 (zErr (zonesW z b (L.take (n - 1)) 0) (-1) (sumW L 0))) w')) := Lib.hid fun w' hz => by
        obtain ⟨m, rfl⟩ : ∃ m, n = m + 1 := ⟨n - 1, by omega⟩
        exact trZonesErr_any L m cap A z b w' hz (by omega) hc
      have HL := Lib.hid trLength_any
      have HR := Lib.hid trRange_any
      have HN := Lib.hid (RelB.new (cap := cap) (z := z) (b := b) hZ 24)
      have HI := Lib.hid (hZ.below hb0)
      generalize fstN (L.map fun x => rngE x 1 999999) = e1 at *
      generalize zErr (zonesW z b (L.take (n - 1)) 0) (-1) (sumW L 0) = e4 at *
      generalize hr2 : rngE z 1 999999 = e2 at *
      generalize hr3 : rngE b 0 z = e3 at *
      have HC := Lib.hid (And.intro hr2 hr3)
      have HF : Hid (∀ g' w', Es w' g' [e1, e2, e3, e4] → Calls Tryz.prog 50 #[.slice (some ⟨g', 0, none⟩) 4 4] w' (RetSame (.int .i64 (fstN [e1, e2, e3, e4])) w')) := Lib.hid fun g' w' he => trFirst_any _ 4 rfl (by decide) g' w' he
      generalize fstN [e1, e2, e3, e4] = X at *
      clear hr2 hr3 hZ h1 h2 hn hc hb0
      unfold LegF at HF1
      go_enter Tryz.func15, Tryz.ntmps15
      go_wp2_with fail
      refine (HF1.out _ HI.out).mono ?_
      rintro e w' ⟨at_, rfl, rfl⟩
      go_wp2_with fail
      refine wp_region_held_drew (S := RelB w w.heap.size A n cap z b L) (by kernel_rfl) ?_ (fun hHeld => ?_)
      · exact HN.out.next (Below.refl _ _).drew
      generalize World.drew _ = wd at hHeld ⊢
      refine wpAnyH_take (i := 0) (oi := _) (v := ?_) rfl (by kernel_rfl) (by kernel_rfl) (by kernel_rfl) (fun _ _ _ h => h) (Or.inl ⟨by rfl, ?_⟩) (by assumption) ?_
      rotate_left
      · rintro w ⟨s0, s1, s2, s3, s4, s5⟩
        go_simp
        try with_reducible rfl
      try simp only [Act.put, List.setIfInBounds_toArray, List.set_cons_zero, List.set_cons_succ, List.getElem_toArray, List.getElem_cons_zero, List.getElem_cons_succ]
      refine wpAnyH_take (i := 1) (oi := _) (v := ?_) rfl (by kernel_rfl) (by kernel_rfl) (by kernel_rfl) (fun _ _ _ h => h) (Or.inl ⟨by rfl, ?_⟩) (by assumption) ?_
      rotate_left
      · rintro w ⟨s0, s1, s2, s3, s4, s5⟩
        go_simp
        try with_reducible rfl
      try simp only [Act.put, List.setIfInBounds_toArray, List.set_cons_zero, List.set_cons_succ, List.getElem_toArray, List.getElem_cons_zero, List.getElem_cons_succ]
      refine wpAnyH_take (i := 2) (oi := _) (v := ?_) rfl (by kernel_rfl) (by kernel_rfl) (by kernel_rfl) (fun _ _ _ h => h) (Or.inl ⟨by rfl, ?_⟩) (by assumption) ?_
      rotate_left
      · rintro w ⟨s0, s1, s2, s3, s4, s5⟩
        go_simp
        try with_reducible rfl
      try simp only [Act.put, List.setIfInBounds_toArray, List.set_cons_zero, List.set_cons_succ, List.getElem_toArray, List.getElem_cons_zero, List.getElem_cons_succ]
      refine wpAnyH_take (i := 4) (oi := _) (v := ?_) rfl (by kernel_rfl) (by kernel_rfl) (by kernel_rfl) (fun _ _ _ h => h) (Or.inl ⟨by rfl, ?_⟩) (by assumption) ?_
      rotate_left
      · rintro w ⟨s0, s1, s2, s3, s4, s5⟩
        go_simp
        try with_reducible rfl
      try simp only [Act.put, List.setIfInBounds_toArray, List.set_cons_zero, List.set_cons_succ, List.getElem_toArray, List.getElem_cons_zero, List.getElem_cons_succ]
      refine wpAnyH_take (i := 5) (oi := _) (v := ?_) rfl (by kernel_rfl) (by kernel_rfl) (by kernel_rfl) (fun _ _ _ h => h) (Or.inl ⟨by rfl, ?_⟩) (by assumption) ?_
      rotate_left
      · rintro w ⟨s0, s1, s2, s3, s4, s5⟩
        go_simp
        try with_reducible rfl
      try simp only [Act.put, List.setIfInBounds_toArray, List.set_cons_zero, List.set_cons_succ, List.getElem_toArray, List.getElem_cons_zero, List.getElem_cons_succ]
      refine wpAnyH_take (i := 6) (oi := _) (v := ?_) rfl (by kernel_rfl) (by kernel_rfl) (by kernel_rfl) (fun _ _ _ h => h) (Or.inl ⟨by rfl, ?_⟩) (by assumption) ?_
      rotate_left
      · rintro w ⟨s0, s1, s2, s3, s4, s5⟩
        go_simp
        try with_reducible rfl
      try simp only [Act.put, List.setIfInBounds_toArray, List.set_cons_zero, List.set_cons_succ, List.getElem_toArray, List.getElem_cons_zero, List.getElem_cons_succ]
      refine wpAnyH_take (i := 7) (oi := _) (v := ?_) rfl (by kernel_rfl) (by kernel_rfl) (by kernel_rfl) (fun _ _ _ h => h) (Or.inl ⟨by rfl, ?_⟩) (by assumption) ?_
      rotate_left
      · rintro w ⟨s0, s1, s2, s3, s4, s5⟩
        go_simp
        try with_reducible rfl
      try simp only [Act.put, List.setIfInBounds_toArray, List.set_cons_zero, List.set_cons_succ, List.getElem_toArray, List.getElem_cons_zero, List.getElem_cons_succ]
      refine wpAnyH_take (i := 9) (oi := _) (v := ?_) rfl (by kernel_rfl) (by kernel_rfl) (by kernel_rfl) (fun _ _ _ h => h) (Or.inl ⟨by rfl, ?_⟩) (by assumption) ?_
      rotate_left
      · rintro w ⟨s0, s1, s2, s3, s4, s5⟩
        go_simp
        try with_reducible rfl
      try simp only [Act.put, List.setIfInBounds_toArray, List.set_cons_zero, List.set_cons_succ, List.getElem_toArray, List.getElem_cons_zero, List.getElem_cons_succ]
      refine wpAnyH_ready (rs := [3]) (by kernel_rfl) (by simp) ?_
      refine AllReadyH.cons (o := _) rfl (fun K hKK => ?_) AllReadyH.nil
      go_simp
      go_at_call 62
      refine (HL.out _ _).mono ?_
      rintro e w5 ⟨rfl, rfl⟩
      go_wp2_with fail
      refine hKK.out _ _ ?_ (fun hHeld => ?_)
      · exact hHeld
      clear hKK K
      try simp only [Act.put, List.setIfInBounds_toArray, List.set_cons_zero, List.set_cons_succ, List.getElem_toArray, List.getElem_cons_zero, List.getElem_cons_succ]
      refine wpAnyH_ready (rs := [8]) (by kernel_rfl) (by simp) ?_
      refine AllReadyH.cons (o := _) rfl (fun K hKK => ?_) AllReadyH.nil
      go_simp
      go_at_call 55
      refine (HR.out _ _ _ _).mono ?_
      rintro e w5 ⟨rfl, rfl⟩
      go_wp2_with fail
      refine hKK.out _ _ ?_ (fun hHeld => ?_)
      · exact hHeld
      clear hKK K
      try simp only [Act.put, List.setIfInBounds_toArray, List.set_cons_zero, List.set_cons_succ, List.getElem_toArray, List.getElem_cons_zero, List.getElem_cons_succ]
      refine wpAnyH_ready (rs := [10]) (by kernel_rfl) (by simp) ?_
      refine AllReadyH.cons (o := _) rfl (fun K hKK => ?_) AllReadyH.nil
      go_simp
      go_at_call 63
      refine (HZE.out _ hHeld.2.2.2.2.2).mono ?_
      rintro e w5 ⟨rfl, hb5⟩
      have hX := hHeld.next hb5
      clear hHeld hb5
      go_wp2_with fail
      refine hKK.out _ _ ?_ (fun hHeld => ?_)
      · exact hX
      clear hKK K
      try simp only [Act.put, List.setIfInBounds_toArray, List.set_cons_zero, List.set_cons_succ, List.getElem_toArray, List.getElem_cons_zero, List.getElem_cons_succ]
      clear hX
      rw [HC.out.1, HC.out.2]
      refine wpAnyH_ready (rs := [11]) (by kernel_rfl) (by simp) ?_
      refine AllReadyH.cons (o := _) rfl (fun K hKK => ?_) AllReadyH.nil
      go_simp
      have hN2 := hHeld.next (balloc (.cells #[.int .i64 e1, .int .i64 e2, .int .i64 e3, .int .i64 e4] 33) (Below.refl _ _))
      clear hHeld
      refine hKK.out _ _ ?_ (fun hHeld => ?_)
      · exact hN2
      clear hKK K
      try simp only [Act.put, List.setIfInBounds_toArray, List.set_cons_zero, List.set_cons_succ, List.getElem_toArray, List.getElem_cons_zero, List.getElem_cons_succ]
      clear hN2
      refine wpAnyH_ready (rs := [12]) (by kernel_rfl) (by simp) ?_
      refine AllReadyH.cons (o := _) rfl (fun K hKK => ?_) AllReadyH.nil
      go_simp
      go_at_call 50
      refine (HF.out _ _ (es4 _ _ _ _ _ _)).mono ?_
      rintro e w5 ⟨rfl, rfl⟩
      go_wp2_with fail
      refine hKK.out _ _ ?_ (fun hHeld => ?_)
      · exact hHeld
      clear hKK K
      try simp only [Act.put, List.setIfInBounds_toArray, List.set_cons_zero, List.set_cons_succ, List.getElem_toArray, List.getElem_cons_zero, List.getElem_cons_succ]
      refine wpAnyH_ready (rs := [13]) (by kernel_rfl) (by simp) ?_
      refine AllReadyH.cons (o := _) rfl (fun K hKK => ?_) AllReadyH.nil
      go_simp
      refine hKK.out _ _ ?_ (fun hHeld => ?_)
      · exact hHeld
      clear hKK K
      try simp only [Act.put, List.setIfInBounds_toArray, List.set_cons_zero, List.set_cons_succ, List.getElem_toArray, List.getElem_cons_zero, List.getElem_cons_succ]
      refine wpAnyH_done (by kernel_rfl) ?_ _
      have hX := hHeld.2.2.2.2.1
      clear hHeld
      go_wp2
      go_ret
      exact ⟨rfl, hX⟩
end Go.Mk
