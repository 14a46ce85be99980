/-
  Proved: the first error of a run of a relay, and its place, by package track (CheckRun), as a plain function. Conditions: legs and exchanges lie where the slices say; there are at most a hundred of each.
-/
import Derived.Test.YtickjnahdeikfaaGreatDoorNu
import Derived.Test.YtickjnahdeikfaaGreatDoorYi
set_option linter.unusedVariables false
set_option linter.unusedSimpArgs false
open Go Go.Proofs Go.RowKit
set_option maxRecDepth 100000
namespace Go.Mk
/-- The first error of a run, and its place: the relay's error, or that of the run. -/
def crW (G : List Int) (z b : Int) (L : List (Int × Int)) (f : Int) : Int × Int :=
  if relW G z b ≠ 0 then (0, relW G z b) else runW L (zonesW z b (G.take (G.length - 1)) 0) f
theorem zonesT_len (z b : Int) (G : List Int) : (zonesW z b (G.take (G.length - 1)) 0).length = G.length - 1 := by
  rw [zonesW_len, List.length_take]; omega
theorem rng3 {n lo hi : Int} (h : rngE n lo hi ≠ 0) : rngE n lo hi = 3 := by unfold rngE at *; split at h <;> simp_all
theorem crW_first {G : List Int} {z b : Int} {L : List (Int × Int)} {f e e1 : Int} (h1 : relW G z b = 0 → e1 = if L.length ≠ G.length - 1 then 2 else 0) (h : fstN [relW G z b, e1, rngE f 1 863999999] = e) (he : e ≠ 0) : crW G z b L f = (0, e) := by
  unfold crW
  by_cases q : relW G z b = 0
  · rw [if_neg (by simp [q])]
    have h2 := h1 q
    unfold runW
    rw [zonesT_len]
    by_cases q2 : L.length ≠ G.length - 1
    · rw [if_pos q2] at h2 ⊢
      have : e = 2 := by rw [← h, h2, q]; rfl
      rw [this]
    · rw [if_neg q2] at h2 ⊢
      have h3 : e = rngE f 1 863999999 := by
        rw [← h, h2, q]
        by_cases q3 : rngE f 1 863999999 = 0
        · simp [fstN, q3]
        · simp [fstN, q3]
      rw [if_pos (by rw [← h3]; exact he), h3, rng3 (by rw [← h3]; exact he)]
  · rw [if_pos q]
    have : e = relW G z b := by rw [← h]; unfold fstN; rw [if_neg q]
    rw [this]
theorem crW_rest {G : List Int} {z b : Int} {L : List (Int × Int)} {f e1 : Int} (h1 : relW G z b = 0 → e1 = if L.length ≠ G.length - 1 then 2 else 0) (h : fstN [relW G z b, e1, rngE f 1 863999999] = 0) :
    relW G z b = 0 ∧ L.length = G.length - 1 ∧ crW G z b L f = (let r := runG (0, 0) 0 L (zonesW z b (G.take (G.length - 1)) 0); if r.2 ≠ 0 then r else if f ≤ (L.getD (L.length - 1) (0, 0)).2 then ((L.length : Int) - 1, 11) else (0, 0)) := by
  have q : relW G z b = 0 := by
    by_cases q : relW G z b = 0
    · exact q
    · unfold fstN at h; rw [if_neg q] at h; exact h
  have h2 := h1 q
  have q2 : L.length = G.length - 1 := by
    by_cases q2 : L.length = G.length - 1
    · exact q2
    · rw [if_pos q2] at h2; rw [q, h2, show fstN [0, 2, rngE f 1 863999999] = 2 from rfl] at h; exact absurd h (by decide)
  rw [if_neg (by simp [q2])] at h2
  have q3 : rngE f 1 863999999 = 0 := by
    rw [q, h2] at h
    by_cases q3 : rngE f 1 863999999 = 0
    · exact q3
    · simp [fstN, q3] at h
  refine ⟨q, q2, ?_⟩
  unfold crW runW
  rw [if_neg (by simp [q]), zonesT_len, if_neg (by simp [q2]), if_neg (by simp [q3])]
theorem es3 (w : World) (a b c : Int) (t : TypeId) : Es (w.alloc (.cells #[.int .i64 a, .int .i64 b, .int .i64 c] t)) w.heap.size [a, b, c] := by
  intro i z h
  match i, h with
  | 0, h => simp at h; subst h; simp
  | 1, h => simp at h; subst h; simp
  | 2, h => simp at h; subst h; simp
set_option maxHeartbeats 8000000 in
theorem trCheckRun_any (G : List Int) (n cap : Nat) (A : Option Addr) (z b : Int) (L : List (Int × Int)) (m cE : Nat) (E : Option Addr) (f : Int) (w : World)
    (hG : IntsZ w A n G) (hn : n ≤ 100) (hc : n ≤ cap) (hE : Pairs w E m L) (hm : m ≤ 100) :
    Calls Tryz.prog 12 #[.agg #[.slice A n cap, .int .i64 z, .int .i64 b], .slice E m cE, .int .i64 f] w (RetPost (.tuple #[.int .i64 (crW G z b L f).1, .int .i64 (crW G z b L f).2]) w) := by
  obtain ⟨w1, hw1⟩ : ∃ w1, (w.alloc (.cells #[.slice A n cap, .int .i64 z, .int .i64 b] 24)).alloc (.cells #[.slice E m cE] 25) = w1 := ⟨_, rfl⟩
  have hB1 : Below w.heap.size w w1 := by rw [← hw1]; exact balloc _ (balloc _ (Below.refl _ _))
  have hs1 : w1.heap.size = w.heap.size + 1 + 1 := by rw [← hw1]; simp
  have hBa : Below (w.heap.size + 1) (w.alloc (.cells #[.slice A n cap, .int .i64 z, .int .i64 b] 24)) w1 := by rw [← hw1]; exact (Below.refl _ _).alloc (by simp) _
  have c0 : w1.cell? ⟨w.heap.size, 0, none⟩ = some (.slice A n cap) := (hBa.cell (p := ⟨w.heap.size, 0, none⟩) (by show w.heap.size < _; omega)).trans (by simp)
  have c1 : w1.cell? ⟨w.heap.size, 1, none⟩ = some (.int .i64 z) := (hBa.cell (p := ⟨w.heap.size, 1, none⟩) (by show w.heap.size < _; omega)).trans (by simp)
  have c2 : w1.cell? ⟨w.heap.size, 2, none⟩ = some (.int .i64 b) := (hBa.cell (p := ⟨w.heap.size, 2, none⟩) (by show w.heap.size < _; omega)).trans (by simp)
  have c3 : w1.cell? ⟨w.heap.size + 1, 0, none⟩ = some (.slice E m cE) := by rw [← hw1]; simp
  have HCE : Hid (∀ w', Below w1.heap.size w1 w' → w'.cell? ⟨w.heap.size, 0, none⟩ = some (.slice A n cap) ∧ w'.cell? ⟨w.heap.size, 1, none⟩ = some (.int .i64 z) ∧ w'.cell? ⟨w.heap.size, 2, none⟩ = some (.int .i64 b) ∧ w'.cell? ⟨w.heap.size + 1, 0, none⟩ = some (.slice E m cE) ∧ Below w1.heap.size w1 w') := Lib.hid fun w' hb =>
    ⟨(hb.cell (p := ⟨w.heap.size, 0, none⟩) (by show w.heap.size < _; omega)).trans c0, (hb.cell (p := ⟨w.heap.size, 1, none⟩) (by show w.heap.size < _; omega)).trans c1, (hb.cell (p := ⟨w.heap.size, 2, none⟩) (by show w.heap.size < _; omega)).trans c2, (hb.cell (p := ⟨w.heap.size + 1, 0, none⟩) (by show w.heap.size + 1 < _; omega)).trans c3, hb⟩
  clear c0 c1 c2 c3 hBa
  have HR : Hid (∀ w', Below w1.heap.size w1 w' → Calls Tryz.prog 15 #[.agg #[.slice A n cap, .int .i64 z, .int .i64 b]] w' (RetPost (.int .i64 (relW G z b)) w')) := Lib.hid fun w' hb => trCheckRelay_any G n cap A z b w' ((hG.below hB1).below hb) (by omega) hc
  have hni : (n : Int) ≤ 100 := by omega
  have hmi : (m : Int) ≤ 100 := by omega
  have hGn : G.length = n := hG.1
  have hLm : L.length = m := hE.1
  obtain ⟨bb, hbb⟩ : ∃ bb, ((m : Int) != IntKind.i64.wrap ((n : Int) - 1)) = bb := ⟨_, rfl⟩
  have hW1 := fun w => trWhen_any bb 2 w
  have hT := fun w => trTimeX_any f w
  obtain ⟨e1, he1⟩ : ∃ e : Int, (if bb = true then (2 : Int) else 0) = e := ⟨_, rfl⟩
  rw [he1] at hW1
  have h1 : relW G z b = 0 → e1 = if L.length ≠ G.length - 1 then 2 else 0 := fun q => by
    have hl : ∃ m, G.length = m + 1 ∧ 1 ≤ m ∧ m ≤ 7 := by
      unfold relW at q
      split at q
      · cases q
      · exact ⟨G.length - 1, by omega, by omega, by omega⟩
    rw [← he1, hGn, hLm, ← hbb, IntWalk.i64_in ((n : Int) - 1) (by omega)]
    by_cases q2 : m = n - 1
    · rw [if_neg (by simp; omega), if_neg (by omega)]
    · rw [if_pos (by simp; omega), if_pos q2]
  have HGw := Lib.hid (hG.below hB1)
  have HEw := Lib.hid (hE.below hB1)
  obtain ⟨e, he⟩ : ∃ e, fstN [relW G z b, e1, rngE f 1 863999999] = e := ⟨_, rfl⟩
  have hF := fun g w => trFirst_any [relW G z b, e1, rngE f 1 863999999] 3 rfl (by decide) g w
  rw [he] at hF
  have HFIRST : Hid (e ≠ 0 → crW G z b L f = (0, e)) := Lib.hid fun q => crW_first h1 he q
  have HREST : Hid (e = 0 → relW G z b = 0 ∧ L.length = G.length - 1 ∧ crW G z b L f = (let r := runG (0, 0) 0 L (zonesW z b (G.take (G.length - 1)) 0); if r.2 ≠ 0 then r else if f ≤ (L.getD (L.length - 1) (0, 0)).2 then ((L.length : Int) - 1, 11) else (0, 0))) := Lib.hid fun q => crW_rest h1 (he.trans q)
  have HLEN : Hid (relW G z b = 0 → ∃ k, n = k + 1 ∧ 1 ≤ k ∧ k ≤ 7) := Lib.hid fun q => by
    unfold relW at q
    split at q
    · cases q
    · exact ⟨n - 1, by omega, by omega, by omega⟩
  obtain ⟨rel, hrel⟩ : ∃ rel, relW G z b = rel := ⟨_, rfl⟩
  obtain ⟨et, het⟩ : ∃ et, rngE f 1 863999999 = et := ⟨_, rfl⟩
  rw [hrel, het] at hF
  rw [hrel] at HR HREST HLEN
  rw [het] at hT
  obtain ⟨Y, hY⟩ : ∃ Y, crW G z b L f = Y := ⟨_, rfl⟩
  rw [hY] at HREST HFIRST ⊢
  have HB1 := Lib.hid hB1
  have HW1 := Lib.hid hw1
  have Hbb := Lib.hid hbb
  have hGl := Lib.hid hGn
  have hLl := Lib.hid hLm
  clear hG hE hY hrel het he he1 h1 hbb hB1 hGn hLm
  go_enter Tryz.func12, Tryz.ntmps12
  go_wp2_with fail
  have hbb := Hbb.out
  clear hw1 HW1
  go_region_held3 (fun w' => w'.cell? ⟨w.heap.size, 0, none⟩ = some (.slice A n cap) ∧ w'.cell? ⟨w.heap.size, 1, none⟩ = some (.int .i64 z) ∧ w'.cell? ⟨w.heap.size, 2, none⟩ = some (.int .i64 b) ∧ w'.cell? ⟨w.heap.size + 1, 0, none⟩ = some (.slice E m cE) ∧ Below w1.heap.size w1 w') ((first | (exact HCE.out _ (Below.drew (Below.refl _ _))) | (assumption) | (exact HCE.out _ (bstep (by have hq : _ ∧ _ ∧ _ ∧ _ ∧ Below w1.heap.size w1 _ := (by assumption); exact hq.2.2.2.2) (by assumption))) | (exact HCE.out _ (balloc _ (by have hq : _ ∧ _ ∧ _ ∧ _ ∧ Below w1.heap.size w1 _ := (by assumption); exact hq.2.2.2.2))))) ((first | (go_at_call 15; (refine (HR.out _ (by first | exact (Below.drew (Below.refl _ _)) | assumption | (have hq : _ ∧ _ ∧ _ ∧ _ ∧ Below w1.heap.size w1 _ := (by assumption); exact hq.2.2.2.2))).mono ?_); rintro e' w' ⟨rfl, hbw⟩) | (go_at_call 52; (with_reducible refine (hT _).mono ?_); rintro e' w' ⟨rfl, rfl⟩) | (go_at_call 50; (refine (hF _ _ ?_).mono ?_); (exact es3 _ _ _ _ _); rintro e' w' ⟨rfl, rfl⟩) | (go_at_call 51; (with_reducible refine (hW1 _).mono ?_); rintro e' w' ⟨rfl, rfl⟩)))
  all_goals
    rename_i hH
    have hb2 := Lib.hid hH.2.2.2.2
    clear hH
    obtain ⟨w2, hw2⟩ : ∃ w2 : World, w'.alloc (.cells #[.int .i64 rel, .int .i64 e1, .int .i64 et] 33) = w2 := ⟨_, rfl⟩
    rw [hw2] at hb2 ⊢
    clear hw2 hbw hF hW1 hT HR hbb Hbb
    by_cases q : e = 0
    · subst q
      obtain ⟨r0, hl, hYe⟩ := HREST.out rfl
      obtain ⟨k, rfl, hk1, hk7⟩ := HLEN.out r0
      have hGl2 : G.length - 1 = k := by have := hGl.out; omega
      rw [hGl2] at hYe hl
      have hmk : m = k := by have := hLl.out; omega
      subst hmk
      have hZo := trZonesOf_any G m cap A z b w2 (HGw.out.below hb2.out) (by omega) hc
      have hZl : (zonesW z b (G.take m) 0).length = m := by rw [zonesW_len, List.length_take]; have := hGl.out; omega
      obtain ⟨Z, hZ⟩ : ∃ Z, zonesW z b (G.take m) 0 = Z := ⟨_, rfl⟩
      rw [hZ] at hZo hZl hYe
      obtain ⟨d0, d1, d2, d3, _⟩ := HCE.out _ hb2.out
      have HYe := Lib.hid hYe
      clear hZ hYe HREST HFIRST HLEN r0 d3
      go_wp2_with fail
      refine hZo.mono ?_
      rintro e' w3 ⟨v, rfl, ho, hb3⟩
      obtain ⟨AZ, cZ, rfl, hP⟩ := Pairs.of_own ho
      rw [hZl] at hP ⊢
      have hb13 := bstep hb2.out hb3
      have hb4 := balloc (.cells #[.slice AZ m cZ] 32) hb13
      obtain ⟨_, _, _, d3, _⟩ := HCE.out _ hb4
      have hs3 := hb13.size
      have d9 : (w3.alloc (.cells #[.slice AZ m cZ] 32)).cell? ⟨w3.heap.size, 0, none⟩ = some (.slice AZ m cZ) := by simp
      have hs4 : (w3.alloc (.cells #[.slice AZ m cZ] 32)).heap.size = w3.heap.size + 1 := by simp
      have hX : RunBox (w3.alloc (.cells #[.slice AZ m cZ] 32)) (w.heap.size + 1) w3.heap.size E m cE L AZ m cZ Z := ⟨⟨by omega, by omega⟩, ⟨d3, d9⟩, HEw.out.below hb4, hP.below (balloc _ (Below.refl _ _))⟩
      have hC := trFirstEx_any (w.heap.size + 1) w3.heap.size m cE cE cZ E AZ L Z _ hX hm
      unfold RunF at hC
      obtain ⟨R0, hR0⟩ : ∃ R0, runG (0, 0) 0 L Z = R0 := ⟨_, rfl⟩
      rw [hR0] at hC HYe
      have HB4 := Lib.hid hb4
      clear hX d9 hs4 hs3 hb4 hb13 hP ho hb3 d0 d1 d2 hR0 hZo
      go_wp2_with fail
      refine hC.mono ?_
      rintro e' w5 ⟨rfl, hb5⟩
      have hb6 := bstep HB4.out hb5
      obtain ⟨_, _, _, d3', _⟩ := HCE.out _ hb6
      have hbw := HB1.out.trans (hb6.mono (by rw [hs1]; omega))
      clear hC d3 hb5
      by_cases q2 : R0.2 = 0
      · obtain ⟨j, hj⟩ : ∃ j, m = j + 1 := ⟨m - 1, by omega⟩
        obtain ⟨be, oe, hE0, hbe, hcE⟩ := (HEw.out.below hb6).2 (by omega)
        subst hE0
        have hjL : j < L.length := by have := hLl.out; omega
        obtain ⟨ql, hql⟩ : ∃ ql, L[j]? = some ql := ⟨_, List.getElem?_eq_getElem hjL⟩
        have hYe := HYe.out
        have hgd : L.getD (L.length - 1) (0, 0) = ql := by rw [show L.length - 1 = j from by omega]; simp [List.getD, hql]
        have hR1 : Y = if f ≤ ql.2 then ((m : Int) - 1, 11) else (0, 0) := by
          rw [hYe]
          show (if R0.2 ≠ 0 then R0 else if f ≤ (L.getD (L.length - 1) (0, 0)).2 then ((L.length : Int) - 1, 11) else (0, 0)) = _
          rw [if_neg (by simp [q2]), hgd, hLl.out]
        have x1 := (hcE j ql hql).2
        have hj1 : (m : Int) - 1 = (j : Int) := by omega
        have hj0 : (0 : Int) ≤ (j : Int) := by omega
        have hjt : ((j : Int)).toNat = j := by omega
        have hjm : (j : Int) < (m : Int) := by omega
        have hb0 : (R0.2 != 0) = false := by rw [bne_eq_false_iff_eq]; exact q2
        clear hYe HYe hgd hcE hj hql hjL q2
        by_cases hf2 : f ≤ ql.2
        · rw [if_pos hf2, hj1] at hR1
          subst hR1
          go_wp2
          go_ret2
          exact ⟨rfl, hbw⟩
        · rw [if_neg hf2] at hR1
          subst hR1
          go_wp2
          go_ret2
          exact ⟨rfl, hbw⟩
      · have hYe : Y = R0 := by
          rw [HYe.out]
          exact if_pos q2
        subst hYe
        have hb0 : (Y.2 != 0) = true := by rw [bne_iff_ne]; exact q2
        clear HYe
        go_wp2
        go_ret2
        exact ⟨rfl, hbw⟩
    · have hYe := HFIRST.out q
      subst hYe
      have hb0 : (e != 0) = true := by rw [bne_iff_ne]; exact q
      have hbw := HB1.out.trans (hb2.out.mono (by rw [hs1]; omega))
      clear HREST HFIRST HLEN HCE
      go_wp2
      go_ret2
      exact ⟨rfl, hbw⟩
end Go.Mk
