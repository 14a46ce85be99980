/-
  Proved: the error of a team of a relay by package track (CheckTeam) and by its reference is the same plain function. Conditions: the legs and the names lie where the slices say; there are at most 1,000 names, each no longer than an int says.
-/
import Derived.Test.YtnknmplepgmfmaaGreatDoorXd
import Derived.Test.YtnknmplepgmfmaaGreatDoorYh
set_option linter.unusedVariables false
set_option linter.unusedSimpArgs false
open Go Go.Proofs Go.RowKit
set_option maxRecDepth 100000
namespace Go.Mk
theorem teamE_of {rel : Int} {n : Nat} {t : List ByteArray} {e : Int} (h : fstN [rel, if t.length = n then 0 else 2] = e) : teamE rel n t = if e = 0 then nmsE [] t else e := by
  unfold teamE
  by_cases h1 : rel = 0
  · subst h1
    by_cases h2 : t.length = n
    · rw [if_pos h2] at h ⊢
      have he : e = 0 := by rw [← h]; simp [fstN]
      subst he
      rw [if_pos rfl]
      by_cases h3 : nmsE [] t = 0 <;> simp [fstN, h3]
    · rw [if_neg h2] at h ⊢
      have he : e = 2 := by rw [← h]; simp [fstN]
      subst he
      simp [fstN]
  · have he : e = rel := by rw [← h]; simp [fstN, h1]
    subst he
    rw [if_neg h1]
    simp [fstN, h1]
set_option maxHeartbeats 4000000 in
theorem trCheckTeam_any (L : List Int) (n cap : Nat) (A : Option Addr) (z b : Int) (T : List ByteArray) (nt ct : Nat) (At : Option Addr) (w : World) (hZ : IntsZ w A n L) (hn : (n : Int) ≤ 9223372036854775807) (hc : n ≤ cap) (hT : TextsZ w At nt T) (hnt : nt ≤ 1000) (hct : nt ≤ ct) (hs : ∀ x ∈ T, x.size ≤ maxLen) :
    Calls Tryz.prog 25 #[.agg #[.slice A n cap, .int .i64 z, .int .i64 b], .slice At nt ct] w (RetPost (.int .i64 (teamE (relW L z b) n T)) w) := by
  have HR : Hid (∀ w', IntsZ w' A n L → Calls Tryz.prog 15 #[.agg #[.slice A n cap, .int .i64 z, .int .i64 b]] w' (RetPost (.int .i64 (relW L z b)) w')) := Lib.hid fun w' hz => trCheckRelay_any L n cap A z b w' hz hn hc
  have HN : Hid (∀ w', Below w.heap.size w w' → Calls Tryz.prog 67 #[.slice At nt ct] w' (RetPost (.int .i64 (nmsE [] T)) w')) := Lib.hid fun w' hb => trNames_any T nt ct At w' (hT.below hb) hnt hct hs
  have HB := Lib.hid (RelB.new (cap := cap) (z := z) (b := b) hZ 24)
  have hW0 := fun w => trWhen_any ((nt : Int) != (n : Int)) 2 w
  have hif : (if ((nt : Int) != (n : Int)) = true then (2 : Int) else 0) = if T.length = n then 0 else 2 := by
    rw [hT.1]
    by_cases q : nt = n
    · subst q; simp
    · rw [if_neg q, if_pos (by simp; omega)]
  generalize relW L z b = rel at *
  obtain ⟨e2, he2⟩ : ∃ e2 : Int, (if ((nt : Int) != (n : Int)) = true then (2 : Int) else 0) = e2 := ⟨_, rfl⟩
  rw [he2] at hW0
  obtain ⟨e, he⟩ : ∃ e, fstN [rel, e2] = e := ⟨_, rfl⟩
  rw [teamE_of (e := e) (by rw [← hif, he2, he])]
  have hF := fun g w => trFirst_any [rel, e2] 2 rfl (by decide) g w
  rw [he] at hF
  generalize nmsE [] T = en at *
  obtain ⟨y, hy⟩ : ∃ y, (if e = 0 then en else e) = y := ⟨_, rfl⟩
  rw [hy]
  have HY := Lib.hid hy
  clear hZ hT hs hn hif he2 he hy
  go_enter Tryz.func25, Tryz.ntmps25
  go_wp2_with fail
  go_region_held3 (fun w' => RelB w w.heap.size A n cap z b L w') ((first | (exact HB.out.next (Below.drew (Below.refl _ _))) | (assumption) | (exact RelB.next (by assumption) (by assumption)) | (exact RelB.next (by assumption) (balloc _ (Below.refl _ _))))) ((first | (go_at_call 15; (refine (HR.out _ (by have hq : RelB w w.heap.size A n cap z b L _ := (by assumption); exact hq.2.2.2.2.2)).mono ?_); rintro e w' ⟨rfl, hbw⟩) | (go_at_call 51; (with_reducible refine (hW0 _).mono ?_); rintro e w' ⟨rfl, rfl⟩) | (go_at_call 50; (refine (hF _ _ ?_).mono ?_); (exact es2 _ _ _ _); rintro e w' ⟨rfl, rfl⟩)))
  all_goals
    rename_i hH
    have hb3 := Lib.hid hH.2.2.2.2.1
    clear hH
    by_cases h0 : e = 0
    · subst h0
      have hye : en = y := by have := HY.out; rw [if_pos rfl] at this; exact this
      subst hye
      have hN := HN.out _ hb3.out
      clear HY
      go_wp2_with fail
      refine hN.mono ?_
      rintro e w4 ⟨rfl, hb4⟩
      have hb5 := bstep hb3.out hb4
      go_wp2
      go_ret
      exact ⟨rfl, hb5⟩
    · have hye : e = y := by have := HY.out; rw [if_neg h0] at this; exact this
      subst hye
      have hb' : (e != 0) = true := by rw [bne_iff_ne]; exact h0
      clear HY
      go_wp2
      go_ret
      exact ⟨rfl, hb3.out⟩
set_option maxHeartbeats 4000000 in
theorem r7CheckTeam_any (L : List Int) (n cap : Nat) (A : Option Addr) (z b : Int) (T : List ByteArray) (nt ct : Nat) (At : Option Addr) (w : World) (hT : TextsZ w At nt T) (hnt : nt ≤ 1000) (hct : nt ≤ ct) (hs : ∀ x ∈ T, x.size ≤ maxLen) :
    Calls Tryz.prog 24 #[.agg #[.slice A n cap, .int .i64 z, .int .i64 b], .slice At nt ct] w (RetPost (.int .i64 (teamE 0 n T)) w) := by
  have hb0 : Below w.heap.size w (w.alloc (.cells #[.slice A n cap, .int .i64 z, .int .i64 b] 26)) := balloc _ (Below.refl _ _)
  have hN := r7names_any T nt ct At _ (hT.below hb0) hnt hct hs
  rw [teamE_of (e := if T.length = n then 0 else 2) (by split <;> simp [fstN]), hT.1]
  generalize nmsE [] T = en at *
  have HB := Lib.hid hb0
  clear hT hs hb0
  by_cases q : nt = n
  · subst q
    have hbn : ((nt : Int) != (nt : Int)) = false := by simp
    rw [if_pos rfl, if_pos rfl]
    go_enter Tryz.func24, Tryz.ntmps24
    go_wp2_with fail
    refine hN.mono ?_
    rintro e w4 ⟨rfl, hb4⟩
    have hb5 := bstep HB.out hb4
    go_wp2
    go_ret
    exact ⟨rfl, hb5⟩
  · have hbn : ((nt : Int) != (n : Int)) = true := by simp; omega
    rw [if_neg q, if_neg (by decide)]
    clear hN
    go_enter Tryz.func24, Tryz.ntmps24
    go_wp2
    go_ret
    exact ⟨rfl, HB.out⟩
end Go.Mk
