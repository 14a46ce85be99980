/-
  Proved: the first error of names by package track and by its reference is the same plain function. Conditions: the texts lie where the slice says; there are at most 100,000, each no longer than an int says.
-/
import Derived.Test.YtnknmplepgmfmaaGreatDoorXb
set_option linter.unusedVariables false
set_option linter.unusedSimpArgs false
open Go Go.Proofs Go.RowKit
set_option maxRecDepth 100000
namespace Go.Mk
set_option maxHeartbeats 4000000 in
theorem trNamesC_any (L : List ByteArray) (n cap k g : Nat) (A : Option Addr) (s : ByteArray) (w : World) (hc : w.cell? ⟨g, 0, none⟩ = some (.slice A n cap)) (hg : g < w.heap.size) (hZ : TextsZ w A n L) (hn : n ≤ 1000) (hcap : n ≤ cap) (hk : k < n) (hz : s.size ≤ maxLen) :
    Calls Tryz.prog 104 #[.int .i64 k, .string s, .pointer (some ⟨g, 0, none⟩)] w (RetPost (.int .i64 (twE (L.take k) s)) w) := by
  obtain ⟨b, off, x, rfl, _, _, _⟩ := hZ.at_ hk
  have HB : Hid (∀ w', Below w.heap.size w w' → w'.cell? ⟨g, 0, none⟩ = some (.slice (some ⟨b, off, none⟩) n cap)) := Lib.hid fun w' hb => (hb.cell (p := ⟨g, _, none⟩) hg).trans hc
  have hki : (k : Int) ≤ (cap : Int) := by omega
  have hk0 : (0 : Int) ≤ (k : Int) := by omega
  have hkt : ((k : Int)).toNat = k := by omega
  have HCo : Hid (∀ w' c, Below w.heap.size w w' → Calls Tryz.prog 106 #[.slice (some ⟨b, off, none⟩) k c, .string s] w' (RetSame (.bool (isIn (L.take k) s)) w')) := Lib.hid fun w' c hb => slContainsS_any (L.take k) s k c _ w' ((hZ.below hb).take (Nat.le_of_lt hk)) (by omega)
  have hN := fun w => IsName_any s w hz
  have hF0 := fun x y g w => trFirst_any [x, y] 2 rfl (by decide) g w
  have HY : Hid (fstN [if (!(isNm s)) = true then 8 else 0, if isIn (L.take k) s = true then 9 else 0] = twE (L.take k) s) := Lib.hid (by unfold twE nmE; cases isNm s <;> simp)
  generalize twE (L.take k) s = y at *
  generalize isIn (L.take k) s = bb at *
  generalize isNm s = nb at *
  clear hc hZ hz
  have hW1 := fun w => trWhen_any (!nb) 8 w
  have hW2 := fun w => trWhen_any bb 9 w
  generalize (if (!nb) = true then (8 : Int) else 0) = e1 at *
  generalize (if bb = true then (9 : Int) else 0) = e2 at *
  have hF := hF0 e1 e2
  rw [HY.out] at hF
  clear hF0
  go_enter Tryz.func104, Tryz.ntmps104
  go_wp2_with fail
  go_region_held3 (fun w' => w'.cell? ⟨g, 0, none⟩ = some (.slice (some ⟨b, off, none⟩) n cap) ∧ Below w.heap.size w w') ((go_split_ands; (first | (refine ⟨HB.out _ (Below.drew (Below.refl _ _)), Below.drew (Below.refl _ _)⟩) | (refine ⟨by assumption, by assumption⟩) | (have hbn := bstep (by assumption) (by assumption); exact ⟨HB.out _ hbn, hbn⟩) | (exact ⟨HB.out _ (balloc _ (by assumption)), balloc _ (by assumption)⟩)))) ((first | (go_at_call 105; (with_reducible refine (hN _).mono ?_); rintro e w' ⟨rfl, hbw⟩) | (go_at_call 51; (first | (with_reducible refine (hW1 _).mono ?_) | (with_reducible refine (hW2 _).mono ?_)); rintro e w' ⟨rfl, rfl⟩) | (go_at_call 106; (refine (HCo.out _ _ (by first | assumption | exact (And.right (by assumption)) | exact (Below.drew (Below.refl _ _)))).mono ?_); rintro e w' ⟨rfl, rfl⟩) | (go_at_call 50; (refine (hF _ _ ?_).mono ?_); (exact es2 _ _ _ _); rintro e w' ⟨rfl, rfl⟩)))
  all_goals
    rename_i hH
    have hb3 := hH.2
    clear hH
    go_wp2
    go_ret
    exact ⟨rfl, hb3⟩
end Go.Mk
