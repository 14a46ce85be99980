/-
  Proved: the sort of the remainders leaves them in their order (by the library's contract for slices.SortFunc, laid at this program). No condition.
-/
import Derived.Test.YtapglbjojpkblaaGreatDoorSx
import Derived.Test.YtapglbjojpkblaaGreatDoorSl
set_option linter.unusedVariables false
set_option linter.unusedSimpArgs false
open Go Go.Proofs Go.RowKit
set_option maxRecDepth 100000
namespace Go.Mk
theorem swoR : Go.Sort.SWO (Go.Proofs.ltOf cmpR) where
  irrefl x := by
    unfold Go.Proofs.ltOf
    rw [decide_eq_false_iff_not, cmpR_lt]
    omega
  trans x y z h1 h2 := by
    unfold Go.Proofs.ltOf at *
    rw [decide_eq_true_eq, cmpR_lt] at *
    omega
  ntrans x y z h1 h2 := by
    unfold Go.Proofs.ltOf at *
    rw [decide_eq_false_iff_not, cmpR_lt] at *
    omega
theorem cmpLays (blk size : Nat) (w : World) : Go.Proofs.CmpLays Tryz.prog 44 #[] encR 2 cmpR blk 0 size w :=
  fun _ _ _ _ x y => remCompare_any x y _
theorem holds_of {W : World} {blk : Nat} {D : List (Int × Int)} (h : RowP W blk D) : Go.Sort.HoldsK encR 2 W blk 0 D.toArray := by
  intro j hj
  have hj' : j < D.length * 2 := by simpa using hj
  rw [Go.Sort.get_flatK encR 2 D.toArray j (by simpa using hj')]
  have hd : j / 2 < D.length := by omega
  obtain ⟨h1, h2, h3, h4⟩ := h.2 (j / 2) D[j / 2] (List.getElem?_eq_getElem hd)
  have e : (D.toArray)[j / 2]! = D[j / 2] := by simp [hd]
  rw [e, Nat.zero_add]
  rcases (show j % 2 = 0 ∨ j % 2 = 1 by omega) with q | q
  · have e2 : j = j / 2 * 2 := by omega
    rw [q]
    rw [← e2] at h1 h3
    exact ⟨h1, h3⟩
  · have e2 : j = j / 2 * 2 + 1 := by omega
    rw [q]
    rw [← e2] at h2 h4
    exact ⟨h2, h4⟩
theorem row_of {W : World} {blk : Nat} {d : Array (Int × Int)} (hb : blk < W.heap.size) (h : Go.Sort.HoldsK encR 2 W blk 0 d) : RowP W blk d.toList := by
  refine ⟨hb, fun j x hx => ?_⟩
  have hj : j < d.size := by
    have := (List.getElem?_eq_some_iff.1 hx).1
    simpa using this
  have e : d[j]! = x := by
    have := (List.getElem?_eq_some_iff.1 hx).2
    simpa [hj] using this
  have a := h.cell (i := j) (c := 0) hj (by omega)
  have b := h.cell (i := j) (c := 1) hj (by omega)
  rw [e, Nat.zero_add] at a b
  exact ⟨a.1, b.1, a.2, b.2⟩
theorem sortOK : SortOK := by
  intro W blk n cap D hD hn hR
  subst hD
  have eg : ∀ args w, (callFunc 44 args).run Tryz.prog w = .ok (.enter 44 args) w := enters_of Tryz.func44 (by kernel_rfl) rfl
  have hcon := Go.Proofs.AnyQ.slices_SortFunc Tryz.sortRem 2 Tryz.isAgg87 Tryz.sizeOf87 encR (fun _ => rfl) (fun x v hv => by simp [encR] at hv; rcases hv with rfl | rfl <;> rfl) cmpR swoR 44 #[] blk 0 cap D.toArray W eg (cmpLays blk D.toArray.size W) (holds_of hR) hR.1 (by simp; omega)
  change Calls Tryz.prog 43 _ _ _ at hcon
  refine hcon.mono ?_
  rintro e w' ⟨rfl, d', m, os, hp, hs, rfl⟩
  obtain ⟨hsz, _, hperm⟩ := hp
  have hsz' : d'.size = D.length := by simpa using hsz
  refine ⟨rfl, d'.toList, ?_, ?_, ?_, below_sort (Nat.le_refl _) (Nat.le_of_lt hR.1)⟩
  · have e1 : d'.extract 0 D.toArray.size = d' := by
      apply Array.ext
      · simp [hsz']
      · intro i h1 h2; simp
    have e2 : D.toArray.extract 0 D.toArray.size = D.toArray := by
      apply Array.ext
      · simp
      · intro i h1 h2; simp
    rw [e1, e2] at hperm
    simpa using hperm
  · rw [List.pairwise_iff_getElem]
    intro i j hi hj hij
    have hi' : i < d'.size := by simpa using hi
    have hj' : j < d'.size := by simpa using hj
    have := hs i j (Nat.zero_le _) hij (by rw [← hsz]; exact hj')
    unfold Go.Proofs.ltOf at this
    rw [decide_eq_false_iff_not] at this
    simp only [hi', hj', getElem!_pos, Array.getElem_toList] at this ⊢
    omega
  · refine row_of ?_ ?_
    · exact Nat.lt_of_lt_of_le hR.1 (below_sort (K := 0) (Nat.zero_le _) (Nat.zero_le _)).size
    · have h0 := holds_of hR
      have h1 := Go.Sort.holdsK_putRowK encR 2 (Go.Sort.ahead W m) blk 0 D.toArray d' (Go.Sort.holdsK_ahead encR 2 W m blk 0 _ h0) (by simpa using hsz)
      exact Go.Sort.holdsK_grow encR 2 _ os blk 0 d' (by have := (below_sort (w := W) (blk := blk) (off := 0) (m := m) (d := d') (os := #[]) (K := 0) (Nat.zero_le _) (Nat.zero_le _)).size; have h9 := hR.1; simp [Go.Proofs.sortWorldK] at this; omega) h1
end Go.Mk
