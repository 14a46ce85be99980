/-
  Proved: the keys of a map of names, sorted, by package track (sortedKeys). Conditions: the map is the call's own and holds just the names of a list, each once; there are at most 100,000.
-/
import Derived.Test.YtnknmplepgmfmaaGreatDoorXk
import Derived.Test.YtnknmplepgmfmaaGreatDoorXj
set_option linter.unusedVariables false
set_option linter.unusedSimpArgs false
open Go Go.Proofs Go.RowKit Go.Maps Go.Sort Go.Shelf Go.WideMaps
set_option maxRecDepth 100000
namespace Go.Mk
/-- slices.Sort's two contracts, at the fence that asks nothing. -/
theorem sortsS (m : Nat) : AnyZ.SortsIn Tryz.prog Tryz.sortedS_ren Fence.wide m :=
  ⟨fun blk off cap ss W hH hblk hsz => callsIn_wide.2 (AnyM.slices_Sort_string Tryz.sortS blk off cap ss W hH hblk hsz),
   fun p cap W => callsIn_wide.2 (AnyM.slices_Sort_string_none Tryz.sortS p cap W)⟩
set_option maxHeartbeats 2000000 in
theorem trSorted_row {H : Type} (b nn : Nat) (D0 : DataW H) (R : Value → Option (DataW H × List MemPlace)) (w : World) (hown : w.ownsMap Tryz.prog 9 R b nn D0) (hmax : Maps.size D0 ≤ maxLen) (hbytes : Maps.size D0 * 16 ≤ 140737488355328) :
    Calls Tryz.prog 71 #[.map (some b)] w fun e w' => ∃ (v : Value) (ss : List (List UInt8)), e = .returned v ∧ ss.Perm (strKeys D0) ∧
      w'.ownsRow w.heap.size 9 1 v ss.length ((ss.mergeSort (fun x y => decide (x ≤ y))).map encStr) ∧ (v = .slice none 0 0 ↔ ss = []) ∧ Below w.heap.size w w' := by
  refine (callsIn_wide (n := 6)).1 ?_
  have hbl := hown.lt
  have hseq : SeqGives Fence.wide 2 Tryz.prog 131 #[.pointer (some ⟨w.heap.size, 0, none⟩)] encStr (fun ss => ss.Perm (strKeys D0)) (Maps.size D0) (w.alloc (.cells #[.map (some b)] 117)) :=
    AnyZ.keys_gives (ρ := Tryz.keysSB_ren) { Tryz.keysSB with } Fence.wide _ trivial rfl (by omega) w.heap.size b nn D0 _ (by simp) (by simp) (by
      obtain ⟨es, clock, hb, Ft, hs, hD⟩ := hown
      exact ⟨es, clock, (Below.heap_alloc _ _ b hbl).trans hb, Ft, hs, hD⟩)
  have cK : ∀ mb W, CallsIn Fence.wide 5 Tryz.prog 108 #[.map mb] W fun e w' => e = .returned (.func (.func 131) #[] #[.pointer (some ⟨W.heap.size, 0, none⟩)]) ∧ w' = W.alloc (.cells #[.map mb] 117) := fun mb W => AnyZ.keys_in Tryz.keysSB Fence.wide 5 trivial rfl mb W
  have cS := AnyZ.sorted_in Tryz.sortedS Fence.wide 5 trivial trivial trivial trivial rfl (by omega) (sortsS _) (enters_of Tryz.func130 (by kernel_rfl) rfl) 131 #[.pointer (some ⟨w.heap.size, 0, none⟩)] trivial (enters_of Tryz.func131 (by kernel_rfl) rfl) _ _ hmax hbytes _ hseq
  change CallsIn _ _ Tryz.prog 107 _ _ _ at cS
  have hfK : Fence.wide.fn 108 := trivial
  have hfS : Fence.wide.fn 107 := trivial
  refine callsIn_of_wp Tryz.func71 rfl trivial ?_ rfl
  simp only [Tryz.ntmps71, List.size_toArray, List.length_cons, List.length_nil, Nat.reduceAdd, Nat.reduceSub, Array.replicate_succ, Array.replicate_zero, List.push_toArray, List.append_toArray, List.nil_append, List.cons_append]
  gi_wp2_with (first
    | (gi_at_call 108; refine (cK _ _).mono ?_; rintro e w' ⟨rfl, rfl⟩)
    | (gi_at_call 107; refine cS.mono ?_; rintro e w' ⟨v, ss, rfl, hS, hrow, hnil, hb⟩))
  go_ret
  exact ⟨v, ss, rfl, hS, ownsRow_base_a hrow (by simp), hnil, ((Below.refl _ w).alloc (Nat.le_refl _) _).trans (hb.mono (by simp))⟩
/-- The texts of a list, sorted by their bytes. -/
def srtB (P : List ByteArray) : List ByteArray := ((P.map fun s => s.data.toList).mergeSort fun x y => decide (x ≤ y)).map fun l => ⟨⟨l⟩⟩
/-- Texts in new memory. -/
def OwnNames (w : World) (B : Nat) (v : Value) (L : List ByteArray) : Prop := w.ownsRow B 9 1 v L.length (L.map Value.string)
theorem keys_perm {w : World} {B n : Nat} {P : List ByteArray} {D : DataW Unit} (hown : w.ownsMap Tryz.prog 9 (plainElem Tryz.prog 4) B n D) (hm : Tidy D) (hD : ∀ s : ByteArray, Maps.has D (.string s.data.toList) = isIn P s) (hP : P.Nodup) :
    (P.map fun s => s.data.toList).Perm (strKeys D) := by
  obtain ⟨es, hDe, hpw, _⟩ := hown.entries setKeyed
  obtain ⟨es', hD', hko⟩ := hown.keysOf
  obtain rfl : es = es' := by rw [hDe] at hD'; simpa using hD'
  subst hDe
  refine perm_strKeys hpw (fun p hp => by obtain ⟨v, hv⟩ := hko p hp; obtain ⟨x, _, hx, _⟩ := Maps.keyOf_str Tryz.underlying9 hv; exact ⟨x, hx⟩) ?_ ?_
  · exact List.pairwise_map.2 (hP.imp fun {a b} hne e => hne (ByteArray.ext (Array.toList_inj.1 e)))
  · intro x
    have h := hD ⟨⟨x⟩⟩
    rw [show ((⟨⟨x⟩⟩ : ByteArray).data.toList) = x from rfl] at h
    rw [h, isIn_mem, List.mem_map]
    constructor
    · rintro ⟨s, hs, rfl⟩
      exact hs
    · intro hs
      exact ⟨_, hs, rfl⟩
theorem srtB_len (P : List ByteArray) : (srtB P).length = P.length := by simp [srtB]
theorem trSortedKeys_any (B n : Nat) (P : List ByteArray) (w : World) (hM : NSet w B n P) (hP : P.Nodup) (hs : P.length ≤ 100000) :
    Calls Tryz.prog 71 #[.map (some B)] w (fun e w' => ∃ v, e = .returned v ∧ OwnNames w' w.heap.size v (srtB P) ∧ Below w.heap.size w w') := by
  obtain ⟨D, ho, hm, hz, hD⟩ := hM
  refine (trSorted_row B n D _ w ho (by unfold maxLen; omega) (by omega)).mono ?_
  rintro e w' ⟨v, ss, rfl, hp, hrow, _, hb⟩
  refine ⟨v, rfl, ?_, hb⟩
  have hpp := keys_perm ho hm hD hP
  have hpq := hp.trans hpp.symm
  have hl : ss.length = (srtB P).length := by rw [srtB_len, hpq.length_eq, List.length_map]
  unfold OwnNames
  rw [← hl]
  have he : ss.mergeSort (fun x y => decide (x ≤ y)) = (P.map fun s => s.data.toList).mergeSort (fun x y => decide (x ≤ y)) := mergeSort_of_perm hpq
  rw [he] at hrow
  have hmm : ((srtB P).map Value.string) = ((P.map fun s => s.data.toList).mergeSort fun x y => decide (x ≤ y)).map encStr := by
    unfold srtB
    rw [List.map_map]
    rfl
  rw [hmm]
  exact hrow
end Go.Mk
