/-
  Proved: Finalists of the reference: the names of the rows that have more trials, in their order, in new memory. Conditions: as finalists of the reference.
-/
import Derived.Test.YtclapdfkgafenaaGreatDoorFuf
set_option linter.unusedVariables false
set_option linter.unusedSimpArgs false
open Go Go.Proofs Go.RowKit Go.Sort
set_option maxRecDepth 100000
namespace Go.Mk
set_option maxHeartbeats 8000000 in
theorem r6Finalists_any (L : List RowR) (n cap t f nN cN : Nat) (m0 : Int) (A AN : Option Addr) (w : World) (hZ : Rows w A n L) (hn : n ≤ 40) (hs : ∀ r ∈ L, r.n ≤ 12 ∧ r.T.length = r.n) (ht : t ≤ 1000) (hf : f ≤ 1000) :
    Calls Tryz.prog 21 #[.agg #[.slice AN nN cN, .int .i64 (t : Nat), .int .i64 (f : Nat), .int .i64 m0], .slice A n cap] w (fun e w' => ∃ v, e = .returned v ∧ OwnNames w' w.heap.size v ((finT (rkE t L) f n).map fun x => (L.map (·.s)).getD x.toNat ⟨#[]⟩) ∧ Below w.heap.size w w') := by
  obtain ⟨i0, hi, hz0, hz1, hz2⟩ := info_parts infoStr
  have hni : (n : Int) ≤ 40 := by omega
  obtain ⟨bx, hbx⟩ : ∃ bx, w.heap.size = bx := ⟨_, rfl⟩
  obtain ⟨w1, hw1⟩ : ∃ w1, w.alloc (.cells #[.slice AN nN cN, .int .i64 (t : Nat), .int .i64 (f : Nat), .int .i64 m0] 48) = w1 := ⟨_, rfl⟩
  have hb1 : Below w.heap.size w w1 := by rw [← hw1]; exact balloc _ (Below.refl _ _)
  have k0 : w1.cell? ⟨bx, 0, none⟩ = some (.slice AN nN cN) := by rw [← hw1, ← hbx]; simp
  have k1 : w1.cell? ⟨bx, 1, none⟩ = some (.int .i64 (t : Nat)) := by rw [← hw1, ← hbx]; simp
  have k2 : w1.cell? ⟨bx, 2, none⟩ = some (.int .i64 (f : Nat)) := by rw [← hw1, ← hbx]; simp
  have k3 : w1.cell? ⟨bx, 3, none⟩ = some (.int .i64 m0) := by rw [← hw1, ← hbx]; simp
  have hF := r6Fins_any L n cap t f nN cN m0 A AN w1 (hZ.below hb1) hn hs ht hf
  have H := Lib.hid (hZ.below hb1)
  have HL : Hid (L.length = n) := Lib.hid hZ.1
  have HB1 := Lib.hid hb1
  have hTm : ∀ x ∈ finT (rkE t L) f n, 0 ≤ x ∧ x < n := fun x hx => selT_mem ((finT_perm (rkE t L) f n).mem_iff.1 hx)
  have hTl : (finT (rkE t L) f n).length ≤ 40 := by
    have := (finT_perm (rkE t L) f n).length_eq
    have := selT_len (rkE t L) f n
    omega
  obtain ⟨F, hFF⟩ : ∃ F, finT (rkE t L) f n = F := ⟨_, rfl⟩
  rw [hFF] at hF hTm hTl ⊢
  have HT := Lib.hid (And.intro hTm hTl)
  clear hZ hb1 hTm hTl hFF hs
  go_enter Tryz.func21, Tryz.ntmps21
  go_wp2_with fail
  refine hF.mono ?_
  rintro e w2 ⟨v2, rfl, ho2, hb2⟩
  obtain ⟨A2, c2, rfl, hI2⟩ := IntsZ.of_own ho2
  obtain ⟨l, hl⟩ : ∃ l, F.length = l := ⟨_, rfl⟩
  rw [hl] at hI2 ⊢
  have hl40 : l ≤ 40 := by rw [← hl]; exact HT.out.2
  have hli : (l : Int) ≤ 40 := by omega
  have HI := Lib.hid hI2
  have HLl := Lib.hid hl
  have HB2 := Lib.hid (And.intro hb2 (bstep HB1.out hb2))
  clear ho2 hI2 hb2 hF k0 k1 k2 k3 hl
  go_wp2
  go_loopw [5, 7] (fun v i wr => ∃ k : Nat, k ≤ l ∧ i = .int .i64 k ∧ OwnNames wr w2.heap.size v ((F.take k).map fun x => (L.map (·.s)).getD x.toNat ⟨#[]⟩) ∧ Below w2.heap.size w2 wr) (fun _ i _ => l - (intOf i).toNat)
  case atStart => exact ⟨0, by omega, rfl, World.ownsRow_nil _ _ _ _, Below.refl _ _⟩
  case round =>
    obtain ⟨k, hk, rfl, hown, hb⟩ := hrel
    by_cases hlt : k < l
    · obtain ⟨b3, off3, x, rfl, _, hx, c3'⟩ := (HI.out.below hb).cellAt hlt
      obtain ⟨hx0, hx1⟩ := HT.out.1 x (List.mem_of_getElem? hx)
      obtain ⟨q, rfl⟩ := Int.eq_ofNat_of_zero_le hx0
      have hqn : q < n := by omega
      obtain ⟨b', off, r, rfl, hbl, hxr, ⟨d0, _, _⟩, _, _⟩ := ((H.out.below HB2.out.1).below hb).at_ hqn
      have hki : (k : Int) < (l : Int) := by omega
      have hk0 : (0 : Int) ≤ (k : Int) := by omega
      have hkt : ((k : Int)).toNat = k := by omega
      have hqi : (q : Int) < (n : Int) := by omega
      have hqt : ((q : Int)).toNat = q := by omega
      have hq0 : (0 : Int) ≤ (q : Int) := by omega
      have hst : ((F.take (k + 1)).map fun x => (L.map (·.s)).getD x.toNat ⟨#[]⟩) = ((F.take k).map fun x => (L.map (·.s)).getD x.toNat ⟨#[]⟩) ++ [r.s] := by
        rw [List.take_add_one, hx, Option.toList_some, List.map_append, List.map_cons, List.map_nil, Int.toNat_natCast, List.getD_eq_getElem?_getD, List.getElem?_map, hxr]
        rfl
      have hlen : ((F.take k).map fun x => (L.map (·.s)).getD x.toNat ⟨#[]⟩).length = k := by rw [List.length_map, List.length_take, HLl.out]; omega
      obtain ⟨G, hG⟩ : ∃ G, ((F.take k).map fun x => (L.map (·.s)).getD x.toNat ⟨#[]⟩) = G := ⟨_, rfl⟩
      rw [hG] at hst hlen hown
      obtain ⟨s, hs⟩ : ∃ s, r.s = s := ⟨_, rfl⟩
      rw [hs] at hst d0
      have Hst := Lib.hid hst
      have Hlen := Lib.hid hlen
      have HB := Lib.hid hb
      clear hst hlen hG hx hxr hb hs hx0 hx1
      go_wp2_with (at_builtin; refine wpList_append_own _ rfl _ _ 46 rfl w2.heap.size 9 i0 (.string ⟨#[]⟩) 1 16 Tryz.underlying46 hi hz0 hz1 hz2 rfl (by decide) _ _ _ rfl (World.ownsRow.alloc hown _) ⟨_, 0, none⟩ 1 1 [.string s] rfl rfl ?c1 ?c2 ?c3 ?c4 ?c5 ?_)
      case c1 =>
        intro j u hj
        match j, hj with
        | 0, hj => simp at hj; subst hj; simp [Addr.add]
      case c2 => intro u hu; simp at hu; subst hu; rfl
      case c3 => unfold maxLen; have := Hlen.out; omega
      case c4 => have := Hlen.out; omega
      case c5 => have := HB.out.size; simp; omega
      intro v' w9 hown' hgrow _
      have hb9 : Below w2.heap.size w2 w9 := (HB.out.alloc HB.out.size _).grown hgrow (by have := HB.out.size; simp; omega) (fun r hr => (World.ownsRow.lt hown r hr).1)
      have ho9 : OwnNames w9 w2.heap.size v' ((F.take (k + 1)).map fun x => (L.map (·.s)).getD x.toNat ⟨#[]⟩) := by
        rw [Hst.out]
        refine OwnNames.next ?_
        simpa using hown'
      clear hown' hgrow hown c3' d0
      go_wp2
      exact ⟨⟨k + 1, by omega, by go_num, ho9, hb9⟩, by simp [intOf]; omega⟩
    · have hkn : k = l := by omega
      rw [hkn, List.take_of_length_le (by rw [HLl.out]; omega)] at hown
      have HO := Lib.hid (And.intro (ownsRow_low hown HB2.out.2.size) (bstep HB2.out.2 hb))
      clear hown hb
      go_wp2
      go_ret
      try rw [← hbx]
      exact ⟨_, rfl, HO.out⟩
end Go.Mk
