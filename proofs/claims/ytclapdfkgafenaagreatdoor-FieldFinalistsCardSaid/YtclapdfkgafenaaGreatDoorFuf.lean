/-
  Proved: finalists of the reference: the numbers of the rows that have more trials, in their order, in new memory. Conditions: up to 40 rows lie where the slice says, with up to 12 trials each; the trials and the finalists of the competition are from 0 to 1000.
-/
import Derived.Test.YtclapdfkgafenaaGreatDoorFue
import Derived.Test.YtclapdfkgafenaaGreatDoorFrg
set_option linter.unusedVariables false
set_option linter.unusedSimpArgs false
open Go Go.Proofs Go.RowKit Go.Sort
set_option maxRecDepth 100000
namespace Go.Mk
def OwnEarlR (w : World) (B : Nat) (v : Value) (L : List RowR) : Prop := w.ownsRow B 62 3 v L.length (L.flatMap rowC)
theorem OwnEarlR.next {w1 : World} {B : Nat} {v' : Value} {L : List RowR} {p : RowR} (h : w1.ownsRow B 62 3 v' (L.length + 1) (L.flatMap rowC ++ rowC p)) : OwnEarlR w1 B v' (L ++ [p]) := by
  unfold OwnEarlR
  rw [List.length_append, List.flatMap_append]
  simpa using h
theorem Rows.of_earlR {w w1 : World} {A : Option Addr} {n t B : Nat} {v : Value} {L : List RowR} (h : OwnEarlR w1 B v (L.map (earl t))) (hZ : Rows w A n L) (hb : Below w.heap.size w w1) : ∃ A' c, v = .slice A' n c ∧ Rows w1 A' n (L.map (earl t)) := by
  have hl : (L.map (earl t)).length = n := by rw [List.length_map]; exact hZ.1
  rcases h.2 with ⟨a, b⟩ | ⟨g, cap, cur, a, b, c, d, e1, f, hx⟩
  · rw [hl] at b
    exact ⟨none, 0, by rw [a, b], hl, fun hn => absurd hn (by omega)⟩
  · have h1 := h
    unfold OwnEarlR at h1
    rw [a] at h1
    rw [hl] at a
    refine ⟨_, cap, a, hl, fun _ => ⟨g, 0, rfl, (Array.getElem?_eq_some_iff.1 c).1, fun j p hp => ?_⟩⟩
    have hj := (List.getElem?_eq_some_iff.1 hp).1
    rw [List.length_map] at hj
    have hr : (L.map (earl t))[j]? = some (earl t L[j]) := by rw [List.getElem?_map, List.getElem?_eq_getElem hj]; rfl
    rw [hr] at hp
    obtain rfl := Option.some.inj hp
    obtain ⟨b', off, r, _, _, hxr, _, hT, hcp⟩ := hZ.at_ (k := j) (by rw [← hZ.1]; exact hj)
    rw [List.getElem?_eq_getElem hj] at hxr
    have er := Option.some.inj hxr
    rw [er] at hr ⊢
    refine ⟨?_, ?_, ?_, ?_, ?_⟩
    · rw [Nat.zero_add, World.ownsRow.cellAt h1 (j * 3) (by rw [List.length_map]; omega)]; exact (rowC_at _ j _ 0 hr (by decide)).trans rfl
    · rw [Nat.zero_add, World.ownsRow.cellAt h1 (j * 3 + 1) (by rw [List.length_map]; omega)]; exact (rowC_at _ j _ 1 hr (by decide)).trans rfl
    · rw [Nat.zero_add, World.ownsRow.cellAt h1 (j * 3 + 2) (by rw [List.length_map]; omega)]; exact (rowC_at _ j _ 2 hr (by decide)).trans rfl
    · have hT1 := hT.below hb
      refine ⟨by show (r.T.take (min t r.n)).length = min t r.n; rw [List.length_take, hT.1]; omega, fun h0 => ?_⟩
      have h0' : 0 < r.n := by have h00 : 0 < min t r.n := h0; omega
      obtain ⟨g2, o2, e2, hlt, hcc⟩ := hT1.2 h0'
      refine ⟨g2, o2, e2, hlt, fun k x hk => hcc k x ?_⟩
      unfold earl at hk
      dsimp only at hk
      rw [List.getElem?_take] at hk
      split at hk
      · exact hk
      · cases hk
    · show min t r.n ≤ r.c; omega
theorem infoRowR : (Tryz.prog.info? 62).map (fun i => (i.zero, i.size, i.bytes)) = some (some (.agg #[.string ⟨#[]⟩, .slice none 0 0, .bool false]), 3, 48) := by kernel_rfl
theorem rksZ_rkE (t : Nat) (L : List RowR) : rksZ (L.map (earl t)) = (rkE t L).map fun (x : Nat) => (x : Int) := by
  unfold rksZ rkE ranksB
  rw [List.length_map, List.map_map]
  rfl
theorem byKey_succ (key : Int → Int) (n m : Nat) : byKey key n (m + 1) = byKey key n m ++ (toks n).filter fun i => decide (key i = (m : Int) + 1) := by
  unfold byKey
  rw [List.range_succ, List.flatMap_append]
  simp
theorem toksF_succ (p : Int → Bool) (k : Nat) : (toks (k + 1)).filter p = (toks k).filter p ++ (if p (k : Int) then [(k : Int)] else []) := by
  unfold toks
  rw [List.range_succ, List.map_append, List.filter_append]
  congr 1
  simp only [List.map_cons, List.map_nil, List.filter_cons, List.filter_nil]
set_option maxHeartbeats 8000000 in
theorem r6Fins_any (L : List RowR) (n cap t f nN cN : Nat) (m0 : Int) (A AN : Option Addr) (w : World) (hZ : Rows w A n L) (hn : n ≤ 40) (hs : ∀ r ∈ L, r.n ≤ 12 ∧ r.T.length = r.n) (ht : t ≤ 1000) (hf : f ≤ 1000) :
    Calls Tryz.prog 63 #[.agg #[.slice AN nN cN, .int .i64 (t : Nat), .int .i64 (f : Nat), .int .i64 m0], .slice A n cap] w (fun e w' => ∃ v, e = .returned v ∧ OwnZ w' w.heap.size v (finT (rkE t L) f n) ∧ Below w.heap.size w w') := by
  obtain ⟨i0, hi, hz0, hz1, hz2⟩ := info_parts infoRowR
  obtain ⟨i1, hj', hy0, hy1, hy2⟩ := info_parts infoInt
  have hni : (n : Int) ≤ 40 := by omega
  obtain ⟨bx, hbx⟩ : ∃ bx, w.heap.size = bx := ⟨_, rfl⟩
  obtain ⟨w1, hw1⟩ : ∃ w1, w.alloc (.cells #[.slice AN nN cN, .int .i64 (t : Nat), .int .i64 (f : Nat), .int .i64 m0] 48) = w1 := ⟨_, rfl⟩
  have hb1 : Below w.heap.size w w1 := by rw [← hw1]; exact balloc _ (Below.refl _ _)
  have hx1 : bx < w1.heap.size := by rw [← hw1, ← hbx]; simp
  have c1 : w1.cell? ⟨bx, 1, none⟩ = some (.int .i64 (t : Nat)) := by rw [← hw1, ← hbx]; simp
  have c2 : w1.cell? ⟨bx, 2, none⟩ = some (.int .i64 (f : Nat)) := by rw [← hw1, ← hbx]; simp
  have H := Lib.hid (hZ.below hb1)
  have HL : Hid (L.length = n) := Lib.hid hZ.1
  have HS := Lib.hid hs
  have HB1 := Lib.hid hb1
  have HC := Lib.hid (And.intro hx1 (And.intro c1 c2))
  have eR := rksZ_rkE t L
  have hRl : (rkE t L).length = n := by unfold rkE ranksB; rw [List.length_map, List.length_range]; exact hZ.1
  have hle : ∀ x ∈ rkE t L, x ≤ n + 1 := by unfold rkE; rw [hZ.1]; exact rksB_le _ _ n
  obtain ⟨R, hR⟩ : ∃ R, rkE t L = R := ⟨_, rfl⟩
  rw [hR] at eR hRl hle ⊢
  have HRR := Lib.hid (And.intro eR (And.intro hRl hle))
  clear hZ hs hb1 hx1 c1 c2 eR hRl hle hR
  go_enter Tryz.func63, Tryz.ntmps63
  go_wp2
  go_loopw [5, 6] (fun v i wr => ∃ k : Nat, k ≤ n ∧ i = .int .i64 k ∧ OwnEarlR wr w1.heap.size v ((L.take k).map (earl t)) ∧ Below w1.heap.size w1 wr) (fun _ i _ => n - (RowKit.intOf i).toNat)
  case atStart => exact ⟨0, by omega, rfl, World.ownsRow_nil _ _ _ _, Below.refl _ _⟩
  case round =>
    obtain ⟨k, hk, rfl, hown, hb⟩ := hrel
    by_cases hlt : k < n
    · obtain ⟨b', off, r, rfl, hbl, hx, ⟨d0, d1, d2⟩, _, hcap⟩ := H.out.at_ hlt
      have hki : (k : Int) < (n : Int) := by omega
      have hk0 : (0 : Int) ≤ (k : Int) := by omega
      have hkt : ((k : Int)).toNat = k := by omega
      have hrn := (HS.out r (List.mem_of_getElem? hx)).1
      have hst : (L.take (k + 1)).map (earl t) = (L.take k).map (earl t) ++ [earl t r] := by rw [List.take_add_one, hx, Option.toList_some, List.map_append]; rfl
      have hlen : ((L.take k).map (earl t)).length = k := by rw [List.length_map, List.length_take, HL.out]; omega
      have Hst := Lib.hid hst
      have Hlen := Lib.hid hlen
      obtain ⟨m, hm⟩ : ∃ m, min t r.n = m := ⟨_, rfl⟩
      have hec : rowC (earl t r) = [.string r.s, .slice r.A m r.c, .bool false] := by rw [← hm]; rfl
      have Hec := Lib.hid hec
      obtain ⟨nm, rA, rn, rc, rT, rt⟩ := r
      dsimp only at *
      have hmi : (m : Int) ≤ (rc : Int) := by omega
      have hm0 : (0 : Int) ≤ (m : Int) := by omega
      have hmt : ((m : Int)).toNat = m := by omega
      have hmin : (if t < rn then (t : Int) else (rn : Int)) = (m : Int) := by split <;> omega
      have hsl : (if rc = 0 then rA else Option.map (fun x => Addr.add x 0) rA) = rA := by
        split
        · rfl
        · cases rA <;> rfl
      have HX : Hid (∀ w' : World, Below w1.heap.size w1 w' → w'.cell? ⟨b', off + k * 3, none⟩ = some (.string nm) ∧ w'.cell? ⟨b', off + k * 3 + 1, none⟩ = some (.slice rA rn rc) ∧ w'.cell? ⟨bx, 1, none⟩ = some (.int .i64 (t : Nat)) ∧ Below w1.heap.size w1 w') := Lib.hid (fun w' hq =>
        ⟨(hq.cell (p := ⟨b', off + k * 3, none⟩) hbl).trans d0, (hq.cell (p := ⟨b', off + k * 3 + 1, none⟩) hbl).trans d1, (hq.cell (p := ⟨bx, 1, none⟩) HC.out.1).trans HC.out.2.1, hq⟩)
      have HO := Lib.hid hown
      have HB := Lib.hid hb
      clear hst hlen hec hx hown hb d0 d1 d2 hcap hm
      go_wp2_with fail
      refine wp_region_held_drew (S := fun w' => w'.cell? ⟨b', off + k * 3, none⟩ = some (.string nm) ∧ w'.cell? ⟨b', off + k * 3 + 1, none⟩ = some (.slice rA rn rc) ∧ w'.cell? ⟨bx, 1, none⟩ = some (.int .i64 (t : Nat)) ∧ Below w1.heap.size w1 w') (by kernel_rfl) ?_ (fun hHeld => ?_)
      · exact HX.out _ (Below.drew HB.out)
      refine zT (i := 0) (v := ?_) rfl (Or.inl ⟨by kernel_rfl, ?_⟩) ?_
      rotate_left
      · rintro w ⟨s0, s1, s2, s3⟩
        go_simp
        try with_reducible rfl
      try simp only [Act.put, zA1, zA2, zA3, zA4, zA5, zA6]
      refine zT (i := 1) (v := ?_) rfl (Or.inl ⟨by kernel_rfl, ?_⟩) ?_
      rotate_left
      · rintro w ⟨s0, s1, s2, s3⟩
        go_simp
        try with_reducible rfl
      try simp only [Act.put, zA1, zA2, zA3, zA4, zA5, zA6]
      refine zT (i := 2) (v := ?_) rfl (Or.inl ⟨by kernel_rfl, ?_⟩) ?_
      rotate_left
      · rintro w ⟨s0, s1, s2, s3⟩
        go_simp
        try with_reducible rfl
      try simp only [Act.put, zA1, zA2, zA3, zA4, zA5, zA6]
      refine zT (i := 3) (v := ?_) rfl (Or.inl ⟨by kernel_rfl, ?_⟩) ?_
      rotate_left
      · rintro w ⟨s0, s1, s2, s3⟩
        go_simp
        try with_reducible rfl
      try simp only [Act.put, zA1, zA2, zA3, zA4, zA5, zA6]
      refine zT (i := 4) (v := ?_) rfl (Or.inl ⟨by kernel_rfl, ?_⟩) ?_
      rotate_left
      · rintro w ⟨s0, s1, s2, s3⟩
        go_simp
        try with_reducible rfl
      try simp only [Act.put, zA1, zA2, zA3, zA4, zA5, zA6]
      refine zT (i := 5) (v := ?_) rfl (Or.inl ⟨by kernel_rfl, ?_⟩) ?_
      rotate_left
      · rintro w ⟨s0, s1, s2, s3⟩
        go_simp
        try with_reducible rfl
      try simp only [Act.put, zA1, zA2, zA3, zA4, zA5, zA6]
      refine zT (i := 6) (v := ?_) rfl (Or.inl ⟨by kernel_rfl, ?_⟩) ?_
      rotate_left
      · rintro w ⟨s0, s1, s2, s3⟩
        go_simp
        try with_reducible rfl
      try simp only [Act.put, zA1, zA2, zA3, zA4, zA5, zA6]
      refine zT (i := 7) (v := ?_) rfl (Or.inl ⟨by kernel_rfl, ?_⟩) ?_
      rotate_left
      · rintro w ⟨s0, s1, s2, s3⟩
        go_simp
        try with_reducible rfl
      try simp only [Act.put, zA1, zA2, zA3, zA4, zA5, zA6]
      refine zT (i := 8) (v := ?_) rfl (Or.inl ⟨by kernel_rfl, ?_⟩) ?_
      rotate_left
      · rintro w ⟨s0, s1, s2, s3⟩
        go_simp
        try simp only [hmin]
        try with_reducible rfl
      try simp only [Act.put, zA1, zA2, zA3, zA4, zA5, zA6]
      refine zT (i := 9) (v := ?_) rfl (Or.inl ⟨by kernel_rfl, ?_⟩) ?_
      rotate_left
      · rintro w ⟨s0, s1, s2, s3⟩
        go_simp
        try with_reducible rfl
      try simp only [Act.put, zA1, zA2, zA3, zA4, zA5, zA6]
      refine wpAnyH_done (by kernel_rfl) ?_ _
      clear hHeld
      have hrow0 := ownN HO.out (Below.drew (Below.drew (Below.refl wr.heap.size wr)))
      go_wp2_with fail
      refine wp_region_held_drew (S := fun w' => w'.cell? ⟨b', off + k * 3, none⟩ = some (.string nm) ∧ w'.cell? ⟨b', off + k * 3 + 1, none⟩ = some (.slice rA rn rc) ∧ w'.cell? ⟨bx, 1, none⟩ = some (.int .i64 (t : Nat)) ∧ Below w1.heap.size w1 w') (by kernel_rfl) ?_ (fun hHeld => ?_)
      · exact HX.out _ (Below.drew (Below.drew HB.out))
      generalize (World.drew wr).drew = wd at hHeld hrow0 ⊢
      refine zT (i := 0) (v := ?_) rfl (Or.inl ⟨by kernel_rfl, ?_⟩) ?_
      rotate_left
      · rintro w ⟨s0, s1, s2, s3⟩
        go_simp
        try with_reducible rfl
      try simp only [Act.put, zA1, zA2, zA3, zA4, zA5, zA6]
      refine zT (i := 1) (v := ?_) rfl (Or.inl ⟨by kernel_rfl, ?_⟩) ?_
      rotate_left
      · rintro w ⟨s0, s1, s2, s3⟩
        go_simp
        try with_reducible rfl
      try simp only [Act.put, zA1, zA2, zA3, zA4, zA5, zA6]
      refine zT (i := 2) (v := ?_) rfl (Or.inl ⟨by kernel_rfl, ?_⟩) ?_
      rotate_left
      · rintro w ⟨s0, s1, s2, s3⟩
        go_simp
        try with_reducible rfl
      try simp only [Act.put, zA1, zA2, zA3, zA4, zA5, zA6]
      refine zT (i := 3) (v := ?_) rfl (Or.inl ⟨by kernel_rfl, ?_⟩) ?_
      rotate_left
      · rintro w ⟨s0, s1, s2, s3⟩
        go_simp
        try with_reducible rfl
      try simp only [Act.put, zA1, zA2, zA3, zA4, zA5, zA6]
      refine zT (i := 4) (v := ?_) rfl (Or.inl ⟨by kernel_rfl, ?_⟩) ?_
      rotate_left
      · rintro w ⟨s0, s1, s2, s3⟩
        go_simp
        try with_reducible rfl
      try simp only [Act.put, zA1, zA2, zA3, zA4, zA5, zA6]
      refine zT (i := 5) (v := ?_) rfl (Or.inl ⟨by kernel_rfl, ?_⟩) ?_
      rotate_left
      · rintro w ⟨s0, s1, s2, s3⟩
        go_simp
        try with_reducible rfl
      try simp only [Act.put, zA1, zA2, zA3, zA4, zA5, zA6]
      refine zT (i := 6) (v := ?_) rfl (Or.inl ⟨by kernel_rfl, ?_⟩) ?_
      rotate_left
      · rintro w ⟨s0, s1, s2, s3⟩
        go_simp
        try with_reducible rfl
      try simp only [Act.put, zA1, zA2, zA3, zA4, zA5, zA6]
      refine zT (i := 7) (v := ?_) rfl (Or.inl ⟨by kernel_rfl, ?_⟩) ?_
      rotate_left
      · rintro w ⟨s0, s1, s2, s3⟩
        go_simp
        try with_reducible rfl
      try simp only [Act.put, zA1, zA2, zA3, zA4, zA5, zA6]
      refine zT (i := 8) (v := ?_) rfl (Or.inl ⟨by kernel_rfl, ?_⟩) ?_
      rotate_left
      · rintro w ⟨s0, s1, s2, s3⟩
        go_simp
        try with_reducible rfl
      try simp only [Act.put, zA1, zA2, zA3, zA4, zA5, zA6]
      refine zT (i := 9) (v := ?_) rfl (Or.inl ⟨by kernel_rfl, ?_⟩) ?_
      rotate_left
      · rintro w ⟨s0, s1, s2, s3⟩
        go_simp
        try with_reducible rfl
      try simp only [Act.put, zA1, zA2, zA3, zA4, zA5, zA6]
      refine zT (i := 10) (v := ?_) rfl (Or.inl ⟨by kernel_rfl, ?_⟩) ?_
      rotate_left
      · rintro w ⟨s0, s1, s2, s3⟩
        go_simp
        try with_reducible rfl
      try simp only [Act.put, zA1, zA2, zA3, zA4, zA5, zA6]
      refine zT (i := 11) (v := ?_) rfl (Or.inl ⟨by kernel_rfl, ?_⟩) ?_
      rotate_left
      · rintro w ⟨s0, s1, s2, s3⟩
        go_simp
        try with_reducible rfl
      try simp only [Act.put, zA1, zA2, zA3, zA4, zA5, zA6]
      refine zT (i := 12) (v := ?_) rfl (Or.inl ⟨by kernel_rfl, ?_⟩) ?_
      rotate_left
      · rintro w ⟨s0, s1, s2, s3⟩
        go_simp
        try simp only [hsl, hm0, hmi, hmt, and_self, if_true]
        try with_reducible rfl
      try simp only [Act.put, zA1, zA2, zA3, zA4, zA5, zA6]
      refine zT (i := 13) (v := ?_) rfl (Or.inl ⟨by kernel_rfl, ?_⟩) ?_
      rotate_left
      · rintro w ⟨s0, s1, s2, s3⟩
        go_simp
        try with_reducible rfl
      try simp only [Act.put, zA1, zA2, zA3, zA4, zA5, zA6]
      refine wpAnyH_ready (rs := [14]) (by kernel_rfl) (by simp) ?_
      refine AllReadyH.cons (o := _) rfl (fun K hKK => ?_) AllReadyH.nil
      go_simp
      have hrow := World.ownsRow.alloc hrow0 (.cells #[.string nm, .slice rA m rc, .bool false] 62)
      have hN := HX.out _ (hHeld.2.2.2.alloc hHeld.2.2.2.size (.cells #[.string nm, .slice rA m rc, .bool false] 62))
      have n0 : (wd.alloc (.cells #[.string nm, .slice rA m rc, .bool false] 62)).cell? ⟨wd.heap.size, 0, none⟩ = some (.string nm) := by simp
      have n1 : (wd.alloc (.cells #[.string nm, .slice rA m rc, .bool false] 62)).cell? ⟨wd.heap.size, 1, none⟩ = some (.slice rA m rc) := by simp
      have n2 : (wd.alloc (.cells #[.string nm, .slice rA m rc, .bool false] 62)).cell? ⟨wd.heap.size, 2, none⟩ = some (.bool false) := by simp
      clear hHeld hrow0
      refine hKK.out _ _ ?_ (fun hHeld => ?_)
      · exact hN
      clear hKK K
      try simp only [Act.put, zA1, zA2, zA3, zA4, zA5, zA6]
      clear hN
      generalize wd.alloc (.cells #[.string nm, .slice rA m rc, .bool false] 62) = we at *
      refine wpAnyH_ready (rs := [15]) (by kernel_rfl) (by simp) ?_
      refine AllReadyH.cons (o := _) rfl (fun K hKK => ?_) AllReadyH.nil
      refine step_append_src rfl (.tmp 27) (.tmp 41) 22 rfl w1.heap.size 62 i0 (.agg #[.string ⟨#[]⟩, .slice none 0 0, .bool false]) 3 48 Tryz.underlying22 hi hz0 hz1 hz2 rfl (by decide) _ _ _ rfl hrow _ _ _ ([.string nm, .slice rA m rc, .bool false]) rfl rfl (fun q => by cases q) (fun ad had i u hu => by cases had; match i, hu with | 0, hu => (simp at hu; subst hu; rw [add_at]; exact n0) | 1, hu => (simp at hu; subst hu; rw [add_at]; exact n1) | 2, hu => (simp at hu; subst hu; rw [add_at]; exact n2)) (by intro u hu; simp at hu; rcases hu with rfl | rfl | rfl <;> rfl) (by unfold maxLen; have := Hlen.out; omega) (by have := Hlen.out; omega) hHeld.2.2.2.size ?_
      intro v9 w9 hown9 hgrow hat
      have hN := HX.out _ (hHeld.2.2.2.grown hgrow hHeld.2.2.2.size (fun r hr => (World.ownsRow.lt hrow r hr).1))
      clear hHeld hrow hat hgrow n0 n1 n2
      have hrow := hown9
      clear hown9
      refine hKK.out _ _ ?_ (fun hHeld => ?_)
      · exact hN
      clear hKK K
      try simp only [Act.put, zA1, zA2, zA3, zA4, zA5, zA6]
      clear hN
      refine zT (i := 16) (v := ?_) rfl (Or.inl ⟨by kernel_rfl, ?_⟩) ?_
      rotate_left
      · rintro w ⟨s0, s1, s2, s3⟩
        go_simp
        try with_reducible rfl
      try simp only [Act.put, zA1, zA2, zA3, zA4, zA5, zA6]
      refine wpAnyH_done (by kernel_rfl) ?_ _
      have hN := hHeld.2.2.2
      have ho2 : OwnEarlR w9 w1.heap.size v9 ((L.take (k + 1)).map (earl t)) := by
        rw [Hst.out]
        refine OwnEarlR.next ?_
        rw [Hec.out]
        exact hrow
      clear hHeld hrow
      go_wp2
      exact ⟨⟨k + 1, by omega, by go_num, ho2, hN⟩, by simp [RowKit.intOf]; omega⟩
    · have hkn : k = n := by omega
      rw [hkn, List.take_of_length_le (by rw [HL.out]; omega)] at hown
      obtain ⟨A2, cc2, rfl, hE2⟩ := Rows.of_earlR hown H.out hb
      have hRk := r6RowRanks_any (L.map (earl t)) n cc2 A2 wr hE2 (by omega) (fun r hr => by obtain ⟨q, hq, rfl⟩ := List.mem_map.1 hr; have := (HS.out q hq).1; show min t q.n ≤ 12; omega)
      rw [HRR.out.1] at hRk
      have HB := Lib.hid hb
      clear hown hb hE2 H
      go_wp2_with fail
      refine hRk.mono ?_
      rintro e w3 ⟨v3, rfl, ho3, hb3⟩
      obtain ⟨A3, c3, rfl, hI3⟩ := IntsZ.of_own ho3
      rw [List.length_map, HRR.out.2.1] at hI3 ⊢
      have hb13 : Below w1.heap.size w1 w3 := HB.out.trans (hb3.mono HB.out.size)
      have k2 : w3.cell? ⟨bx, 2, none⟩ = some (.int .i64 (f : Nat)) := (hb13.cell (p := ⟨bx, 2, none⟩) HC.out.1).trans HC.out.2.2
      have HI := Lib.hid hI3
      have HB3 := Lib.hid (bstep HB1.out hb13)
      clear ho3 hI3 hb3 hb13 hRk
      go_wp2
      go_loopw [9, 10] (fun v r wz => ∃ j : Nat, j ≤ f ∧ r = .int .i64 ((f - j : Nat) : Int) ∧ OwnZ wz w3.heap.size v (byKey (fun x => (f : Int) + 1 - (R.getD x.toNat 0 : Int)) n j) ∧ Below w3.heap.size w3 wz) (fun _ r _ => (RowKit.intOf r).toNat)
      case atStart => exact ⟨0, by omega, rfl, World.ownsRow_nil _ _ _ _, Below.refl _ _⟩
      case round =>
        obtain ⟨j, hj, rfl, hown, hb⟩ := hrel
        obtain ⟨q, hq⟩ : ∃ q, f - j = q := ⟨_, rfl⟩
        rw [hq]
        by_cases hlt : 1 ≤ q
        · have hqi : (1 : Int) ≤ (q : Int) := by omega
          have hst2 := byKey_succ (fun x => (f : Int) + 1 - (R.getD x.toNat 0 : Int)) n j
          have hwr : IntKind.i64.wrap ((q : Int) - 1) = ((f - (j + 1) : Nat) : Int) := by rw [wrapQ _ (by omega)]; omega
          obtain ⟨P, hP⟩ : ∃ P, byKey (fun x => (f : Int) + 1 - (R.getD x.toNat 0 : Int)) n j = P := ⟨_, rfl⟩
          have hPl : P.length ≤ 40 := by
            rw [← hP]
            have := (byKey_perm2 (fun x => (f : Int) + 1 - (R.getD x.toNat 0 : Int)) n j).length_eq
            have h2 := List.length_filter_le (fun x => decide (1 ≤ (f : Int) + 1 - (R.getD x.toNat 0 : Int) ∧ (f : Int) + 1 - (R.getD x.toNat 0 : Int) ≤ j)) (toks n)
            rw [toks_len] at h2
            omega
          rw [hP] at hown hst2
          have HST2 := Lib.hid hst2
          have HP0 := Lib.hid (And.intro hown hb)
          have HPl := Lib.hid hPl
          have HWR := Lib.hid hwr
          clear hst2 hown hb hPl hP hwr
          go_wp2
          go_loopw [9, 11] (fun v i wy => ∃ k : Nat, k ≤ n ∧ i = .int .i64 k ∧ OwnZ wy w3.heap.size v (P ++ (toks k).filter fun x => decide ((f : Int) + 1 - (R.getD x.toNat 0 : Int) = (j : Int) + 1)) ∧ Below w3.heap.size w3 wy) (fun _ i _ => n - (RowKit.intOf i).toNat)
          case atStart => exact ⟨0, by omega, rfl, by simpa [toks] using HP0.out.1, HP0.out.2⟩
          case round =>
            obtain ⟨k, hk, rfl, hown, hb⟩ := hrel
            by_cases hkl : k < n
            · obtain ⟨b3, off3, x, rfl, _, hx, c3'⟩ := (HI.out.below hb).cellAt hkl
              have hki : (k : Int) < (n : Int) := by omega
              have hk0 : (0 : Int) ≤ (k : Int) := by omega
              have hkt : ((k : Int)).toNat = k := by omega
              have hxe : x = ((R.getD k 0 : Nat) : Int) := by
                rw [List.getElem?_map] at hx
                have h2 : R[k]? = some (R.getD k 0) := by rw [List.getD_eq_getElem?_getD, List.getElem?_eq_getElem (by rw [HRR.out.2.1]; exact hkl)]; rfl
                rw [h2] at hx
                exact (Option.some.inj hx).symm
              subst hxe
              have hst : (P ++ (toks (k + 1)).filter fun x => decide ((f : Int) + 1 - (R.getD x.toNat 0 : Int) = (j : Int) + 1)) = (P ++ (toks k).filter fun x => decide ((f : Int) + 1 - (R.getD x.toNat 0 : Int) = (j : Int) + 1)) ++ (if (f : Int) + 1 - (R.getD k 0 : Int) = (j : Int) + 1 then [(k : Int)] else []) := by
                rw [toksF_succ, List.append_assoc]
                simp only [Int.toNat_natCast, decide_eq_true_eq]
              have hfl := List.length_filter_le (fun x => decide ((f : Int) + 1 - (R.getD x.toNat 0 : Int) = (j : Int) + 1)) (toks k)
              rw [toks_len] at hfl
              have hql : (P ++ (toks k).filter fun x => decide ((f : Int) + 1 - (R.getD x.toNat 0 : Int) = (j : Int) + 1)).length ≤ 80 := by
                rw [List.length_append]; have := HPl.out; omega
              have Hql := Lib.hid hql
              have HB := Lib.hid hb
              obtain ⟨G, hG⟩ : ∃ G, (P ++ (toks k).filter fun x => decide ((f : Int) + 1 - (R.getD x.toNat 0 : Int) = (j : Int) + 1)) = G := ⟨_, rfl⟩
              rw [hG] at hst hown Hql
              clear hx hfl hql hG
              generalize R.getD k 0 = a at hst c3'
              by_cases hq1 : a = q
              · subst hq1
                rw [if_pos (by omega)] at hst
                have Hst := Lib.hid hst
                clear hst hb
                go_wp2_with (at_builtin; refine wpList_append_own _ rfl _ _ 59 rfl w3.heap.size 3 i1 (.int .i64 0) 1 8 Tryz.underlying59 hj' hy0 hy1 hy2 rfl (by decide) _ _ _ rfl (World.ownsRow.alloc hown _) ⟨_, 0, none⟩ 1 1 [.int .i64 (k : Nat)] rfl rfl ?c1 ?c2 ?c3 ?c4 ?c5 ?_)
                case c1 =>
                  intro j u hj
                  match j, hj with
                  | 0, hj => simp at hj; subst hj; simp [Addr.add]
                case c2 => intro u hu; simp at hu; subst hu; rfl
                case c3 => unfold maxLen; have := Hql.out; omega
                case c4 => have := Hql.out; omega
                case c5 => have := HB.out.size; simp; omega
                intro v' w9 hown' hgrow _
                have hb2 : Below w3.heap.size w3 w9 := (HB.out.alloc HB.out.size _).grown hgrow (by have := HB.out.size; simp; omega) (fun r hr => (World.ownsRow.lt hown r hr).1)
                have ho2 : OwnZ w9 w3.heap.size v' (P ++ (toks (k + 1)).filter fun x => decide ((f : Int) + 1 - (R.getD x.toNat 0 : Int) = (j : Int) + 1)) := by
                  rw [Hst.out]
                  exact OwnZ.next hown'
                clear hown' hgrow hown c3'
                go_wp2
                exact ⟨⟨k + 1, by omega, by go_num, ho2, hb2⟩, by simp [RowKit.intOf]; omega⟩
              · have hq1i : ¬ (a : Int) = (q : Int) := by omega
                have hbe : ((a : Int) == (q : Int)) = false := by simpa using hq1i
                rw [if_neg (by omega), List.append_nil] at hst
                have ho2 : Hid (OwnZ _ w3.heap.size _ (P ++ (toks (k + 1)).filter fun x => decide ((f : Int) + 1 - (R.getD x.toNat 0 : Int) = (j : Int) + 1))) := Lib.hid (by rw [hst]; exact hown)
                clear hst hown hb
                go_wp2
                exact ⟨⟨k + 1, by omega, by go_num, ho2.out, HB.out⟩, by simp [RowKit.intOf]; omega⟩
            · have hkn : k = n := by omega
              rw [hkn, ← HST2.out] at hown
              have HO := Lib.hid (And.intro hown hb)
              have hwr := HWR.out
              clear hown hb
              go_wp2
              exact ⟨⟨j + 1, by omega, rfl, HO.out⟩, by simp [RowKit.intOf]; omega⟩
        · have hqi : ¬ (1 : Int) ≤ (q : Int) := by omega
          have hjf : j = f := by omega
          rw [hjf] at hown
          have HO := Lib.hid (And.intro (own_lowZ hown HB3.out.size) (HB3.out.trans (hb.mono HB3.out.size)))
          clear hown hb
          go_wp2
          go_ret
          try rw [← hbx]
          exact ⟨_, rfl, HO.out⟩
end Go.Mk
