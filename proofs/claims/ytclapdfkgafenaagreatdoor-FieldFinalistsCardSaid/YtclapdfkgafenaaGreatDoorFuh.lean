/-
  Proved: the law FieldFinalists returns true and leaves all that was there. Conditions: the tables that awake reads lie where the program lays them; the names and the rows lie where the slices say, and are no more than an int says, the rows' names and trials neither.
-/
import Derived.Test.YtclapdfkgafenaaGreatDoorFug
import Derived.Test.YtclapdfkgafenaaGreatDoorFd
import Derived.Test.YtclapdfkgafenaaGreatDoorFrk
import Derived.Test.YtclapdfkgafenaaGreatDoorXaw
set_option linter.unusedVariables false
set_option linter.unusedSimpArgs false
open Go Go.Proofs Go.RowKit Go.Sort
set_option maxRecDepth 100000
namespace Go.Mk
set_option maxHeartbeats 1000000 in
theorem l6firstF_any (L : List Int) (n : Nat) (hn : L.length = n) (hs : n ≤ 100) (g : Nat) (w : World) (h : Es w g L) :
    Calls Tryz.prog 18 #[.slice (some ⟨g, 0, none⟩) n n] w (RetSame (.int .i64 (fstN L)) w) := by
  have H := Lib.hid h
  have Hn := Lib.hid hn
  have hni : (n : Int) ≤ 100 := by omega
  obtain ⟨y, hy⟩ : ∃ y, fstN L = y := ⟨_, rfl⟩
  rw [hy]
  have HY : Hid (fstN (L.drop 0) = y) := by rw [← hy]; rfl
  clear h hn hs hy
  go_enter Tryz.func18, Tryz.ntmps18
  go_wp2
  go_loop [7] (fun i => ∃ k : Nat, k ≤ n ∧ i = .int .i64 k ∧ Hid (fstN (L.drop k) = y)) (fun i => n - (intOf i).toNat)
  case atStart => exact ⟨0, by omega, rfl, HY⟩
  case round =>
    obtain ⟨k, hk, rfl, HK⟩ := hrel
    by_cases hlt : k < n
    · obtain ⟨z, hz, hc⟩ := es_get H.out (k := k) (by rw [Hn.out]; exact hlt)
      have hst := fstN_drop L k z hz
      rw [HK.out] at hst
      have hki : (k : Int) < (n : Int) := by omega
      by_cases h0 : z = 0
      · subst h0
        rw [if_pos rfl] at hst
        have Hst : Hid (fstN (L.drop (k + 1)) = y) := hst.symm
        clear hst hz HK
        go_wp2
        exact ⟨⟨k + 1, by omega, by go_num, Hst⟩, by simp [intOf]; omega⟩
      · rw [if_neg h0] at hst
        subst hst
        have hb : (y != 0) = true := by rw [bne_iff_ne]; exact h0
        clear hz HK HY
        go_wp2
        go_ret
        exact ⟨rfl, rfl⟩
    · have hkn : k = n := by omega
      have h0 := HK.out
      rw [hkn, List.drop_of_length_le (by rw [Hn.out]; omega)] at h0
      have h0' : 0 = y := h0
      subst h0'
      go_wp2
      go_ret
      exact ⟨rfl, rfl⟩
set_option maxHeartbeats 1000000 in
theorem sameWF_any (L : List ByteArray) (A1 A2 : Option Addr) (n c1 c2 : Nat) (w : World) (hn : n ≤ 5000) (h1 : TextsZ w A1 n L) (h2 : TextsZ w A2 n L) :
    Calls Tryz.prog 22 #[.slice A1 n c1, .slice A2 n c2] w (RetPost (.bool true) w) := by
  have hn0 : (n : Int) ≤ 5000 := by omega
  have H1 := Lib.hid h1
  have H2 := Lib.hid h2
  clear h1 h2 hn
  go_enter Tryz.func22, Tryz.ntmps22
  go_wp2
  go_loopw [5] (fun i wr => ∃ k : Nat, k ≤ n ∧ i = .int .i64 k ∧ Below w.heap.size w wr) (fun i _ => n - (RowKit.intOf i).toNat)
  case atStart => exact ⟨0, by omega, rfl, Below.refl _ _⟩
  case round =>
    obtain ⟨k, hk, rfl, hb⟩ := hrel
    by_cases hlt : k < n
    · obtain ⟨p1, f1, x, rfl, _, q1, c1'⟩ := (H1.out.below hb).at_ hlt
      obtain ⟨p2, f2, x', rfl, _, q2, c2'⟩ := (H2.out.below hb).at_ hlt
      obtain rfl : x' = x := Option.some.inj (q2.symm.trans q1)
      have hki : (k : Int) < (n : Int) := by omega
      have hk0 : (0 : Int) ≤ (k : Int) := by omega
      have hkt : ((k : Int)).toNat = k := by omega
      have gb : (x'.toList == x'.toList) = true := by simp
      clear q1 q2 H1 H2
      go_wp2_with fail
      go_quiet (fail)
      go_wp2
      exact ⟨⟨k + 1, by omega, by go_num, below_drewN hb _⟩, by simp [RowKit.intOf]; omega⟩
    · go_wp2
      go_ret
      exact ⟨rfl, hb⟩
theorem fin_nrm {L L' : List RowR} (h : L'.map nrm = L.map nrm) (N : List ByteArray) (t f m : Int) : finE N t f m L' = finE N t f m L ∧ finN N t f L' = finN N t f L := by
  obtain ⟨h1, _, h3⟩ := same_rows h
  have h4 : L'.map (·.s) = L.map (·.s) := by
    have := congrArg (List.map (·.s)) h
    rw [List.map_map, List.map_map] at this
    exact this
  have h5 : ∀ k, sersOf (L'.map (earl k)) = sersOf (L.map (earl k)) := fun k => by
    have := congrArg (List.map fun r : RowR => serD (r.T.take (min k r.n))) h
    rw [List.map_map, List.map_map] at this
    unfold sersOf
    rw [List.map_map, List.map_map]
    exact this
  unfold finE finN rkE
  rw [h1, h3, h4, h5]
  exact ⟨rfl, rfl⟩
theorem finE_ref (N : List ByteArray) (t f m : Int) (L : List RowR) : finE N t f m L = if fstN [conE N t f m, rowsE L] = 0 then ownE N m L else fstN [conE N t f m, rowsE L] := by
  unfold finE ownE
  generalize conE N t f m = a
  generalize rowsE L = b
  by_cases ha : a = 0
  · subst ha
    by_cases hb : b = 0
    · subst hb
      by_cases h1 : L.length = N.length
      · by_cases h2 : L.map (·.s) = N
        · by_cases h3 : m = 0
          · simp [fstN, h1, h2, h3]
          · simp [fstN, h1, h2, h3]
        · simp [fstN, h1, h2]
      · simp [fstN, h1]
    · simp [fstN, hb]
  · simp [fstN, ha]
def FinIn (w : World) (AN A : Option Addr) (nN cN n : Nat) (N : List ByteArray) (L : List RowR) : Prop :=
  TextsZ w AN nN N ∧ nN ≤ cN ∧ (cN : Int) ≤ 9223372036854775807 ∧ Rows w A n L ∧ (n : Int) ≤ 9223372036854775807 ∧ ∀ r ∈ L, r.s.size ≤ maxLen ∧ (r.n : Int) ≤ 9223372036854775807 ∧ (r.A = none → r.c = 0) ∧ r.T.length = r.n
set_option maxHeartbeats 8000000 in
theorem fin6_exit (N : List ByteArray) (nN cN n cap : Nat) (AN A : Option Addr) (t f m : Int) (L : List RowR) (w : World) (hI : FinIn w AN A nN cN n N L) (ht : Tabs w) (h1 : shNm N = false ∨ shR L = false) :
    Calls Tryz.prog 4 #[.agg #[.slice AN nN cN, .int .i64 t, .int .i64 f, .int .i64 m], .slice A n cap] w (Yes w) := by
  obtain ⟨hN, hc1, hc2, hZ, hn, hs⟩ := hI
  obtain ⟨bx, hbx⟩ : ∃ bx, w.heap.size = bx := ⟨_, rfl⟩
  obtain ⟨w1, hw1⟩ : ∃ w1, w.alloc (.cells #[.slice AN nN cN, .int .i64 t, .int .i64 f, .int .i64 m] 48) = w1 := ⟨_, rfl⟩
  have hb1 : Below w.heap.size w w1 := by rw [← hw1]; exact balloc _ (Below.refl _ _)
  have k0 : w1.cell? ⟨bx, 0, none⟩ = some (.slice AN nN cN) := by rw [← hw1, ← hbx]; simp
  have hSN := r6ShortNames_any N nN cN AN w1 (hN.below hb1) (by omega)
  have hSR := fun w' => l6shortRows_any L n cap A w'
  have HSR : Hid (∀ w', Below w1.heap.size w1 w' → Calls Tryz.prog 6 #[.slice A n cap] w' (RetPost (.bool (shR L)) w')) := Lib.hid fun w' hb => l6shortRows_any L n cap A w' ((hZ.below hb1).below hb) hn (fun r hr => ⟨(hs r hr).1, (hs r hr).2.1⟩)
  have HAW : Hid (∀ w', Below w1.heap.size w1 w' → Calls Tryz.prog 7 #[] w' (RetPost (.bool true) w')) := Lib.hid fun w' hb => aw w' (ht.grow (bstep hb1 hb))
  have HB1 := Lib.hid hb1
  clear hN hZ hs ht hb1 hSR
  unfold Yes
  cases hq : shNm N with
  | false =>
    rw [hq] at hSN
    clear h1
    go_enter Tryz.func4, Tryz.ntmps4
    go_wp2_with fail
    refine hSN.mono ?_
    rintro e w2 ⟨rfl, rfl⟩
    clear hSN
    go_wp2_with fail
    refine (HAW.out _ (Below.refl _ _)).mono ?_
    rintro e w9 ⟨rfl, hb9⟩
    have hfin := bstep HB1.out hb9
    clear hb9
    go_wp2
    go_ret
    try rw [← hbx]
    exact ⟨rfl, hfin⟩
  | true =>
    have h2 : shR L = false := by
      rcases h1 with h | h
      · rw [hq] at h; cases h
      · exact h
    rw [hq] at hSN
    rw [h2] at HSR
    clear h1 h2
    go_enter Tryz.func4, Tryz.ntmps4
    go_wp2_with fail
    refine hSN.mono ?_
    rintro e w2 ⟨rfl, rfl⟩
    clear hSN
    go_wp2_with fail
    refine (HSR.out _ (Below.refl _ _)).mono ?_
    rintro e w3 ⟨rfl, hb3⟩
    have HB3 := Lib.hid hb3
    clear hb3
    go_wp2_with fail
    refine (HAW.out _ HB3.out).mono ?_
    rintro e w9 ⟨rfl, hb9⟩
    have hfin := bstep HB1.out (bstep HB3.out hb9)
    clear hb9
    go_wp2
    go_ret
    try rw [← hbx]
    exact ⟨rfl, hfin⟩
set_option maxHeartbeats 16000000 in
theorem fin6_main (N : List ByteArray) (nN cN n cap : Nat) (AN A : Option Addr) (t f m : Int) (L : List RowR) (w : World) (hI : FinIn w AN A nN cN n N L) (ht : Tabs w) (h1 : shNm N = true) (h2 : shR L = true) :
    Calls Tryz.prog 4 #[.agg #[.slice AN nN cN, .int .i64 t, .int .i64 f, .int .i64 m], .slice A n cap] w (Yes w) := by
  obtain ⟨hN, hcc1, hcc2, hZ, hn, hs⟩ := hI
  obtain ⟨h35, hNs⟩ := shNm_all h1
  obtain ⟨g35, hsr⟩ := shR_true h2
  rw [hN.1] at h35
  rw [hZ.1] at g35
  have hNm : ∀ x ∈ N, x.size ≤ maxLen := fun x hx => by have := hNs x hx; unfold maxLen; omega
  obtain ⟨bx, hbx⟩ : ∃ bx, w.heap.size = bx := ⟨_, rfl⟩
  obtain ⟨w1, hw1⟩ : ∃ w1, w.alloc (.cells #[.slice AN nN cN, .int .i64 t, .int .i64 f, .int .i64 m] 48) = w1 := ⟨_, rfl⟩
  have hb1 : Below w.heap.size w w1 := by rw [← hw1]; exact balloc _ (Below.refl _ _)
  have hx1 : bx < w1.heap.size := by rw [← hw1, ← hbx]; simp
  have k0 : w1.cell? ⟨bx, 0, none⟩ = some (.slice AN nN cN) := by rw [← hw1, ← hbx]; simp
  have k1 : w1.cell? ⟨bx, 1, none⟩ = some (.int .i64 t) := by rw [← hw1, ← hbx]; simp
  have k2 : w1.cell? ⟨bx, 2, none⟩ = some (.int .i64 f) := by rw [← hw1, ← hbx]; simp
  have k3 : w1.cell? ⟨bx, 3, none⟩ = some (.int .i64 m) := by rw [← hw1, ← hbx]; simp
  have hSN := r6ShortNames_any N nN cN AN w1 (hN.below hb1) (by omega)
  rw [h1] at hSN
  have hSR := l6shortRows_any L n cap A w1 (hZ.below hb1) hn (fun r hr => ⟨(hs r hr).1, (hs r hr).2.1⟩)
  rw [h2] at hSR
  have HAW : Hid (∀ w', Below w1.heap.size w1 w' → Calls Tryz.prog 7 #[] w' (RetPost (.bool true) w')) := Lib.hid fun w' hb => aw w' (ht.grow (bstep hb1 hb))
  have HRW : Hid (∀ w', Below w1.heap.size w1 w' → Calls Tryz.prog 9 #[.slice A n cap] w' (fun e w'' => ∃ v L', e = .returned v ∧ L'.map nrm = L.map nrm ∧ OwnRows w'' w'.heap.size v L' ∧ Below w'.heap.size w' w'')) := Lib.hid fun w' hb =>
    l6rows_any L n cap A w' (hZ.below (bstep hb1 hb)) (by omega) (fun r hr => ⟨by have := (hsr r hr).2; omega, (hs r hr).2.2.1⟩)
  obtain ⟨z, hz⟩ : ∃ z, finE N t f m L = z := ⟨_, rfl⟩
  obtain ⟨F, hF⟩ : ∃ F, (if finE N t f m L = 0 then finN N t f L else []) = F := ⟨_, rfl⟩
  have hLL : ∀ L' : List RowR, L'.map nrm = L.map nrm → L'.length = n ∧ finE N t f m L' = z ∧ (if finE N t f m L' = 0 then finN N t f L' else []) = F ∧ ∀ r ∈ L', r.s.size ≤ 40 ∧ r.n ≤ 10 ∧ r.T.length = r.n := fun L' h => by
    obtain ⟨q1, q2⟩ := fin_nrm h N t f m
    obtain ⟨_, _, q3⟩ := same_rows h
    exact ⟨q3.trans hZ.1, q1.trans hz, by rw [q1, q2]; exact hF, same_mem h (fun r => Iff.rfl) (fun r hr => ⟨(hsr r hr).1, (hsr r hr).2, (hs r hr).2.2.2⟩)⟩
  have HFN : Hid (∀ (L' : List RowR) (v : Value) (B : Nat) (w' : World), L'.map nrm = L.map nrm → OwnRows w' B v L' → Below w1.heap.size w1 w' → ∃ A' c', v = .slice A' n c' ∧ Calls Tryz.prog 17 #[.agg #[.slice AN nN cN, .int .i64 t, .int .i64 f, .int .i64 m], .slice A' n c'] w' (fun e w'' => ∃ v, e = .returned (.tuple #[v, .int .i64 z]) ∧ OwnNames w'' w'.heap.size v F ∧ Below w'.heap.size w' w'')) := Lib.hid fun L' v B w' h ho hb => by
    obtain ⟨q1, q2, q3, q4⟩ := hLL L' h
    obtain ⟨A', c', rfl, hR⟩ := Rows.of_own ho
    rw [q1] at hR ⊢
    refine ⟨A', c', rfl, ?_⟩
    have := fdFinalist_any N nN cN n c' AN A' t f m L' w' (hN.below (bstep hb1 hb)) (by omega) hcc1 hNm hR (by omega) (fun r hr => ⟨by have := (q4 r hr).1; unfold maxLen; omega, by have := (q4 r hr).2.1; omega, (q4 r hr).2.2⟩)
    rw [q3, q2] at this
    exact this
  have HCC : Hid (∀ w', Below w1.heap.size w1 w' → Calls Tryz.prog 19 #[.agg #[.slice AN nN cN, .int .i64 t, .int .i64 f, .int .i64 m]] w' (RetPost (.int .i64 (conE N t f m)) w')) := Lib.hid fun w' hb => r6CheckContest_any N nN cN AN t f m w' (hN.below (bstep hb1 hb)) (by omega) hNm
  have HCR : Hid (∀ w', Below w1.heap.size w1 w' → Calls Tryz.prog 11 #[.slice A n cap] w' (RetPost (.int .i64 (rowsE L)) w')) := Lib.hid fun w' hb => r6CheckRows_any L n cap A w' (hZ.below (bstep hb1 hb)) (by omega) (fun r hr => ⟨(hs r hr).1, by have := (hsr r hr).2; omega⟩)
  have HCO : Hid (∀ w', Below w1.heap.size w1 w' → Calls Tryz.prog 20 #[.agg #[.slice AN nN cN, .int .i64 t, .int .i64 f, .int .i64 m], .slice A n cap] w' (RetPost (.int .i64 (ownE N m L)) w')) := Lib.hid fun w' hb => r6CheckOwn_any N nN cN n cap AN A t f m L w' (hN.below (bstep hb1 hb)) (by omega) (hZ.below (bstep hb1 hb)) (by omega)
  have HRF : Hid (z = 0 → ∀ w', Below w1.heap.size w1 w' → Calls Tryz.prog 21 #[.agg #[.slice AN nN cN, .int .i64 t, .int .i64 f, .int .i64 m], .slice A n cap] w' (fun e w'' => ∃ v, e = .returned v ∧ OwnNames w'' w'.heap.size v F ∧ Below w'.heap.size w' w'')) := Lib.hid fun h0 w' hb => by
    obtain ⟨t1, t2, f1, f2, _, q1, q2, _⟩ := finE_ok (hz.trans h0)
    have et : ((t.toNat : Nat) : Int) = t := by omega
    have ef : ((f.toNat : Nat) : Int) = f := by omega
    have := r6Finalists_any L n cap t.toNat f.toNat nN cN m A AN w' (hZ.below (bstep hb1 hb)) (by omega) (fun r hr => ⟨by have := (hsr r hr).2; omega, (hs r hr).2.2.2⟩) (by omega) (by omega)
    rw [et, ef, q2] at this
    rw [← hF, if_pos (hz.trans h0)]
    unfold finN
    rw [hZ.1]
    exact this
  have hz2 := finE_ref N t f m L
  rw [hz] at hz2
  obtain ⟨e1, he1⟩ : ∃ e, conE N t f m = e := ⟨_, rfl⟩
  obtain ⟨e2, he2⟩ : ∃ e, rowsE L = e := ⟨_, rfl⟩
  obtain ⟨o, ho⟩ : ∃ e, ownE N m L = e := ⟨_, rfl⟩
  rw [he1] at HCC hz2
  rw [he2] at HCR hz2
  rw [ho] at HCO hz2
  have hFi := fun g w h => l6firstF_any [e1, e2] 2 rfl (by decide) g w h
  obtain ⟨y, hy⟩ : ∃ y, fstN [e1, e2] = y := ⟨_, rfl⟩
  rw [hy] at hz2 hFi
  have HZ := Lib.hid hz2
  have HFE : Hid (z ≠ 0 → F = []) := Lib.hid fun h => by rw [← hF, hz, if_neg h]
  have HFL : Hid (F.length ≤ 5000) := Lib.hid (by
    rw [← hF]
    split
    · unfold finN
      rw [List.length_map]
      have := (finT_perm (rkE t.toNat L) f.toNat L.length).length_eq
      have := selT_len (rkE t.toNat L) f.toNat L.length
      rw [hZ.1] at *
      omega
    · simp)
  have HX : Hid (∀ w', Below w1.heap.size w1 w' → w'.cell? ⟨bx, 0, none⟩ = some (.slice AN nN cN) ∧ w'.cell? ⟨bx, 1, none⟩ = some (.int .i64 t) ∧ w'.cell? ⟨bx, 2, none⟩ = some (.int .i64 f) ∧ w'.cell? ⟨bx, 3, none⟩ = some (.int .i64 m) ∧ Below w1.heap.size w1 w') := Lib.hid fun w' hb =>
    ⟨(hb.cell (p := ⟨bx, 0, none⟩) hx1).trans k0, (hb.cell (p := ⟨bx, 1, none⟩) hx1).trans k1, (hb.cell (p := ⟨bx, 2, none⟩) hx1).trans k2, (hb.cell (p := ⟨bx, 3, none⟩) hx1).trans k3, hb⟩
  have HB1 := Lib.hid hb1
  clear hN hcc1 hcc2 hZ hn hs h35 hNs g35 hsr hNm hb1 hx1 k1 k2 k3 ht h1 h2 hz hF hLL hz2 he1 he2 ho hy
  unfold Yes
  go_enter Tryz.func4, Tryz.ntmps4
  go_wp2_with fail
  refine hSN.mono ?_
  rintro e w2 ⟨rfl, rfl⟩
  clear hSN
  go_wp2_with fail
  refine hSR.mono ?_
  rintro e w3 ⟨rfl, hb3⟩
  have HB2 := Lib.hid hb3
  clear hb3 hSR k0
  go_wp2_with fail
  refine wp_region_held_drew (S := fun w' => w'.cell? ⟨bx, 0, none⟩ = some (.slice AN nN cN) ∧ w'.cell? ⟨bx, 1, none⟩ = some (.int .i64 t) ∧ w'.cell? ⟨bx, 2, none⟩ = some (.int .i64 f) ∧ w'.cell? ⟨bx, 3, none⟩ = some (.int .i64 m) ∧ Below w1.heap.size w1 w') (by kernel_rfl) ?_ (fun hHeld => ?_)
  · exact HX.out _ (Below.drew HB2.out)
  generalize World.drew _ = wd at hHeld ⊢
  refine zT (i := 0) (v := ?_) rfl (Or.inl ⟨by kernel_rfl, ?_⟩) ?_
  rotate_left
  · rintro w ⟨s0, s1, s2, s3, s4⟩
    go_simp
    try with_reducible rfl
  try simp only [Act.put, zA1, zA2, zA3, zA4, zA5, zA6]
  refine zT (i := 1) (v := ?_) rfl (Or.inl ⟨by kernel_rfl, ?_⟩) ?_
  rotate_left
  · rintro w ⟨s0, s1, s2, s3, s4⟩
    go_simp
    try with_reducible rfl
  try simp only [Act.put, zA1, zA2, zA3, zA4, zA5, zA6]
  refine wpAnyH_ready (rs := [2]) (by kernel_rfl) (by simp) ?_
  refine AllReadyH.cons (o := _) rfl (fun K hKK => ?_) AllReadyH.nil
  go_simp
  go_at_call 9
  refine (HRW.out _ hHeld.2.2.2.2).mono ?_
  rintro e' w' ⟨vq, L1, rfl, hL1, ho1, hbz⟩
  obtain ⟨Aq, cq, rfl, HK⟩ := HFN.out L1 _ _ w' hL1 ho1 (bstep hHeld.2.2.2.2 hbz)
  go_wp2_with fail
  refine hKK.out _ _ ?_ (fun hHeld => ?_)
  · exact HX.out _ (bstep hHeld.2.2.2.2 hbz)
  clear hKK K
  try simp only [Act.put, zA1, zA2, zA3, zA4, zA5, zA6]
  clear hbz ho1 hL1
  refine wpAnyH_ready (rs := [3]) (by kernel_rfl) (by simp) ?_
  refine AllReadyH.cons (o := _) rfl (fun K hKK => ?_) AllReadyH.nil
  go_simp
  go_at_call 17
  with_reducible refine HK.mono ?_
  rintro e' w'' ⟨vf, rfl, hof, hbz⟩
  go_wp2_with fail
  refine hKK.out _ _ ?_ (fun hHeld => ?_)
  · exact HX.out _ (bstep hHeld.2.2.2.2 hbz)
  clear hKK K
  try simp only [Act.put, zA1, zA2, zA3, zA4, zA5, zA6]
  clear hbz HK
  refine zT (i := 4) (v := ?_) rfl (Or.inl ⟨by kernel_rfl, ?_⟩) ?_
  rotate_left
  · rintro w ⟨s0, s1, s2, s3, s4⟩
    go_simp
    try with_reducible rfl
  try simp only [Act.put, zA1, zA2, zA3, zA4, zA5, zA6]
  refine zT (i := 5) (v := ?_) rfl (Or.inl ⟨by kernel_rfl, ?_⟩) ?_
  rotate_left
  · rintro w ⟨s0, s1, s2, s3, s4⟩
    go_simp
    try with_reducible rfl
  try simp only [Act.put, zA1, zA2, zA3, zA4, zA5, zA6]
  refine zT (i := 6) (v := ?_) rfl (Or.inl ⟨by kernel_rfl, ?_⟩) ?_
  rotate_left
  · rintro w ⟨s0, s1, s2, s3, s4⟩
    go_simp
    try with_reducible rfl
  try simp only [Act.put, zA1, zA2, zA3, zA4, zA5, zA6]
  refine zT (i := 7) (v := ?_) rfl (Or.inl ⟨by kernel_rfl, ?_⟩) ?_
  rotate_left
  · rintro w ⟨s0, s1, s2, s3, s4⟩
    go_simp
    try with_reducible rfl
  try simp only [Act.put, zA1, zA2, zA3, zA4, zA5, zA6]
  refine zT (i := 8) (v := ?_) rfl (Or.inl ⟨by kernel_rfl, ?_⟩) ?_
  rotate_left
  · rintro w ⟨s0, s1, s2, s3, s4⟩
    go_simp
    try with_reducible rfl
  try simp only [Act.put, zA1, zA2, zA3, zA4, zA5, zA6]
  refine wpAnyH_done (by kernel_rfl) ?_ _
  obtain ⟨Af, cf, rfl, _, _, hTf⟩ := TextsZ.of_own hof
  have hb4 := hHeld.2.2.2.2
  obtain ⟨l, hl⟩ : ∃ l, F.length = l := ⟨_, rfl⟩
  rw [hl] at hTf HFL ⊢
  have HLl := Lib.hid hl
  have HT4 := Lib.hid hTf
  have HB4 := Lib.hid hb4
  obtain ⟨j0, j1, j2, j3, _⟩ := hHeld
  generalize w'' = w4 at *
  clear hof hTf hb4 hl
  go_wp2_with fail
  refine (HCC.out _ HB4.out).mono ?_
  rintro e w5 ⟨rfl, hb5⟩
  have HB5 := Lib.hid (bstep HB4.out hb5)
  have HX5 := Lib.hid hb5
  clear hb5
  go_wp2_with fail
  refine (HCR.out _ HB5.out).mono ?_
  rintro e w6 ⟨rfl, hb6⟩
  have HB6 := Lib.hid (bstep HB5.out hb6)
  have HX6 := Lib.hid (bstep HX5.out hb6)
  clear hb6
  go_wp2_with fail
  refine (hFi _ _ (es2 _ _ _ _)).mono ?_
  rintro e w7 ⟨rfl, rfl⟩
  have hbq : Below w6.heap.size w6 (w6.alloc (.cells #[.int .i64 e1, .int .i64 e2] 3)) := balloc _ (Below.refl _ _)
  generalize w6.alloc (.cells #[.int .i64 e1, .int .i64 e2] 3) = w7 at *
  have HB7 := Lib.hid (bstep HB6.out hbq)
  have HX7 := Lib.hid (bstep HX6.out hbq)
  have HT7 := Lib.hid (HT4.out.below HX7.out)
  clear hbq j0 j1 j2 j3
  obtain ⟨j0, j1, j2, j3, _⟩ := HX.out _ HB7.out
  by_cases h0 : y = 0
  · have hzo := HZ.out
    rw [if_pos h0] at hzo
    subst h0
    go_wp2_with fail
    refine (HCO.out _ HB7.out).mono ?_
    rintro e w8 ⟨rfl, hb8⟩
    have HB8 := Lib.hid (bstep HB7.out hb8)
    have HT8 := Lib.hid (HT7.out.below hb8)
    clear hb8 j0 j1 j2 j3
    obtain ⟨j0, j1, j2, j3, _⟩ := HX.out _ HB8.out
    subst hzo
    by_cases hz0 : z = 0
    · have hRF := HRF.out hz0 _ HB8.out
      subst hz0
      go_wp2_with fail
      refine hRF.mono ?_
      rintro e w9 ⟨vw, rfl, how, hb9⟩
      obtain ⟨Aw, cw, rfl, _, _, hTw⟩ := TextsZ.of_own how
      rw [HLl.out] at hTw ⊢
      have HB9 := Lib.hid (bstep HB8.out hb9)
      have HT9 := Lib.hid (HT8.out.below hb9)
      have HW9 := Lib.hid hTw
      clear how hb9 hTw hRF j0 j1 j2 j3
      go_wp2_with fail
      refine (sameWF_any F Af Aw l cf cw w9 (by have := HFL.out; omega) HT9.out HW9.out).mono ?_
      rintro e w10 ⟨rfl, hb10⟩
      have HB10 := Lib.hid (bstep HB9.out hb10)
      clear hb10
      go_wp2_with fail
      refine (HAW.out _ HB10.out).mono ?_
      rintro e w11 ⟨rfl, hb11⟩
      have HFI := Lib.hid (bstep HB1.out (bstep HB10.out hb11))
      clear hb11
      go_wp2
      go_ret
      try rw [← hbx]
      exact ⟨rfl, HFI.out⟩
    · have hzb : (z == 0) = false := by simp [hz0]
      have hFe := HFE.out hz0
      have hl0 : l = 0 := by rw [← HLl.out, hFe]; rfl
      have HB9 := HB8
      have HT9 := HT8
      obtain ⟨w9, hw9⟩ : ∃ w9, w8 = w9 := ⟨_, rfl⟩
      rw [hw9] at HB9 HT9 ⊢
      have HW9 : Hid (TextsZ w9 none 0 F) := Lib.hid ⟨by rw [hFe]; rfl, fun h => absurd h (by omega)⟩
      rw [hw9] at j0 j1 j2 j3
      subst hl0
      clear hFe hw9
      go_wp2_with fail
      refine (sameWF_any F Af none 0 cf 0 w9 (by have := HFL.out; omega) HT9.out HW9.out).mono ?_
      rintro e w10 ⟨rfl, hb10⟩
      have HB10 := Lib.hid (bstep HB9.out hb10)
      clear hb10
      go_wp2_with fail
      refine (HAW.out _ HB10.out).mono ?_
      rintro e w11 ⟨rfl, hb11⟩
      have HFI := Lib.hid (bstep HB1.out (bstep HB10.out hb11))
      clear hb11
      go_wp2
      go_ret
      try rw [← hbx]
      exact ⟨rfl, HFI.out⟩
  · have hzo := HZ.out
    rw [if_neg h0] at hzo
    subst hzo
    have hzb : (z == 0) = false := by simp [h0]
    have hFe := HFE.out h0
    have hl0 : l = 0 := by rw [← HLl.out, hFe]; rfl
    have HB9 := HB7
    have HT9 := HT7
    obtain ⟨w9, hw9⟩ : ∃ w9, w7 = w9 := ⟨_, rfl⟩
    rw [hw9] at HB9 HT9 ⊢
    have HW9 : Hid (TextsZ w9 none 0 F) := Lib.hid ⟨by rw [hFe]; rfl, fun h => absurd h (by omega)⟩
    rw [hw9] at j0 j1 j2 j3
    subst hl0
    clear hFe hw9
    go_wp2_with fail
    refine (sameWF_any F Af none 0 cf 0 w9 (by have := HFL.out; omega) HT9.out HW9.out).mono ?_
    rintro e w10 ⟨rfl, hb10⟩
    have HB10 := Lib.hid (bstep HB9.out hb10)
    clear hb10
    go_wp2_with fail
    refine (HAW.out _ HB10.out).mono ?_
    rintro e w11 ⟨rfl, hb11⟩
    have HFI := Lib.hid (bstep HB1.out (bstep HB10.out hb11))
    clear hb11
    go_wp2
    go_ret
    try rw [← hbx]
    exact ⟨rfl, HFI.out⟩
theorem fin6_any (N : List ByteArray) (nN cN n cap : Nat) (AN A : Option Addr) (t f m : Int) (L : List RowR) (w : World) (hI : FinIn w AN A nN cN n N L) (ht : Tabs w) :
    Calls Tryz.prog 4 #[.agg #[.slice AN nN cN, .int .i64 t, .int .i64 f, .int .i64 m], .slice A n cap] w (Yes w) := by
  cases h1 : shNm N with
  | false => exact fin6_exit N nN cN n cap AN A t f m L w hI ht (.inl h1)
  | true =>
    cases h2 : shR L with
    | false => exact fin6_exit N nN cN n cap AN A t f m L w hI ht (.inr h2)
    | true => exact fin6_main N nN cN n cap AN A t f m L w hI ht h1 h2
end Go.Mk
