/-
  Proved: CheckRows of package field returns a plain function of the rows. Conditions: the rows and their trials lie where the slices say, at most 1,000 of both, each name no longer than an int says.
-/
import Derived.Test.YthgkaojplomapaaGreatDoorFea
set_option linter.unusedVariables false
set_option linter.unusedSimpArgs false
open Go Go.Proofs Go.RowKit
set_option maxRecDepth 100000
namespace Go.Mk
def rowE (P : List ByteArray) (r : RowR) : Int := fstN [twE P r.s, trialsE r]
def RowF (g : Nat) : Value := .func (.func 123) #[] #[.pointer (some ⟨g, 0, none⟩)]
set_option maxHeartbeats 4000000 in
theorem fdRowsC_any (N : List ByteArray) (n cap k g : Nat) (A : Option Addr) (r : RowR) (w : World) (hc : w.cell? ⟨g, 0, none⟩ = some (.slice A n cap)) (hg : g < w.heap.size) (hZ : TextsZ w A n N) (hn : n ≤ 1000) (hcap : n ≤ cap) (hk : k < n) (hz : r.s.size ≤ maxLen) (hT : IntsZ w r.A r.n r.T) (hrn : r.n ≤ 1000) :
    Calls Tryz.prog 123 #[.int .i64 k, .agg #[.string r.s, .slice r.A r.n r.c, .bool r.rt], .pointer (some ⟨g, 0, none⟩)] w (RetPost (.int .i64 (rowE (N.take k) r)) w) := by
  obtain ⟨b, off, x, rfl, _, _, _⟩ := hZ.at_ hk
  obtain ⟨p, hp⟩ : ∃ p, w.heap.size = p := ⟨_, rfl⟩
  obtain ⟨w1, hw1⟩ : ∃ w1, w.alloc (.cells #[.string r.s, .slice r.A r.n r.c, .bool r.rt] 55) = w1 := ⟨_, rfl⟩
  have hb1 : Below w.heap.size w w1 := by rw [← hw1]; exact balloc _ (Below.refl _ _)
  have hs1 : w1.heap.size = p + 1 := by rw [← hw1, ← hp]; simp
  have x0 : w1.cell? ⟨p, 0, none⟩ = some (.string r.s) := by rw [← hw1, ← hp]; simp
  have x1 : w1.cell? ⟨p, 1, none⟩ = some (.slice r.A r.n r.c) := by rw [← hw1, ← hp]; simp
  have hc1 : w1.cell? ⟨g, 0, none⟩ = some (.slice (some ⟨b, off, none⟩) n cap) := (hb1.cell (p := ⟨g, 0, none⟩) hg).trans hc
  have HX : Hid (∀ w', Below w1.heap.size w1 w' → w'.cell? ⟨g, 0, none⟩ = some (.slice (some ⟨b, off, none⟩) n cap) ∧ w'.cell? ⟨p, 0, none⟩ = some (.string r.s) ∧ w'.cell? ⟨p, 1, none⟩ = some (.slice r.A r.n r.c) ∧ Below w1.heap.size w1 w') := Lib.hid fun w' hb =>
    ⟨(hb.cell (p := ⟨g, 0, none⟩) (by show g < _; omega)).trans hc1, (hb.cell (p := ⟨p, 0, none⟩) (by show p < _; omega)).trans x0, (hb.cell (p := ⟨p, 1, none⟩) (by show p < _; omega)).trans x1, hb⟩
  have hki : (k : Int) ≤ (cap : Int) := by omega
  have hk0 : (0 : Int) ≤ (k : Int) := by omega
  have hkt : ((k : Int)).toNat = k := by omega
  have HN : Hid (∀ c w', Below w1.heap.size w1 w' → Calls Tryz.prog 124 #[.slice (some ⟨b, off, none⟩) k c, .string r.s] w' (RetPost (.int .i64 (twE (N.take k) r.s)) w')) := Lib.hid fun c w' hb => fdNewName_any (N.take k) k c _ r.s w' (((hZ.below hb1).below hb).take (Nat.le_of_lt hk)) (by omega) hz
  have HT : Hid (∀ w', Below w1.heap.size w1 w' → Calls Tryz.prog 115 #[.slice r.A r.n r.c, .int .i64 6, .func (.func 125) #[] #[]] w' (RetSame (.int .i64 (trialsE r)) w')) := Lib.hid fun w' hb => fdListT_any r w' ((hT.below hb1).below hb) hrn
  have hF0 := fun x y g w => trFirst_any [x, y] 2 rfl (by decide) g w
  have HY : Hid (fstN [twE (N.take k) r.s, trialsE r] = rowE (N.take k) r) := Lib.hid rfl
  generalize rowE (N.take k) r = y at *
  generalize twE (N.take k) r.s = e1 at *
  generalize trialsE r = e2 at *
  have hF := hF0 e1 e2
  rw [HY.out] at hF
  have HB1 := Lib.hid hb1
  clear hF0 hZ hz hT HY hc hc1 x0 x1 hb1 hs1 hg
  go_enter Tryz.func123, Tryz.ntmps123
  go_wp2_with fail
  clear hw1
  refine wp_region_held_drew (S := (fun w' => w'.cell? ⟨g, 0, none⟩ = some (.slice (some ⟨b, off, none⟩) n cap) ∧ w'.cell? ⟨p, 0, none⟩ = some (.string r.s) ∧ w'.cell? ⟨p, 1, none⟩ = some (.slice r.A r.n r.c) ∧ Below w1.heap.size w1 w')) (by kernel_rfl) ?_ (fun hHeld => ?_)
  · exact HX.out _ (Below.drew (Below.refl _ _))
  generalize World.drew w1 = wd at hHeld ⊢
  refine zT (i := 0) (v := ?_) rfl (Or.inl ⟨by kernel_rfl, ?_⟩) ?_
  rotate_left
  · rintro w ⟨s1, s2, s3, s4⟩
    go_simp
    try with_reducible rfl
  try simp only [Act.put, zA1, zA2, zA3, zA4, zA5, zA6]
  refine zT (i := 1) (v := ?_) rfl (Or.inl ⟨by kernel_rfl, ?_⟩) ?_
  rotate_left
  · rintro w ⟨s1, s2, s3, s4⟩
    go_simp
    try with_reducible rfl
  try simp only [Act.put, zA1, zA2, zA3, zA4, zA5, zA6]
  refine zT (i := 2) (v := ?_) rfl (Or.inl ⟨by kernel_rfl, ?_⟩) ?_
  rotate_left
  · rintro w ⟨s1, s2, s3, s4⟩
    go_simp
    try with_reducible rfl
  try simp only [Act.put, zA1, zA2, zA3, zA4, zA5, zA6]
  refine zT (i := 3) (v := ?_) rfl (Or.inl ⟨by kernel_rfl, ?_⟩) ?_
  rotate_left
  · rintro w ⟨s1, s2, s3, s4⟩
    go_simp
    try with_reducible rfl
  try simp only [Act.put, zA1, zA2, zA3, zA4, zA5, zA6]
  refine zT (i := 4) (v := ?_) rfl (Or.inl ⟨by kernel_rfl, ?_⟩) ?_
  rotate_left
  · rintro w ⟨s1, s2, s3, s4⟩
    go_simp
    try with_reducible rfl
  try simp only [Act.put, zA1, zA2, zA3, zA4, zA5, zA6]
  refine zT (i := 6) (v := ?_) rfl (Or.inl ⟨by kernel_rfl, ?_⟩) ?_
  rotate_left
  · rintro w ⟨s1, s2, s3, s4⟩
    go_simp
    try with_reducible rfl
  try simp only [Act.put, zA1, zA2, zA3, zA4, zA5, zA6]
  refine zT (i := 7) (v := ?_) rfl (Or.inl ⟨by kernel_rfl, ?_⟩) ?_
  rotate_left
  · rintro w ⟨s1, s2, s3, s4⟩
    go_simp
    try with_reducible rfl
  try simp only [Act.put, zA1, zA2, zA3, zA4, zA5, zA6]
  refine wpAnyH_ready (rs := [5]) (by kernel_rfl) (by simp) ?_
  refine AllReadyH.cons (o := _) rfl (fun K hKK => ?_) AllReadyH.nil
  go_simp
  go_at_call 124
  with_reducible refine (HN.out _ _ hHeld.2.2.2).mono ?_
  rintro e' w' ⟨rfl, hbz⟩
  go_wp2_with fail
  refine hKK.out _ _ ?_ (fun hHeld => ?_)
  · exact HX.out _ (bstep hHeld.2.2.2 hbz)
  clear hKK K
  try simp only [Act.put, zA1, zA2, zA3, zA4, zA5, zA6]
  clear hbz
  refine wpAnyH_ready (rs := [8]) (by kernel_rfl) (by simp) ?_
  refine AllReadyH.cons (o := _) rfl (fun K hKK => ?_) AllReadyH.nil
  go_simp
  go_at_call 115
  with_reducible refine (HT.out _ hHeld.2.2.2).mono ?_
  rintro e' w' ⟨rfl, rfl⟩
  go_wp2_with fail
  refine hKK.out _ _ ?_ (fun hHeld => ?_)
  · exact hHeld
  clear hKK K
  try simp only [Act.put, zA1, zA2, zA3, zA4, zA5, zA6]
  refine wpAnyH_ready (rs := [9]) (by kernel_rfl) (by simp) ?_
  refine AllReadyH.cons (o := _) rfl (fun K hKK => ?_) AllReadyH.nil
  go_simp
  refine hKK.out _ _ ?_ (fun hHeld => ?_)
  · exact HX.out _ (hHeld.2.2.2.alloc hHeld.2.2.2.size _)
  clear hKK K
  try simp only [Act.put, zA1, zA2, zA3, zA4, zA5, zA6]
  refine wpAnyH_ready (rs := [10]) (by kernel_rfl) (by simp) ?_
  refine AllReadyH.cons (o := _) rfl (fun K hKK => ?_) AllReadyH.nil
  go_simp
  go_at_call 56
  with_reducible refine (hF _ _ (es2 _ e1 e2 30)).mono ?_
  rintro e' w' ⟨rfl, rfl⟩
  go_wp2_with fail
  refine hKK.out _ _ ?_ (fun hHeld => ?_)
  · exact hHeld
  clear hKK K
  try simp only [Act.put, zA1, zA2, zA3, zA4, zA5, zA6]
  refine zT (i := 11) (v := ?_) rfl (Or.inl ⟨by kernel_rfl, ?_⟩) ?_
  rotate_left
  · rintro w ⟨s1, s2, s3, s4⟩
    go_simp
    try with_reducible rfl
  try simp only [Act.put, zA1, zA2, zA3, zA4, zA5, zA6]
  refine wpAnyH_done (by kernel_rfl) ?_ _
  have hfin := bstep HB1.out hHeld.2.2.2
  clear hHeld
  go_wp2
  go_ret
  exact ⟨rfl, hfin⟩
def rwsE : List ByteArray → List RowR → Int
  | _, [] => 0
  | P, r :: l => if rowE P r = 0 then rwsE (P ++ [r.s]) l else rowE P r
theorem rwsE_drop {L : List RowR} {k : Nat} {r : RowR} (h : L[k]? = some r) : rwsE ((L.map (·.s)).take k) (L.drop k) = if rowE ((L.map (·.s)).take k) r = 0 then rwsE ((L.map (·.s)).take (k + 1)) (L.drop (k + 1)) else rowE ((L.map (·.s)).take k) r := by
  obtain ⟨hk, e⟩ := List.getElem?_eq_some_iff.1 h
  have h2 : (L.map (·.s))[k]? = some r.s := by rw [List.getElem?_map, h]; rfl
  rw [List.drop_eq_getElem_cons hk, e, rwsE, List.take_add_one, h2]
  rfl
def rowsE (L : List RowR) : Int := if 32 < L.length then 5 else rwsE [] L
set_option maxHeartbeats 4000000 in
theorem fdFirstOfR_any (L : List RowR) (n cap cap2 g : Nat) (A AN : Option Addr) (w : World) (hc : w.cell? ⟨g, 0, none⟩ = some (.slice AN n cap2)) (hg : g < w.heap.size) (hN : TextsZ w AN n (L.map (·.s))) (hcap : n ≤ cap2) (hZ : Rows w A n L) (hn : n ≤ 1000) (hs : ∀ r ∈ L, r.s.size ≤ maxLen ∧ r.n ≤ 1000) :
    Calls Tryz.prog 179 #[.slice A n cap, RowF g] w (RetPost (.int .i64 (rwsE [] L)) w) := by
  unfold RowF
  have hni : (n : Int) ≤ 1000 := by omega
  have H := Lib.hid hZ
  have Hn := Lib.hid hZ.1
  have HS := Lib.hid hs
  have HG : Hid (∀ w', Below w.heap.size w w' → w'.cell? ⟨g, 0, none⟩ = some (.slice AN n cap2) ∧ g < w'.heap.size ∧ TextsZ w' AN n (L.map (·.s))) := Lib.hid fun w' hb => ⟨(hb.cell (p := ⟨g, _, none⟩) hg).trans hc, Nat.lt_of_lt_of_le hg hb.size, hN.below hb⟩
  obtain ⟨y, hy⟩ : ∃ y, rwsE [] L = y := ⟨_, rfl⟩
  rw [hy]
  have HY : Hid (rwsE ((L.map (·.s)).take 0) (L.drop 0) = y) := Lib.hid (by rw [← hy]; rfl)
  clear hZ hy hc hs hN
  go_enter Tryz.func179, Tryz.ntmps179
  go_wp2
  go_loopw [10] (fun i wr => ∃ k : Nat, k ≤ n ∧ i = .int .i64 k ∧ Hid (rwsE ((L.map (·.s)).take k) (L.drop k) = y) ∧ Below w.heap.size w wr) (fun i _ => n - (intOf i).toNat)
  case atStart => exact ⟨0, by omega, rfl, HY, Below.refl _ _⟩
  case round =>
    obtain ⟨k, hk, rfl, HK, hb⟩ := hrel
    by_cases hlt : k < n
    · obtain ⟨b', off, r, rfl, hbl, hx, ⟨hc0, hc1, hc2⟩, hT, hTc⟩ := (H.out.below hb).at_ hlt
      obtain ⟨hs1, hs2⟩ := HS.out r (List.mem_of_getElem? hx)
      have hst := HK.out
      rw [rwsE_drop hx] at hst
      have hki : (k : Int) < (n : Int) := by omega
      have hk0 : (0 : Int) ≤ (k : Int) := by omega
      have hkt : ((k : Int)).toNat = k := by omega
      obtain ⟨p, hp⟩ : ∃ p, wr.heap.size = p := ⟨_, rfl⟩
      obtain ⟨wx, hwx⟩ : ∃ wx, wr.alloc (.cells #[.string r.s, .slice r.A r.n r.c, .bool r.rt] 55) = wx := ⟨_, rfl⟩
      have hbr : Below wr.heap.size wr wx := by rw [← hwx]; exact balloc _ (Below.refl _ _)
      have hbx := bstep hb hbr
      have x0 : wx.cell? ⟨p, 0, none⟩ = some (.string r.s) := by rw [← hwx, ← hp]; simp
      have x1 : wx.cell? ⟨p, 1, none⟩ = some (.slice r.A r.n r.c) := by rw [← hwx, ← hp]; simp
      have x2 : wx.cell? ⟨p, 2, none⟩ = some (.bool r.rt) := by rw [← hwx, ← hp]; simp
      obtain ⟨c1, c2, c3⟩ := HG.out _ hbx
      have hC := fdRowsC_any (L.map (·.s)) n cap2 k g _ r wx c1 c2 c3 hn hcap hlt hs1 (hT.below hbr) hs2
      obtain ⟨z, hz⟩ : ∃ z, rowE ((L.map (·.s)).take k) r = z := ⟨_, rfl⟩
      rw [hz] at hst hC
      have HBX := Lib.hid hbx
      have HBB := Lib.hid hb
      clear hz hx c1 c2 c3 hs1 hs2 hT hTc hbr hbx hb HK
      by_cases h0 : z = 0
      · subst h0
        rw [if_pos rfl] at hst
        have Hst : Hid (rwsE ((L.map (·.s)).take (k + 1)) (L.drop (k + 1)) = y) := Lib.hid hst
        clear hst
        go_wp2_with fail
        refine hC.mono ?_
        rintro e w' ⟨rfl, hb2⟩
        have hb3 := bstep HBX.out hb2
        clear hb2 x0 x1 x2 hc0 hc1 hc2
        go_wp2
        exact ⟨⟨k + 1, by omega, by go_num, Hst, hb3⟩, by simp [intOf]; omega⟩
      · rw [if_neg h0] at hst
        subst hst
        have hb' : (z != 0) = true := by rw [bne_iff_ne]; exact h0
        go_wp2_with fail
        refine hC.mono ?_
        rintro e w' ⟨rfl, hb2⟩
        have hb3 := bstep HBX.out hb2
        clear hb2 x0 x1 x2 hc0 hc1 hc2
        go_wp2
        go_ret
        exact ⟨rfl, hb3⟩
    · have h0 := HK.out
      rw [List.drop_eq_nil_of_le (by rw [Hn.out]; omega), rwsE] at h0
      subst h0
      go_wp2
      go_ret
      exact ⟨rfl, hb⟩
set_option maxHeartbeats 2000000 in
theorem fdListR_any (L : List RowR) (n cap cap2 g : Nat) (A AN : Option Addr) (w : World) (hc : w.cell? ⟨g, 0, none⟩ = some (.slice AN n cap2)) (hg : g < w.heap.size) (hN : TextsZ w AN n (L.map (·.s))) (hcap : n ≤ cap2) (hZ : Rows w A n L) (hn : n ≤ 1000) (hs : ∀ r ∈ L, r.s.size ≤ maxLen ∧ r.n ≤ 1000) :
    Calls Tryz.prog 122 #[.slice A n cap, .int .i64 32, .func (.func 123) #[] #[.pointer (some ⟨g, 0, none⟩)]] w (RetPost (.int .i64 (rowsE L)) w) := by
  have hF := fdFirstOfR_any L n cap cap2 g A AN w hc hg hN hcap hZ hn hs
  unfold RowF at hF
  have hni : (n : Int) ≤ 1000 := by omega
  unfold rowsE
  rw [hZ.1]
  by_cases h : 32 < n
  · rw [if_pos h]
    have h' : (32 : Int) < (n : Int) := by omega
    clear hF hc hN hZ hs h
    go_enter Tryz.func122, Tryz.ntmps122
    go_wp2
    go_ret
    exact ⟨rfl, Below.refl _ _⟩
  · rw [if_neg h]
    have h' : ¬ (32 : Int) < (n : Int) := by omega
    generalize rwsE [] L = y at *
    clear hc hN hZ hs h
    go_enter Tryz.func122, Tryz.ntmps122
    go_wp2_with fail
    refine hF.mono ?_
    rintro e w1 ⟨rfl, hb1⟩
    go_wp2
    go_ret
    exact ⟨rfl, hb1⟩
set_option maxHeartbeats 2000000 in
theorem fdCheckRows_any (L : List RowR) (n cap : Nat) (A : Option Addr) (w : World) (hZ : Rows w A n L) (hn : n ≤ 1000) (hs : ∀ r ∈ L, r.s.size ≤ maxLen ∧ r.n ≤ 1000) :
    Calls Tryz.prog 72 #[.slice A n cap] w (RetPost (.int .i64 (rowsE L)) w) := by
  have hE := fdEachRS_any L n cap A w hZ hn
  have HZ := Lib.hid hZ
  have HS := Lib.hid hs
  have HL := Lib.hid hZ.1
  clear hZ hs
  go_enter Tryz.func72, Tryz.ntmps72
  go_wp2_with fail
  refine hE.mono ?_
  rintro e w1 ⟨v, rfl, hown, hb1⟩
  obtain ⟨AN, cN, rfl, hc1, _, hT⟩ := TextsZ.of_own hown
  have hlen : (L.map (·.s)).length = n := by rw [List.length_map, HL.out]
  rw [hlen] at hc1 hT ⊢
  obtain ⟨g, hg⟩ : ∃ g, w1.heap.size = g := ⟨_, rfl⟩
  obtain ⟨w2, hw2⟩ : ∃ w2, w1.alloc (.cells #[.slice AN n cN] 22) = w2 := ⟨_, rfl⟩
  have hb12 : Below w1.heap.size w1 w2 := by rw [← hw2]; exact balloc _ (Below.refl _ _)
  have hb2 := bstep hb1 hb12
  have hs2 : g < w2.heap.size := by rw [← hw2, ← hg]; simp
  have c0 : w2.cell? ⟨g, 0, none⟩ = some (.slice AN n cN) := by rw [← hw2, ← hg]; simp
  have hLi := fdListR_any L n cap cN g A AN w2 c0 hs2 (hT.below hb12) hc1 (HZ.out.below hb2) hn HS.out
  have HB2 := Lib.hid hb2
  clear hown hT hb1 hb12 hb2 hc1 hlen c0 hs2
  go_wp2_with fail
  refine hLi.mono ?_
  rintro e w3 ⟨rfl, hb3⟩
  have hfin := bstep HB2.out hb3
  clear hb3
  go_wp2
  go_ret
  exact ⟨rfl, hfin⟩
end Go.Mk
