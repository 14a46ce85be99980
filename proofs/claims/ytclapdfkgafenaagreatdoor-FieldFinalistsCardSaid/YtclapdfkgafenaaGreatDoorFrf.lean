/-
  Proved: the reference's Series returns a row's marks that are not below 0, in descending order, in new memory. Conditions: at most 12 trials, where the slice says.
-/
import Derived.Test.YtclapdfkgafenaaGreatDoorFrc
set_option linter.unusedVariables false
set_option linter.unusedSimpArgs false
open Go Go.Proofs Go.RowKit Go.Sort
set_option maxRecDepth 100000
namespace Go.Mk
theorem OwnZ.at_ {w : World} {B k c : Nat} {a : Option Addr} {Q : List Int} (h : OwnZ w B (.slice a k c) Q) (hl : Q.length = k) {j : Nat} (hj : j < k) : ∃ go, a = some ⟨go, 0, none⟩ ∧ B ≤ go ∧ go < w.heap.size ∧ k ≤ c ∧ (c : Int) ≤ 9223372036854775807 ∧ w.cell? ⟨go, j, none⟩ = some (.int .i64 (ga Q j)) := by
 unfold OwnZ at h
 rw [hl] at h
 obtain ⟨g, cap, hv, hb, hg⟩ := ownSome h (by omega)
 cases hv
 refine ⟨g, rfl, hb, hg, ?_⟩
 have hcap : k ≤ c ∧ (c : Int) ≤ 9223372036854775807 := by
  rcases h.2 with ⟨q, _⟩ | ⟨g', cap', cur, a, b, c1, d, e1, f, hx⟩
  ·simp at q
  ·obtain ⟨rfl, rfl⟩ : g = g' ∧ c = cap' := by simpa using a
   have : maxLen = 9223372036854775807 := rfl
   exact ⟨by omega, by omega⟩
 refine ⟨hcap.1, hcap.2, ?_⟩
 rw [World.ownsRow.cellAt h j (by omega), List.getElem?_map, ga_at (by omega)]; rfl
theorem OwnZ.shape {w : World} {B : Nat} {v : Value} {L : List Int} (h : OwnZ w B v L) : ∃ a c, v = .slice a L.length c := by
 rcases h.2 with ⟨hv, h0⟩ | ⟨g, cap, cur, hv, _⟩
 ·exact ⟨none, 0, by rw [hv, h0]⟩
 ·exact ⟨_, _, hv⟩
theorem own_low {w : World} {B B' e size n : Nat} {v : Value} {xs : List Value} (h : w.ownsRow B e size v n xs) (hB : B' ≤ B) : w.ownsRow B' e size v n xs := by
 refine ⟨h.1, ?_⟩
 rcases h.2 with q | ⟨g, cap, cur, a, b, c⟩
 ·exact .inl q
 ·exact .inr ⟨g, cap, cur, a, Nat.le_trans hB b, c⟩
theorem add_at (g o i : Nat) : (⟨g, o, none⟩ : Addr).add i = ⟨g, o + i, none⟩ := by unfold Addr.add; split <;> simp_all
theorem ints_one (L : List Int) : ∀ u ∈ L.map (fun z => Value.int .i64 z), u.oneCell' = true := by
 intro u hu
 obtain ⟨z, _, rfl⟩ := List.mem_map.1 hu
 rfl
theorem map_take_at {Q : List Int} {J i : Nat} {u : Value} (hl : Q.length = J + (Q.length - J)) (h : ((Q.take J).map fun z => Value.int .i64 z)[i]? = some u) : i < J ∧ u = .int .i64 (ga Q i) := by
 rw [List.getElem?_map, List.getElem?_take] at h
 by_cases q : i < J
 ·rw [if_pos q, ga_at (by omega)] at h
  exact ⟨q, (Option.some.inj h).symm⟩
 ·rw [if_neg q] at h; cases h
theorem map_drop_at {Q : List Int} {J i : Nat} {u : Value} (h : ((Q.drop J).map fun z => Value.int .i64 z)[i]? = some u) : J + i < Q.length ∧ u = .int .i64 (ga Q (J + i)) := by
 rw [List.getElem?_map, List.getElem?_drop] at h
 by_cases q : J + i < Q.length
 ·rw [ga_at q] at h
  exact ⟨q, (Option.some.inj h).symm⟩
 ·rw [List.getElem?_eq_none (by omega)] at h; cases h
def atD (x : Int) (Q : List Int) : Nat → Nat
 | 0 => 0
 | j + 1 => if ga Q j < x then atD x Q j else j + 1
theorem atD_spec (x : Int) (Q : List Int) : ∀ n, atD x Q n ≤ n ∧ (∀ i, atD x Q n ≤ i → i < n → ga Q i < x) ∧ (0 < atD x Q n → x ≤ ga Q (atD x Q n - 1))
 | 0 => ⟨Nat.le_refl _, fun i _ h => by omega, fun h => by simp [atD] at h⟩
 | j + 1 => by
  obtain ⟨h1, h2, h3⟩ := atD_spec x Q j
  unfold atD
  by_cases h : ga Q j < x
  ·rw [if_pos h]
   refine ⟨by omega, fun i hi hj => ?_, h3⟩
   by_cases e : i = j
   ·rw [e]; exact h
   ·exact h2 i hi (by omega)
  ·rw [if_neg h]
   exact ⟨Nat.le_refl _, fun i hi hj => by omega, fun _ => by simp; omega⟩
def insD (Q : List Int) (x : Int) : List Int := Q.take (atD x Q Q.length) ++ x :: Q.drop (atD x Q Q.length)
theorem insD_perm (Q : List Int) (x : Int) : (insD Q x).Perm (Q ++ [x]) := insert_perm _ _ _
theorem insD_pw {Q : List Int} {x : Int} (h : Q.Pairwise fun a b => b ≤ a) : (insD Q x).Pairwise fun a b => b ≤ a := by
 obtain ⟨h1, h2, h3⟩ := atD_spec x Q Q.length
 unfold insD
 generalize atD x Q Q.length = J at *
 have hd : ∀ y ∈ Q.drop J, y ≤ x := fun y hy => by
  obtain ⟨i, hi⟩ := List.mem_iff_getElem?.1 hy
  rw [List.getElem?_drop] at hi
  have hl := (List.getElem?_eq_some_iff.1 hi).1
  have := h2 (J + i) (by omega) hl
  rw [ga_at hl] at hi
  have e := Option.some.inj hi
  omega
 have ht : ∀ y ∈ Q.take J, x ≤ y := fun y hy => by
  obtain ⟨i, hi⟩ := List.mem_iff_getElem?.1 hy
  rw [List.getElem?_take] at hi
  by_cases q : i < J
  ·rw [if_pos q] at hi
   have hl := (List.getElem?_eq_some_iff.1 hi).1
   have h4 := h3 (by omega)
   by_cases e : i = J - 1
   ·rw [ga_at hl] at hi
    have e2 := Option.some.inj hi
    rw [← e2, e]; exact h4
   ·have h5 := (List.pairwise_iff_getElem.1 h) i (J - 1) hl (by omega) (by omega)
    have e1 : Q[i] = y := by rw [List.getElem?_eq_getElem hl] at hi; exact Option.some.inj hi
    have e2 : ga Q (J - 1) = Q[J - 1] := by
     have := ga_at (show J - 1 < Q.length by omega)
     rw [List.getElem?_eq_getElem (by omega)] at this
     exact (Option.some.inj this).symm
    rw [e1, ← e2] at h5
    omega
  ·rw [if_neg q] at hi; cases hi
 rw [List.pairwise_append]
 refine ⟨h.sublist (List.take_sublist _ _), ?_, ?_⟩
 ·rw [List.pairwise_cons]
  exact ⟨hd, h.sublist (List.drop_sublist _ _)⟩
 ·intro a ha b hb
  rcases List.mem_cons.1 hb with rfl | hb
  ·exact ht a ha
  ·have := ht a ha
   have := hd b hb
   omega
def serG : List Int → List Int → List Int
 | Q, [] => Q
 | Q, x :: l => if x < 0 then serG Q l else serG (insD Q x) l
theorem serG_spec : ∀ (T Q : List Int), Q.Pairwise (fun a b => b ≤ a) → (serG Q T).Pairwise (fun a b => b ≤ a) ∧ (serG Q T).Perm (Q ++ T.filter fun t => decide (0 ≤ t))
 | [], Q, h => ⟨h, by simp [serG]⟩
 | x :: T, Q, h => by
  rw [serG]
  by_cases hx : x < 0
  ·rw [if_pos hx, List.filter_cons_of_neg (by simp; omega)]
   exact serG_spec T Q h
  ·rw [if_neg hx, List.filter_cons_of_pos (by simp; omega)]
   obtain ⟨h1, h2⟩ := serG_spec T (insD Q x) (insD_pw h)
   refine ⟨h1, h2.trans ?_⟩
   have := (insD_perm Q x).append_right (T.filter fun t => decide (0 ≤ t))
   simpa using this
theorem serG_eq (T : List Int) : serG [] T = serD T := by
 obtain ⟨h1, h2⟩ := serG_spec T [] List.Pairwise.nil
 have h3 := List.pairwise_mergeSort (le := fun a b : Int => decide (b ≤ a)) (fun a b c h1 h2 => by simp at *; omega) (fun a b => by simp; omega) (T.filter fun t => decide (0 ≤ t))
 unfold serD
 refine List.Perm.eq_of_pairwise (le := fun a b => b ≤ a) (fun a b _ _ h1 h2 => by omega) h1 (h3.imp (fun h => by simpa using h)) ?_
 exact (by simpa using h2 : (serG [] T).Perm (T.filter fun t => decide (0 ≤ t))).trans (List.mergeSort_perm _ _).symm
theorem serG_drop {T Q : List Int} {k : Nat} {x : Int} (h : T[k]? = some x) : serG Q (T.drop k) = if x < 0 then serG Q (T.drop (k + 1)) else serG (insD Q x) (T.drop (k + 1)) := by
 obtain ⟨hk, rfl⟩ := List.getElem?_eq_some_iff.1 h
 rw [List.drop_eq_getElem_cons hk, serG]
theorem insD_own {w : World} {B B' k J : Nat} {x : Int} {Q : List Int} {v : Value} (h : w.ownsRow B 3 1 v (0 + J + 1 + (k - J)) ((([] ++ (Q.take J).map fun z => Value.int .i64 z) ++ [.int .i64 x]) ++ (Q.drop J).map fun z => Value.int .i64 z)) (hB : B' ≤ B) (hQ : Q.length = k) (hj : J ≤ k) (ha : atD x Q k = J) :
  OwnZ w B' v (insD Q x) ∧ (insD Q x).length = k + 1 := by
 have hl : (insD Q x).length = k + 1 := by
  rw [(insD_perm _ _).length_eq, List.length_append, hQ]; rfl
 refine ⟨?_, hl⟩
 unfold OwnZ
 rw [hl]
 have := own_low h hB
 rw [show 0 + J + 1 + (k - J) = k + 1 by omega] at this
 unfold insD
 rw [hQ, ha]
 simpa using this
set_option maxHeartbeats 8000000 in
theorem r6Series_any (r : RowR) (w : World) (hT : IntsZ w r.A r.n r.T) (hn : r.n ≤ 12) :
  Calls Tryz.prog 52 #[.agg #[.string r.s, .slice r.A r.n r.c, .bool r.rt]] w (fun e w' => ∃ v, e = .returned v ∧ OwnZ w' w.heap.size v (serD r.T) ∧ Below w.heap.size w w') := by
 obtain ⟨i0, hi, hz0, hz1, hz2⟩ := info_parts infoInt
 obtain ⟨s, A, n, cr, T, rt⟩ := r
 dsimp only at *
 obtain ⟨w1, hw1⟩ : ∃ w1, w.alloc (.cells #[.string s, .slice A n cr, .bool rt] 62) = w1 := ⟨_, rfl⟩
 have hb1 : Below w.heap.size w w1 := by rw [← hw1]; exact balloc _ (Below.refl _ _)
 have c1 : w1.cell? ⟨w.heap.size, 1, none⟩ = some (.slice A n cr) := by rw [← hw1]; simp
 have hs1 : w.heap.size < w1.heap.size := by rw [← hw1]; simp
 have HX : Hid (∀ w', Below w1.heap.size w1 w' → w'.cell? ⟨w.heap.size, 1, none⟩ = some (.slice A n cr)) := Lib.hid fun w' hb => (hb.cell (p := ⟨w.heap.size, 1, none⟩) hs1).trans c1
 have hni : (n : Int) ≤ 12 := by omega
 have H := Lib.hid (hT.below hb1)
 have HL := Lib.hid hT.1
 have HB1 := Lib.hid hb1
 obtain ⟨X, hX⟩ : ∃ X, serD T = X := ⟨_, rfl⟩
 rw [hX]
 have HXX : Hid (serG [] (T.drop 0) = X) := Lib.hid (by rw [← hX, ← serG_eq]; rfl)
 clear hT hb1 hX hn hs1
 go_enter Tryz.func52, Tryz.ntmps52
 go_wp2
 go_loopw [3, 4] (fun v i wr => ∃ (k c m : Nat) (a : Option Addr) (Q : List Int), i = .int .i64 m ∧ m ≤ n ∧ k ≤ m ∧ v = .slice a k c ∧ (k = 0 → a = none ∧ c = 0) ∧ Hid (OwnZ wr w1.heap.size v Q) ∧ Hid (Q.length = k) ∧ Hid (serG Q (T.drop m) = X) ∧ Hid (Below w1.heap.size w1 wr)) (fun _ i _ => n - (RowKit.intOf i).toNat)
 case atStart => exact ⟨0, 0, 0, none, [], rfl, by omega, by omega, rfl, fun _ => ⟨rfl, rfl⟩, Lib.hid (World.ownsRow_nil _ _ _ _), Lib.hid rfl, HXX, Lib.hid (Below.refl _ _)⟩
 case round =>
  obtain ⟨k, c, m, a, Q, rfl, hm, hkm, rfl, hk00, HO, HQ, HK, HB⟩ := hrel
  have xc1 := HX.out _ HB.out
  by_cases hlt : m < n
  ·obtain ⟨b, off, x, rfl, hbl, hx, hcx⟩ := (H.out.below HB.out).cellAt hlt
   have hmi : (m : Int) < (n : Int) := by omega
   have hm0 : (0 : Int) ≤ (m : Int) := by omega
   have hmt : ((m : Int)).toNat = m := by omega
   have hst := HK.out
   rw [serG_drop hx] at hst
   by_cases hx0 : x < 0
   ·rw [if_pos hx0] at hst
    have HST := Lib.hid hst
    clear hst hx HK
    go_wp2
    go_roundw
    case rel => exact ⟨k, c, m + 1, a, Q, by go_num, by omega, by omega, rfl, hk00, HO, HQ, HST, HB⟩
    case measure => simp [RowKit.intOf]; omega
   ·rw [if_neg hx0] at hst
    have HST := Lib.hid hst
    have hki : (k : Int) ≤ (n : Int) := by omega
    clear hst hx HK
    obtain ⟨wy, rfl⟩ : ∃ wy : World, wy = wr := ⟨_, rfl⟩
    go_wp2
    go_loopw [6] (fun i wx => ∃ j : Nat, i = .int .i64 j ∧ j ≤ k ∧ Hid (atD x Q j = atD x Q k) ∧ Hid (Below wy.heap.size wy wx)) (fun i _ => (RowKit.intOf i).toNat)
    case atStart => exact ⟨k, rfl, by omega, Lib.hid rfl, Lib.hid (Below.refl _ _)⟩
    case round =>
     obtain ⟨j, rfl, hj, HJ, HBX⟩ := hrel
     clear xc1 hcx
     by_cases hj0 : 0 < j
     ·have hj0i : (0 : Int) < (j : Int) := by omega
      obtain ⟨j', rfl⟩ : ∃ j', j = j' + 1 := ⟨j - 1, by omega⟩
      obtain ⟨go, rfl, hgo1, hgo2, hc1, hc2, hco⟩ := OwnZ.at_ HO.out HQ.out (j := j') (by omega)
      have hco := (HBX.out.cell (p := ⟨go, j', none⟩) hgo2).trans hco
      have HAT : Hid (atD x Q (j' + 1) = if ga Q j' < x then atD x Q j' else j' + 1) := Lib.hid rfl
      obtain ⟨z, hz⟩ : ∃ z, ga Q j' = z := ⟨_, rfl⟩
      rw [hz] at hco HAT
      have hjp : (0 : Int) ≤ (j' : Int) := by omega
      have hjk : (j' : Int) < (k : Int) := by omega
      have hjt : ((j' : Int)).toNat = j' := by omega
      have hw1' : IntKind.i64.wrap (j' : Int) = (j' : Int) := wrapQ _ (by omega)
      clear hz
      by_cases hzn : z < x
      ·go_wp2
       go_roundw
       case rel => exact ⟨j', by go_num, by omega, Lib.hid (by rw [← HJ.out, HAT.out, if_pos hzn]), HBX⟩
       case measure => simp [RowKit.intOf]
      ·have hzn' : x ≤ z := by omega
       have HATJ : Hid (atD x Q k = j' + 1) := Lib.hid (by rw [← HJ.out, HAT.out, if_neg hzn])
       clear HAT HJ
       go_wp2_with fail
       obtain ⟨J, hJ⟩ : ∃ J, j' + 1 = J := ⟨_, rfl⟩
       rw [hJ] at HATJ hj
       have hJi : (j' : Int) + 1 = (J : Int) := by omega
       rw [hJi]
       have hk0 : 0 < k := by omega
       have hX := HBX.out
       generalize wr = w5 at hX ⊢
       clear hJ hJi hco HBX
       have hw5 := hX
       have hsz5 : w1.heap.size ≤ w5.heap.size := Nat.le_trans HB.out.size hw5.size
       have HN : Hid (∀ w', Below w5.heap.size w5 w' → ∀ i, i < k → w'.cell? ⟨go, i, none⟩ = some (.int .i64 (ga Q i))) := Lib.hid fun w' hq i hi9 => by
        obtain ⟨g', e9, _, hl9, _, _, hc9⟩ := OwnZ.at_ HO.out HQ.out hi9
        cases e9
        exact (hq.cell (p := ⟨go, i, none⟩) (Nat.lt_of_lt_of_le hl9 hw5.size)).trans ((hw5.cell (p := ⟨go, i, none⟩) hl9).trans hc9)
       have hs1 : (0 : Int) ≤ (J : Int) ∧ (J : Int) ≤ (c : Int) := by omega
       have hs2 : (0 : Int) ≤ (J : Int) ∧ (J : Int) ≤ (k : Int) := by omega
       obtain ⟨A2, hA2⟩ : ∃ A2 : Option Addr, (if c = J then some ⟨go, 0, none⟩ else some ⟨go, J, none⟩) = A2 := ⟨_, rfl⟩
       have hA2n : A2 ≠ none := by rw [← hA2]; split <;> simp
       have HN2 : Hid (∀ w', Below w5.heap.size w5 w' → ∀ ad, A2 = some ad → ∀ i u, ((Q.drop J).map fun z => Value.int .i64 z)[i]? = some u → w'.cell? (ad.add i) = some u) := Lib.hid fun w' hq ad had i u hu => by
        obtain ⟨q1, rfl⟩ := map_drop_at hu
        rw [HQ.out] at q1
        rw [← hA2, if_neg (by omega)] at had
        cases had
        rw [add_at]
        exact HN.out w' hq _ q1
       have HL1 : Hid (((Q.take J).map fun z => Value.int .i64 z).length = J * 1) := Lib.hid (by rw [List.length_map, List.length_take, HQ.out]; omega)
       have HL2 : Hid (((Q.drop J).map fun z => Value.int .i64 z).length = (k - J) * 1) := Lib.hid (by rw [List.length_map, List.length_drop, HQ.out]; omega)
       have HQL := Lib.hid (show Q.length = J + (Q.length - J) by rw [HQ.out]; omega)
       have hk0i : (0 : Int) ≤ (k : Int) := by omega
       have hkt : ((k : Int)).toNat = k := by omega
       refine wp_region_held_drew (S := fun w' => Below w5.heap.size w5 w') (by kernel_rfl) ?_ (fun hHeld => ?_)
       ·exact (Below.refl _ _).drew
       generalize World.drew w5 = wd at hHeld ⊢
       refine zT (i := 1) (v := ?_) rfl (Or.inl ⟨by kernel_rfl, ?_⟩) ?_
       rotate_left
       ·rintro w hw
        go_simp
        try with_reducible rfl
       try simp only [Act.put, zA1, zA2, zA3, zA4, zA5, zA6]
       refine zT (i := 2) (v := ?_) rfl (Or.inl ⟨by kernel_rfl, ?_⟩) ?_
       rotate_left
       ·rintro w hw
        go_simp
        try with_reducible rfl
       try simp only [Act.put, zA1, zA2, zA3, zA4, zA5, zA6]
       refine zT (i := 3) (v := ?_) rfl (Or.inl ⟨by kernel_rfl, ?_⟩) ?_
       rotate_left
       ·rintro w hw
        go_simp
        try simp only [if_pos hs1, if_pos hs2, hA2]
        try with_reducible rfl
       try simp only [Act.put, zA1, zA2, zA3, zA4, zA5, zA6]
       refine zT (i := 5) (v := ?_) rfl (Or.inl ⟨by kernel_rfl, ?_⟩) ?_
       rotate_left
       ·rintro w hw
        go_simp
        try with_reducible rfl
       try simp only [Act.put, zA1, zA2, zA3, zA4, zA5, zA6]
       refine zT (i := 8) (v := ?_) rfl (Or.inl ⟨by kernel_rfl, ?_⟩) ?_
       rotate_left
       ·rintro w hw
        go_simp
        try with_reducible rfl
       try simp only [Act.put, zA1, zA2, zA3, zA4, zA5, zA6]
       refine zT (i := 9) (v := ?_) rfl (Or.inl ⟨by kernel_rfl, ?_⟩) ?_
       rotate_left
       ·rintro w hw
        go_simp
        try with_reducible rfl
       try simp only [Act.put, zA1, zA2, zA3, zA4, zA5, zA6]
       refine zT (i := 10) (v := ?_) rfl (Or.inl ⟨by kernel_rfl, ?_⟩) ?_
       rotate_left
       ·rintro w hw
        go_simp
        try simp only [if_pos hs1, if_pos hs2, hA2]
        try with_reducible rfl
       try simp only [Act.put, zA1, zA2, zA3, zA4, zA5, zA6]
       skip
       refine wpAnyH_ready (rs := [0, 6]) (by kernel_rfl) (by simp) ?_
       refine AllReadyH.cons (o := _) rfl (fun K hKK => ?_) ?_
       ·skip
        go_simp
        have hrow := World.ownsRow_lit wd #[] 0 (base := w5.heap.size) (e := 3) (size := 1) hHeld.size (by decide) rfl
        have hN := hHeld.alloc hHeld.size (.cells #[] 3)
        clear hHeld
        refine hKK.out _ _ ?_ (fun hHeld => ?_)
        ·exact hN
        clear hKK K
        try simp only [Act.put, zA1, zA2, zA3, zA4, zA5, zA6]
        clear hN
        refine wpAnyH_ready (rs := [4, 6]) (by kernel_rfl) (by simp) ?_
        refine AllReadyH.cons (o := _) rfl (fun K hKK => ?_) ?_
        ·skip
         refine step_append_src rfl (.tmp 36) (.tmp 39) 59 rfl w5.heap.size 3 i0 (.int .i64 0) 1 8 Tryz.underlying59 hi hz0 hz1 hz2 rfl (by decide) (.slice (some ⟨wd.heap.size, 0, none⟩) 0 0) _ _ rfl hrow _ _ _ ((Q.take J).map fun z => Value.int .i64 z) rfl (HL1.out) (fun q => by cases q) (fun ad had i u hu => by cases had; obtain ⟨q1, rfl⟩ := map_take_at HQL.out hu; rw [add_at, Nat.zero_add]; exact HN.out _ hHeld _ (by omega)) (ints_one _) (by unfold maxLen; omega) (by omega) hHeld.size ?_
         intro v4 w9 hown9 hgrow hat
         have hN := hHeld.grown hgrow hHeld.size (fun r hr => (World.ownsRow.lt hrow r hr).1)
         clear hHeld hrow hat hgrow
         have hrow := hown9
         clear hown9
         refine hKK.out _ _ ?_ (fun hHeld => ?_)
         ·exact hN
         clear hKK K
         try simp only [Act.put, zA1, zA2, zA3, zA4, zA5, zA6]
         clear hN
         refine wpAnyH_ready (rs := [6]) (by kernel_rfl) (by simp) ?_
         refine AllReadyH.cons (o := _) rfl (fun K hKK => ?_) AllReadyH.nil
         go_simp
         have hc9 : (w9.alloc (.cells #[.int .i64 x] 3)).cell? ⟨w9.heap.size, 0, none⟩ = some (.int .i64 x) := by simp
         have hrow := World.ownsRow.alloc hrow (.cells #[.int .i64 x] 3)
         have hN := hHeld.alloc hHeld.size (.cells #[.int .i64 x] 3)
         clear hHeld
         refine hKK.out _ _ ?_ (fun hHeld => ?_)
         ·exact hN
         clear hKK K
         try simp only [Act.put, zA1, zA2, zA3, zA4, zA5, zA6]
         clear hN
         refine wpAnyH_ready (rs := [7]) (by kernel_rfl) (by simp) ?_
         refine AllReadyH.cons (o := _) rfl (fun K hKK => ?_) AllReadyH.nil
         refine step_append_src rfl (.tmp 40) (.tmp 42) 59 rfl w5.heap.size 3 i0 (.int .i64 0) 1 8 Tryz.underlying59 hi hz0 hz1 hz2 rfl (by decide) v4 _ _ rfl hrow _ _ _ ([.int .i64 x]) rfl (rfl) (fun q => by cases q) (fun ad had i u hu => by cases had; match i, hu with | 0, hu => (simp at hu; subst hu; rw [add_at]; first | exact hc9 | (simp; done) | simpa using hc9)) (by intro u hu; rw [List.mem_singleton] at hu; subst hu; rfl) (by unfold maxLen; omega) (by omega) hHeld.size ?_
         intro v7 w9 hown9 hgrow hat
         clear hc9
         have hN := hHeld.grown hgrow hHeld.size (fun r hr => (World.ownsRow.lt hrow r hr).1)
         clear hHeld hrow hat hgrow
         have hrow := hown9
         clear hown9
         refine hKK.out _ _ ?_ (fun hHeld => ?_)
         ·exact hN
         clear hKK K
         try simp only [Act.put, zA1, zA2, zA3, zA4, zA5, zA6]
         clear hN
         refine wpAnyH_ready (rs := [11]) (by kernel_rfl) (by simp) ?_
         refine AllReadyH.cons (o := _) rfl (fun K hKK => ?_) AllReadyH.nil
         refine step_append_src rfl (.tmp 43) (.tmp 46) 59 rfl w5.heap.size 3 i0 (.int .i64 0) 1 8 Tryz.underlying59 hi hz0 hz1 hz2 rfl (by decide) v7 _ _ rfl hrow _ _ _ ((Q.drop J).map fun z => Value.int .i64 z) rfl (HL2.out) (fun q => absurd q hA2n) (HN2.out _ hHeld) (ints_one _) (by unfold maxLen; omega) (by omega) hHeld.size ?_
         intro v11 w9 hown9 hgrow hat
         have hN := hHeld.grown hgrow hHeld.size (fun r hr => (World.ownsRow.lt hrow r hr).1)
         clear hHeld hrow hat hgrow
         have hrow := hown9
         clear hown9
         refine hKK.out _ _ ?_ (fun hHeld => ?_)
         ·exact hN
         clear hKK K
         try simp only [Act.put, zA1, zA2, zA3, zA4, zA5, zA6]
         clear hN
         refine wpAnyH_ready (rs := [12]) (by kernel_rfl) (by simp) ?_
         refine AllReadyH.cons (o := _) rfl (fun K hKK => ?_) AllReadyH.nil
         go_simp
         refine hKK.out _ _ ?_ (fun hHeld => ?_)
         ·exact hHeld
         clear hKK K
         try simp only [Act.put, zA1, zA2, zA3, zA4, zA5, zA6]
         refine wpAnyH_done (by kernel_rfl) ?_ _
         have hB9 := bstep (bstep HB.out hw5) hHeld
         obtain ⟨q1, q2⟩ := insD_own hrow hsz5 HQ.out hj HATJ.out
         obtain ⟨a9, c9, rfl⟩ := q1.shape
         generalize hins : insD Q x = R9 at *
         rw [q2] at q1
         have HR := Lib.hid (And.intro q1 (And.intro q2 hB9))
         rw [q2]
         clear hrow q1 q2 hB9 hHeld hw5 hsz5
         go_wp2
         go_roundw
         case rel => exact ⟨k + 1, c9, m + 1, a9, R9, by go_num, by omega, by omega, rfl, by omega, Lib.hid HR.out.1, Lib.hid HR.out.2.1, HST, Lib.hid HR.out.2.2⟩
         case measure => simp [RowKit.intOf]; omega
        ·refine AllReadyH.cons (o := _) rfl (fun K hKK => ?_) AllReadyH.nil
         go_simp
         have hc9 : ((wd.alloc (.cells #[] 3)).alloc (.cells #[.int .i64 x] 3)).cell? ⟨(wd.alloc (.cells #[] 3)).heap.size, 0, none⟩ = some (.int .i64 x) := by simp
         have hrow := World.ownsRow.alloc hrow (.cells #[.int .i64 x] 3)
         have hN := hHeld.alloc hHeld.size (.cells #[.int .i64 x] 3)
         clear hHeld
         refine hKK.out _ _ ?_ (fun hHeld => ?_)
         ·exact hN
         clear hKK K
         try simp only [Act.put, zA1, zA2, zA3, zA4, zA5, zA6]
         clear hN
         refine wpAnyH_ready (rs := [4]) (by kernel_rfl) (by simp) ?_
         refine AllReadyH.cons (o := _) rfl (fun K hKK => ?_) AllReadyH.nil
         refine step_append_src rfl (.tmp 36) (.tmp 39) 59 rfl w5.heap.size 3 i0 (.int .i64 0) 1 8 Tryz.underlying59 hi hz0 hz1 hz2 rfl (by decide) (.slice (some ⟨wd.heap.size, 0, none⟩) 0 0) _ _ rfl hrow _ _ _ ((Q.take J).map fun z => Value.int .i64 z) rfl (HL1.out) (fun q => by cases q) (fun ad had i u hu => by cases had; obtain ⟨q1, rfl⟩ := map_take_at HQL.out hu; rw [add_at, Nat.zero_add]; exact HN.out _ hHeld _ (by omega)) (ints_one _) (by unfold maxLen; omega) (by omega) hHeld.size ?_
         intro v4 w9 hown9 hgrow hat
         have hc9 := hgrow.cell hc9 (by intro q; simp [Value.ownBlock] at q <;> omega)
         have hN := hHeld.grown hgrow hHeld.size (fun r hr => (World.ownsRow.lt hrow r hr).1)
         clear hHeld hrow hat hgrow
         have hrow := hown9
         clear hown9
         refine hKK.out _ _ ?_ (fun hHeld => ?_)
         ·exact hN
         clear hKK K
         try simp only [Act.put, zA1, zA2, zA3, zA4, zA5, zA6]
         clear hN
         refine wpAnyH_ready (rs := [7]) (by kernel_rfl) (by simp) ?_
         refine AllReadyH.cons (o := _) rfl (fun K hKK => ?_) AllReadyH.nil
         refine step_append_src rfl (.tmp 40) (.tmp 42) 59 rfl w5.heap.size 3 i0 (.int .i64 0) 1 8 Tryz.underlying59 hi hz0 hz1 hz2 rfl (by decide) v4 _ _ rfl hrow _ _ _ ([.int .i64 x]) rfl (rfl) (fun q => by cases q) (fun ad had i u hu => by cases had; match i, hu with | 0, hu => (simp at hu; subst hu; rw [add_at]; first | exact hc9 | (simp; done) | simpa using hc9)) (by intro u hu; rw [List.mem_singleton] at hu; subst hu; rfl) (by unfold maxLen; omega) (by omega) hHeld.size ?_
         intro v7 w9 hown9 hgrow hat
         clear hc9
         have hN := hHeld.grown hgrow hHeld.size (fun r hr => (World.ownsRow.lt hrow r hr).1)
         clear hHeld hrow hat hgrow
         have hrow := hown9
         clear hown9
         refine hKK.out _ _ ?_ (fun hHeld => ?_)
         ·exact hN
         clear hKK K
         try simp only [Act.put, zA1, zA2, zA3, zA4, zA5, zA6]
         clear hN
         refine wpAnyH_ready (rs := [11]) (by kernel_rfl) (by simp) ?_
         refine AllReadyH.cons (o := _) rfl (fun K hKK => ?_) AllReadyH.nil
         refine step_append_src rfl (.tmp 43) (.tmp 46) 59 rfl w5.heap.size 3 i0 (.int .i64 0) 1 8 Tryz.underlying59 hi hz0 hz1 hz2 rfl (by decide) v7 _ _ rfl hrow _ _ _ ((Q.drop J).map fun z => Value.int .i64 z) rfl (HL2.out) (fun q => absurd q hA2n) (HN2.out _ hHeld) (ints_one _) (by unfold maxLen; omega) (by omega) hHeld.size ?_
         intro v11 w9 hown9 hgrow hat
         have hN := hHeld.grown hgrow hHeld.size (fun r hr => (World.ownsRow.lt hrow r hr).1)
         clear hHeld hrow hat hgrow
         have hrow := hown9
         clear hown9
         refine hKK.out _ _ ?_ (fun hHeld => ?_)
         ·exact hN
         clear hKK K
         try simp only [Act.put, zA1, zA2, zA3, zA4, zA5, zA6]
         clear hN
         refine wpAnyH_ready (rs := [12]) (by kernel_rfl) (by simp) ?_
         refine AllReadyH.cons (o := _) rfl (fun K hKK => ?_) AllReadyH.nil
         go_simp
         refine hKK.out _ _ ?_ (fun hHeld => ?_)
         ·exact hHeld
         clear hKK K
         try simp only [Act.put, zA1, zA2, zA3, zA4, zA5, zA6]
         refine wpAnyH_done (by kernel_rfl) ?_ _
         have hB9 := bstep (bstep HB.out hw5) hHeld
         obtain ⟨q1, q2⟩ := insD_own hrow hsz5 HQ.out hj HATJ.out
         obtain ⟨a9, c9, rfl⟩ := q1.shape
         generalize hins : insD Q x = R9 at *
         rw [q2] at q1
         have HR := Lib.hid (And.intro q1 (And.intro q2 hB9))
         rw [q2]
         clear hrow q1 q2 hB9 hHeld hw5 hsz5
         go_wp2
         go_roundw
         case rel => exact ⟨k + 1, c9, m + 1, a9, R9, by go_num, by omega, by omega, rfl, by omega, Lib.hid HR.out.1, Lib.hid HR.out.2.1, HST, Lib.hid HR.out.2.2⟩
         case measure => simp [RowKit.intOf]; omega
       ·refine AllReadyH.cons (o := _) rfl (fun K hKK => ?_) AllReadyH.nil
        go_simp
        have hc9 : (wd.alloc (.cells #[.int .i64 x] 3)).cell? ⟨wd.heap.size, 0, none⟩ = some (.int .i64 x) := by simp
        have hN := hHeld.alloc hHeld.size (.cells #[.int .i64 x] 3)
        clear hHeld
        refine hKK.out _ _ ?_ (fun hHeld => ?_)
        ·exact hN
        clear hKK K
        try simp only [Act.put, zA1, zA2, zA3, zA4, zA5, zA6]
        clear hN
        refine wpAnyH_ready (rs := [0]) (by kernel_rfl) (by simp) ?_
        refine AllReadyH.cons (o := _) rfl (fun K hKK => ?_) AllReadyH.nil
        go_simp
        have hrow : ((wd.alloc (.cells #[.int .i64 x] 3)).alloc (.cells #[] 3)).ownsRow w5.heap.size 3 1 (.slice (some ⟨wd.heap.size + 1, 0, none⟩) 0 0) 0 [] := by rw [show wd.heap.size + 1 = (wd.alloc (.cells #[.int .i64 x] 3)).heap.size by simp]; exact World.ownsRow_lit _ #[] 0 hHeld.size (by decide) rfl
        have hc9 : ((wd.alloc (.cells #[.int .i64 x] 3)).alloc (.cells #[] 3)).cell? ⟨wd.heap.size, 0, none⟩ = some (.int .i64 x) := Lib.cell?_alloc_some _ hc9
        have hN := hHeld.alloc hHeld.size (.cells #[] 3)
        clear hHeld
        refine hKK.out _ _ ?_ (fun hHeld => ?_)
        ·exact hN
        clear hKK K
        try simp only [Act.put, zA1, zA2, zA3, zA4, zA5, zA6]
        clear hN
        refine wpAnyH_ready (rs := [4]) (by kernel_rfl) (by simp) ?_
        refine AllReadyH.cons (o := _) rfl (fun K hKK => ?_) AllReadyH.nil
        refine step_append_src rfl (.tmp 36) (.tmp 39) 59 rfl w5.heap.size 3 i0 (.int .i64 0) 1 8 Tryz.underlying59 hi hz0 hz1 hz2 rfl (by decide) (.slice (some ⟨wd.heap.size + 1, 0, none⟩) 0 0) _ _ rfl hrow _ _ _ ((Q.take J).map fun z => Value.int .i64 z) rfl (HL1.out) (fun q => by cases q) (fun ad had i u hu => by cases had; obtain ⟨q1, rfl⟩ := map_take_at HQL.out hu; rw [add_at, Nat.zero_add]; exact HN.out _ hHeld _ (by omega)) (ints_one _) (by unfold maxLen; omega) (by omega) hHeld.size ?_
        intro v4 w9 hown9 hgrow hat
        have hc9 := hgrow.cell hc9 (by intro q; simp [Value.ownBlock] at q <;> omega)
        have hN := hHeld.grown hgrow hHeld.size (fun r hr => (World.ownsRow.lt hrow r hr).1)
        clear hHeld hrow hat hgrow
        have hrow := hown9
        clear hown9
        refine hKK.out _ _ ?_ (fun hHeld => ?_)
        ·exact hN
        clear hKK K
        try simp only [Act.put, zA1, zA2, zA3, zA4, zA5, zA6]
        clear hN
        refine wpAnyH_ready (rs := [7]) (by kernel_rfl) (by simp) ?_
        refine AllReadyH.cons (o := _) rfl (fun K hKK => ?_) AllReadyH.nil
        refine step_append_src rfl (.tmp 40) (.tmp 42) 59 rfl w5.heap.size 3 i0 (.int .i64 0) 1 8 Tryz.underlying59 hi hz0 hz1 hz2 rfl (by decide) v4 _ _ rfl hrow _ _ _ ([.int .i64 x]) rfl (rfl) (fun q => by cases q) (fun ad had i u hu => by cases had; match i, hu with | 0, hu => (simp at hu; subst hu; rw [add_at]; first | exact hc9 | (simp; done) | simpa using hc9)) (by intro u hu; rw [List.mem_singleton] at hu; subst hu; rfl) (by unfold maxLen; omega) (by omega) hHeld.size ?_
        intro v7 w9 hown9 hgrow hat
        clear hc9
        have hN := hHeld.grown hgrow hHeld.size (fun r hr => (World.ownsRow.lt hrow r hr).1)
        clear hHeld hrow hat hgrow
        have hrow := hown9
        clear hown9
        refine hKK.out _ _ ?_ (fun hHeld => ?_)
        ·exact hN
        clear hKK K
        try simp only [Act.put, zA1, zA2, zA3, zA4, zA5, zA6]
        clear hN
        refine wpAnyH_ready (rs := [11]) (by kernel_rfl) (by simp) ?_
        refine AllReadyH.cons (o := _) rfl (fun K hKK => ?_) AllReadyH.nil
        refine step_append_src rfl (.tmp 43) (.tmp 46) 59 rfl w5.heap.size 3 i0 (.int .i64 0) 1 8 Tryz.underlying59 hi hz0 hz1 hz2 rfl (by decide) v7 _ _ rfl hrow _ _ _ ((Q.drop J).map fun z => Value.int .i64 z) rfl (HL2.out) (fun q => absurd q hA2n) (HN2.out _ hHeld) (ints_one _) (by unfold maxLen; omega) (by omega) hHeld.size ?_
        intro v11 w9 hown9 hgrow hat
        have hN := hHeld.grown hgrow hHeld.size (fun r hr => (World.ownsRow.lt hrow r hr).1)
        clear hHeld hrow hat hgrow
        have hrow := hown9
        clear hown9
        refine hKK.out _ _ ?_ (fun hHeld => ?_)
        ·exact hN
        clear hKK K
        try simp only [Act.put, zA1, zA2, zA3, zA4, zA5, zA6]
        clear hN
        refine wpAnyH_ready (rs := [12]) (by kernel_rfl) (by simp) ?_
        refine AllReadyH.cons (o := _) rfl (fun K hKK => ?_) AllReadyH.nil
        go_simp
        refine hKK.out _ _ ?_ (fun hHeld => ?_)
        ·exact hHeld
        clear hKK K
        try simp only [Act.put, zA1, zA2, zA3, zA4, zA5, zA6]
        refine wpAnyH_done (by kernel_rfl) ?_ _
        have hB9 := bstep (bstep HB.out hw5) hHeld
        obtain ⟨q1, q2⟩ := insD_own hrow hsz5 HQ.out hj HATJ.out
        obtain ⟨a9, c9, rfl⟩ := q1.shape
        generalize hins : insD Q x = R9 at *
        rw [q2] at q1
        have HR := Lib.hid (And.intro q1 (And.intro q2 hB9))
        rw [q2]
        clear hrow q1 q2 hB9 hHeld hw5 hsz5
        go_wp2
        go_roundw
        case rel => exact ⟨k + 1, c9, m + 1, a9, R9, by go_num, by omega, by omega, rfl, by omega, Lib.hid HR.out.1, Lib.hid HR.out.2.1, HST, Lib.hid HR.out.2.2⟩
        case measure => simp [RowKit.intOf]; omega
     ·obtain rfl : j = 0 := by omega
      have HATJ : Hid (atD x Q k = 0) := Lib.hid (by rw [← HJ.out]; rfl)
      have hX := HBX.out
      by_cases hkk : k = 0
      ·obtain ⟨rfl, rfl⟩ := hk00 hkk
       have hQn : Q = [] := List.eq_nil_of_length_eq_zero (HQ.out.trans hkk)
       subst hQn
       have HKK := Lib.hid hkk
       clear hkk hk00 HJ
       go_wp2_with fail
       generalize wr = w5 at hX ⊢
       have hw5 := hX
       have hsz5 : w1.heap.size ≤ w5.heap.size := Nat.le_trans HB.out.size hw5.size
       have hk0i : (0 : Int) ≤ (k : Int) := by omega
       have hkt : ((k : Int)).toNat = k := by omega
       refine wp_region_held_drew (S := fun w' => Below w5.heap.size w5 w') (by kernel_rfl) ?_ (fun hHeld => ?_)
       ·exact (Below.refl _ _).drew
       generalize World.drew w5 = wd at hHeld ⊢
       refine zT (i := 1) (v := ?_) rfl (Or.inl ⟨by kernel_rfl, ?_⟩) ?_
       rotate_left
       ·rintro w hw
        go_simp
        try with_reducible rfl
       try simp only [Act.put, zA1, zA2, zA3, zA4, zA5, zA6]
       refine zT (i := 2) (v := ?_) rfl (Or.inl ⟨by kernel_rfl, ?_⟩) ?_
       rotate_left
       ·rintro w hw
        go_simp
        try with_reducible rfl
       try simp only [Act.put, zA1, zA2, zA3, zA4, zA5, zA6]
       refine zT (i := 3) (v := ?_) rfl (Or.inl ⟨by kernel_rfl, ?_⟩) ?_
       rotate_left
       ·rintro w hw
        go_simp
        try with_reducible rfl
       try simp only [Act.put, zA1, zA2, zA3, zA4, zA5, zA6]
       refine zT (i := 5) (v := ?_) rfl (Or.inl ⟨by kernel_rfl, ?_⟩) ?_
       rotate_left
       ·rintro w hw
        go_simp
        try with_reducible rfl
       try simp only [Act.put, zA1, zA2, zA3, zA4, zA5, zA6]
       refine zT (i := 8) (v := ?_) rfl (Or.inl ⟨by kernel_rfl, ?_⟩) ?_
       rotate_left
       ·rintro w hw
        go_simp
        try with_reducible rfl
       try simp only [Act.put, zA1, zA2, zA3, zA4, zA5, zA6]
       refine zT (i := 9) (v := ?_) rfl (Or.inl ⟨by kernel_rfl, ?_⟩) ?_
       rotate_left
       ·rintro w hw
        go_simp
        try with_reducible rfl
       try simp only [Act.put, zA1, zA2, zA3, zA4, zA5, zA6]
       refine zT (i := 10) (v := ?_) rfl (Or.inl ⟨by kernel_rfl, ?_⟩) ?_
       rotate_left
       ·rintro w hw
        go_simp
        try with_reducible rfl
       try simp only [Act.put, zA1, zA2, zA3, zA4, zA5, zA6]
       skip
       refine wpAnyH_ready (rs := [0, 6]) (by kernel_rfl) (by simp) ?_
       refine AllReadyH.cons (o := _) rfl (fun K hKK => ?_) ?_
       ·skip
        go_simp
        have hrow := World.ownsRow_lit wd #[] 0 (base := w5.heap.size) (e := 3) (size := 1) hHeld.size (by decide) rfl
        have hN := hHeld.alloc hHeld.size (.cells #[] 3)
        clear hHeld
        refine hKK.out _ _ ?_ (fun hHeld => ?_)
        ·exact hN
        clear hKK K
        try simp only [Act.put, zA1, zA2, zA3, zA4, zA5, zA6]
        clear hN
        refine wpAnyH_ready (rs := [4, 6]) (by kernel_rfl) (by simp) ?_
        refine AllReadyH.cons (o := _) rfl (fun K hKK => ?_) ?_
        ·skip
         refine step_append_src rfl (.tmp 36) (.tmp 39) 59 rfl w5.heap.size 3 i0 (.int .i64 0) 1 8 Tryz.underlying59 hi hz0 hz1 hz2 rfl (by decide) (.slice (some ⟨wd.heap.size, 0, none⟩) 0 0) _ _ rfl hrow _ _ _ (([] : List Int).map fun z => Value.int .i64 z) rfl (rfl) (fun _ => ⟨rfl, rfl⟩) (fun ad q => by cases q) (ints_one _) (by unfold maxLen; omega) (by omega) hHeld.size ?_
         intro v4 w9 hown9 hgrow hat
         have hN := hHeld.grown hgrow hHeld.size (fun r hr => (World.ownsRow.lt hrow r hr).1)
         clear hHeld hrow hat hgrow
         have hrow := hown9
         clear hown9
         refine hKK.out _ _ ?_ (fun hHeld => ?_)
         ·exact hN
         clear hKK K
         try simp only [Act.put, zA1, zA2, zA3, zA4, zA5, zA6]
         clear hN
         refine wpAnyH_ready (rs := [6]) (by kernel_rfl) (by simp) ?_
         refine AllReadyH.cons (o := _) rfl (fun K hKK => ?_) AllReadyH.nil
         go_simp
         have hc9 : (w9.alloc (.cells #[.int .i64 x] 3)).cell? ⟨w9.heap.size, 0, none⟩ = some (.int .i64 x) := by simp
         have hrow := World.ownsRow.alloc hrow (.cells #[.int .i64 x] 3)
         have hN := hHeld.alloc hHeld.size (.cells #[.int .i64 x] 3)
         clear hHeld
         refine hKK.out _ _ ?_ (fun hHeld => ?_)
         ·exact hN
         clear hKK K
         try simp only [Act.put, zA1, zA2, zA3, zA4, zA5, zA6]
         clear hN
         refine wpAnyH_ready (rs := [7]) (by kernel_rfl) (by simp) ?_
         refine AllReadyH.cons (o := _) rfl (fun K hKK => ?_) AllReadyH.nil
         refine step_append_src rfl (.tmp 40) (.tmp 42) 59 rfl w5.heap.size 3 i0 (.int .i64 0) 1 8 Tryz.underlying59 hi hz0 hz1 hz2 rfl (by decide) v4 _ _ rfl hrow _ _ _ ([.int .i64 x]) rfl (rfl) (fun q => by cases q) (fun ad had i u hu => by cases had; match i, hu with | 0, hu => (simp at hu; subst hu; rw [add_at]; first | exact hc9 | (simp; done) | simpa using hc9)) (by intro u hu; rw [List.mem_singleton] at hu; subst hu; rfl) (by unfold maxLen; omega) (by omega) hHeld.size ?_
         intro v7 w9 hown9 hgrow hat
         clear hc9
         have hN := hHeld.grown hgrow hHeld.size (fun r hr => (World.ownsRow.lt hrow r hr).1)
         clear hHeld hrow hat hgrow
         have hrow := hown9
         clear hown9
         refine hKK.out _ _ ?_ (fun hHeld => ?_)
         ·exact hN
         clear hKK K
         try simp only [Act.put, zA1, zA2, zA3, zA4, zA5, zA6]
         clear hN
         refine wpAnyH_ready (rs := [11]) (by kernel_rfl) (by simp) ?_
         refine AllReadyH.cons (o := _) rfl (fun K hKK => ?_) AllReadyH.nil
         refine step_append_src rfl (.tmp 43) (.tmp 46) 59 rfl w5.heap.size 3 i0 (.int .i64 0) 1 8 Tryz.underlying59 hi hz0 hz1 hz2 rfl (by decide) v7 _ _ rfl hrow _ _ _ (([] : List Int).map fun z => Value.int .i64 z) rfl (by rw [HKK.out]; rfl) (fun _ => ⟨HKK.out, rfl⟩) (fun ad q => by cases q) (ints_one _) (by unfold maxLen; omega) (by omega) hHeld.size ?_
         intro v11 w9 hown9 hgrow hat
         have hN := hHeld.grown hgrow hHeld.size (fun r hr => (World.ownsRow.lt hrow r hr).1)
         clear hHeld hrow hat hgrow
         have hrow := hown9
         clear hown9
         refine hKK.out _ _ ?_ (fun hHeld => ?_)
         ·exact hN
         clear hKK K
         try simp only [Act.put, zA1, zA2, zA3, zA4, zA5, zA6]
         clear hN
         refine wpAnyH_ready (rs := [12]) (by kernel_rfl) (by simp) ?_
         refine AllReadyH.cons (o := _) rfl (fun K hKK => ?_) AllReadyH.nil
         go_simp
         refine hKK.out _ _ ?_ (fun hHeld => ?_)
         ·exact hHeld
         clear hKK K
         try simp only [Act.put, zA1, zA2, zA3, zA4, zA5, zA6]
         refine wpAnyH_done (by kernel_rfl) ?_ _
         have hB9 := bstep (bstep HB.out hw5) hHeld
         obtain ⟨q1, q2⟩ := insD_own (x := x) (Q := []) (k := k) (J := 0) hrow hsz5 HQ.out (Nat.zero_le _) HATJ.out
         obtain ⟨a9, c9, rfl⟩ := q1.shape
         generalize hins : insD [] x = R9 at *
         rw [q2] at q1
         have HR := Lib.hid (And.intro q1 (And.intro q2 hB9))
         rw [q2]
         clear hrow q1 q2 hB9 hHeld hw5 hsz5
         go_wp2
         go_roundw
         case rel => exact ⟨k + 1, c9, m + 1, a9, R9, by go_num, by omega, by omega, rfl, by omega, Lib.hid HR.out.1, Lib.hid HR.out.2.1, HST, Lib.hid HR.out.2.2⟩
         case measure => simp [RowKit.intOf]; omega
        ·refine AllReadyH.cons (o := _) rfl (fun K hKK => ?_) AllReadyH.nil
         go_simp
         have hc9 : ((wd.alloc (.cells #[] 3)).alloc (.cells #[.int .i64 x] 3)).cell? ⟨(wd.alloc (.cells #[] 3)).heap.size, 0, none⟩ = some (.int .i64 x) := by simp
         have hrow := World.ownsRow.alloc hrow (.cells #[.int .i64 x] 3)
         have hN := hHeld.alloc hHeld.size (.cells #[.int .i64 x] 3)
         clear hHeld
         refine hKK.out _ _ ?_ (fun hHeld => ?_)
         ·exact hN
         clear hKK K
         try simp only [Act.put, zA1, zA2, zA3, zA4, zA5, zA6]
         clear hN
         refine wpAnyH_ready (rs := [4]) (by kernel_rfl) (by simp) ?_
         refine AllReadyH.cons (o := _) rfl (fun K hKK => ?_) AllReadyH.nil
         refine step_append_src rfl (.tmp 36) (.tmp 39) 59 rfl w5.heap.size 3 i0 (.int .i64 0) 1 8 Tryz.underlying59 hi hz0 hz1 hz2 rfl (by decide) (.slice (some ⟨wd.heap.size, 0, none⟩) 0 0) _ _ rfl hrow _ _ _ (([] : List Int).map fun z => Value.int .i64 z) rfl (rfl) (fun _ => ⟨rfl, rfl⟩) (fun ad q => by cases q) (ints_one _) (by unfold maxLen; omega) (by omega) hHeld.size ?_
         intro v4 w9 hown9 hgrow hat
         have hc9 := hgrow.cell hc9 (by intro q; simp [Value.ownBlock] at q <;> omega)
         have hN := hHeld.grown hgrow hHeld.size (fun r hr => (World.ownsRow.lt hrow r hr).1)
         clear hHeld hrow hat hgrow
         have hrow := hown9
         clear hown9
         refine hKK.out _ _ ?_ (fun hHeld => ?_)
         ·exact hN
         clear hKK K
         try simp only [Act.put, zA1, zA2, zA3, zA4, zA5, zA6]
         clear hN
         refine wpAnyH_ready (rs := [7]) (by kernel_rfl) (by simp) ?_
         refine AllReadyH.cons (o := _) rfl (fun K hKK => ?_) AllReadyH.nil
         refine step_append_src rfl (.tmp 40) (.tmp 42) 59 rfl w5.heap.size 3 i0 (.int .i64 0) 1 8 Tryz.underlying59 hi hz0 hz1 hz2 rfl (by decide) v4 _ _ rfl hrow _ _ _ ([.int .i64 x]) rfl (rfl) (fun q => by cases q) (fun ad had i u hu => by cases had; match i, hu with | 0, hu => (simp at hu; subst hu; rw [add_at]; first | exact hc9 | (simp; done) | simpa using hc9)) (by intro u hu; rw [List.mem_singleton] at hu; subst hu; rfl) (by unfold maxLen; omega) (by omega) hHeld.size ?_
         intro v7 w9 hown9 hgrow hat
         clear hc9
         have hN := hHeld.grown hgrow hHeld.size (fun r hr => (World.ownsRow.lt hrow r hr).1)
         clear hHeld hrow hat hgrow
         have hrow := hown9
         clear hown9
         refine hKK.out _ _ ?_ (fun hHeld => ?_)
         ·exact hN
         clear hKK K
         try simp only [Act.put, zA1, zA2, zA3, zA4, zA5, zA6]
         clear hN
         refine wpAnyH_ready (rs := [11]) (by kernel_rfl) (by simp) ?_
         refine AllReadyH.cons (o := _) rfl (fun K hKK => ?_) AllReadyH.nil
         refine step_append_src rfl (.tmp 43) (.tmp 46) 59 rfl w5.heap.size 3 i0 (.int .i64 0) 1 8 Tryz.underlying59 hi hz0 hz1 hz2 rfl (by decide) v7 _ _ rfl hrow _ _ _ (([] : List Int).map fun z => Value.int .i64 z) rfl (by rw [HKK.out]; rfl) (fun _ => ⟨HKK.out, rfl⟩) (fun ad q => by cases q) (ints_one _) (by unfold maxLen; omega) (by omega) hHeld.size ?_
         intro v11 w9 hown9 hgrow hat
         have hN := hHeld.grown hgrow hHeld.size (fun r hr => (World.ownsRow.lt hrow r hr).1)
         clear hHeld hrow hat hgrow
         have hrow := hown9
         clear hown9
         refine hKK.out _ _ ?_ (fun hHeld => ?_)
         ·exact hN
         clear hKK K
         try simp only [Act.put, zA1, zA2, zA3, zA4, zA5, zA6]
         clear hN
         refine wpAnyH_ready (rs := [12]) (by kernel_rfl) (by simp) ?_
         refine AllReadyH.cons (o := _) rfl (fun K hKK => ?_) AllReadyH.nil
         go_simp
         refine hKK.out _ _ ?_ (fun hHeld => ?_)
         ·exact hHeld
         clear hKK K
         try simp only [Act.put, zA1, zA2, zA3, zA4, zA5, zA6]
         refine wpAnyH_done (by kernel_rfl) ?_ _
         have hB9 := bstep (bstep HB.out hw5) hHeld
         obtain ⟨q1, q2⟩ := insD_own (x := x) (Q := []) (k := k) (J := 0) hrow hsz5 HQ.out (Nat.zero_le _) HATJ.out
         obtain ⟨a9, c9, rfl⟩ := q1.shape
         generalize hins : insD [] x = R9 at *
         rw [q2] at q1
         have HR := Lib.hid (And.intro q1 (And.intro q2 hB9))
         rw [q2]
         clear hrow q1 q2 hB9 hHeld hw5 hsz5
         go_wp2
         go_roundw
         case rel => exact ⟨k + 1, c9, m + 1, a9, R9, by go_num, by omega, by omega, rfl, by omega, Lib.hid HR.out.1, Lib.hid HR.out.2.1, HST, Lib.hid HR.out.2.2⟩
         case measure => simp [RowKit.intOf]; omega
       ·refine AllReadyH.cons (o := _) rfl (fun K hKK => ?_) AllReadyH.nil
        go_simp
        have hc9 : (wd.alloc (.cells #[.int .i64 x] 3)).cell? ⟨wd.heap.size, 0, none⟩ = some (.int .i64 x) := by simp
        have hN := hHeld.alloc hHeld.size (.cells #[.int .i64 x] 3)
        clear hHeld
        refine hKK.out _ _ ?_ (fun hHeld => ?_)
        ·exact hN
        clear hKK K
        try simp only [Act.put, zA1, zA2, zA3, zA4, zA5, zA6]
        clear hN
        refine wpAnyH_ready (rs := [0]) (by kernel_rfl) (by simp) ?_
        refine AllReadyH.cons (o := _) rfl (fun K hKK => ?_) AllReadyH.nil
        go_simp
        have hrow : ((wd.alloc (.cells #[.int .i64 x] 3)).alloc (.cells #[] 3)).ownsRow w5.heap.size 3 1 (.slice (some ⟨wd.heap.size + 1, 0, none⟩) 0 0) 0 [] := by rw [show wd.heap.size + 1 = (wd.alloc (.cells #[.int .i64 x] 3)).heap.size by simp]; exact World.ownsRow_lit _ #[] 0 hHeld.size (by decide) rfl
        have hc9 : ((wd.alloc (.cells #[.int .i64 x] 3)).alloc (.cells #[] 3)).cell? ⟨wd.heap.size, 0, none⟩ = some (.int .i64 x) := Lib.cell?_alloc_some _ hc9
        have hN := hHeld.alloc hHeld.size (.cells #[] 3)
        clear hHeld
        refine hKK.out _ _ ?_ (fun hHeld => ?_)
        ·exact hN
        clear hKK K
        try simp only [Act.put, zA1, zA2, zA3, zA4, zA5, zA6]
        clear hN
        refine wpAnyH_ready (rs := [4]) (by kernel_rfl) (by simp) ?_
        refine AllReadyH.cons (o := _) rfl (fun K hKK => ?_) AllReadyH.nil
        refine step_append_src rfl (.tmp 36) (.tmp 39) 59 rfl w5.heap.size 3 i0 (.int .i64 0) 1 8 Tryz.underlying59 hi hz0 hz1 hz2 rfl (by decide) (.slice (some ⟨wd.heap.size + 1, 0, none⟩) 0 0) _ _ rfl hrow _ _ _ (([] : List Int).map fun z => Value.int .i64 z) rfl (rfl) (fun _ => ⟨rfl, rfl⟩) (fun ad q => by cases q) (ints_one _) (by unfold maxLen; omega) (by omega) hHeld.size ?_
        intro v4 w9 hown9 hgrow hat
        have hc9 := hgrow.cell hc9 (by intro q; simp [Value.ownBlock] at q <;> omega)
        have hN := hHeld.grown hgrow hHeld.size (fun r hr => (World.ownsRow.lt hrow r hr).1)
        clear hHeld hrow hat hgrow
        have hrow := hown9
        clear hown9
        refine hKK.out _ _ ?_ (fun hHeld => ?_)
        ·exact hN
        clear hKK K
        try simp only [Act.put, zA1, zA2, zA3, zA4, zA5, zA6]
        clear hN
        refine wpAnyH_ready (rs := [7]) (by kernel_rfl) (by simp) ?_
        refine AllReadyH.cons (o := _) rfl (fun K hKK => ?_) AllReadyH.nil
        refine step_append_src rfl (.tmp 40) (.tmp 42) 59 rfl w5.heap.size 3 i0 (.int .i64 0) 1 8 Tryz.underlying59 hi hz0 hz1 hz2 rfl (by decide) v4 _ _ rfl hrow _ _ _ ([.int .i64 x]) rfl (rfl) (fun q => by cases q) (fun ad had i u hu => by cases had; match i, hu with | 0, hu => (simp at hu; subst hu; rw [add_at]; first | exact hc9 | (simp; done) | simpa using hc9)) (by intro u hu; rw [List.mem_singleton] at hu; subst hu; rfl) (by unfold maxLen; omega) (by omega) hHeld.size ?_
        intro v7 w9 hown9 hgrow hat
        clear hc9
        have hN := hHeld.grown hgrow hHeld.size (fun r hr => (World.ownsRow.lt hrow r hr).1)
        clear hHeld hrow hat hgrow
        have hrow := hown9
        clear hown9
        refine hKK.out _ _ ?_ (fun hHeld => ?_)
        ·exact hN
        clear hKK K
        try simp only [Act.put, zA1, zA2, zA3, zA4, zA5, zA6]
        clear hN
        refine wpAnyH_ready (rs := [11]) (by kernel_rfl) (by simp) ?_
        refine AllReadyH.cons (o := _) rfl (fun K hKK => ?_) AllReadyH.nil
        refine step_append_src rfl (.tmp 43) (.tmp 46) 59 rfl w5.heap.size 3 i0 (.int .i64 0) 1 8 Tryz.underlying59 hi hz0 hz1 hz2 rfl (by decide) v7 _ _ rfl hrow _ _ _ (([] : List Int).map fun z => Value.int .i64 z) rfl (by rw [HKK.out]; rfl) (fun _ => ⟨HKK.out, rfl⟩) (fun ad q => by cases q) (ints_one _) (by unfold maxLen; omega) (by omega) hHeld.size ?_
        intro v11 w9 hown9 hgrow hat
        have hN := hHeld.grown hgrow hHeld.size (fun r hr => (World.ownsRow.lt hrow r hr).1)
        clear hHeld hrow hat hgrow
        have hrow := hown9
        clear hown9
        refine hKK.out _ _ ?_ (fun hHeld => ?_)
        ·exact hN
        clear hKK K
        try simp only [Act.put, zA1, zA2, zA3, zA4, zA5, zA6]
        clear hN
        refine wpAnyH_ready (rs := [12]) (by kernel_rfl) (by simp) ?_
        refine AllReadyH.cons (o := _) rfl (fun K hKK => ?_) AllReadyH.nil
        go_simp
        refine hKK.out _ _ ?_ (fun hHeld => ?_)
        ·exact hHeld
        clear hKK K
        try simp only [Act.put, zA1, zA2, zA3, zA4, zA5, zA6]
        refine wpAnyH_done (by kernel_rfl) ?_ _
        have hB9 := bstep (bstep HB.out hw5) hHeld
        obtain ⟨q1, q2⟩ := insD_own (x := x) (Q := []) (k := k) (J := 0) hrow hsz5 HQ.out (Nat.zero_le _) HATJ.out
        obtain ⟨a9, c9, rfl⟩ := q1.shape
        generalize hins : insD [] x = R9 at *
        rw [q2] at q1
        have HR := Lib.hid (And.intro q1 (And.intro q2 hB9))
        rw [q2]
        clear hrow q1 q2 hB9 hHeld hw5 hsz5
        go_wp2
        go_roundw
        case rel => exact ⟨k + 1, c9, m + 1, a9, R9, by go_num, by omega, by omega, rfl, by omega, Lib.hid HR.out.1, Lib.hid HR.out.2.1, HST, Lib.hid HR.out.2.2⟩
        case measure => simp [RowKit.intOf]; omega
      ·clear hk00
       have hk0 : 0 < k := by omega
       obtain ⟨go, rfl, hgo1, hgo2, hc1, hc2, _⟩ := OwnZ.at_ HO.out HQ.out (j := 0) hk0
       clear HJ
       go_wp2_with fail
       generalize wr = w5 at hX ⊢
       have hw5 := hX
       have hsz5 : w1.heap.size ≤ w5.heap.size := Nat.le_trans HB.out.size hw5.size
       have HN : Hid (∀ w', Below w5.heap.size w5 w' → ∀ i, i < k → w'.cell? ⟨go, i, none⟩ = some (.int .i64 (ga Q i))) := Lib.hid fun w' hq i hi9 => by
        obtain ⟨g', e9, _, hl9, _, _, hc9⟩ := OwnZ.at_ HO.out HQ.out hi9
        cases e9
        exact (hq.cell (p := ⟨go, i, none⟩) (Nat.lt_of_lt_of_le hl9 hw5.size)).trans ((hw5.cell (p := ⟨go, i, none⟩) hl9).trans hc9)
       have hk0i : (0 : Int) ≤ (k : Int) := by omega
       have hkt : ((k : Int)).toNat = k := by omega
       refine wp_region_held_drew (S := fun w' => Below w5.heap.size w5 w') (by kernel_rfl) ?_ (fun hHeld => ?_)
       ·exact (Below.refl _ _).drew
       generalize World.drew w5 = wd at hHeld ⊢
       refine zT (i := 1) (v := ?_) rfl (Or.inl ⟨by kernel_rfl, ?_⟩) ?_
       rotate_left
       ·rintro w hw
        go_simp
        try with_reducible rfl
       try simp only [Act.put, zA1, zA2, zA3, zA4, zA5, zA6]
       refine zT (i := 2) (v := ?_) rfl (Or.inl ⟨by kernel_rfl, ?_⟩) ?_
       rotate_left
       ·rintro w hw
        go_simp
        try with_reducible rfl
       try simp only [Act.put, zA1, zA2, zA3, zA4, zA5, zA6]
       refine zT (i := 3) (v := ?_) rfl (Or.inl ⟨by kernel_rfl, ?_⟩) ?_
       rotate_left
       ·rintro w hw
        go_simp
        try with_reducible rfl
       try simp only [Act.put, zA1, zA2, zA3, zA4, zA5, zA6]
       refine zT (i := 5) (v := ?_) rfl (Or.inl ⟨by kernel_rfl, ?_⟩) ?_
       rotate_left
       ·rintro w hw
        go_simp
        try with_reducible rfl
       try simp only [Act.put, zA1, zA2, zA3, zA4, zA5, zA6]
       refine zT (i := 8) (v := ?_) rfl (Or.inl ⟨by kernel_rfl, ?_⟩) ?_
       rotate_left
       ·rintro w hw
        go_simp
        try with_reducible rfl
       try simp only [Act.put, zA1, zA2, zA3, zA4, zA5, zA6]
       refine zT (i := 9) (v := ?_) rfl (Or.inl ⟨by kernel_rfl, ?_⟩) ?_
       rotate_left
       ·rintro w hw
        go_simp
        try with_reducible rfl
       try simp only [Act.put, zA1, zA2, zA3, zA4, zA5, zA6]
       refine zT (i := 10) (v := ?_) rfl (Or.inl ⟨by kernel_rfl, ?_⟩) ?_
       rotate_left
       ·rintro w hw
        go_simp
        try with_reducible rfl
       try simp only [Act.put, zA1, zA2, zA3, zA4, zA5, zA6]
       skip
       refine wpAnyH_ready (rs := [0, 6]) (by kernel_rfl) (by simp) ?_
       refine AllReadyH.cons (o := _) rfl (fun K hKK => ?_) ?_
       ·skip
        go_simp
        have hrow := World.ownsRow_lit wd #[] 0 (base := w5.heap.size) (e := 3) (size := 1) hHeld.size (by decide) rfl
        have hN := hHeld.alloc hHeld.size (.cells #[] 3)
        clear hHeld
        refine hKK.out _ _ ?_ (fun hHeld => ?_)
        ·exact hN
        clear hKK K
        try simp only [Act.put, zA1, zA2, zA3, zA4, zA5, zA6]
        clear hN
        refine wpAnyH_ready (rs := [4, 6]) (by kernel_rfl) (by simp) ?_
        refine AllReadyH.cons (o := _) rfl (fun K hKK => ?_) ?_
        ·skip
         refine step_append_src rfl (.tmp 36) (.tmp 39) 59 rfl w5.heap.size 3 i0 (.int .i64 0) 1 8 Tryz.underlying59 hi hz0 hz1 hz2 rfl (by decide) (.slice (some ⟨wd.heap.size, 0, none⟩) 0 0) _ _ rfl hrow _ _ _ (([] : List Int).map fun z => Value.int .i64 z) rfl (rfl) (fun q => by cases q) (fun ad _ i u hu => by simp at hu) (ints_one _) (by unfold maxLen; omega) (by omega) hHeld.size ?_
         intro v4 w9 hown9 hgrow hat
         have hN := hHeld.grown hgrow hHeld.size (fun r hr => (World.ownsRow.lt hrow r hr).1)
         clear hHeld hrow hat hgrow
         have hrow := hown9
         clear hown9
         refine hKK.out _ _ ?_ (fun hHeld => ?_)
         ·exact hN
         clear hKK K
         try simp only [Act.put, zA1, zA2, zA3, zA4, zA5, zA6]
         clear hN
         refine wpAnyH_ready (rs := [6]) (by kernel_rfl) (by simp) ?_
         refine AllReadyH.cons (o := _) rfl (fun K hKK => ?_) AllReadyH.nil
         go_simp
         have hc9 : (w9.alloc (.cells #[.int .i64 x] 3)).cell? ⟨w9.heap.size, 0, none⟩ = some (.int .i64 x) := by simp
         have hrow := World.ownsRow.alloc hrow (.cells #[.int .i64 x] 3)
         have hN := hHeld.alloc hHeld.size (.cells #[.int .i64 x] 3)
         clear hHeld
         refine hKK.out _ _ ?_ (fun hHeld => ?_)
         ·exact hN
         clear hKK K
         try simp only [Act.put, zA1, zA2, zA3, zA4, zA5, zA6]
         clear hN
         refine wpAnyH_ready (rs := [7]) (by kernel_rfl) (by simp) ?_
         refine AllReadyH.cons (o := _) rfl (fun K hKK => ?_) AllReadyH.nil
         refine step_append_src rfl (.tmp 40) (.tmp 42) 59 rfl w5.heap.size 3 i0 (.int .i64 0) 1 8 Tryz.underlying59 hi hz0 hz1 hz2 rfl (by decide) v4 _ _ rfl hrow _ _ _ ([.int .i64 x]) rfl (rfl) (fun q => by cases q) (fun ad had i u hu => by cases had; match i, hu with | 0, hu => (simp at hu; subst hu; rw [add_at]; first | exact hc9 | (simp; done) | simpa using hc9)) (by intro u hu; rw [List.mem_singleton] at hu; subst hu; rfl) (by unfold maxLen; omega) (by omega) hHeld.size ?_
         intro v7 w9 hown9 hgrow hat
         clear hc9
         have hN := hHeld.grown hgrow hHeld.size (fun r hr => (World.ownsRow.lt hrow r hr).1)
         clear hHeld hrow hat hgrow
         have hrow := hown9
         clear hown9
         refine hKK.out _ _ ?_ (fun hHeld => ?_)
         ·exact hN
         clear hKK K
         try simp only [Act.put, zA1, zA2, zA3, zA4, zA5, zA6]
         clear hN
         refine wpAnyH_ready (rs := [11]) (by kernel_rfl) (by simp) ?_
         refine AllReadyH.cons (o := _) rfl (fun K hKK => ?_) AllReadyH.nil
         refine step_append_src rfl (.tmp 43) (.tmp 46) 59 rfl w5.heap.size 3 i0 (.int .i64 0) 1 8 Tryz.underlying59 hi hz0 hz1 hz2 rfl (by decide) v7 _ _ rfl hrow _ _ _ (Q.map fun z => Value.int .i64 z) rfl (by rw [List.length_map, HQ.out]; omega) (fun q => by cases q) (fun ad had i u hu => by cases had; obtain ⟨q1, rfl⟩ := map_drop_at (J := 0) hu; rw [add_at]; rw [HQ.out] at q1; exact HN.out _ hHeld _ q1) (ints_one _) (by unfold maxLen; omega) (by omega) hHeld.size ?_
         intro v11 w9 hown9 hgrow hat
         have hN := hHeld.grown hgrow hHeld.size (fun r hr => (World.ownsRow.lt hrow r hr).1)
         clear hHeld hrow hat hgrow
         have hrow := hown9
         clear hown9
         refine hKK.out _ _ ?_ (fun hHeld => ?_)
         ·exact hN
         clear hKK K
         try simp only [Act.put, zA1, zA2, zA3, zA4, zA5, zA6]
         clear hN
         refine wpAnyH_ready (rs := [12]) (by kernel_rfl) (by simp) ?_
         refine AllReadyH.cons (o := _) rfl (fun K hKK => ?_) AllReadyH.nil
         go_simp
         refine hKK.out _ _ ?_ (fun hHeld => ?_)
         ·exact hHeld
         clear hKK K
         try simp only [Act.put, zA1, zA2, zA3, zA4, zA5, zA6]
         refine wpAnyH_done (by kernel_rfl) ?_ _
         have hB9 := bstep (bstep HB.out hw5) hHeld
         obtain ⟨q1, q2⟩ := insD_own (x := x) (Q := Q) (k := k) (J := 0) hrow hsz5 HQ.out (Nat.zero_le _) HATJ.out
         obtain ⟨a9, c9, rfl⟩ := q1.shape
         generalize hins : insD Q x = R9 at *
         rw [q2] at q1
         have HR := Lib.hid (And.intro q1 (And.intro q2 hB9))
         rw [q2]
         clear hrow q1 q2 hB9 hHeld hw5 hsz5
         go_wp2
         go_roundw
         case rel => exact ⟨k + 1, c9, m + 1, a9, R9, by go_num, by omega, by omega, rfl, by omega, Lib.hid HR.out.1, Lib.hid HR.out.2.1, HST, Lib.hid HR.out.2.2⟩
         case measure => simp [RowKit.intOf]; omega
        ·refine AllReadyH.cons (o := _) rfl (fun K hKK => ?_) AllReadyH.nil
         go_simp
         have hc9 : ((wd.alloc (.cells #[] 3)).alloc (.cells #[.int .i64 x] 3)).cell? ⟨(wd.alloc (.cells #[] 3)).heap.size, 0, none⟩ = some (.int .i64 x) := by simp
         have hrow := World.ownsRow.alloc hrow (.cells #[.int .i64 x] 3)
         have hN := hHeld.alloc hHeld.size (.cells #[.int .i64 x] 3)
         clear hHeld
         refine hKK.out _ _ ?_ (fun hHeld => ?_)
         ·exact hN
         clear hKK K
         try simp only [Act.put, zA1, zA2, zA3, zA4, zA5, zA6]
         clear hN
         refine wpAnyH_ready (rs := [4]) (by kernel_rfl) (by simp) ?_
         refine AllReadyH.cons (o := _) rfl (fun K hKK => ?_) AllReadyH.nil
         refine step_append_src rfl (.tmp 36) (.tmp 39) 59 rfl w5.heap.size 3 i0 (.int .i64 0) 1 8 Tryz.underlying59 hi hz0 hz1 hz2 rfl (by decide) (.slice (some ⟨wd.heap.size, 0, none⟩) 0 0) _ _ rfl hrow _ _ _ (([] : List Int).map fun z => Value.int .i64 z) rfl (rfl) (fun q => by cases q) (fun ad _ i u hu => by simp at hu) (ints_one _) (by unfold maxLen; omega) (by omega) hHeld.size ?_
         intro v4 w9 hown9 hgrow hat
         have hc9 := hgrow.cell hc9 (by intro q; simp [Value.ownBlock] at q <;> omega)
         have hN := hHeld.grown hgrow hHeld.size (fun r hr => (World.ownsRow.lt hrow r hr).1)
         clear hHeld hrow hat hgrow
         have hrow := hown9
         clear hown9
         refine hKK.out _ _ ?_ (fun hHeld => ?_)
         ·exact hN
         clear hKK K
         try simp only [Act.put, zA1, zA2, zA3, zA4, zA5, zA6]
         clear hN
         refine wpAnyH_ready (rs := [7]) (by kernel_rfl) (by simp) ?_
         refine AllReadyH.cons (o := _) rfl (fun K hKK => ?_) AllReadyH.nil
         refine step_append_src rfl (.tmp 40) (.tmp 42) 59 rfl w5.heap.size 3 i0 (.int .i64 0) 1 8 Tryz.underlying59 hi hz0 hz1 hz2 rfl (by decide) v4 _ _ rfl hrow _ _ _ ([.int .i64 x]) rfl (rfl) (fun q => by cases q) (fun ad had i u hu => by cases had; match i, hu with | 0, hu => (simp at hu; subst hu; rw [add_at]; first | exact hc9 | (simp; done) | simpa using hc9)) (by intro u hu; rw [List.mem_singleton] at hu; subst hu; rfl) (by unfold maxLen; omega) (by omega) hHeld.size ?_
         intro v7 w9 hown9 hgrow hat
         clear hc9
         have hN := hHeld.grown hgrow hHeld.size (fun r hr => (World.ownsRow.lt hrow r hr).1)
         clear hHeld hrow hat hgrow
         have hrow := hown9
         clear hown9
         refine hKK.out _ _ ?_ (fun hHeld => ?_)
         ·exact hN
         clear hKK K
         try simp only [Act.put, zA1, zA2, zA3, zA4, zA5, zA6]
         clear hN
         refine wpAnyH_ready (rs := [11]) (by kernel_rfl) (by simp) ?_
         refine AllReadyH.cons (o := _) rfl (fun K hKK => ?_) AllReadyH.nil
         refine step_append_src rfl (.tmp 43) (.tmp 46) 59 rfl w5.heap.size 3 i0 (.int .i64 0) 1 8 Tryz.underlying59 hi hz0 hz1 hz2 rfl (by decide) v7 _ _ rfl hrow _ _ _ (Q.map fun z => Value.int .i64 z) rfl (by rw [List.length_map, HQ.out]; omega) (fun q => by cases q) (fun ad had i u hu => by cases had; obtain ⟨q1, rfl⟩ := map_drop_at (J := 0) hu; rw [add_at]; rw [HQ.out] at q1; exact HN.out _ hHeld _ q1) (ints_one _) (by unfold maxLen; omega) (by omega) hHeld.size ?_
         intro v11 w9 hown9 hgrow hat
         have hN := hHeld.grown hgrow hHeld.size (fun r hr => (World.ownsRow.lt hrow r hr).1)
         clear hHeld hrow hat hgrow
         have hrow := hown9
         clear hown9
         refine hKK.out _ _ ?_ (fun hHeld => ?_)
         ·exact hN
         clear hKK K
         try simp only [Act.put, zA1, zA2, zA3, zA4, zA5, zA6]
         clear hN
         refine wpAnyH_ready (rs := [12]) (by kernel_rfl) (by simp) ?_
         refine AllReadyH.cons (o := _) rfl (fun K hKK => ?_) AllReadyH.nil
         go_simp
         refine hKK.out _ _ ?_ (fun hHeld => ?_)
         ·exact hHeld
         clear hKK K
         try simp only [Act.put, zA1, zA2, zA3, zA4, zA5, zA6]
         refine wpAnyH_done (by kernel_rfl) ?_ _
         have hB9 := bstep (bstep HB.out hw5) hHeld
         obtain ⟨q1, q2⟩ := insD_own (x := x) (Q := Q) (k := k) (J := 0) hrow hsz5 HQ.out (Nat.zero_le _) HATJ.out
         obtain ⟨a9, c9, rfl⟩ := q1.shape
         generalize hins : insD Q x = R9 at *
         rw [q2] at q1
         have HR := Lib.hid (And.intro q1 (And.intro q2 hB9))
         rw [q2]
         clear hrow q1 q2 hB9 hHeld hw5 hsz5
         go_wp2
         go_roundw
         case rel => exact ⟨k + 1, c9, m + 1, a9, R9, by go_num, by omega, by omega, rfl, by omega, Lib.hid HR.out.1, Lib.hid HR.out.2.1, HST, Lib.hid HR.out.2.2⟩
         case measure => simp [RowKit.intOf]; omega
       ·refine AllReadyH.cons (o := _) rfl (fun K hKK => ?_) AllReadyH.nil
        go_simp
        have hc9 : (wd.alloc (.cells #[.int .i64 x] 3)).cell? ⟨wd.heap.size, 0, none⟩ = some (.int .i64 x) := by simp
        have hN := hHeld.alloc hHeld.size (.cells #[.int .i64 x] 3)
        clear hHeld
        refine hKK.out _ _ ?_ (fun hHeld => ?_)
        ·exact hN
        clear hKK K
        try simp only [Act.put, zA1, zA2, zA3, zA4, zA5, zA6]
        clear hN
        refine wpAnyH_ready (rs := [0]) (by kernel_rfl) (by simp) ?_
        refine AllReadyH.cons (o := _) rfl (fun K hKK => ?_) AllReadyH.nil
        go_simp
        have hrow : ((wd.alloc (.cells #[.int .i64 x] 3)).alloc (.cells #[] 3)).ownsRow w5.heap.size 3 1 (.slice (some ⟨wd.heap.size + 1, 0, none⟩) 0 0) 0 [] := by rw [show wd.heap.size + 1 = (wd.alloc (.cells #[.int .i64 x] 3)).heap.size by simp]; exact World.ownsRow_lit _ #[] 0 hHeld.size (by decide) rfl
        have hc9 : ((wd.alloc (.cells #[.int .i64 x] 3)).alloc (.cells #[] 3)).cell? ⟨wd.heap.size, 0, none⟩ = some (.int .i64 x) := Lib.cell?_alloc_some _ hc9
        have hN := hHeld.alloc hHeld.size (.cells #[] 3)
        clear hHeld
        refine hKK.out _ _ ?_ (fun hHeld => ?_)
        ·exact hN
        clear hKK K
        try simp only [Act.put, zA1, zA2, zA3, zA4, zA5, zA6]
        clear hN
        refine wpAnyH_ready (rs := [4]) (by kernel_rfl) (by simp) ?_
        refine AllReadyH.cons (o := _) rfl (fun K hKK => ?_) AllReadyH.nil
        refine step_append_src rfl (.tmp 36) (.tmp 39) 59 rfl w5.heap.size 3 i0 (.int .i64 0) 1 8 Tryz.underlying59 hi hz0 hz1 hz2 rfl (by decide) (.slice (some ⟨wd.heap.size + 1, 0, none⟩) 0 0) _ _ rfl hrow _ _ _ (([] : List Int).map fun z => Value.int .i64 z) rfl (rfl) (fun q => by cases q) (fun ad _ i u hu => by simp at hu) (ints_one _) (by unfold maxLen; omega) (by omega) hHeld.size ?_
        intro v4 w9 hown9 hgrow hat
        have hc9 := hgrow.cell hc9 (by intro q; simp [Value.ownBlock] at q <;> omega)
        have hN := hHeld.grown hgrow hHeld.size (fun r hr => (World.ownsRow.lt hrow r hr).1)
        clear hHeld hrow hat hgrow
        have hrow := hown9
        clear hown9
        refine hKK.out _ _ ?_ (fun hHeld => ?_)
        ·exact hN
        clear hKK K
        try simp only [Act.put, zA1, zA2, zA3, zA4, zA5, zA6]
        clear hN
        refine wpAnyH_ready (rs := [7]) (by kernel_rfl) (by simp) ?_
        refine AllReadyH.cons (o := _) rfl (fun K hKK => ?_) AllReadyH.nil
        refine step_append_src rfl (.tmp 40) (.tmp 42) 59 rfl w5.heap.size 3 i0 (.int .i64 0) 1 8 Tryz.underlying59 hi hz0 hz1 hz2 rfl (by decide) v4 _ _ rfl hrow _ _ _ ([.int .i64 x]) rfl (rfl) (fun q => by cases q) (fun ad had i u hu => by cases had; match i, hu with | 0, hu => (simp at hu; subst hu; rw [add_at]; first | exact hc9 | (simp; done) | simpa using hc9)) (by intro u hu; rw [List.mem_singleton] at hu; subst hu; rfl) (by unfold maxLen; omega) (by omega) hHeld.size ?_
        intro v7 w9 hown9 hgrow hat
        clear hc9
        have hN := hHeld.grown hgrow hHeld.size (fun r hr => (World.ownsRow.lt hrow r hr).1)
        clear hHeld hrow hat hgrow
        have hrow := hown9
        clear hown9
        refine hKK.out _ _ ?_ (fun hHeld => ?_)
        ·exact hN
        clear hKK K
        try simp only [Act.put, zA1, zA2, zA3, zA4, zA5, zA6]
        clear hN
        refine wpAnyH_ready (rs := [11]) (by kernel_rfl) (by simp) ?_
        refine AllReadyH.cons (o := _) rfl (fun K hKK => ?_) AllReadyH.nil
        refine step_append_src rfl (.tmp 43) (.tmp 46) 59 rfl w5.heap.size 3 i0 (.int .i64 0) 1 8 Tryz.underlying59 hi hz0 hz1 hz2 rfl (by decide) v7 _ _ rfl hrow _ _ _ (Q.map fun z => Value.int .i64 z) rfl (by rw [List.length_map, HQ.out]; omega) (fun q => by cases q) (fun ad had i u hu => by cases had; obtain ⟨q1, rfl⟩ := map_drop_at (J := 0) hu; rw [add_at]; rw [HQ.out] at q1; exact HN.out _ hHeld _ q1) (ints_one _) (by unfold maxLen; omega) (by omega) hHeld.size ?_
        intro v11 w9 hown9 hgrow hat
        have hN := hHeld.grown hgrow hHeld.size (fun r hr => (World.ownsRow.lt hrow r hr).1)
        clear hHeld hrow hat hgrow
        have hrow := hown9
        clear hown9
        refine hKK.out _ _ ?_ (fun hHeld => ?_)
        ·exact hN
        clear hKK K
        try simp only [Act.put, zA1, zA2, zA3, zA4, zA5, zA6]
        clear hN
        refine wpAnyH_ready (rs := [12]) (by kernel_rfl) (by simp) ?_
        refine AllReadyH.cons (o := _) rfl (fun K hKK => ?_) AllReadyH.nil
        go_simp
        refine hKK.out _ _ ?_ (fun hHeld => ?_)
        ·exact hHeld
        clear hKK K
        try simp only [Act.put, zA1, zA2, zA3, zA4, zA5, zA6]
        refine wpAnyH_done (by kernel_rfl) ?_ _
        have hB9 := bstep (bstep HB.out hw5) hHeld
        obtain ⟨q1, q2⟩ := insD_own (x := x) (Q := Q) (k := k) (J := 0) hrow hsz5 HQ.out (Nat.zero_le _) HATJ.out
        obtain ⟨a9, c9, rfl⟩ := q1.shape
        generalize hins : insD Q x = R9 at *
        rw [q2] at q1
        have HR := Lib.hid (And.intro q1 (And.intro q2 hB9))
        rw [q2]
        clear hrow q1 q2 hB9 hHeld hw5 hsz5
        go_wp2
        go_roundw
        case rel => exact ⟨k + 1, c9, m + 1, a9, R9, by go_num, by omega, by omega, rfl, by omega, Lib.hid HR.out.1, Lib.hid HR.out.2.1, HST, Lib.hid HR.out.2.2⟩
        case measure => simp [RowKit.intOf]; omega
  ·have hkn : m = n := by omega
   subst hkn
   have hfin : Q = X := by
    have := HK.out
    rw [List.drop_of_length_le (by rw [HL.out]; exact Nat.le_refl _), serG] at this
    exact this
   subst hfin
   have hbb := bstep HB1.out HB.out
   have hoo := own_low (show wr.ownsRow _ _ _ _ _ _ from HO.out) HB1.out.size
   have HF := Lib.hid (And.intro hoo hbb)
   clear hoo hbb HB HO HK
   go_wp2
   go_ret
   exact ⟨_, rfl, HF.out.1, HF.out.2⟩
end Go.Mk
