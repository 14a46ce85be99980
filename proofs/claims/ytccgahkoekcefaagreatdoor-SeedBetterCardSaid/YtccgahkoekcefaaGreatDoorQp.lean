/-
  Proved: the reference's Order returns the order of the entrants as a plain function says, in new memory. Conditions: the entrants lie where the slice says, have no error, and are at most 40; the key is that of a drawn order.
-/
import Derived.Test.YtccgahkoekcefaaGreatDoorQm
import Derived.Test.YtccgahkoekcefaaGreatDoorRk
import Derived.Test.YtccgahkoekcefaaGreatDoorDw
import Derived.Test.YtccgahkoekcefaaGreatDoorQc
set_option linter.unusedVariables false
set_option linter.unusedSimpArgs false
open Go Go.Proofs Go.RowKit Go.Sort
set_option maxRecDepth 100000
namespace Go.Mk
theorem drawnZ_at (key n : Nat) {k : Nat} (h : k < n) : ∃ d : Nat, d < n ∧ (Sh.order key n)[k]? = some d ∧ (drawnZ key n)[k]? = some (d : Int) := by
 have hl : k < (Sh.order key n).length := by rw [Sh.order_length]; exact h
 refine ⟨(Sh.order key n)[k], Sh.order_lt key n _ (List.getElem_mem hl), List.getElem?_eq_getElem hl, ?_⟩
 unfold drawnZ
 rw [List.getElem?_map, List.getElem?_eq_getElem hl]; rfl
theorem OwnZ.at_ {w : World} {B k c : Nat} {a : Option Addr} {Q : List Int} (h : OwnZ w B (.slice a k c) Q) (hl : Q.length = k) {j : Nat} (hj : j < k) : ∃ go, a = some ⟨go, 0, none⟩ ∧ B ≤ go ∧ go < w.heap.size ∧ k ≤ c ∧ (c : Int) ≤ 9223372036854775807 ∧ w.cell? ⟨go, j, none⟩ = some (.int .i64 (ga Q j)) := by
 unfold OwnZ at h
 rw [hl] at h
 obtain ⟨g, cap, hv, hb, hg⟩ := ownSome h (by omega)
 cases hv
 refine ⟨g, rfl, hb, hg, ?_⟩
 have hcap : k ≤ c ∧ (c : Int) ≤ 9223372036854775807 := by
  rcases h.2 with ⟨q, _⟩ | ⟨g', cap', cur, a, b, c1, d, e1, f, hx⟩
  ·simp at q
  ·obtain ⟨rfl, rfl⟩ : g = g' ∧ c = cap' := by simpa using a
   have : maxLen = 9223372036854775807 := rfl
   exact ⟨by omega, by omega⟩
 refine ⟨hcap.1, hcap.2, ?_⟩
 rw [World.ownsRow.cellAt h j (by omega), List.getElem?_map, ga_at (by omega)]; rfl
theorem OwnZ.shape {w : World} {B : Nat} {v : Value} {L : List Int} (h : OwnZ w B v L) : ∃ a c, v = .slice a L.length c := by
 rcases h.2 with ⟨hv, h0⟩ | ⟨g, cap, cur, hv, _⟩
 ·exact ⟨none, 0, by rw [hv, h0]⟩
 ·exact ⟨_, _, hv⟩
theorem own_low {w : World} {B B' e size n : Nat} {v : Value} {xs : List Value} (h : w.ownsRow B e size v n xs) (hB : B' ≤ B) : w.ownsRow B' e size v n xs := by
 refine ⟨h.1, ?_⟩
 rcases h.2 with q | ⟨g, cap, cur, a, b, c⟩
 ·exact .inl q
 ·exact .inr ⟨g, cap, cur, a, Nat.le_trans hB b, c⟩
theorem add_at (g o i : Nat) : (⟨g, o, none⟩ : Addr).add i = ⟨g, o + i, none⟩ := by unfold Addr.add; split <;> simp_all
theorem ints_one (L : List Int) : ∀ u ∈ L.map (fun z => Value.int .i64 z), u.oneCell' = true := by
 intro u hu
 obtain ⟨z, _, rfl⟩ := List.mem_map.1 hu
 rfl
theorem map_take_at {Q : List Int} {J i : Nat} {u : Value} (hl : Q.length = J + (Q.length - J)) (h : ((Q.take J).map fun z => Value.int .i64 z)[i]? = some u) : i < J ∧ u = .int .i64 (ga Q i) := by
 rw [List.getElem?_map, List.getElem?_take] at h
 by_cases q : i < J
 ·rw [if_pos q, ga_at (by omega)] at h
  exact ⟨q, (Option.some.inj h).symm⟩
 ·rw [if_neg q] at h; cases h
theorem map_drop_at {Q : List Int} {J i : Nat} {u : Value} (h : ((Q.drop J).map fun z => Value.int .i64 z)[i]? = some u) : J + i < Q.length ∧ u = .int .i64 (ga Q (J + i)) := by
 rw [List.getElem?_map, List.getElem?_drop] at h
 by_cases q : J + i < Q.length
 ·rw [ga_at q] at h
  exact ⟨q, (Option.some.inj h).symm⟩
 ·rw [List.getElem?_eq_none (by omega)] at h; cases h
theorem insZ_own {w : World} {B B' k J d : Nat} {cm : Int → Int → Int} {Q : List Int} {v : Value} (h : w.ownsRow B 3 1 v (0 + J + 1 + (k - J)) ((([] ++ (Q.take J).map fun z => Value.int .i64 z) ++ [.int .i64 (d : Int)]) ++ (Q.drop J).map fun z => Value.int .i64 z)) (hB : B' ≤ B) (hQ : Q.length = k) (hJ : J ≤ k) (ha : atZ cm d Q k = J) :
  OwnZ w B' v (insZ cm Q d) ∧ (insZ cm Q d).length = k + 1 := by
 have hl : (insZ cm Q d).length = k + 1 := by
  unfold insZ
  rw [(insert_perm _ _ _).length_eq, List.length_append, hQ]; rfl
 refine ⟨?_, hl⟩
 unfold OwnZ
 rw [hl]
 have := own_low h hB
 rw [show 0 + J + 1 + (k - J) = k + 1 by omega] at this
 unfold insZ
 rw [hQ, ha]
 simpa using this
theorem insZ_mem {cm : Int → Int → Int} {Q : List Int} {d n : Nat} (h : ∀ x ∈ Q, ∃ y : Nat, y < n ∧ x = (y : Int)) (hd : d < n) : ∀ x ∈ insZ cm Q d, ∃ y : Nat, y < n ∧ x = (y : Int) := fun x hx => by
 unfold insZ at hx
 have := (insert_perm _ _ _).mem_iff.1 hx
 rcases List.mem_append.1 this with q | q
 ·exact h x q
 ·rw [List.mem_singleton] at q
  exact ⟨d, hd, q⟩
def ROrdPost (R : List Int) (w : World) (e : Ending) (w' : World) : Prop := ∃ v, e = .returned v ∧ OwnZ w' w.heap.size v R ∧ Below w.heap.size w w'
set_option maxHeartbeats 8000000 in
theorem r4Order_any (L : List Ent) (n cap : Nat) (A : Option Addr) (B : Nat) (key : Nat) (w : World) (hZ : Ents w B A n L) (hn : n ≤ 40) (h1 : 1 ≤ (key : Int)) (h2 : (key : Int) ≤ 2147483646) (hx : chkEnts L = 0) :
  Calls Tryz.prog 16 #[.slice A n cap, .int .i64 (key : Nat)] w (ROrdPost (ordZ L key) w) := by
 obtain ⟨i0, hi, hz0, hz1, hz2⟩ := info_parts infoInt
 have hni : (n : Int) ≤ 40 := by omega
 have hl := hZ.1
 have HM : Hid (∀ w', Below w.heap.size w w' → Ents w' B A n L) := Lib.hid fun w' hb => hZ.below hb hZ.2.1
 have HD : Hid (∀ w', Calls Tryz.prog 35 #[.int .i64 (key : Nat), .int .i64 (n : Nat)] w' (Drawn2 key n w')) := Lib.hid fun w' => refDraw_any key n w' h1 h2 (by omega)
 have HCM : Hid (∀ (x y : Nat) (E F : Ent) (w' : World), L[x]? = some E → L[y]? = some F → Calls Tryz.prog 36 #[.agg #[.string E.kind, .int .i64 E.value, .string E.reason], .agg #[.string F.kind, .int .i64 F.value, .string F.reason]] w' (RetPost (.int .i64 (cmE L x y)) w')) := Lib.hid fun x y E F w' hE hF => by
  obtain ⟨_, z1, z2⟩ := chkEnts_zero hx
  obtain ⟨kk, _, hk⟩ := kinds_one _ _ z2
  have mE := List.mem_of_getElem? hE
  have mF := List.mem_of_getElem? hF
  unfold cmE
  rw [entAt_of hE, entAt_of hF]
  refine refCompare_any _ _ _ _ _ _ w' (entsE_zero [] L z1 _ mE) (entsE_zero [] L z1 _ mF) ?_
  rcases hk _ mE with q | q
  ·exact .inr (.inl q)
  ·rcases hk _ mF with q2 | q2
   ·exact .inr (.inr q2)
   ·exact .inl (q.trans q2.symm)
 have HOm : Hid (∀ x ∈ ordZ L key, True) := Lib.hid fun _ _ => trivial
 obtain ⟨X, hX⟩ : ∃ X, ordZ L key = X := ⟨_, rfl⟩
 rw [hX]
 have HX : Hid (ordG (cmE L) [] ((drawnZ key n).drop 0) = X) := Lib.hid (by rw [List.drop_zero, ← hX, ← hl]; rfl)
 obtain ⟨cm, hcm⟩ : ∃ cm, cmE L = cm := ⟨_, rfl⟩
 rw [hcm] at HX HCM
 clear hX hZ hx hcm HOm
 unfold ROrdPost
 go_enter Tryz.func16, Tryz.ntmps16
 go_wp2_with fail
 refine (HD.out _).mono ?_
 rintro e w1 ⟨gd, rfl, hrd, hgd, hb1⟩
 have HRD : Hid (∀ w', Below w1.heap.size w1 w' → gd < w'.heap.size ∧ ∀ k d : Nat, (Sh.order key n)[k]? = some d → w'.cell? ⟨gd, k, none⟩ = some (.int .i64 (d : Int))) := Lib.hid fun w' hb =>
  ⟨Nat.lt_of_lt_of_le hrd.1 hb.size, fun k d hk => (hb.cell (p := ⟨gd, k, none⟩) hrd.1).trans (hrd.2 k d hk).1⟩
 have hs1 := hb1.size
 have HB1 := Lib.hid hb1
 clear hrd hgd hb1
 go_wp2
 go_loopw [6, 7] (fun v i wr => ∃ (k c : Nat) (a : Option Addr) (Q : List Int), i = .int .i64 k ∧ k ≤ n ∧ v = .slice a k c ∧ (k = 0 → a = none ∧ c = 0) ∧ Hid (OwnZ wr w1.heap.size v Q) ∧ Hid (Q.length = k) ∧ Hid (∀ x ∈ Q, ∃ y : Nat, y < n ∧ x = (y : Int)) ∧ Hid (ordG cm Q ((drawnZ key n).drop k) = X) ∧ Hid (Below w1.heap.size w1 wr)) (fun _ i _ => n - (intOf i).toNat)
 case atStart => exact ⟨0, 0, none, [], rfl, by omega, rfl, fun _ => ⟨rfl, rfl⟩, Lib.hid (World.ownsRow_nil _ _ _ _), Lib.hid rfl, Lib.hid (fun x h => by cases h), HX, Lib.hid (Below.refl _ _)⟩
 case round =>
  obtain ⟨k, c, a, Q, rfl, hk, rfl, hk00, HO, HQ, HQm, HK, HB⟩ := hrel
  by_cases hlt : k < n
  ·obtain ⟨d, hd, hdo, hdz⟩ := drawnZ_at key n hlt
   have hki : (k : Int) < (n : Int) := by omega
   have HDO := Lib.hid hdo
   have HST : Hid (ordG cm (insZ cm Q d) ((drawnZ key n).drop (k + 1)) = X) := by
    have := HK.out
    rw [drop_cons hdz, ordG] at this
    exact Lib.hid this
   clear hdo hdz HK
   obtain ⟨wy, rfl⟩ : ∃ wy : World, wy = wr := ⟨_, rfl⟩
   go_wp2
   go_loopw [8] (fun i wx => ∃ j : Nat, i = .int .i64 j ∧ j ≤ k ∧ Hid (atZ cm d Q j = atZ cm d Q k) ∧ Hid (Below wy.heap.size wy wx)) (fun i _ => (intOf i).toNat)
   case atStart => exact ⟨k, rfl, by omega, Lib.hid rfl, Lib.hid (Below.refl _ _)⟩
   case round =>
    obtain ⟨j, rfl, hj, HJ, HBX⟩ := hrel
    by_cases hj0 : 0 < j
    ·have hj0i : (0 : Int) < (j : Int) := by omega
     obtain ⟨j', rfl⟩ : ∃ j', j = j' + 1 := ⟨j - 1, by omega⟩
     obtain ⟨go, rfl, hgo1, hgo2, hc1, hc2, hco⟩ := OwnZ.at_ HO.out HQ.out (j := j') (by omega)
     obtain ⟨y, hy, hyx⟩ := HQm.out (ga Q j') (List.mem_of_getElem? (ga_at (by rw [HQ.out]; omega)))
     rw [hyx] at hco
     have hbw := bstep HB.out HBX.out
     obtain ⟨hgd1, hcd⟩ := HRD.out _ hbw
     have hcd := hcd k d HDO.out
     have hEn := HM.out _ (bstep HB1.out hbw)
     obtain ⟨b, off, E, rfl, hbl, hE, _, _, e2, e3, e4⟩ := hEn.at_ hd
     obtain ⟨b', off', F, hA', _, hF, _, _, f2, f3, f4⟩ := hEn.at_ hy
     cases hA'
     have hb' : b < wr.heap.size := Nat.lt_of_lt_of_le hbl hEn.2.1
     have hco := (HBX.out.cell (p := ⟨go, j', none⟩) hgo2).trans hco
     have hgo3 := Nat.lt_of_lt_of_le hgo2 HBX.out.size
     have HS : Hid (∀ w', Below wr.heap.size wr w' → w'.cell? ⟨gd, k, none⟩ = some (.int .i64 (d : Int)) ∧ w'.cell? ⟨go, j', none⟩ = some (.int .i64 (y : Int)) ∧ w'.cell? ⟨b, off + d * 5 + 2, none⟩ = some (.string E.kind) ∧ w'.cell? ⟨b, off + d * 5 + 3, none⟩ = some (.int .i64 E.value) ∧ w'.cell? ⟨b, off + d * 5 + 4, none⟩ = some (.string E.reason) ∧
       w'.cell? ⟨b, off + y * 5 + 2, none⟩ = some (.string F.kind) ∧ w'.cell? ⟨b, off + y * 5 + 3, none⟩ = some (.int .i64 F.value) ∧ w'.cell? ⟨b, off + y * 5 + 4, none⟩ = some (.string F.reason)) := Lib.hid fun w' hq =>
      ⟨(hq.cell (p := ⟨gd, k, none⟩) hgd1).trans hcd, (hq.cell (p := ⟨go, j', none⟩) hgo3).trans hco, (hq.cell (p := ⟨b, _, none⟩) hb').trans e2, (hq.cell (p := ⟨b, _, none⟩) hb').trans e3, (hq.cell (p := ⟨b, _, none⟩) hb').trans e4,
       (hq.cell (p := ⟨b, _, none⟩) hb').trans f2, (hq.cell (p := ⟨b, _, none⟩) hb').trans f3, (hq.cell (p := ⟨b, _, none⟩) hb').trans f4⟩
     have HC : Hid (∀ w', Calls Tryz.prog 36 #[.agg #[.string E.kind, .int .i64 E.value, .string E.reason], .agg #[.string F.kind, .int .i64 F.value, .string F.reason]] w' (RetPost (.int .i64 (cm d y)) w')) := Lib.hid fun w' => HCM.out d y E F w' hE hF
     have HAT : Hid (atZ cm d Q (j' + 1) = if cm d y < 0 then atZ cm d Q j' else j' + 1) := Lib.hid (by rw [atZ, hyx])
     obtain ⟨nm1, cl1, k1, v1, r1⟩ := E
     obtain ⟨nm2, cl2, k2, v2, r2⟩ := F
     simp only at HS HC
     obtain ⟨z, hz⟩ : ∃ z, cm d y = z := ⟨_, rfl⟩
     rw [hz] at HC HAT
     have hk0 : (0 : Int) ≤ (k : Int) := by omega
     have hkt : ((k : Int)).toNat = k := by omega
     have hd0 : (0 : Int) ≤ (d : Int) := by omega
     have hdn : (d : Int) < (n : Int) := by omega
     have hdt : ((d : Int)).toNat = d := by omega
     have hy0 : (0 : Int) ≤ (y : Int) := by omega
     have hyn : (y : Int) < (n : Int) := by omega
     have hyt : ((y : Int)).toNat = y := by omega
     have hjp : (0 : Int) ≤ (j' : Int) := by omega
     have hjk : (j' : Int) < (k : Int) := by omega
     have hjt : ((j' : Int)).toNat = j' := by omega
     have hw1 : IntKind.i64.wrap (j' : Int) = (j' : Int) := wrapQ _ (by omega)
     have hjj : (0 : Int) ≤ (j' : Int) ∧ (j' : Int) < (k : Int) := ⟨hjp, hjk⟩
     clear hco e2 e3 e4 f2 f3 f4 hEn hE hF hcd hbw hz hyx hgo1 hgo2 hgo3 hgd1 hb' hbl
     by_cases hzn : z < 0
     ·go_wp2_with fail
      refine wp_region_held_drew (S := fun w' => Below wr.heap.size wr w') (by kernel_rfl) ?_ (fun hHeld => ?_)
      ·exact (Below.refl _ _).drew
      refine wpAnyH_take (i := 0) (oi := _) (v := ?_) rfl (by kernel_rfl) (by kernel_rfl) (by kernel_rfl) (fun _ _ _ h => h) (Or.inl ⟨by kernel_rfl, ?_⟩) (by assumption) ?_
      rotate_left
      ·rintro w hw
       obtain ⟨s0, s1, s2, s3, s4, s5, s6, s7⟩ := HS.out w hw
       go_simp
       try with_reducible rfl
      try simp only [Act.put, zA1, zA2, zA3, zA4, zA5, zA6]
      refine wpAnyH_take (i := 1) (oi := _) (v := ?_) rfl (by kernel_rfl) (by kernel_rfl) (by kernel_rfl) (fun _ _ _ h => h) (Or.inl ⟨by kernel_rfl, ?_⟩) (by assumption) ?_
      rotate_left
      ·rintro w hw
       obtain ⟨s0, s1, s2, s3, s4, s5, s6, s7⟩ := HS.out w hw
       go_simp
       try with_reducible rfl
      try simp only [Act.put, zA1, zA2, zA3, zA4, zA5, zA6]
      refine wpAnyH_take (i := 2) (oi := _) (v := ?_) rfl (by kernel_rfl) (by kernel_rfl) (by kernel_rfl) (fun _ _ _ h => h) (Or.inl ⟨by kernel_rfl, ?_⟩) (by assumption) ?_
      rotate_left
      ·rintro w hw
       obtain ⟨s0, s1, s2, s3, s4, s5, s6, s7⟩ := HS.out w hw
       go_simp
       try with_reducible rfl
      try simp only [Act.put, zA1, zA2, zA3, zA4, zA5, zA6]
      refine wpAnyH_take (i := 3) (oi := _) (v := ?_) rfl (by kernel_rfl) (by kernel_rfl) (by kernel_rfl) (fun _ _ _ h => h) (Or.inl ⟨by kernel_rfl, ?_⟩) (by assumption) ?_
      rotate_left
      ·rintro w hw
       obtain ⟨s0, s1, s2, s3, s4, s5, s6, s7⟩ := HS.out w hw
       go_simp
       try with_reducible rfl
      try simp only [Act.put, zA1, zA2, zA3, zA4, zA5, zA6]
      refine wpAnyH_take (i := 4) (oi := _) (v := ?_) rfl (by kernel_rfl) (by kernel_rfl) (by kernel_rfl) (fun _ _ _ h => h) (Or.inl ⟨by kernel_rfl, ?_⟩) (by assumption) ?_
      rotate_left
      ·rintro w hw
       obtain ⟨s0, s1, s2, s3, s4, s5, s6, s7⟩ := HS.out w hw
       go_simp
       try with_reducible rfl
      try simp only [Act.put, zA1, zA2, zA3, zA4, zA5, zA6]
      refine wpAnyH_take (i := 5) (oi := _) (v := ?_) rfl (by kernel_rfl) (by kernel_rfl) (by kernel_rfl) (fun _ _ _ h => h) (Or.inl ⟨by kernel_rfl, ?_⟩) (by assumption) ?_
      rotate_left
      ·rintro w hw
       obtain ⟨s0, s1, s2, s3, s4, s5, s6, s7⟩ := HS.out w hw
       go_simp
       try with_reducible rfl
      try simp only [Act.put, zA1, zA2, zA3, zA4, zA5, zA6]
      refine wpAnyH_take (i := 6) (oi := _) (v := ?_) rfl (by kernel_rfl) (by kernel_rfl) (by kernel_rfl) (fun _ _ _ h => h) (Or.inl ⟨by kernel_rfl, ?_⟩) (by assumption) ?_
      rotate_left
      ·rintro w hw
       obtain ⟨s0, s1, s2, s3, s4, s5, s6, s7⟩ := HS.out w hw
       go_simp
       try with_reducible rfl
      try simp only [Act.put, zA1, zA2, zA3, zA4, zA5, zA6]
      refine wpAnyH_take (i := 7) (oi := _) (v := ?_) rfl (by kernel_rfl) (by kernel_rfl) (by kernel_rfl) (fun _ _ _ h => h) (Or.inl ⟨by kernel_rfl, ?_⟩) (by assumption) ?_
      rotate_left
      ·rintro w hw
       obtain ⟨s0, s1, s2, s3, s4, s5, s6, s7⟩ := HS.out w hw
       go_simp
       try with_reducible rfl
      try simp only [Act.put, zA1, zA2, zA3, zA4, zA5, zA6]
      refine wpAnyH_take (i := 8) (oi := _) (v := ?_) rfl (by kernel_rfl) (by kernel_rfl) (by kernel_rfl) (fun _ _ _ h => h) (Or.inl ⟨by kernel_rfl, ?_⟩) (by assumption) ?_
      rotate_left
      ·rintro w hw
       obtain ⟨s0, s1, s2, s3, s4, s5, s6, s7⟩ := HS.out w hw
       go_simp
       try with_reducible rfl
      try simp only [Act.put, zA1, zA2, zA3, zA4, zA5, zA6]
      refine wpAnyH_take (i := 9) (oi := _) (v := ?_) rfl (by kernel_rfl) (by kernel_rfl) (by kernel_rfl) (fun _ _ _ h => h) (Or.inl ⟨by kernel_rfl, ?_⟩) (by assumption) ?_
      rotate_left
      ·rintro w hw
       obtain ⟨s0, s1, s2, s3, s4, s5, s6, s7⟩ := HS.out w hw
       go_simp
       try with_reducible rfl
      try simp only [Act.put, zA1, zA2, zA3, zA4, zA5, zA6]
      refine wpAnyH_take (i := 10) (oi := _) (v := ?_) rfl (by kernel_rfl) (by kernel_rfl) (by kernel_rfl) (fun _ _ _ h => h) (Or.inl ⟨by kernel_rfl, ?_⟩) (by assumption) ?_
      rotate_left
      ·rintro w hw
       obtain ⟨s0, s1, s2, s3, s4, s5, s6, s7⟩ := HS.out w hw
       go_simp
       try with_reducible rfl
      try simp only [Act.put, zA1, zA2, zA3, zA4, zA5, zA6]
      refine wpAnyH_take (i := 11) (oi := _) (v := ?_) rfl (by kernel_rfl) (by kernel_rfl) (by kernel_rfl) (fun _ _ _ h => h) (Or.inl ⟨by kernel_rfl, ?_⟩) (by assumption) ?_
      rotate_left
      ·rintro w hw
       obtain ⟨s0, s1, s2, s3, s4, s5, s6, s7⟩ := HS.out w hw
       go_simp
       try with_reducible rfl
      try simp only [Act.put, zA1, zA2, zA3, zA4, zA5, zA6]
      refine wpAnyH_take (i := 12) (oi := _) (v := ?_) rfl (by kernel_rfl) (by kernel_rfl) (by kernel_rfl) (fun _ _ _ h => h) (Or.inl ⟨by kernel_rfl, ?_⟩) (by assumption) ?_
      rotate_left
      ·rintro w hw
       obtain ⟨s0, s1, s2, s3, s4, s5, s6, s7⟩ := HS.out w hw
       go_simp
       try with_reducible rfl
      try simp only [Act.put, zA1, zA2, zA3, zA4, zA5, zA6]
      refine wpAnyH_take (i := 13) (oi := _) (v := ?_) rfl (by kernel_rfl) (by kernel_rfl) (by kernel_rfl) (fun _ _ _ h => h) (Or.inl ⟨by kernel_rfl, ?_⟩) (by assumption) ?_
      rotate_left
      ·rintro w hw
       obtain ⟨s0, s1, s2, s3, s4, s5, s6, s7⟩ := HS.out w hw
       go_simp
       try with_reducible rfl
      try simp only [Act.put, zA1, zA2, zA3, zA4, zA5, zA6]
      refine wpAnyH_take (i := 14) (oi := _) (v := ?_) rfl (by kernel_rfl) (by kernel_rfl) (by kernel_rfl) (fun _ _ _ h => h) (Or.inl ⟨by kernel_rfl, ?_⟩) (by assumption) ?_
      rotate_left
      ·rintro w hw
       obtain ⟨s0, s1, s2, s3, s4, s5, s6, s7⟩ := HS.out w hw
       go_simp
       try simp only [hw1, if_pos hjj, hjt]
       try with_reducible rfl
      try simp only [Act.put, zA1, zA2, zA3, zA4, zA5, zA6]
      refine wpAnyH_take (i := 15) (oi := _) (v := ?_) rfl (by kernel_rfl) (by kernel_rfl) (by kernel_rfl) (fun _ _ _ h => h) (Or.inl ⟨by kernel_rfl, ?_⟩) (by assumption) ?_
      rotate_left
      ·rintro w hw
       obtain ⟨s0, s1, s2, s3, s4, s5, s6, s7⟩ := HS.out w hw
       go_simp
       try simp only [hw1, if_pos hjj, hjt]
       try with_reducible rfl
      try simp only [Act.put, zA1, zA2, zA3, zA4, zA5, zA6]
      refine wpAnyH_take (i := 16) (oi := _) (v := ?_) rfl (by kernel_rfl) (by kernel_rfl) (by kernel_rfl) (fun _ _ _ h => h) (Or.inl ⟨by kernel_rfl, ?_⟩) (by assumption) ?_
      rotate_left
      ·rintro w hw
       obtain ⟨s0, s1, s2, s3, s4, s5, s6, s7⟩ := HS.out w hw
       go_simp
       try simp only [hw1, if_pos hjj, hjt]
       try with_reducible rfl
      try simp only [Act.put, zA1, zA2, zA3, zA4, zA5, zA6]
      refine wpAnyH_take (i := 17) (oi := _) (v := ?_) rfl (by kernel_rfl) (by kernel_rfl) (by kernel_rfl) (fun _ _ _ h => h) (Or.inl ⟨by kernel_rfl, ?_⟩) (by assumption) ?_
      rotate_left
      ·rintro w hw
       obtain ⟨s0, s1, s2, s3, s4, s5, s6, s7⟩ := HS.out w hw
       go_simp
       try simp only [hw1, if_pos hjj, hjt]
       try with_reducible rfl
      try simp only [Act.put, zA1, zA2, zA3, zA4, zA5, zA6]
      refine wpAnyH_take (i := 18) (oi := _) (v := ?_) rfl (by kernel_rfl) (by kernel_rfl) (by kernel_rfl) (fun _ _ _ h => h) (Or.inl ⟨by kernel_rfl, ?_⟩) (by assumption) ?_
      rotate_left
      ·rintro w hw
       obtain ⟨s0, s1, s2, s3, s4, s5, s6, s7⟩ := HS.out w hw
       go_simp
       try simp only [hw1, if_pos hjj, hjt]
       try with_reducible rfl
      try simp only [Act.put, zA1, zA2, zA3, zA4, zA5, zA6]
      refine wpAnyH_take (i := 19) (oi := _) (v := ?_) rfl (by kernel_rfl) (by kernel_rfl) (by kernel_rfl) (fun _ _ _ h => h) (Or.inl ⟨by kernel_rfl, ?_⟩) (by assumption) ?_
      rotate_left
      ·rintro w hw
       obtain ⟨s0, s1, s2, s3, s4, s5, s6, s7⟩ := HS.out w hw
       go_simp
       try simp only [hw1, if_pos hjj, hjt]
       try with_reducible rfl
      try simp only [Act.put, zA1, zA2, zA3, zA4, zA5, zA6]
      refine wpAnyH_ready (rs := [20]) (by kernel_rfl) (by simp) ?_
      refine AllReadyH.cons (o := _) rfl (fun K hKK => ?_) AllReadyH.nil
      go_simp
      go_at_call 36
      refine (HC.out _).mono ?_
      rintro e w5 ⟨rfl, hb5⟩
      have hX := bstep hHeld hb5
      clear hHeld hb5
      go_wp2_with fail
      refine hKK.out _ _ ?_ (fun hHeld => ?_)
      ·exact hX
      clear hKK K
      try simp only [Act.put, zA1, zA2, zA3, zA4, zA5, zA6]
      refine wpAnyH_take (i := 21) (oi := _) (v := ?_) rfl (by kernel_rfl) (by kernel_rfl) (by kernel_rfl) (fun _ _ _ h => h) (Or.inl ⟨by kernel_rfl, ?_⟩) (by assumption) ?_
      rotate_left
      ·rintro w hw
       obtain ⟨s0, s1, s2, s3, s4, s5, s6, s7⟩ := HS.out w hw
       go_simp
       try with_reducible rfl
      try simp only [Act.put, zA1, zA2, zA3, zA4, zA5, zA6]
      refine wpAnyH_take (i := 22) (oi := _) (v := ?_) rfl (by kernel_rfl) (by kernel_rfl) (by kernel_rfl) (fun _ _ _ h => h) (Or.inl ⟨by kernel_rfl, ?_⟩) (by assumption) ?_
      rotate_left
      ·rintro w hw
       obtain ⟨s0, s1, s2, s3, s4, s5, s6, s7⟩ := HS.out w hw
       go_simp
       try with_reducible rfl
      try simp only [Act.put, zA1, zA2, zA3, zA4, zA5, zA6]
      refine wpAnyH_done (by kernel_rfl) ?_ _
      have hX := hHeld
      clear hHeld
      clear HS HC
      go_wp2
      go_roundw
      case rel => exact ⟨j', by go_num, by omega, Lib.hid (by rw [← HJ.out, HAT.out, if_pos hzn]), Lib.hid (bstep HBX.out hX)⟩
      case measure => simp [intOf]
     ·go_wp2_with fail
      refine wp_region_held_drew (S := fun w' => Below wr.heap.size wr w') (by kernel_rfl) ?_ (fun hHeld => ?_)
      ·exact (Below.refl _ _).drew
      refine wpAnyH_take (i := 0) (oi := _) (v := ?_) rfl (by kernel_rfl) (by kernel_rfl) (by kernel_rfl) (fun _ _ _ h => h) (Or.inl ⟨by kernel_rfl, ?_⟩) (by assumption) ?_
      rotate_left
      ·rintro w hw
       obtain ⟨s0, s1, s2, s3, s4, s5, s6, s7⟩ := HS.out w hw
       go_simp
       try with_reducible rfl
      try simp only [Act.put, zA1, zA2, zA3, zA4, zA5, zA6]
      refine wpAnyH_take (i := 1) (oi := _) (v := ?_) rfl (by kernel_rfl) (by kernel_rfl) (by kernel_rfl) (fun _ _ _ h => h) (Or.inl ⟨by kernel_rfl, ?_⟩) (by assumption) ?_
      rotate_left
      ·rintro w hw
       obtain ⟨s0, s1, s2, s3, s4, s5, s6, s7⟩ := HS.out w hw
       go_simp
       try with_reducible rfl
      try simp only [Act.put, zA1, zA2, zA3, zA4, zA5, zA6]
      refine wpAnyH_take (i := 2) (oi := _) (v := ?_) rfl (by kernel_rfl) (by kernel_rfl) (by kernel_rfl) (fun _ _ _ h => h) (Or.inl ⟨by kernel_rfl, ?_⟩) (by assumption) ?_
      rotate_left
      ·rintro w hw
       obtain ⟨s0, s1, s2, s3, s4, s5, s6, s7⟩ := HS.out w hw
       go_simp
       try with_reducible rfl
      try simp only [Act.put, zA1, zA2, zA3, zA4, zA5, zA6]
      refine wpAnyH_take (i := 3) (oi := _) (v := ?_) rfl (by kernel_rfl) (by kernel_rfl) (by kernel_rfl) (fun _ _ _ h => h) (Or.inl ⟨by kernel_rfl, ?_⟩) (by assumption) ?_
      rotate_left
      ·rintro w hw
       obtain ⟨s0, s1, s2, s3, s4, s5, s6, s7⟩ := HS.out w hw
       go_simp
       try with_reducible rfl
      try simp only [Act.put, zA1, zA2, zA3, zA4, zA5, zA6]
      refine wpAnyH_take (i := 4) (oi := _) (v := ?_) rfl (by kernel_rfl) (by kernel_rfl) (by kernel_rfl) (fun _ _ _ h => h) (Or.inl ⟨by kernel_rfl, ?_⟩) (by assumption) ?_
      rotate_left
      ·rintro w hw
       obtain ⟨s0, s1, s2, s3, s4, s5, s6, s7⟩ := HS.out w hw
       go_simp
       try with_reducible rfl
      try simp only [Act.put, zA1, zA2, zA3, zA4, zA5, zA6]
      refine wpAnyH_take (i := 5) (oi := _) (v := ?_) rfl (by kernel_rfl) (by kernel_rfl) (by kernel_rfl) (fun _ _ _ h => h) (Or.inl ⟨by kernel_rfl, ?_⟩) (by assumption) ?_
      rotate_left
      ·rintro w hw
       obtain ⟨s0, s1, s2, s3, s4, s5, s6, s7⟩ := HS.out w hw
       go_simp
       try with_reducible rfl
      try simp only [Act.put, zA1, zA2, zA3, zA4, zA5, zA6]
      refine wpAnyH_take (i := 6) (oi := _) (v := ?_) rfl (by kernel_rfl) (by kernel_rfl) (by kernel_rfl) (fun _ _ _ h => h) (Or.inl ⟨by kernel_rfl, ?_⟩) (by assumption) ?_
      rotate_left
      ·rintro w hw
       obtain ⟨s0, s1, s2, s3, s4, s5, s6, s7⟩ := HS.out w hw
       go_simp
       try with_reducible rfl
      try simp only [Act.put, zA1, zA2, zA3, zA4, zA5, zA6]
      refine wpAnyH_take (i := 7) (oi := _) (v := ?_) rfl (by kernel_rfl) (by kernel_rfl) (by kernel_rfl) (fun _ _ _ h => h) (Or.inl ⟨by kernel_rfl, ?_⟩) (by assumption) ?_
      rotate_left
      ·rintro w hw
       obtain ⟨s0, s1, s2, s3, s4, s5, s6, s7⟩ := HS.out w hw
       go_simp
       try with_reducible rfl
      try simp only [Act.put, zA1, zA2, zA3, zA4, zA5, zA6]
      refine wpAnyH_take (i := 8) (oi := _) (v := ?_) rfl (by kernel_rfl) (by kernel_rfl) (by kernel_rfl) (fun _ _ _ h => h) (Or.inl ⟨by kernel_rfl, ?_⟩) (by assumption) ?_
      rotate_left
      ·rintro w hw
       obtain ⟨s0, s1, s2, s3, s4, s5, s6, s7⟩ := HS.out w hw
       go_simp
       try with_reducible rfl
      try simp only [Act.put, zA1, zA2, zA3, zA4, zA5, zA6]
      refine wpAnyH_take (i := 9) (oi := _) (v := ?_) rfl (by kernel_rfl) (by kernel_rfl) (by kernel_rfl) (fun _ _ _ h => h) (Or.inl ⟨by kernel_rfl, ?_⟩) (by assumption) ?_
      rotate_left
      ·rintro w hw
       obtain ⟨s0, s1, s2, s3, s4, s5, s6, s7⟩ := HS.out w hw
       go_simp
       try with_reducible rfl
      try simp only [Act.put, zA1, zA2, zA3, zA4, zA5, zA6]
      refine wpAnyH_take (i := 10) (oi := _) (v := ?_) rfl (by kernel_rfl) (by kernel_rfl) (by kernel_rfl) (fun _ _ _ h => h) (Or.inl ⟨by kernel_rfl, ?_⟩) (by assumption) ?_
      rotate_left
      ·rintro w hw
       obtain ⟨s0, s1, s2, s3, s4, s5, s6, s7⟩ := HS.out w hw
       go_simp
       try with_reducible rfl
      try simp only [Act.put, zA1, zA2, zA3, zA4, zA5, zA6]
      refine wpAnyH_take (i := 11) (oi := _) (v := ?_) rfl (by kernel_rfl) (by kernel_rfl) (by kernel_rfl) (fun _ _ _ h => h) (Or.inl ⟨by kernel_rfl, ?_⟩) (by assumption) ?_
      rotate_left
      ·rintro w hw
       obtain ⟨s0, s1, s2, s3, s4, s5, s6, s7⟩ := HS.out w hw
       go_simp
       try with_reducible rfl
      try simp only [Act.put, zA1, zA2, zA3, zA4, zA5, zA6]
      refine wpAnyH_take (i := 12) (oi := _) (v := ?_) rfl (by kernel_rfl) (by kernel_rfl) (by kernel_rfl) (fun _ _ _ h => h) (Or.inl ⟨by kernel_rfl, ?_⟩) (by assumption) ?_
      rotate_left
      ·rintro w hw
       obtain ⟨s0, s1, s2, s3, s4, s5, s6, s7⟩ := HS.out w hw
       go_simp
       try with_reducible rfl
      try simp only [Act.put, zA1, zA2, zA3, zA4, zA5, zA6]
      refine wpAnyH_take (i := 13) (oi := _) (v := ?_) rfl (by kernel_rfl) (by kernel_rfl) (by kernel_rfl) (fun _ _ _ h => h) (Or.inl ⟨by kernel_rfl, ?_⟩) (by assumption) ?_
      rotate_left
      ·rintro w hw
       obtain ⟨s0, s1, s2, s3, s4, s5, s6, s7⟩ := HS.out w hw
       go_simp
       try with_reducible rfl
      try simp only [Act.put, zA1, zA2, zA3, zA4, zA5, zA6]
      refine wpAnyH_take (i := 14) (oi := _) (v := ?_) rfl (by kernel_rfl) (by kernel_rfl) (by kernel_rfl) (fun _ _ _ h => h) (Or.inl ⟨by kernel_rfl, ?_⟩) (by assumption) ?_
      rotate_left
      ·rintro w hw
       obtain ⟨s0, s1, s2, s3, s4, s5, s6, s7⟩ := HS.out w hw
       go_simp
       try simp only [hw1, if_pos hjj, hjt]
       try with_reducible rfl
      try simp only [Act.put, zA1, zA2, zA3, zA4, zA5, zA6]
      refine wpAnyH_take (i := 15) (oi := _) (v := ?_) rfl (by kernel_rfl) (by kernel_rfl) (by kernel_rfl) (fun _ _ _ h => h) (Or.inl ⟨by kernel_rfl, ?_⟩) (by assumption) ?_
      rotate_left
      ·rintro w hw
       obtain ⟨s0, s1, s2, s3, s4, s5, s6, s7⟩ := HS.out w hw
       go_simp
       try simp only [hw1, if_pos hjj, hjt]
       try with_reducible rfl
      try simp only [Act.put, zA1, zA2, zA3, zA4, zA5, zA6]
      refine wpAnyH_take (i := 16) (oi := _) (v := ?_) rfl (by kernel_rfl) (by kernel_rfl) (by kernel_rfl) (fun _ _ _ h => h) (Or.inl ⟨by kernel_rfl, ?_⟩) (by assumption) ?_
      rotate_left
      ·rintro w hw
       obtain ⟨s0, s1, s2, s3, s4, s5, s6, s7⟩ := HS.out w hw
       go_simp
       try simp only [hw1, if_pos hjj, hjt]
       try with_reducible rfl
      try simp only [Act.put, zA1, zA2, zA3, zA4, zA5, zA6]
      refine wpAnyH_take (i := 17) (oi := _) (v := ?_) rfl (by kernel_rfl) (by kernel_rfl) (by kernel_rfl) (fun _ _ _ h => h) (Or.inl ⟨by kernel_rfl, ?_⟩) (by assumption) ?_
      rotate_left
      ·rintro w hw
       obtain ⟨s0, s1, s2, s3, s4, s5, s6, s7⟩ := HS.out w hw
       go_simp
       try simp only [hw1, if_pos hjj, hjt]
       try with_reducible rfl
      try simp only [Act.put, zA1, zA2, zA3, zA4, zA5, zA6]
      refine wpAnyH_take (i := 18) (oi := _) (v := ?_) rfl (by kernel_rfl) (by kernel_rfl) (by kernel_rfl) (fun _ _ _ h => h) (Or.inl ⟨by kernel_rfl, ?_⟩) (by assumption) ?_
      rotate_left
      ·rintro w hw
       obtain ⟨s0, s1, s2, s3, s4, s5, s6, s7⟩ := HS.out w hw
       go_simp
       try simp only [hw1, if_pos hjj, hjt]
       try with_reducible rfl
      try simp only [Act.put, zA1, zA2, zA3, zA4, zA5, zA6]
      refine wpAnyH_take (i := 19) (oi := _) (v := ?_) rfl (by kernel_rfl) (by kernel_rfl) (by kernel_rfl) (fun _ _ _ h => h) (Or.inl ⟨by kernel_rfl, ?_⟩) (by assumption) ?_
      rotate_left
      ·rintro w hw
       obtain ⟨s0, s1, s2, s3, s4, s5, s6, s7⟩ := HS.out w hw
       go_simp
       try simp only [hw1, if_pos hjj, hjt]
       try with_reducible rfl
      try simp only [Act.put, zA1, zA2, zA3, zA4, zA5, zA6]
      refine wpAnyH_ready (rs := [20]) (by kernel_rfl) (by simp) ?_
      refine AllReadyH.cons (o := _) rfl (fun K hKK => ?_) AllReadyH.nil
      go_simp
      go_at_call 36
      refine (HC.out _).mono ?_
      rintro e w5 ⟨rfl, hb5⟩
      have hX := bstep hHeld hb5
      clear hHeld hb5
      go_wp2_with fail
      refine hKK.out _ _ ?_ (fun hHeld => ?_)
      ·exact hX
      clear hKK K
      try simp only [Act.put, zA1, zA2, zA3, zA4, zA5, zA6]
      refine wpAnyH_take (i := 21) (oi := _) (v := ?_) rfl (by kernel_rfl) (by kernel_rfl) (by kernel_rfl) (fun _ _ _ h => h) (Or.inl ⟨by kernel_rfl, ?_⟩) (by assumption) ?_
      rotate_left
      ·rintro w hw
       obtain ⟨s0, s1, s2, s3, s4, s5, s6, s7⟩ := HS.out w hw
       go_simp
       try with_reducible rfl
      try simp only [Act.put, zA1, zA2, zA3, zA4, zA5, zA6]
      refine wpAnyH_take (i := 22) (oi := _) (v := ?_) rfl (by kernel_rfl) (by kernel_rfl) (by kernel_rfl) (fun _ _ _ h => h) (Or.inl ⟨by kernel_rfl, ?_⟩) (by assumption) ?_
      rotate_left
      ·rintro w hw
       obtain ⟨s0, s1, s2, s3, s4, s5, s6, s7⟩ := HS.out w hw
       go_simp
       try with_reducible rfl
      try simp only [Act.put, zA1, zA2, zA3, zA4, zA5, zA6]
      refine wpAnyH_done (by kernel_rfl) ?_ _
      have hX := hHeld
      clear hHeld
      have HATJ : Hid (atZ cm d Q k = j' + 1) := Lib.hid (by rw [← HJ.out, HAT.out, if_neg (by omega)])
      clear HS HC HAT
      go_wp2_with fail
      obtain ⟨J, hJ⟩ : ∃ J, j' + 1 = J := ⟨_, rfl⟩
      rw [hJ] at HATJ hj
      have hJi : (j' : Int) + 1 = (J : Int) := by omega
      rw [hJi]
      have hk0 : 0 < k := by omega
      clear hJ hJi
      have hw5 := bstep HBX.out hX
      have hsz5 : w1.heap.size ≤ w5.heap.size := Nat.le_trans HB.out.size hw5.size
      have HCD : Hid (∀ w', Below w5.heap.size w5 w' → w'.cell? ⟨gd, k, none⟩ = some (.int .i64 (d : Int))) := Lib.hid fun w' hq => (HRD.out _ (bstep (bstep HB.out hw5) hq)).2 k d HDO.out
      have HN : Hid (∀ w', Below w5.heap.size w5 w' → ∀ i, i < k → w'.cell? ⟨go, i, none⟩ = some (.int .i64 (ga Q i))) := Lib.hid fun w' hq i hi9 => by
       obtain ⟨g', e9, _, hl9, _, _, hc9⟩ := OwnZ.at_ HO.out HQ.out hi9
       cases e9
       exact (hq.cell (p := ⟨go, i, none⟩) (Nat.lt_of_lt_of_le hl9 hw5.size)).trans ((hw5.cell (p := ⟨go, i, none⟩) hl9).trans hc9)
      have hs1 : (0 : Int) ≤ (J : Int) ∧ (J : Int) ≤ (c : Int) := by omega
      have hs2 : (0 : Int) ≤ (J : Int) ∧ (J : Int) ≤ (k : Int) := by omega
      obtain ⟨A2, hA2⟩ : ∃ A2 : Option Addr, (if c = J then some ⟨go, 0, none⟩ else some ⟨go, J, none⟩) = A2 := ⟨_, rfl⟩
      have hA2n : A2 ≠ none := by rw [← hA2]; split <;> simp
      have HN2 : Hid (∀ w', Below w5.heap.size w5 w' → ∀ ad, A2 = some ad → ∀ i u, ((Q.drop J).map fun z => Value.int .i64 z)[i]? = some u → w'.cell? (ad.add i) = some u) := Lib.hid fun w' hq ad had i u hu => by
       obtain ⟨q1, rfl⟩ := map_drop_at hu
       rw [HQ.out] at q1
       rw [← hA2, if_neg (by omega)] at had
       cases had
       rw [add_at]
       exact HN.out w' hq _ q1
      have HL1 : Hid (((Q.take J).map fun z => Value.int .i64 z).length = J * 1) := Lib.hid (by rw [List.length_map, List.length_take, HQ.out]; omega)
      have HL2 : Hid (((Q.drop J).map fun z => Value.int .i64 z).length = (k - J) * 1) := Lib.hid (by rw [List.length_map, List.length_drop, HQ.out]; omega)
      have HQL := Lib.hid (show Q.length = J + (Q.length - J) by rw [HQ.out]; omega)
      have hk0i : (0 : Int) ≤ (k : Int) := by omega
      have hkt : ((k : Int)).toNat = k := by omega
      refine wp_region_held_drew (S := fun w' => Below w5.heap.size w5 w') (by kernel_rfl) ?_ (fun hHeld => ?_)
      ·exact (Below.refl _ _).drew
      generalize World.drew w5 = wd at hHeld ⊢
      refine wpAnyH_take (i := 1) (oi := _) (v := ?_) rfl (by kernel_rfl) (by kernel_rfl) (by kernel_rfl) (fun _ _ _ h => h) (Or.inl ⟨by kernel_rfl, ?_⟩) (by assumption) ?_
      rotate_left
      ·rintro w hw
       have s0 := HCD.out w hw
       go_simp
       try with_reducible rfl
      try simp only [Act.put, zA1, zA2, zA3, zA4, zA5, zA6]
      refine wpAnyH_take (i := 2) (oi := _) (v := ?_) rfl (by kernel_rfl) (by kernel_rfl) (by kernel_rfl) (fun _ _ _ h => h) (Or.inl ⟨by kernel_rfl, ?_⟩) (by assumption) ?_
      rotate_left
      ·rintro w hw
       have s0 := HCD.out w hw
       go_simp
       try with_reducible rfl
      try simp only [Act.put, zA1, zA2, zA3, zA4, zA5, zA6]
      refine wpAnyH_take (i := 3) (oi := _) (v := ?_) rfl (by kernel_rfl) (by kernel_rfl) (by kernel_rfl) (fun _ _ _ h => h) (Or.inl ⟨by kernel_rfl, ?_⟩) (by assumption) ?_
      rotate_left
      ·rintro w hw
       have s0 := HCD.out w hw
       go_simp
       try simp only [if_pos hs1, if_pos hs2, hA2]
       try with_reducible rfl
      try simp only [Act.put, zA1, zA2, zA3, zA4, zA5, zA6]
      refine wpAnyH_take (i := 5) (oi := _) (v := ?_) rfl (by kernel_rfl) (by kernel_rfl) (by kernel_rfl) (fun _ _ _ h => h) (Or.inl ⟨by kernel_rfl, ?_⟩) (by assumption) ?_
      rotate_left
      ·rintro w hw
       have s0 := HCD.out w hw
       go_simp
       try with_reducible rfl
      try simp only [Act.put, zA1, zA2, zA3, zA4, zA5, zA6]
      refine wpAnyH_take (i := 6) (oi := _) (v := ?_) rfl (by kernel_rfl) (by kernel_rfl) (by kernel_rfl) (fun _ _ _ h => h) (Or.inl ⟨by kernel_rfl, ?_⟩) (by assumption) ?_
      rotate_left
      ·rintro w hw
       have s0 := HCD.out w hw
       go_simp
       try with_reducible rfl
      try simp only [Act.put, zA1, zA2, zA3, zA4, zA5, zA6]
      refine wpAnyH_take (i := 7) (oi := _) (v := ?_) rfl (by kernel_rfl) (by kernel_rfl) (by kernel_rfl) (fun _ _ _ h => h) (Or.inl ⟨by kernel_rfl, ?_⟩) (by assumption) ?_
      rotate_left
      ·rintro w hw
       have s0 := HCD.out w hw
       go_simp
       try with_reducible rfl
      try simp only [Act.put, zA1, zA2, zA3, zA4, zA5, zA6]
      refine wpAnyH_take (i := 8) (oi := _) (v := ?_) rfl (by kernel_rfl) (by kernel_rfl) (by kernel_rfl) (fun _ _ _ h => h) (Or.inl ⟨by kernel_rfl, ?_⟩) (by assumption) ?_
      rotate_left
      ·rintro w hw
       have s0 := HCD.out w hw
       go_simp
       try with_reducible rfl
      try simp only [Act.put, zA1, zA2, zA3, zA4, zA5, zA6]
      refine wpAnyH_take (i := 11) (oi := _) (v := ?_) rfl (by kernel_rfl) (by kernel_rfl) (by kernel_rfl) (fun _ _ _ h => h) (Or.inl ⟨by kernel_rfl, ?_⟩) (by assumption) ?_
      rotate_left
      ·rintro w hw
       have s0 := HCD.out w hw
       go_simp
       try with_reducible rfl
      try simp only [Act.put, zA1, zA2, zA3, zA4, zA5, zA6]
      refine wpAnyH_take (i := 12) (oi := _) (v := ?_) rfl (by kernel_rfl) (by kernel_rfl) (by kernel_rfl) (fun _ _ _ h => h) (Or.inl ⟨by kernel_rfl, ?_⟩) (by assumption) ?_
      rotate_left
      ·rintro w hw
       have s0 := HCD.out w hw
       go_simp
       try with_reducible rfl
      try simp only [Act.put, zA1, zA2, zA3, zA4, zA5, zA6]
      refine wpAnyH_take (i := 13) (oi := _) (v := ?_) rfl (by kernel_rfl) (by kernel_rfl) (by kernel_rfl) (fun _ _ _ h => h) (Or.inl ⟨by kernel_rfl, ?_⟩) (by assumption) ?_
      rotate_left
      ·rintro w hw
       have s0 := HCD.out w hw
       go_simp
       try simp only [if_pos hs1, if_pos hs2, hA2]
       try with_reducible rfl
      try simp only [Act.put, zA1, zA2, zA3, zA4, zA5, zA6]
      skip
      refine wpAnyH_ready (rs := [0, 9]) (by kernel_rfl) (by simp) ?_
      refine AllReadyH.cons (o := _) rfl (fun K hKK => ?_) ?_
      ·skip
       go_simp
       have hrow := World.ownsRow_lit wd #[] 0 (base := w5.heap.size) (e := 3) (size := 1) hHeld.size (by decide) rfl
       have hN := hHeld.alloc hHeld.size (.cells #[] 3)
       clear hHeld
       refine hKK.out _ _ ?_ (fun hHeld => ?_)
       ·exact hN
       clear hKK K
       try simp only [Act.put, zA1, zA2, zA3, zA4, zA5, zA6]
       clear hN
       refine wpAnyH_ready (rs := [4, 9]) (by kernel_rfl) (by simp) ?_
       refine AllReadyH.cons (o := _) rfl (fun K hKK => ?_) ?_
       ·skip
        refine step_append_src rfl (.tmp 46) (.tmp 49) 30 rfl w5.heap.size 3 i0 (.int .i64 0) 1 8 Tryz.underlying30 hi hz0 hz1 hz2 rfl (by decide) (.slice (some ⟨wd.heap.size, 0, none⟩) 0 0) _ _ rfl hrow _ _ _ ((Q.take J).map fun z => Value.int .i64 z) rfl (HL1.out) (fun q => by cases q) (fun ad had i u hu => by cases had; obtain ⟨q1, rfl⟩ := map_take_at HQL.out hu; rw [add_at, Nat.zero_add]; exact HN.out _ hHeld _ (by omega)) (ints_one _) (by unfold maxLen; omega) (by omega) hHeld.size ?_
        intro v4 w9 hown9 hgrow hat
        have hN := hHeld.grown hgrow hHeld.size (fun r hr => (World.ownsRow.lt hrow r hr).1)
        clear hHeld hrow hat hgrow
        have hrow := hown9
        clear hown9
        refine hKK.out _ _ ?_ (fun hHeld => ?_)
        ·exact hN
        clear hKK K
        try simp only [Act.put, zA1, zA2, zA3, zA4, zA5, zA6]
        clear hN
        refine wpAnyH_ready (rs := [9]) (by kernel_rfl) (by simp) ?_
        refine AllReadyH.cons (o := _) rfl (fun K hKK => ?_) AllReadyH.nil
        go_simp
        have hc9 : (w9.alloc (.cells #[.int .i64 (d : Int)] 3)).cell? ⟨w9.heap.size, 0, none⟩ = some (.int .i64 (d : Int)) := by simp
        have hrow := World.ownsRow.alloc hrow (.cells #[.int .i64 (d : Int)] 3)
        have hN := hHeld.alloc hHeld.size (.cells #[.int .i64 (d : Int)] 3)
        clear hHeld
        refine hKK.out _ _ ?_ (fun hHeld => ?_)
        ·exact hN
        clear hKK K
        try simp only [Act.put, zA1, zA2, zA3, zA4, zA5, zA6]
        clear hN
        refine wpAnyH_ready (rs := [10]) (by kernel_rfl) (by simp) ?_
        refine AllReadyH.cons (o := _) rfl (fun K hKK => ?_) AllReadyH.nil
        refine step_append_src rfl (.tmp 50) (.tmp 55) 30 rfl w5.heap.size 3 i0 (.int .i64 0) 1 8 Tryz.underlying30 hi hz0 hz1 hz2 rfl (by decide) v4 _ _ rfl hrow _ _ _ ([.int .i64 (d : Int)]) rfl (rfl) (fun q => by cases q) (fun ad had i u hu => by cases had; match i, hu with | 0, hu => (simp at hu; subst hu; rw [add_at]; first | exact hc9 | (simp; done) | simpa using hc9)) (by intro u hu; rw [List.mem_singleton] at hu; subst hu; rfl) (by unfold maxLen; omega) (by omega) hHeld.size ?_
        intro v10 w9 hown9 hgrow hat
        clear hc9
        have hN := hHeld.grown hgrow hHeld.size (fun r hr => (World.ownsRow.lt hrow r hr).1)
        clear hHeld hrow hat hgrow
        have hrow := hown9
        clear hown9
        refine hKK.out _ _ ?_ (fun hHeld => ?_)
        ·exact hN
        clear hKK K
        try simp only [Act.put, zA1, zA2, zA3, zA4, zA5, zA6]
        clear hN
        refine wpAnyH_ready (rs := [14]) (by kernel_rfl) (by simp) ?_
        refine AllReadyH.cons (o := _) rfl (fun K hKK => ?_) AllReadyH.nil
        refine step_append_src rfl (.tmp 56) (.tmp 59) 30 rfl w5.heap.size 3 i0 (.int .i64 0) 1 8 Tryz.underlying30 hi hz0 hz1 hz2 rfl (by decide) v10 _ _ rfl hrow _ _ _ ((Q.drop J).map fun z => Value.int .i64 z) rfl (HL2.out) (fun q => absurd q hA2n) (HN2.out _ hHeld) (ints_one _) (by unfold maxLen; omega) (by omega) hHeld.size ?_
        intro v14 w9 hown9 hgrow hat
        have hN := hHeld.grown hgrow hHeld.size (fun r hr => (World.ownsRow.lt hrow r hr).1)
        clear hHeld hrow hat hgrow
        have hrow := hown9
        clear hown9
        refine hKK.out _ _ ?_ (fun hHeld => ?_)
        ·exact hN
        clear hKK K
        try simp only [Act.put, zA1, zA2, zA3, zA4, zA5, zA6]
        clear hN
        refine wpAnyH_ready (rs := [15]) (by kernel_rfl) (by simp) ?_
        refine AllReadyH.cons (o := _) rfl (fun K hKK => ?_) AllReadyH.nil
        go_simp
        refine hKK.out _ _ ?_ (fun hHeld => ?_)
        ·exact hHeld
        clear hKK K
        try simp only [Act.put, zA1, zA2, zA3, zA4, zA5, zA6]
        refine wpAnyH_done (by kernel_rfl) ?_ _
        have hB9 := bstep (bstep HB.out hw5) hHeld
        obtain ⟨q1, q2⟩ := insZ_own hrow hsz5 HQ.out hj HATJ.out
        have hq3 := insZ_mem (cm := cm) (Q := Q) HQm.out hd
        obtain ⟨a9, c9, rfl⟩ := q1.shape
        generalize hins : insZ cm Q (d : Int) = R9 at *
        rw [q2] at q1
        have HR := Lib.hid (And.intro q1 (And.intro q2 (And.intro hq3 hB9)))
        rw [q2]
        clear hrow q1 q2 hq3 hB9 hHeld hw5 hsz5
        go_wp2
        go_roundw
        case rel => exact ⟨k + 1, c9, a9, R9, by go_num, by omega, rfl, by omega, Lib.hid HR.out.1, Lib.hid HR.out.2.1, Lib.hid HR.out.2.2.1, HST, Lib.hid HR.out.2.2.2⟩
        case measure => simp [intOf]; omega
       ·refine AllReadyH.cons (o := _) rfl (fun K hKK => ?_) AllReadyH.nil
        go_simp
        have hc9 : ((wd.alloc (.cells #[] 3)).alloc (.cells #[.int .i64 (d : Int)] 3)).cell? ⟨(wd.alloc (.cells #[] 3)).heap.size, 0, none⟩ = some (.int .i64 (d : Int)) := by simp
        have hrow := World.ownsRow.alloc hrow (.cells #[.int .i64 (d : Int)] 3)
        have hN := hHeld.alloc hHeld.size (.cells #[.int .i64 (d : Int)] 3)
        clear hHeld
        refine hKK.out _ _ ?_ (fun hHeld => ?_)
        ·exact hN
        clear hKK K
        try simp only [Act.put, zA1, zA2, zA3, zA4, zA5, zA6]
        clear hN
        refine wpAnyH_ready (rs := [4]) (by kernel_rfl) (by simp) ?_
        refine AllReadyH.cons (o := _) rfl (fun K hKK => ?_) AllReadyH.nil
        refine step_append_src rfl (.tmp 46) (.tmp 49) 30 rfl w5.heap.size 3 i0 (.int .i64 0) 1 8 Tryz.underlying30 hi hz0 hz1 hz2 rfl (by decide) (.slice (some ⟨wd.heap.size, 0, none⟩) 0 0) _ _ rfl hrow _ _ _ ((Q.take J).map fun z => Value.int .i64 z) rfl (HL1.out) (fun q => by cases q) (fun ad had i u hu => by cases had; obtain ⟨q1, rfl⟩ := map_take_at HQL.out hu; rw [add_at, Nat.zero_add]; exact HN.out _ hHeld _ (by omega)) (ints_one _) (by unfold maxLen; omega) (by omega) hHeld.size ?_
        intro v4 w9 hown9 hgrow hat
        have hc9 := hgrow.cell hc9 (by intro q; simp [Value.ownBlock] at q <;> omega)
        have hN := hHeld.grown hgrow hHeld.size (fun r hr => (World.ownsRow.lt hrow r hr).1)
        clear hHeld hrow hat hgrow
        have hrow := hown9
        clear hown9
        refine hKK.out _ _ ?_ (fun hHeld => ?_)
        ·exact hN
        clear hKK K
        try simp only [Act.put, zA1, zA2, zA3, zA4, zA5, zA6]
        clear hN
        refine wpAnyH_ready (rs := [10]) (by kernel_rfl) (by simp) ?_
        refine AllReadyH.cons (o := _) rfl (fun K hKK => ?_) AllReadyH.nil
        refine step_append_src rfl (.tmp 50) (.tmp 55) 30 rfl w5.heap.size 3 i0 (.int .i64 0) 1 8 Tryz.underlying30 hi hz0 hz1 hz2 rfl (by decide) v4 _ _ rfl hrow _ _ _ ([.int .i64 (d : Int)]) rfl (rfl) (fun q => by cases q) (fun ad had i u hu => by cases had; match i, hu with | 0, hu => (simp at hu; subst hu; rw [add_at]; first | exact hc9 | (simp; done) | simpa using hc9)) (by intro u hu; rw [List.mem_singleton] at hu; subst hu; rfl) (by unfold maxLen; omega) (by omega) hHeld.size ?_
        intro v10 w9 hown9 hgrow hat
        clear hc9
        have hN := hHeld.grown hgrow hHeld.size (fun r hr => (World.ownsRow.lt hrow r hr).1)
        clear hHeld hrow hat hgrow
        have hrow := hown9
        clear hown9
        refine hKK.out _ _ ?_ (fun hHeld => ?_)
        ·exact hN
        clear hKK K
        try simp only [Act.put, zA1, zA2, zA3, zA4, zA5, zA6]
        clear hN
        refine wpAnyH_ready (rs := [14]) (by kernel_rfl) (by simp) ?_
        refine AllReadyH.cons (o := _) rfl (fun K hKK => ?_) AllReadyH.nil
        refine step_append_src rfl (.tmp 56) (.tmp 59) 30 rfl w5.heap.size 3 i0 (.int .i64 0) 1 8 Tryz.underlying30 hi hz0 hz1 hz2 rfl (by decide) v10 _ _ rfl hrow _ _ _ ((Q.drop J).map fun z => Value.int .i64 z) rfl (HL2.out) (fun q => absurd q hA2n) (HN2.out _ hHeld) (ints_one _) (by unfold maxLen; omega) (by omega) hHeld.size ?_
        intro v14 w9 hown9 hgrow hat
        have hN := hHeld.grown hgrow hHeld.size (fun r hr => (World.ownsRow.lt hrow r hr).1)
        clear hHeld hrow hat hgrow
        have hrow := hown9
        clear hown9
        refine hKK.out _ _ ?_ (fun hHeld => ?_)
        ·exact hN
        clear hKK K
        try simp only [Act.put, zA1, zA2, zA3, zA4, zA5, zA6]
        clear hN
        refine wpAnyH_ready (rs := [15]) (by kernel_rfl) (by simp) ?_
        refine AllReadyH.cons (o := _) rfl (fun K hKK => ?_) AllReadyH.nil
        go_simp
        refine hKK.out _ _ ?_ (fun hHeld => ?_)
        ·exact hHeld
        clear hKK K
        try simp only [Act.put, zA1, zA2, zA3, zA4, zA5, zA6]
        refine wpAnyH_done (by kernel_rfl) ?_ _
        have hB9 := bstep (bstep HB.out hw5) hHeld
        obtain ⟨q1, q2⟩ := insZ_own hrow hsz5 HQ.out hj HATJ.out
        have hq3 := insZ_mem (cm := cm) (Q := Q) HQm.out hd
        obtain ⟨a9, c9, rfl⟩ := q1.shape
        generalize hins : insZ cm Q (d : Int) = R9 at *
        rw [q2] at q1
        have HR := Lib.hid (And.intro q1 (And.intro q2 (And.intro hq3 hB9)))
        rw [q2]
        clear hrow q1 q2 hq3 hB9 hHeld hw5 hsz5
        go_wp2
        go_roundw
        case rel => exact ⟨k + 1, c9, a9, R9, by go_num, by omega, rfl, by omega, Lib.hid HR.out.1, Lib.hid HR.out.2.1, Lib.hid HR.out.2.2.1, HST, Lib.hid HR.out.2.2.2⟩
        case measure => simp [intOf]; omega
      ·refine AllReadyH.cons (o := _) rfl (fun K hKK => ?_) AllReadyH.nil
       go_simp
       have hc9 : (wd.alloc (.cells #[.int .i64 (d : Int)] 3)).cell? ⟨wd.heap.size, 0, none⟩ = some (.int .i64 (d : Int)) := by simp
       have hN := hHeld.alloc hHeld.size (.cells #[.int .i64 (d : Int)] 3)
       clear hHeld
       refine hKK.out _ _ ?_ (fun hHeld => ?_)
       ·exact hN
       clear hKK K
       try simp only [Act.put, zA1, zA2, zA3, zA4, zA5, zA6]
       clear hN
       refine wpAnyH_ready (rs := [0]) (by kernel_rfl) (by simp) ?_
       refine AllReadyH.cons (o := _) rfl (fun K hKK => ?_) AllReadyH.nil
       go_simp
       have hrow : ((wd.alloc (.cells #[.int .i64 (d : Int)] 3)).alloc (.cells #[] 3)).ownsRow w5.heap.size 3 1 (.slice (some ⟨wd.heap.size + 1, 0, none⟩) 0 0) 0 [] := by rw [show wd.heap.size + 1 = (wd.alloc (.cells #[.int .i64 (d : Int)] 3)).heap.size by simp]; exact World.ownsRow_lit _ #[] 0 hHeld.size (by decide) rfl
       have hc9 : ((wd.alloc (.cells #[.int .i64 (d : Int)] 3)).alloc (.cells #[] 3)).cell? ⟨wd.heap.size, 0, none⟩ = some (.int .i64 (d : Int)) := Lib.cell?_alloc_some _ hc9
       have hN := hHeld.alloc hHeld.size (.cells #[] 3)
       clear hHeld
       refine hKK.out _ _ ?_ (fun hHeld => ?_)
       ·exact hN
       clear hKK K
       try simp only [Act.put, zA1, zA2, zA3, zA4, zA5, zA6]
       clear hN
       refine wpAnyH_ready (rs := [4]) (by kernel_rfl) (by simp) ?_
       refine AllReadyH.cons (o := _) rfl (fun K hKK => ?_) AllReadyH.nil
       refine step_append_src rfl (.tmp 46) (.tmp 49) 30 rfl w5.heap.size 3 i0 (.int .i64 0) 1 8 Tryz.underlying30 hi hz0 hz1 hz2 rfl (by decide) (.slice (some ⟨wd.heap.size + 1, 0, none⟩) 0 0) _ _ rfl hrow _ _ _ ((Q.take J).map fun z => Value.int .i64 z) rfl (HL1.out) (fun q => by cases q) (fun ad had i u hu => by cases had; obtain ⟨q1, rfl⟩ := map_take_at HQL.out hu; rw [add_at, Nat.zero_add]; exact HN.out _ hHeld _ (by omega)) (ints_one _) (by unfold maxLen; omega) (by omega) hHeld.size ?_
       intro v4 w9 hown9 hgrow hat
       have hc9 := hgrow.cell hc9 (by intro q; simp [Value.ownBlock] at q <;> omega)
       have hN := hHeld.grown hgrow hHeld.size (fun r hr => (World.ownsRow.lt hrow r hr).1)
       clear hHeld hrow hat hgrow
       have hrow := hown9
       clear hown9
       refine hKK.out _ _ ?_ (fun hHeld => ?_)
       ·exact hN
       clear hKK K
       try simp only [Act.put, zA1, zA2, zA3, zA4, zA5, zA6]
       clear hN
       refine wpAnyH_ready (rs := [10]) (by kernel_rfl) (by simp) ?_
       refine AllReadyH.cons (o := _) rfl (fun K hKK => ?_) AllReadyH.nil
       refine step_append_src rfl (.tmp 50) (.tmp 55) 30 rfl w5.heap.size 3 i0 (.int .i64 0) 1 8 Tryz.underlying30 hi hz0 hz1 hz2 rfl (by decide) v4 _ _ rfl hrow _ _ _ ([.int .i64 (d : Int)]) rfl (rfl) (fun q => by cases q) (fun ad had i u hu => by cases had; match i, hu with | 0, hu => (simp at hu; subst hu; rw [add_at]; first | exact hc9 | (simp; done) | simpa using hc9)) (by intro u hu; rw [List.mem_singleton] at hu; subst hu; rfl) (by unfold maxLen; omega) (by omega) hHeld.size ?_
       intro v10 w9 hown9 hgrow hat
       clear hc9
       have hN := hHeld.grown hgrow hHeld.size (fun r hr => (World.ownsRow.lt hrow r hr).1)
       clear hHeld hrow hat hgrow
       have hrow := hown9
       clear hown9
       refine hKK.out _ _ ?_ (fun hHeld => ?_)
       ·exact hN
       clear hKK K
       try simp only [Act.put, zA1, zA2, zA3, zA4, zA5, zA6]
       clear hN
       refine wpAnyH_ready (rs := [14]) (by kernel_rfl) (by simp) ?_
       refine AllReadyH.cons (o := _) rfl (fun K hKK => ?_) AllReadyH.nil
       refine step_append_src rfl (.tmp 56) (.tmp 59) 30 rfl w5.heap.size 3 i0 (.int .i64 0) 1 8 Tryz.underlying30 hi hz0 hz1 hz2 rfl (by decide) v10 _ _ rfl hrow _ _ _ ((Q.drop J).map fun z => Value.int .i64 z) rfl (HL2.out) (fun q => absurd q hA2n) (HN2.out _ hHeld) (ints_one _) (by unfold maxLen; omega) (by omega) hHeld.size ?_
       intro v14 w9 hown9 hgrow hat
       have hN := hHeld.grown hgrow hHeld.size (fun r hr => (World.ownsRow.lt hrow r hr).1)
       clear hHeld hrow hat hgrow
       have hrow := hown9
       clear hown9
       refine hKK.out _ _ ?_ (fun hHeld => ?_)
       ·exact hN
       clear hKK K
       try simp only [Act.put, zA1, zA2, zA3, zA4, zA5, zA6]
       clear hN
       refine wpAnyH_ready (rs := [15]) (by kernel_rfl) (by simp) ?_
       refine AllReadyH.cons (o := _) rfl (fun K hKK => ?_) AllReadyH.nil
       go_simp
       refine hKK.out _ _ ?_ (fun hHeld => ?_)
       ·exact hHeld
       clear hKK K
       try simp only [Act.put, zA1, zA2, zA3, zA4, zA5, zA6]
       refine wpAnyH_done (by kernel_rfl) ?_ _
       have hB9 := bstep (bstep HB.out hw5) hHeld
       obtain ⟨q1, q2⟩ := insZ_own hrow hsz5 HQ.out hj HATJ.out
       have hq3 := insZ_mem (cm := cm) (Q := Q) HQm.out hd
       obtain ⟨a9, c9, rfl⟩ := q1.shape
       generalize hins : insZ cm Q (d : Int) = R9 at *
       rw [q2] at q1
       have HR := Lib.hid (And.intro q1 (And.intro q2 (And.intro hq3 hB9)))
       rw [q2]
       clear hrow q1 q2 hq3 hB9 hHeld hw5 hsz5
       go_wp2
       go_roundw
       case rel => exact ⟨k + 1, c9, a9, R9, by go_num, by omega, rfl, by omega, Lib.hid HR.out.1, Lib.hid HR.out.2.1, Lib.hid HR.out.2.2.1, HST, Lib.hid HR.out.2.2.2⟩
       case measure => simp [intOf]; omega
    ·obtain rfl : j = 0 := by omega
     go_wp2_with fail
     refine wp_region_held_drew (S := fun w' => Below wr.heap.size wr w') (by kernel_rfl) ?_ (fun hHeld => ?_)
     ·exact (Below.refl _ _).drew
     refine wpAnyH_take (i := 0) (oi := _) (v := ?_) rfl (by kernel_rfl) (by kernel_rfl) (by kernel_rfl) (fun _ _ _ h => h) (Or.inl ⟨by kernel_rfl, ?_⟩) (by assumption) ?_
     rotate_left
     ·rintro w _
      go_simp
      try with_reducible rfl
     try simp only [Act.put, zA1, zA2, zA3, zA4, zA5, zA6]
     refine wpAnyH_take (i := 1) (oi := _) (v := ?_) rfl (by kernel_rfl) (by kernel_rfl) (by kernel_rfl) (fun _ _ _ h => h) (Or.inl ⟨by kernel_rfl, ?_⟩) (by assumption) ?_
     rotate_left
     ·rintro w _
      go_simp
      try with_reducible rfl
     try simp only [Act.put, zA1, zA2, zA3, zA4, zA5, zA6]
     refine wpAnyH_take (i := 2) (oi := _) (v := ?_) rfl (by kernel_rfl) (by kernel_rfl) (by kernel_rfl) (fun _ _ _ h => h) (Or.inl ⟨by kernel_rfl, ?_⟩) (by assumption) ?_
     rotate_left
     ·rintro w _
      go_simp
      try with_reducible rfl
     try simp only [Act.put, zA1, zA2, zA3, zA4, zA5, zA6]
     refine wpAnyH_take (i := 3) (oi := _) (v := undef) rfl (by kernel_rfl) (by kernel_rfl) (by kernel_rfl) (fun _ _ _ h => h) (Or.inr ⟨by kernel_rfl, rfl⟩) (by assumption) ?_
     try simp only [Act.put, zA1, zA2, zA3, zA4, zA5, zA6]
     refine wpAnyH_take (i := 4) (oi := _) (v := undef) rfl (by kernel_rfl) (by kernel_rfl) (by kernel_rfl) (fun _ _ _ h => h) (Or.inr ⟨by kernel_rfl, rfl⟩) (by assumption) ?_
     try simp only [Act.put, zA1, zA2, zA3, zA4, zA5, zA6]
     refine wpAnyH_take (i := 5) (oi := _) (v := undef) rfl (by kernel_rfl) (by kernel_rfl) (by kernel_rfl) (fun _ _ _ h => h) (Or.inr ⟨by kernel_rfl, rfl⟩) (by assumption) ?_
     try simp only [Act.put, zA1, zA2, zA3, zA4, zA5, zA6]
     refine wpAnyH_take (i := 6) (oi := _) (v := undef) rfl (by kernel_rfl) (by kernel_rfl) (by kernel_rfl) (fun _ _ _ h => h) (Or.inr ⟨by kernel_rfl, rfl⟩) (by assumption) ?_
     try simp only [Act.put, zA1, zA2, zA3, zA4, zA5, zA6]
     refine wpAnyH_take (i := 7) (oi := _) (v := undef) rfl (by kernel_rfl) (by kernel_rfl) (by kernel_rfl) (fun _ _ _ h => h) (Or.inr ⟨by kernel_rfl, rfl⟩) (by assumption) ?_
     try simp only [Act.put, zA1, zA2, zA3, zA4, zA5, zA6]
     refine wpAnyH_take (i := 8) (oi := _) (v := undef) rfl (by kernel_rfl) (by kernel_rfl) (by kernel_rfl) (fun _ _ _ h => h) (Or.inr ⟨by kernel_rfl, rfl⟩) (by assumption) ?_
     try simp only [Act.put, zA1, zA2, zA3, zA4, zA5, zA6]
     refine wpAnyH_take (i := 9) (oi := _) (v := undef) rfl (by kernel_rfl) (by kernel_rfl) (by kernel_rfl) (fun _ _ _ h => h) (Or.inr ⟨by kernel_rfl, rfl⟩) (by assumption) ?_
     try simp only [Act.put, zA1, zA2, zA3, zA4, zA5, zA6]
     refine wpAnyH_take (i := 10) (oi := _) (v := undef) rfl (by kernel_rfl) (by kernel_rfl) (by kernel_rfl) (fun _ _ _ h => h) (Or.inr ⟨by kernel_rfl, rfl⟩) (by assumption) ?_
     try simp only [Act.put, zA1, zA2, zA3, zA4, zA5, zA6]
     refine wpAnyH_take (i := 11) (oi := _) (v := undef) rfl (by kernel_rfl) (by kernel_rfl) (by kernel_rfl) (fun _ _ _ h => h) (Or.inr ⟨by kernel_rfl, rfl⟩) (by assumption) ?_
     try simp only [Act.put, zA1, zA2, zA3, zA4, zA5, zA6]
     refine wpAnyH_take (i := 12) (oi := _) (v := undef) rfl (by kernel_rfl) (by kernel_rfl) (by kernel_rfl) (fun _ _ _ h => h) (Or.inr ⟨by kernel_rfl, rfl⟩) (by assumption) ?_
     try simp only [Act.put, zA1, zA2, zA3, zA4, zA5, zA6]
     refine wpAnyH_take (i := 13) (oi := _) (v := undef) rfl (by kernel_rfl) (by kernel_rfl) (by kernel_rfl) (fun _ _ _ h => h) (Or.inr ⟨by kernel_rfl, rfl⟩) (by assumption) ?_
     try simp only [Act.put, zA1, zA2, zA3, zA4, zA5, zA6]
     refine wpAnyH_take (i := 14) (oi := _) (v := undef) rfl (by kernel_rfl) (by kernel_rfl) (by kernel_rfl) (fun _ _ _ h => h) (Or.inr ⟨by kernel_rfl, rfl⟩) (by assumption) ?_
     try simp only [Act.put, zA1, zA2, zA3, zA4, zA5, zA6]
     refine wpAnyH_take (i := 15) (oi := _) (v := undef) rfl (by kernel_rfl) (by kernel_rfl) (by kernel_rfl) (fun _ _ _ h => h) (Or.inr ⟨by kernel_rfl, rfl⟩) (by assumption) ?_
     try simp only [Act.put, zA1, zA2, zA3, zA4, zA5, zA6]
     refine wpAnyH_take (i := 16) (oi := _) (v := undef) rfl (by kernel_rfl) (by kernel_rfl) (by kernel_rfl) (fun _ _ _ h => h) (Or.inr ⟨by kernel_rfl, rfl⟩) (by assumption) ?_
     try simp only [Act.put, zA1, zA2, zA3, zA4, zA5, zA6]
     refine wpAnyH_take (i := 17) (oi := _) (v := undef) rfl (by kernel_rfl) (by kernel_rfl) (by kernel_rfl) (fun _ _ _ h => h) (Or.inr ⟨by kernel_rfl, rfl⟩) (by assumption) ?_
     try simp only [Act.put, zA1, zA2, zA3, zA4, zA5, zA6]
     refine wpAnyH_take (i := 18) (oi := _) (v := undef) rfl (by kernel_rfl) (by kernel_rfl) (by kernel_rfl) (fun _ _ _ h => h) (Or.inr ⟨by kernel_rfl, rfl⟩) (by assumption) ?_
     try simp only [Act.put, zA1, zA2, zA3, zA4, zA5, zA6]
     refine wpAnyH_take (i := 19) (oi := _) (v := undef) rfl (by kernel_rfl) (by kernel_rfl) (by kernel_rfl) (fun _ _ _ h => h) (Or.inr ⟨by kernel_rfl, rfl⟩) (by assumption) ?_
     try simp only [Act.put, zA1, zA2, zA3, zA4, zA5, zA6]
     refine wpAnyH_take (i := 20) (oi := _) (v := undef) rfl (by kernel_rfl) (by kernel_rfl) (by kernel_rfl) (fun _ _ _ h => h) (Or.inr ⟨by kernel_rfl, rfl⟩) (by assumption) ?_
     try simp only [Act.put, zA1, zA2, zA3, zA4, zA5, zA6]
     refine wpAnyH_take (i := 21) (oi := _) (v := undef) rfl (by kernel_rfl) (by kernel_rfl) (by kernel_rfl) (fun _ _ _ h => h) (Or.inr ⟨by kernel_rfl, rfl⟩) (by assumption) ?_
     try simp only [Act.put, zA1, zA2, zA3, zA4, zA5, zA6]
     refine wpAnyH_take (i := 22) (oi := _) (v := ?_) rfl (by kernel_rfl) (by kernel_rfl) (by kernel_rfl) (fun _ _ _ h => h) (Or.inl ⟨by kernel_rfl, ?_⟩) (by assumption) ?_
     rotate_left
     ·rintro w _
      go_simp
      try with_reducible rfl
     try simp only [Act.put, zA1, zA2, zA3, zA4, zA5, zA6]
     refine wpAnyH_done (by kernel_rfl) ?_ _
     have hX := hHeld
     clear hHeld
     generalize World.drew wr = w5 at hX ⊢
     have HATJ : Hid (atZ cm d Q k = 0) := Lib.hid (by rw [← HJ.out]; rfl)
     by_cases hkk : k = 0
     ·obtain ⟨rfl, rfl⟩ := hk00 hkk
      have hQn : Q = [] := List.eq_nil_of_length_eq_zero (HQ.out.trans hkk)
      subst hQn
      have HKK := Lib.hid hkk
      clear hkk hk00 HJ
      go_wp2_with fail
      have hw5 := bstep HBX.out hX
      have hsz5 : w1.heap.size ≤ w5.heap.size := Nat.le_trans HB.out.size hw5.size
      have HCD : Hid (∀ w', Below w5.heap.size w5 w' → w'.cell? ⟨gd, k, none⟩ = some (.int .i64 (d : Int))) := Lib.hid fun w' hq => (HRD.out _ (bstep (bstep HB.out hw5) hq)).2 k d HDO.out
      have hk0i : (0 : Int) ≤ (k : Int) := by omega
      have hkt : ((k : Int)).toNat = k := by omega
      refine wp_region_held_drew (S := fun w' => Below w5.heap.size w5 w') (by kernel_rfl) ?_ (fun hHeld => ?_)
      ·exact (Below.refl _ _).drew
      generalize World.drew w5 = wd at hHeld ⊢
      refine wpAnyH_take (i := 1) (oi := _) (v := ?_) rfl (by kernel_rfl) (by kernel_rfl) (by kernel_rfl) (fun _ _ _ h => h) (Or.inl ⟨by kernel_rfl, ?_⟩) (by assumption) ?_
      rotate_left
      ·rintro w hw
       have s0 := HCD.out w hw
       go_simp
       try with_reducible rfl
      try simp only [Act.put, zA1, zA2, zA3, zA4, zA5, zA6]
      refine wpAnyH_take (i := 2) (oi := _) (v := ?_) rfl (by kernel_rfl) (by kernel_rfl) (by kernel_rfl) (fun _ _ _ h => h) (Or.inl ⟨by kernel_rfl, ?_⟩) (by assumption) ?_
      rotate_left
      ·rintro w hw
       have s0 := HCD.out w hw
       go_simp
       try with_reducible rfl
      try simp only [Act.put, zA1, zA2, zA3, zA4, zA5, zA6]
      refine wpAnyH_take (i := 3) (oi := _) (v := ?_) rfl (by kernel_rfl) (by kernel_rfl) (by kernel_rfl) (fun _ _ _ h => h) (Or.inl ⟨by kernel_rfl, ?_⟩) (by assumption) ?_
      rotate_left
      ·rintro w hw
       have s0 := HCD.out w hw
       go_simp
       try with_reducible rfl
      try simp only [Act.put, zA1, zA2, zA3, zA4, zA5, zA6]
      refine wpAnyH_take (i := 5) (oi := _) (v := ?_) rfl (by kernel_rfl) (by kernel_rfl) (by kernel_rfl) (fun _ _ _ h => h) (Or.inl ⟨by kernel_rfl, ?_⟩) (by assumption) ?_
      rotate_left
      ·rintro w hw
       have s0 := HCD.out w hw
       go_simp
       try with_reducible rfl
      try simp only [Act.put, zA1, zA2, zA3, zA4, zA5, zA6]
      refine wpAnyH_take (i := 6) (oi := _) (v := ?_) rfl (by kernel_rfl) (by kernel_rfl) (by kernel_rfl) (fun _ _ _ h => h) (Or.inl ⟨by kernel_rfl, ?_⟩) (by assumption) ?_
      rotate_left
      ·rintro w hw
       have s0 := HCD.out w hw
       go_simp
       try with_reducible rfl
      try simp only [Act.put, zA1, zA2, zA3, zA4, zA5, zA6]
      refine wpAnyH_take (i := 7) (oi := _) (v := ?_) rfl (by kernel_rfl) (by kernel_rfl) (by kernel_rfl) (fun _ _ _ h => h) (Or.inl ⟨by kernel_rfl, ?_⟩) (by assumption) ?_
      rotate_left
      ·rintro w hw
       have s0 := HCD.out w hw
       go_simp
       try with_reducible rfl
      try simp only [Act.put, zA1, zA2, zA3, zA4, zA5, zA6]
      refine wpAnyH_take (i := 8) (oi := _) (v := ?_) rfl (by kernel_rfl) (by kernel_rfl) (by kernel_rfl) (fun _ _ _ h => h) (Or.inl ⟨by kernel_rfl, ?_⟩) (by assumption) ?_
      rotate_left
      ·rintro w hw
       have s0 := HCD.out w hw
       go_simp
       try with_reducible rfl
      try simp only [Act.put, zA1, zA2, zA3, zA4, zA5, zA6]
      refine wpAnyH_take (i := 11) (oi := _) (v := ?_) rfl (by kernel_rfl) (by kernel_rfl) (by kernel_rfl) (fun _ _ _ h => h) (Or.inl ⟨by kernel_rfl, ?_⟩) (by assumption) ?_
      rotate_left
      ·rintro w hw
       have s0 := HCD.out w hw
       go_simp
       try with_reducible rfl
      try simp only [Act.put, zA1, zA2, zA3, zA4, zA5, zA6]
      refine wpAnyH_take (i := 12) (oi := _) (v := ?_) rfl (by kernel_rfl) (by kernel_rfl) (by kernel_rfl) (fun _ _ _ h => h) (Or.inl ⟨by kernel_rfl, ?_⟩) (by assumption) ?_
      rotate_left
      ·rintro w hw
       have s0 := HCD.out w hw
       go_simp
       try with_reducible rfl
      try simp only [Act.put, zA1, zA2, zA3, zA4, zA5, zA6]
      refine wpAnyH_take (i := 13) (oi := _) (v := ?_) rfl (by kernel_rfl) (by kernel_rfl) (by kernel_rfl) (fun _ _ _ h => h) (Or.inl ⟨by kernel_rfl, ?_⟩) (by assumption) ?_
      rotate_left
      ·rintro w hw
       have s0 := HCD.out w hw
       go_simp
       try with_reducible rfl
      try simp only [Act.put, zA1, zA2, zA3, zA4, zA5, zA6]
      skip
      refine wpAnyH_ready (rs := [0, 9]) (by kernel_rfl) (by simp) ?_
      refine AllReadyH.cons (o := _) rfl (fun K hKK => ?_) ?_
      ·skip
       go_simp
       have hrow := World.ownsRow_lit wd #[] 0 (base := w5.heap.size) (e := 3) (size := 1) hHeld.size (by decide) rfl
       have hN := hHeld.alloc hHeld.size (.cells #[] 3)
       clear hHeld
       refine hKK.out _ _ ?_ (fun hHeld => ?_)
       ·exact hN
       clear hKK K
       try simp only [Act.put, zA1, zA2, zA3, zA4, zA5, zA6]
       clear hN
       refine wpAnyH_ready (rs := [4, 9]) (by kernel_rfl) (by simp) ?_
       refine AllReadyH.cons (o := _) rfl (fun K hKK => ?_) ?_
       ·skip
        refine step_append_src rfl (.tmp 46) (.tmp 49) 30 rfl w5.heap.size 3 i0 (.int .i64 0) 1 8 Tryz.underlying30 hi hz0 hz1 hz2 rfl (by decide) (.slice (some ⟨wd.heap.size, 0, none⟩) 0 0) _ _ rfl hrow _ _ _ (([] : List Int).map fun z => Value.int .i64 z) rfl (rfl) (fun _ => ⟨rfl, rfl⟩) (fun ad q => by cases q) (ints_one _) (by unfold maxLen; omega) (by omega) hHeld.size ?_
        intro v4 w9 hown9 hgrow hat
        have hN := hHeld.grown hgrow hHeld.size (fun r hr => (World.ownsRow.lt hrow r hr).1)
        clear hHeld hrow hat hgrow
        have hrow := hown9
        clear hown9
        refine hKK.out _ _ ?_ (fun hHeld => ?_)
        ·exact hN
        clear hKK K
        try simp only [Act.put, zA1, zA2, zA3, zA4, zA5, zA6]
        clear hN
        refine wpAnyH_ready (rs := [9]) (by kernel_rfl) (by simp) ?_
        refine AllReadyH.cons (o := _) rfl (fun K hKK => ?_) AllReadyH.nil
        go_simp
        have hc9 : (w9.alloc (.cells #[.int .i64 (d : Int)] 3)).cell? ⟨w9.heap.size, 0, none⟩ = some (.int .i64 (d : Int)) := by simp
        have hrow := World.ownsRow.alloc hrow (.cells #[.int .i64 (d : Int)] 3)
        have hN := hHeld.alloc hHeld.size (.cells #[.int .i64 (d : Int)] 3)
        clear hHeld
        refine hKK.out _ _ ?_ (fun hHeld => ?_)
        ·exact hN
        clear hKK K
        try simp only [Act.put, zA1, zA2, zA3, zA4, zA5, zA6]
        clear hN
        refine wpAnyH_ready (rs := [10]) (by kernel_rfl) (by simp) ?_
        refine AllReadyH.cons (o := _) rfl (fun K hKK => ?_) AllReadyH.nil
        refine step_append_src rfl (.tmp 50) (.tmp 55) 30 rfl w5.heap.size 3 i0 (.int .i64 0) 1 8 Tryz.underlying30 hi hz0 hz1 hz2 rfl (by decide) v4 _ _ rfl hrow _ _ _ ([.int .i64 (d : Int)]) rfl (rfl) (fun q => by cases q) (fun ad had i u hu => by cases had; match i, hu with | 0, hu => (simp at hu; subst hu; rw [add_at]; first | exact hc9 | (simp; done) | simpa using hc9)) (by intro u hu; rw [List.mem_singleton] at hu; subst hu; rfl) (by unfold maxLen; omega) (by omega) hHeld.size ?_
        intro v10 w9 hown9 hgrow hat
        clear hc9
        have hN := hHeld.grown hgrow hHeld.size (fun r hr => (World.ownsRow.lt hrow r hr).1)
        clear hHeld hrow hat hgrow
        have hrow := hown9
        clear hown9
        refine hKK.out _ _ ?_ (fun hHeld => ?_)
        ·exact hN
        clear hKK K
        try simp only [Act.put, zA1, zA2, zA3, zA4, zA5, zA6]
        clear hN
        refine wpAnyH_ready (rs := [14]) (by kernel_rfl) (by simp) ?_
        refine AllReadyH.cons (o := _) rfl (fun K hKK => ?_) AllReadyH.nil
        refine step_append_src rfl (.tmp 56) (.tmp 59) 30 rfl w5.heap.size 3 i0 (.int .i64 0) 1 8 Tryz.underlying30 hi hz0 hz1 hz2 rfl (by decide) v10 _ _ rfl hrow _ _ _ (([] : List Int).map fun z => Value.int .i64 z) rfl (by rw [HKK.out]; rfl) (fun _ => ⟨HKK.out, rfl⟩) (fun ad q => by cases q) (ints_one _) (by unfold maxLen; omega) (by omega) hHeld.size ?_
        intro v14 w9 hown9 hgrow hat
        have hN := hHeld.grown hgrow hHeld.size (fun r hr => (World.ownsRow.lt hrow r hr).1)
        clear hHeld hrow hat hgrow
        have hrow := hown9
        clear hown9
        refine hKK.out _ _ ?_ (fun hHeld => ?_)
        ·exact hN
        clear hKK K
        try simp only [Act.put, zA1, zA2, zA3, zA4, zA5, zA6]
        clear hN
        refine wpAnyH_ready (rs := [15]) (by kernel_rfl) (by simp) ?_
        refine AllReadyH.cons (o := _) rfl (fun K hKK => ?_) AllReadyH.nil
        go_simp
        refine hKK.out _ _ ?_ (fun hHeld => ?_)
        ·exact hHeld
        clear hKK K
        try simp only [Act.put, zA1, zA2, zA3, zA4, zA5, zA6]
        refine wpAnyH_done (by kernel_rfl) ?_ _
        have hB9 := bstep (bstep HB.out hw5) hHeld
        obtain ⟨q1, q2⟩ := insZ_own (cm := cm) (Q := []) (k := k) (J := 0) (d := d) hrow hsz5 HQ.out (Nat.zero_le _) HATJ.out
        have hq3 := insZ_mem (cm := cm) (Q := []) HQm.out hd
        obtain ⟨a9, c9, rfl⟩ := q1.shape
        generalize hins : insZ cm [] (d : Int) = R9 at *
        rw [q2] at q1
        have HR := Lib.hid (And.intro q1 (And.intro q2 (And.intro hq3 hB9)))
        rw [q2]
        clear hrow q1 q2 hq3 hB9 hHeld hw5 hsz5
        go_wp2
        go_roundw
        case rel => exact ⟨k + 1, c9, a9, R9, by go_num, by omega, rfl, by omega, Lib.hid HR.out.1, Lib.hid HR.out.2.1, Lib.hid HR.out.2.2.1, HST, Lib.hid HR.out.2.2.2⟩
        case measure => simp [intOf]; omega
       ·refine AllReadyH.cons (o := _) rfl (fun K hKK => ?_) AllReadyH.nil
        go_simp
        have hc9 : ((wd.alloc (.cells #[] 3)).alloc (.cells #[.int .i64 (d : Int)] 3)).cell? ⟨(wd.alloc (.cells #[] 3)).heap.size, 0, none⟩ = some (.int .i64 (d : Int)) := by simp
        have hrow := World.ownsRow.alloc hrow (.cells #[.int .i64 (d : Int)] 3)
        have hN := hHeld.alloc hHeld.size (.cells #[.int .i64 (d : Int)] 3)
        clear hHeld
        refine hKK.out _ _ ?_ (fun hHeld => ?_)
        ·exact hN
        clear hKK K
        try simp only [Act.put, zA1, zA2, zA3, zA4, zA5, zA6]
        clear hN
        refine wpAnyH_ready (rs := [4]) (by kernel_rfl) (by simp) ?_
        refine AllReadyH.cons (o := _) rfl (fun K hKK => ?_) AllReadyH.nil
        refine step_append_src rfl (.tmp 46) (.tmp 49) 30 rfl w5.heap.size 3 i0 (.int .i64 0) 1 8 Tryz.underlying30 hi hz0 hz1 hz2 rfl (by decide) (.slice (some ⟨wd.heap.size, 0, none⟩) 0 0) _ _ rfl hrow _ _ _ (([] : List Int).map fun z => Value.int .i64 z) rfl (rfl) (fun _ => ⟨rfl, rfl⟩) (fun ad q => by cases q) (ints_one _) (by unfold maxLen; omega) (by omega) hHeld.size ?_
        intro v4 w9 hown9 hgrow hat
        have hc9 := hgrow.cell hc9 (by intro q; simp [Value.ownBlock] at q <;> omega)
        have hN := hHeld.grown hgrow hHeld.size (fun r hr => (World.ownsRow.lt hrow r hr).1)
        clear hHeld hrow hat hgrow
        have hrow := hown9
        clear hown9
        refine hKK.out _ _ ?_ (fun hHeld => ?_)
        ·exact hN
        clear hKK K
        try simp only [Act.put, zA1, zA2, zA3, zA4, zA5, zA6]
        clear hN
        refine wpAnyH_ready (rs := [10]) (by kernel_rfl) (by simp) ?_
        refine AllReadyH.cons (o := _) rfl (fun K hKK => ?_) AllReadyH.nil
        refine step_append_src rfl (.tmp 50) (.tmp 55) 30 rfl w5.heap.size 3 i0 (.int .i64 0) 1 8 Tryz.underlying30 hi hz0 hz1 hz2 rfl (by decide) v4 _ _ rfl hrow _ _ _ ([.int .i64 (d : Int)]) rfl (rfl) (fun q => by cases q) (fun ad had i u hu => by cases had; match i, hu with | 0, hu => (simp at hu; subst hu; rw [add_at]; first | exact hc9 | (simp; done) | simpa using hc9)) (by intro u hu; rw [List.mem_singleton] at hu; subst hu; rfl) (by unfold maxLen; omega) (by omega) hHeld.size ?_
        intro v10 w9 hown9 hgrow hat
        clear hc9
        have hN := hHeld.grown hgrow hHeld.size (fun r hr => (World.ownsRow.lt hrow r hr).1)
        clear hHeld hrow hat hgrow
        have hrow := hown9
        clear hown9
        refine hKK.out _ _ ?_ (fun hHeld => ?_)
        ·exact hN
        clear hKK K
        try simp only [Act.put, zA1, zA2, zA3, zA4, zA5, zA6]
        clear hN
        refine wpAnyH_ready (rs := [14]) (by kernel_rfl) (by simp) ?_
        refine AllReadyH.cons (o := _) rfl (fun K hKK => ?_) AllReadyH.nil
        refine step_append_src rfl (.tmp 56) (.tmp 59) 30 rfl w5.heap.size 3 i0 (.int .i64 0) 1 8 Tryz.underlying30 hi hz0 hz1 hz2 rfl (by decide) v10 _ _ rfl hrow _ _ _ (([] : List Int).map fun z => Value.int .i64 z) rfl (by rw [HKK.out]; rfl) (fun _ => ⟨HKK.out, rfl⟩) (fun ad q => by cases q) (ints_one _) (by unfold maxLen; omega) (by omega) hHeld.size ?_
        intro v14 w9 hown9 hgrow hat
        have hN := hHeld.grown hgrow hHeld.size (fun r hr => (World.ownsRow.lt hrow r hr).1)
        clear hHeld hrow hat hgrow
        have hrow := hown9
        clear hown9
        refine hKK.out _ _ ?_ (fun hHeld => ?_)
        ·exact hN
        clear hKK K
        try simp only [Act.put, zA1, zA2, zA3, zA4, zA5, zA6]
        clear hN
        refine wpAnyH_ready (rs := [15]) (by kernel_rfl) (by simp) ?_
        refine AllReadyH.cons (o := _) rfl (fun K hKK => ?_) AllReadyH.nil
        go_simp
        refine hKK.out _ _ ?_ (fun hHeld => ?_)
        ·exact hHeld
        clear hKK K
        try simp only [Act.put, zA1, zA2, zA3, zA4, zA5, zA6]
        refine wpAnyH_done (by kernel_rfl) ?_ _
        have hB9 := bstep (bstep HB.out hw5) hHeld
        obtain ⟨q1, q2⟩ := insZ_own (cm := cm) (Q := []) (k := k) (J := 0) (d := d) hrow hsz5 HQ.out (Nat.zero_le _) HATJ.out
        have hq3 := insZ_mem (cm := cm) (Q := []) HQm.out hd
        obtain ⟨a9, c9, rfl⟩ := q1.shape
        generalize hins : insZ cm [] (d : Int) = R9 at *
        rw [q2] at q1
        have HR := Lib.hid (And.intro q1 (And.intro q2 (And.intro hq3 hB9)))
        rw [q2]
        clear hrow q1 q2 hq3 hB9 hHeld hw5 hsz5
        go_wp2
        go_roundw
        case rel => exact ⟨k + 1, c9, a9, R9, by go_num, by omega, rfl, by omega, Lib.hid HR.out.1, Lib.hid HR.out.2.1, Lib.hid HR.out.2.2.1, HST, Lib.hid HR.out.2.2.2⟩
        case measure => simp [intOf]; omega
      ·refine AllReadyH.cons (o := _) rfl (fun K hKK => ?_) AllReadyH.nil
       go_simp
       have hc9 : (wd.alloc (.cells #[.int .i64 (d : Int)] 3)).cell? ⟨wd.heap.size, 0, none⟩ = some (.int .i64 (d : Int)) := by simp
       have hN := hHeld.alloc hHeld.size (.cells #[.int .i64 (d : Int)] 3)
       clear hHeld
       refine hKK.out _ _ ?_ (fun hHeld => ?_)
       ·exact hN
       clear hKK K
       try simp only [Act.put, zA1, zA2, zA3, zA4, zA5, zA6]
       clear hN
       refine wpAnyH_ready (rs := [0]) (by kernel_rfl) (by simp) ?_
       refine AllReadyH.cons (o := _) rfl (fun K hKK => ?_) AllReadyH.nil
       go_simp
       have hrow : ((wd.alloc (.cells #[.int .i64 (d : Int)] 3)).alloc (.cells #[] 3)).ownsRow w5.heap.size 3 1 (.slice (some ⟨wd.heap.size + 1, 0, none⟩) 0 0) 0 [] := by rw [show wd.heap.size + 1 = (wd.alloc (.cells #[.int .i64 (d : Int)] 3)).heap.size by simp]; exact World.ownsRow_lit _ #[] 0 hHeld.size (by decide) rfl
       have hc9 : ((wd.alloc (.cells #[.int .i64 (d : Int)] 3)).alloc (.cells #[] 3)).cell? ⟨wd.heap.size, 0, none⟩ = some (.int .i64 (d : Int)) := Lib.cell?_alloc_some _ hc9
       have hN := hHeld.alloc hHeld.size (.cells #[] 3)
       clear hHeld
       refine hKK.out _ _ ?_ (fun hHeld => ?_)
       ·exact hN
       clear hKK K
       try simp only [Act.put, zA1, zA2, zA3, zA4, zA5, zA6]
       clear hN
       refine wpAnyH_ready (rs := [4]) (by kernel_rfl) (by simp) ?_
       refine AllReadyH.cons (o := _) rfl (fun K hKK => ?_) AllReadyH.nil
       refine step_append_src rfl (.tmp 46) (.tmp 49) 30 rfl w5.heap.size 3 i0 (.int .i64 0) 1 8 Tryz.underlying30 hi hz0 hz1 hz2 rfl (by decide) (.slice (some ⟨wd.heap.size + 1, 0, none⟩) 0 0) _ _ rfl hrow _ _ _ (([] : List Int).map fun z => Value.int .i64 z) rfl (rfl) (fun _ => ⟨rfl, rfl⟩) (fun ad q => by cases q) (ints_one _) (by unfold maxLen; omega) (by omega) hHeld.size ?_
       intro v4 w9 hown9 hgrow hat
       have hc9 := hgrow.cell hc9 (by intro q; simp [Value.ownBlock] at q <;> omega)
       have hN := hHeld.grown hgrow hHeld.size (fun r hr => (World.ownsRow.lt hrow r hr).1)
       clear hHeld hrow hat hgrow
       have hrow := hown9
       clear hown9
       refine hKK.out _ _ ?_ (fun hHeld => ?_)
       ·exact hN
       clear hKK K
       try simp only [Act.put, zA1, zA2, zA3, zA4, zA5, zA6]
       clear hN
       refine wpAnyH_ready (rs := [10]) (by kernel_rfl) (by simp) ?_
       refine AllReadyH.cons (o := _) rfl (fun K hKK => ?_) AllReadyH.nil
       refine step_append_src rfl (.tmp 50) (.tmp 55) 30 rfl w5.heap.size 3 i0 (.int .i64 0) 1 8 Tryz.underlying30 hi hz0 hz1 hz2 rfl (by decide) v4 _ _ rfl hrow _ _ _ ([.int .i64 (d : Int)]) rfl (rfl) (fun q => by cases q) (fun ad had i u hu => by cases had; match i, hu with | 0, hu => (simp at hu; subst hu; rw [add_at]; first | exact hc9 | (simp; done) | simpa using hc9)) (by intro u hu; rw [List.mem_singleton] at hu; subst hu; rfl) (by unfold maxLen; omega) (by omega) hHeld.size ?_
       intro v10 w9 hown9 hgrow hat
       clear hc9
       have hN := hHeld.grown hgrow hHeld.size (fun r hr => (World.ownsRow.lt hrow r hr).1)
       clear hHeld hrow hat hgrow
       have hrow := hown9
       clear hown9
       refine hKK.out _ _ ?_ (fun hHeld => ?_)
       ·exact hN
       clear hKK K
       try simp only [Act.put, zA1, zA2, zA3, zA4, zA5, zA6]
       clear hN
       refine wpAnyH_ready (rs := [14]) (by kernel_rfl) (by simp) ?_
       refine AllReadyH.cons (o := _) rfl (fun K hKK => ?_) AllReadyH.nil
       refine step_append_src rfl (.tmp 56) (.tmp 59) 30 rfl w5.heap.size 3 i0 (.int .i64 0) 1 8 Tryz.underlying30 hi hz0 hz1 hz2 rfl (by decide) v10 _ _ rfl hrow _ _ _ (([] : List Int).map fun z => Value.int .i64 z) rfl (by rw [HKK.out]; rfl) (fun _ => ⟨HKK.out, rfl⟩) (fun ad q => by cases q) (ints_one _) (by unfold maxLen; omega) (by omega) hHeld.size ?_
       intro v14 w9 hown9 hgrow hat
       have hN := hHeld.grown hgrow hHeld.size (fun r hr => (World.ownsRow.lt hrow r hr).1)
       clear hHeld hrow hat hgrow
       have hrow := hown9
       clear hown9
       refine hKK.out _ _ ?_ (fun hHeld => ?_)
       ·exact hN
       clear hKK K
       try simp only [Act.put, zA1, zA2, zA3, zA4, zA5, zA6]
       clear hN
       refine wpAnyH_ready (rs := [15]) (by kernel_rfl) (by simp) ?_
       refine AllReadyH.cons (o := _) rfl (fun K hKK => ?_) AllReadyH.nil
       go_simp
       refine hKK.out _ _ ?_ (fun hHeld => ?_)
       ·exact hHeld
       clear hKK K
       try simp only [Act.put, zA1, zA2, zA3, zA4, zA5, zA6]
       refine wpAnyH_done (by kernel_rfl) ?_ _
       have hB9 := bstep (bstep HB.out hw5) hHeld
       obtain ⟨q1, q2⟩ := insZ_own (cm := cm) (Q := []) (k := k) (J := 0) (d := d) hrow hsz5 HQ.out (Nat.zero_le _) HATJ.out
       have hq3 := insZ_mem (cm := cm) (Q := []) HQm.out hd
       obtain ⟨a9, c9, rfl⟩ := q1.shape
       generalize hins : insZ cm [] (d : Int) = R9 at *
       rw [q2] at q1
       have HR := Lib.hid (And.intro q1 (And.intro q2 (And.intro hq3 hB9)))
       rw [q2]
       clear hrow q1 q2 hq3 hB9 hHeld hw5 hsz5
       go_wp2
       go_roundw
       case rel => exact ⟨k + 1, c9, a9, R9, by go_num, by omega, rfl, by omega, Lib.hid HR.out.1, Lib.hid HR.out.2.1, Lib.hid HR.out.2.2.1, HST, Lib.hid HR.out.2.2.2⟩
       case measure => simp [intOf]; omega
     ·clear hk00
      have hk0 : 0 < k := by omega
      obtain ⟨go, rfl, hgo1, hgo2, hc1, hc2, _⟩ := OwnZ.at_ HO.out HQ.out (j := 0) hk0
      clear HJ
      go_wp2_with fail
      have hw5 := bstep HBX.out hX
      have hsz5 : w1.heap.size ≤ w5.heap.size := Nat.le_trans HB.out.size hw5.size
      have HCD : Hid (∀ w', Below w5.heap.size w5 w' → w'.cell? ⟨gd, k, none⟩ = some (.int .i64 (d : Int))) := Lib.hid fun w' hq => (HRD.out _ (bstep (bstep HB.out hw5) hq)).2 k d HDO.out
      have HN : Hid (∀ w', Below w5.heap.size w5 w' → ∀ i, i < k → w'.cell? ⟨go, i, none⟩ = some (.int .i64 (ga Q i))) := Lib.hid fun w' hq i hi9 => by
       obtain ⟨g', e9, _, hl9, _, _, hc9⟩ := OwnZ.at_ HO.out HQ.out hi9
       cases e9
       exact (hq.cell (p := ⟨go, i, none⟩) (Nat.lt_of_lt_of_le hl9 hw5.size)).trans ((hw5.cell (p := ⟨go, i, none⟩) hl9).trans hc9)
      have hk0i : (0 : Int) ≤ (k : Int) := by omega
      have hkt : ((k : Int)).toNat = k := by omega
      refine wp_region_held_drew (S := fun w' => Below w5.heap.size w5 w') (by kernel_rfl) ?_ (fun hHeld => ?_)
      ·exact (Below.refl _ _).drew
      generalize World.drew w5 = wd at hHeld ⊢
      refine wpAnyH_take (i := 1) (oi := _) (v := ?_) rfl (by kernel_rfl) (by kernel_rfl) (by kernel_rfl) (fun _ _ _ h => h) (Or.inl ⟨by kernel_rfl, ?_⟩) (by assumption) ?_
      rotate_left
      ·rintro w hw
       have s0 := HCD.out w hw
       go_simp
       try with_reducible rfl
      try simp only [Act.put, zA1, zA2, zA3, zA4, zA5, zA6]
      refine wpAnyH_take (i := 2) (oi := _) (v := ?_) rfl (by kernel_rfl) (by kernel_rfl) (by kernel_rfl) (fun _ _ _ h => h) (Or.inl ⟨by kernel_rfl, ?_⟩) (by assumption) ?_
      rotate_left
      ·rintro w hw
       have s0 := HCD.out w hw
       go_simp
       try with_reducible rfl
      try simp only [Act.put, zA1, zA2, zA3, zA4, zA5, zA6]
      refine wpAnyH_take (i := 3) (oi := _) (v := ?_) rfl (by kernel_rfl) (by kernel_rfl) (by kernel_rfl) (fun _ _ _ h => h) (Or.inl ⟨by kernel_rfl, ?_⟩) (by assumption) ?_
      rotate_left
      ·rintro w hw
       have s0 := HCD.out w hw
       go_simp
       try with_reducible rfl
      try simp only [Act.put, zA1, zA2, zA3, zA4, zA5, zA6]
      refine wpAnyH_take (i := 5) (oi := _) (v := ?_) rfl (by kernel_rfl) (by kernel_rfl) (by kernel_rfl) (fun _ _ _ h => h) (Or.inl ⟨by kernel_rfl, ?_⟩) (by assumption) ?_
      rotate_left
      ·rintro w hw
       have s0 := HCD.out w hw
       go_simp
       try with_reducible rfl
      try simp only [Act.put, zA1, zA2, zA3, zA4, zA5, zA6]
      refine wpAnyH_take (i := 6) (oi := _) (v := ?_) rfl (by kernel_rfl) (by kernel_rfl) (by kernel_rfl) (fun _ _ _ h => h) (Or.inl ⟨by kernel_rfl, ?_⟩) (by assumption) ?_
      rotate_left
      ·rintro w hw
       have s0 := HCD.out w hw
       go_simp
       try with_reducible rfl
      try simp only [Act.put, zA1, zA2, zA3, zA4, zA5, zA6]
      refine wpAnyH_take (i := 7) (oi := _) (v := ?_) rfl (by kernel_rfl) (by kernel_rfl) (by kernel_rfl) (fun _ _ _ h => h) (Or.inl ⟨by kernel_rfl, ?_⟩) (by assumption) ?_
      rotate_left
      ·rintro w hw
       have s0 := HCD.out w hw
       go_simp
       try with_reducible rfl
      try simp only [Act.put, zA1, zA2, zA3, zA4, zA5, zA6]
      refine wpAnyH_take (i := 8) (oi := _) (v := ?_) rfl (by kernel_rfl) (by kernel_rfl) (by kernel_rfl) (fun _ _ _ h => h) (Or.inl ⟨by kernel_rfl, ?_⟩) (by assumption) ?_
      rotate_left
      ·rintro w hw
       have s0 := HCD.out w hw
       go_simp
       try with_reducible rfl
      try simp only [Act.put, zA1, zA2, zA3, zA4, zA5, zA6]
      refine wpAnyH_take (i := 11) (oi := _) (v := ?_) rfl (by kernel_rfl) (by kernel_rfl) (by kernel_rfl) (fun _ _ _ h => h) (Or.inl ⟨by kernel_rfl, ?_⟩) (by assumption) ?_
      rotate_left
      ·rintro w hw
       have s0 := HCD.out w hw
       go_simp
       try with_reducible rfl
      try simp only [Act.put, zA1, zA2, zA3, zA4, zA5, zA6]
      refine wpAnyH_take (i := 12) (oi := _) (v := ?_) rfl (by kernel_rfl) (by kernel_rfl) (by kernel_rfl) (fun _ _ _ h => h) (Or.inl ⟨by kernel_rfl, ?_⟩) (by assumption) ?_
      rotate_left
      ·rintro w hw
       have s0 := HCD.out w hw
       go_simp
       try with_reducible rfl
      try simp only [Act.put, zA1, zA2, zA3, zA4, zA5, zA6]
      refine wpAnyH_take (i := 13) (oi := _) (v := ?_) rfl (by kernel_rfl) (by kernel_rfl) (by kernel_rfl) (fun _ _ _ h => h) (Or.inl ⟨by kernel_rfl, ?_⟩) (by assumption) ?_
      rotate_left
      ·rintro w hw
       have s0 := HCD.out w hw
       go_simp
       try with_reducible rfl
      try simp only [Act.put, zA1, zA2, zA3, zA4, zA5, zA6]
      skip
      refine wpAnyH_ready (rs := [0, 9]) (by kernel_rfl) (by simp) ?_
      refine AllReadyH.cons (o := _) rfl (fun K hKK => ?_) ?_
      ·skip
       go_simp
       have hrow := World.ownsRow_lit wd #[] 0 (base := w5.heap.size) (e := 3) (size := 1) hHeld.size (by decide) rfl
       have hN := hHeld.alloc hHeld.size (.cells #[] 3)
       clear hHeld
       refine hKK.out _ _ ?_ (fun hHeld => ?_)
       ·exact hN
       clear hKK K
       try simp only [Act.put, zA1, zA2, zA3, zA4, zA5, zA6]
       clear hN
       refine wpAnyH_ready (rs := [4, 9]) (by kernel_rfl) (by simp) ?_
       refine AllReadyH.cons (o := _) rfl (fun K hKK => ?_) ?_
       ·skip
        refine step_append_src rfl (.tmp 46) (.tmp 49) 30 rfl w5.heap.size 3 i0 (.int .i64 0) 1 8 Tryz.underlying30 hi hz0 hz1 hz2 rfl (by decide) (.slice (some ⟨wd.heap.size, 0, none⟩) 0 0) _ _ rfl hrow _ _ _ (([] : List Int).map fun z => Value.int .i64 z) rfl (rfl) (fun q => by cases q) (fun ad _ i u hu => by simp at hu) (ints_one _) (by unfold maxLen; omega) (by omega) hHeld.size ?_
        intro v4 w9 hown9 hgrow hat
        have hN := hHeld.grown hgrow hHeld.size (fun r hr => (World.ownsRow.lt hrow r hr).1)
        clear hHeld hrow hat hgrow
        have hrow := hown9
        clear hown9
        refine hKK.out _ _ ?_ (fun hHeld => ?_)
        ·exact hN
        clear hKK K
        try simp only [Act.put, zA1, zA2, zA3, zA4, zA5, zA6]
        clear hN
        refine wpAnyH_ready (rs := [9]) (by kernel_rfl) (by simp) ?_
        refine AllReadyH.cons (o := _) rfl (fun K hKK => ?_) AllReadyH.nil
        go_simp
        have hc9 : (w9.alloc (.cells #[.int .i64 (d : Int)] 3)).cell? ⟨w9.heap.size, 0, none⟩ = some (.int .i64 (d : Int)) := by simp
        have hrow := World.ownsRow.alloc hrow (.cells #[.int .i64 (d : Int)] 3)
        have hN := hHeld.alloc hHeld.size (.cells #[.int .i64 (d : Int)] 3)
        clear hHeld
        refine hKK.out _ _ ?_ (fun hHeld => ?_)
        ·exact hN
        clear hKK K
        try simp only [Act.put, zA1, zA2, zA3, zA4, zA5, zA6]
        clear hN
        refine wpAnyH_ready (rs := [10]) (by kernel_rfl) (by simp) ?_
        refine AllReadyH.cons (o := _) rfl (fun K hKK => ?_) AllReadyH.nil
        refine step_append_src rfl (.tmp 50) (.tmp 55) 30 rfl w5.heap.size 3 i0 (.int .i64 0) 1 8 Tryz.underlying30 hi hz0 hz1 hz2 rfl (by decide) v4 _ _ rfl hrow _ _ _ ([.int .i64 (d : Int)]) rfl (rfl) (fun q => by cases q) (fun ad had i u hu => by cases had; match i, hu with | 0, hu => (simp at hu; subst hu; rw [add_at]; first | exact hc9 | (simp; done) | simpa using hc9)) (by intro u hu; rw [List.mem_singleton] at hu; subst hu; rfl) (by unfold maxLen; omega) (by omega) hHeld.size ?_
        intro v10 w9 hown9 hgrow hat
        clear hc9
        have hN := hHeld.grown hgrow hHeld.size (fun r hr => (World.ownsRow.lt hrow r hr).1)
        clear hHeld hrow hat hgrow
        have hrow := hown9
        clear hown9
        refine hKK.out _ _ ?_ (fun hHeld => ?_)
        ·exact hN
        clear hKK K
        try simp only [Act.put, zA1, zA2, zA3, zA4, zA5, zA6]
        clear hN
        refine wpAnyH_ready (rs := [14]) (by kernel_rfl) (by simp) ?_
        refine AllReadyH.cons (o := _) rfl (fun K hKK => ?_) AllReadyH.nil
        refine step_append_src rfl (.tmp 56) (.tmp 59) 30 rfl w5.heap.size 3 i0 (.int .i64 0) 1 8 Tryz.underlying30 hi hz0 hz1 hz2 rfl (by decide) v10 _ _ rfl hrow _ _ _ (Q.map fun z => Value.int .i64 z) rfl (by rw [List.length_map, HQ.out]; omega) (fun q => by cases q) (fun ad had i u hu => by cases had; obtain ⟨q1, rfl⟩ := map_drop_at (J := 0) hu; rw [add_at]; rw [HQ.out] at q1; exact HN.out _ hHeld _ q1) (ints_one _) (by unfold maxLen; omega) (by omega) hHeld.size ?_
        intro v14 w9 hown9 hgrow hat
        have hN := hHeld.grown hgrow hHeld.size (fun r hr => (World.ownsRow.lt hrow r hr).1)
        clear hHeld hrow hat hgrow
        have hrow := hown9
        clear hown9
        refine hKK.out _ _ ?_ (fun hHeld => ?_)
        ·exact hN
        clear hKK K
        try simp only [Act.put, zA1, zA2, zA3, zA4, zA5, zA6]
        clear hN
        refine wpAnyH_ready (rs := [15]) (by kernel_rfl) (by simp) ?_
        refine AllReadyH.cons (o := _) rfl (fun K hKK => ?_) AllReadyH.nil
        go_simp
        refine hKK.out _ _ ?_ (fun hHeld => ?_)
        ·exact hHeld
        clear hKK K
        try simp only [Act.put, zA1, zA2, zA3, zA4, zA5, zA6]
        refine wpAnyH_done (by kernel_rfl) ?_ _
        have hB9 := bstep (bstep HB.out hw5) hHeld
        obtain ⟨q1, q2⟩ := insZ_own (cm := cm) (Q := Q) (k := k) (J := 0) (d := d) hrow hsz5 HQ.out (Nat.zero_le _) HATJ.out
        have hq3 := insZ_mem (cm := cm) (Q := Q) HQm.out hd
        obtain ⟨a9, c9, rfl⟩ := q1.shape
        generalize hins : insZ cm Q (d : Int) = R9 at *
        rw [q2] at q1
        have HR := Lib.hid (And.intro q1 (And.intro q2 (And.intro hq3 hB9)))
        rw [q2]
        clear hrow q1 q2 hq3 hB9 hHeld hw5 hsz5
        go_wp2
        go_roundw
        case rel => exact ⟨k + 1, c9, a9, R9, by go_num, by omega, rfl, by omega, Lib.hid HR.out.1, Lib.hid HR.out.2.1, Lib.hid HR.out.2.2.1, HST, Lib.hid HR.out.2.2.2⟩
        case measure => simp [intOf]; omega
       ·refine AllReadyH.cons (o := _) rfl (fun K hKK => ?_) AllReadyH.nil
        go_simp
        have hc9 : ((wd.alloc (.cells #[] 3)).alloc (.cells #[.int .i64 (d : Int)] 3)).cell? ⟨(wd.alloc (.cells #[] 3)).heap.size, 0, none⟩ = some (.int .i64 (d : Int)) := by simp
        have hrow := World.ownsRow.alloc hrow (.cells #[.int .i64 (d : Int)] 3)
        have hN := hHeld.alloc hHeld.size (.cells #[.int .i64 (d : Int)] 3)
        clear hHeld
        refine hKK.out _ _ ?_ (fun hHeld => ?_)
        ·exact hN
        clear hKK K
        try simp only [Act.put, zA1, zA2, zA3, zA4, zA5, zA6]
        clear hN
        refine wpAnyH_ready (rs := [4]) (by kernel_rfl) (by simp) ?_
        refine AllReadyH.cons (o := _) rfl (fun K hKK => ?_) AllReadyH.nil
        refine step_append_src rfl (.tmp 46) (.tmp 49) 30 rfl w5.heap.size 3 i0 (.int .i64 0) 1 8 Tryz.underlying30 hi hz0 hz1 hz2 rfl (by decide) (.slice (some ⟨wd.heap.size, 0, none⟩) 0 0) _ _ rfl hrow _ _ _ (([] : List Int).map fun z => Value.int .i64 z) rfl (rfl) (fun q => by cases q) (fun ad _ i u hu => by simp at hu) (ints_one _) (by unfold maxLen; omega) (by omega) hHeld.size ?_
        intro v4 w9 hown9 hgrow hat
        have hc9 := hgrow.cell hc9 (by intro q; simp [Value.ownBlock] at q <;> omega)
        have hN := hHeld.grown hgrow hHeld.size (fun r hr => (World.ownsRow.lt hrow r hr).1)
        clear hHeld hrow hat hgrow
        have hrow := hown9
        clear hown9
        refine hKK.out _ _ ?_ (fun hHeld => ?_)
        ·exact hN
        clear hKK K
        try simp only [Act.put, zA1, zA2, zA3, zA4, zA5, zA6]
        clear hN
        refine wpAnyH_ready (rs := [10]) (by kernel_rfl) (by simp) ?_
        refine AllReadyH.cons (o := _) rfl (fun K hKK => ?_) AllReadyH.nil
        refine step_append_src rfl (.tmp 50) (.tmp 55) 30 rfl w5.heap.size 3 i0 (.int .i64 0) 1 8 Tryz.underlying30 hi hz0 hz1 hz2 rfl (by decide) v4 _ _ rfl hrow _ _ _ ([.int .i64 (d : Int)]) rfl (rfl) (fun q => by cases q) (fun ad had i u hu => by cases had; match i, hu with | 0, hu => (simp at hu; subst hu; rw [add_at]; first | exact hc9 | (simp; done) | simpa using hc9)) (by intro u hu; rw [List.mem_singleton] at hu; subst hu; rfl) (by unfold maxLen; omega) (by omega) hHeld.size ?_
        intro v10 w9 hown9 hgrow hat
        clear hc9
        have hN := hHeld.grown hgrow hHeld.size (fun r hr => (World.ownsRow.lt hrow r hr).1)
        clear hHeld hrow hat hgrow
        have hrow := hown9
        clear hown9
        refine hKK.out _ _ ?_ (fun hHeld => ?_)
        ·exact hN
        clear hKK K
        try simp only [Act.put, zA1, zA2, zA3, zA4, zA5, zA6]
        clear hN
        refine wpAnyH_ready (rs := [14]) (by kernel_rfl) (by simp) ?_
        refine AllReadyH.cons (o := _) rfl (fun K hKK => ?_) AllReadyH.nil
        refine step_append_src rfl (.tmp 56) (.tmp 59) 30 rfl w5.heap.size 3 i0 (.int .i64 0) 1 8 Tryz.underlying30 hi hz0 hz1 hz2 rfl (by decide) v10 _ _ rfl hrow _ _ _ (Q.map fun z => Value.int .i64 z) rfl (by rw [List.length_map, HQ.out]; omega) (fun q => by cases q) (fun ad had i u hu => by cases had; obtain ⟨q1, rfl⟩ := map_drop_at (J := 0) hu; rw [add_at]; rw [HQ.out] at q1; exact HN.out _ hHeld _ q1) (ints_one _) (by unfold maxLen; omega) (by omega) hHeld.size ?_
        intro v14 w9 hown9 hgrow hat
        have hN := hHeld.grown hgrow hHeld.size (fun r hr => (World.ownsRow.lt hrow r hr).1)
        clear hHeld hrow hat hgrow
        have hrow := hown9
        clear hown9
        refine hKK.out _ _ ?_ (fun hHeld => ?_)
        ·exact hN
        clear hKK K
        try simp only [Act.put, zA1, zA2, zA3, zA4, zA5, zA6]
        clear hN
        refine wpAnyH_ready (rs := [15]) (by kernel_rfl) (by simp) ?_
        refine AllReadyH.cons (o := _) rfl (fun K hKK => ?_) AllReadyH.nil
        go_simp
        refine hKK.out _ _ ?_ (fun hHeld => ?_)
        ·exact hHeld
        clear hKK K
        try simp only [Act.put, zA1, zA2, zA3, zA4, zA5, zA6]
        refine wpAnyH_done (by kernel_rfl) ?_ _
        have hB9 := bstep (bstep HB.out hw5) hHeld
        obtain ⟨q1, q2⟩ := insZ_own (cm := cm) (Q := Q) (k := k) (J := 0) (d := d) hrow hsz5 HQ.out (Nat.zero_le _) HATJ.out
        have hq3 := insZ_mem (cm := cm) (Q := Q) HQm.out hd
        obtain ⟨a9, c9, rfl⟩ := q1.shape
        generalize hins : insZ cm Q (d : Int) = R9 at *
        rw [q2] at q1
        have HR := Lib.hid (And.intro q1 (And.intro q2 (And.intro hq3 hB9)))
        rw [q2]
        clear hrow q1 q2 hq3 hB9 hHeld hw5 hsz5
        go_wp2
        go_roundw
        case rel => exact ⟨k + 1, c9, a9, R9, by go_num, by omega, rfl, by omega, Lib.hid HR.out.1, Lib.hid HR.out.2.1, Lib.hid HR.out.2.2.1, HST, Lib.hid HR.out.2.2.2⟩
        case measure => simp [intOf]; omega
      ·refine AllReadyH.cons (o := _) rfl (fun K hKK => ?_) AllReadyH.nil
       go_simp
       have hc9 : (wd.alloc (.cells #[.int .i64 (d : Int)] 3)).cell? ⟨wd.heap.size, 0, none⟩ = some (.int .i64 (d : Int)) := by simp
       have hN := hHeld.alloc hHeld.size (.cells #[.int .i64 (d : Int)] 3)
       clear hHeld
       refine hKK.out _ _ ?_ (fun hHeld => ?_)
       ·exact hN
       clear hKK K
       try simp only [Act.put, zA1, zA2, zA3, zA4, zA5, zA6]
       clear hN
       refine wpAnyH_ready (rs := [0]) (by kernel_rfl) (by simp) ?_
       refine AllReadyH.cons (o := _) rfl (fun K hKK => ?_) AllReadyH.nil
       go_simp
       have hrow : ((wd.alloc (.cells #[.int .i64 (d : Int)] 3)).alloc (.cells #[] 3)).ownsRow w5.heap.size 3 1 (.slice (some ⟨wd.heap.size + 1, 0, none⟩) 0 0) 0 [] := by rw [show wd.heap.size + 1 = (wd.alloc (.cells #[.int .i64 (d : Int)] 3)).heap.size by simp]; exact World.ownsRow_lit _ #[] 0 hHeld.size (by decide) rfl
       have hc9 : ((wd.alloc (.cells #[.int .i64 (d : Int)] 3)).alloc (.cells #[] 3)).cell? ⟨wd.heap.size, 0, none⟩ = some (.int .i64 (d : Int)) := Lib.cell?_alloc_some _ hc9
       have hN := hHeld.alloc hHeld.size (.cells #[] 3)
       clear hHeld
       refine hKK.out _ _ ?_ (fun hHeld => ?_)
       ·exact hN
       clear hKK K
       try simp only [Act.put, zA1, zA2, zA3, zA4, zA5, zA6]
       clear hN
       refine wpAnyH_ready (rs := [4]) (by kernel_rfl) (by simp) ?_
       refine AllReadyH.cons (o := _) rfl (fun K hKK => ?_) AllReadyH.nil
       refine step_append_src rfl (.tmp 46) (.tmp 49) 30 rfl w5.heap.size 3 i0 (.int .i64 0) 1 8 Tryz.underlying30 hi hz0 hz1 hz2 rfl (by decide) (.slice (some ⟨wd.heap.size + 1, 0, none⟩) 0 0) _ _ rfl hrow _ _ _ (([] : List Int).map fun z => Value.int .i64 z) rfl (rfl) (fun q => by cases q) (fun ad _ i u hu => by simp at hu) (ints_one _) (by unfold maxLen; omega) (by omega) hHeld.size ?_
       intro v4 w9 hown9 hgrow hat
       have hc9 := hgrow.cell hc9 (by intro q; simp [Value.ownBlock] at q <;> omega)
       have hN := hHeld.grown hgrow hHeld.size (fun r hr => (World.ownsRow.lt hrow r hr).1)
       clear hHeld hrow hat hgrow
       have hrow := hown9
       clear hown9
       refine hKK.out _ _ ?_ (fun hHeld => ?_)
       ·exact hN
       clear hKK K
       try simp only [Act.put, zA1, zA2, zA3, zA4, zA5, zA6]
       clear hN
       refine wpAnyH_ready (rs := [10]) (by kernel_rfl) (by simp) ?_
       refine AllReadyH.cons (o := _) rfl (fun K hKK => ?_) AllReadyH.nil
       refine step_append_src rfl (.tmp 50) (.tmp 55) 30 rfl w5.heap.size 3 i0 (.int .i64 0) 1 8 Tryz.underlying30 hi hz0 hz1 hz2 rfl (by decide) v4 _ _ rfl hrow _ _ _ ([.int .i64 (d : Int)]) rfl (rfl) (fun q => by cases q) (fun ad had i u hu => by cases had; match i, hu with | 0, hu => (simp at hu; subst hu; rw [add_at]; first | exact hc9 | (simp; done) | simpa using hc9)) (by intro u hu; rw [List.mem_singleton] at hu; subst hu; rfl) (by unfold maxLen; omega) (by omega) hHeld.size ?_
       intro v10 w9 hown9 hgrow hat
       clear hc9
       have hN := hHeld.grown hgrow hHeld.size (fun r hr => (World.ownsRow.lt hrow r hr).1)
       clear hHeld hrow hat hgrow
       have hrow := hown9
       clear hown9
       refine hKK.out _ _ ?_ (fun hHeld => ?_)
       ·exact hN
       clear hKK K
       try simp only [Act.put, zA1, zA2, zA3, zA4, zA5, zA6]
       clear hN
       refine wpAnyH_ready (rs := [14]) (by kernel_rfl) (by simp) ?_
       refine AllReadyH.cons (o := _) rfl (fun K hKK => ?_) AllReadyH.nil
       refine step_append_src rfl (.tmp 56) (.tmp 59) 30 rfl w5.heap.size 3 i0 (.int .i64 0) 1 8 Tryz.underlying30 hi hz0 hz1 hz2 rfl (by decide) v10 _ _ rfl hrow _ _ _ (Q.map fun z => Value.int .i64 z) rfl (by rw [List.length_map, HQ.out]; omega) (fun q => by cases q) (fun ad had i u hu => by cases had; obtain ⟨q1, rfl⟩ := map_drop_at (J := 0) hu; rw [add_at]; rw [HQ.out] at q1; exact HN.out _ hHeld _ q1) (ints_one _) (by unfold maxLen; omega) (by omega) hHeld.size ?_
       intro v14 w9 hown9 hgrow hat
       have hN := hHeld.grown hgrow hHeld.size (fun r hr => (World.ownsRow.lt hrow r hr).1)
       clear hHeld hrow hat hgrow
       have hrow := hown9
       clear hown9
       refine hKK.out _ _ ?_ (fun hHeld => ?_)
       ·exact hN
       clear hKK K
       try simp only [Act.put, zA1, zA2, zA3, zA4, zA5, zA6]
       clear hN
       refine wpAnyH_ready (rs := [15]) (by kernel_rfl) (by simp) ?_
       refine AllReadyH.cons (o := _) rfl (fun K hKK => ?_) AllReadyH.nil
       go_simp
       refine hKK.out _ _ ?_ (fun hHeld => ?_)
       ·exact hHeld
       clear hKK K
       try simp only [Act.put, zA1, zA2, zA3, zA4, zA5, zA6]
       refine wpAnyH_done (by kernel_rfl) ?_ _
       have hB9 := bstep (bstep HB.out hw5) hHeld
       obtain ⟨q1, q2⟩ := insZ_own (cm := cm) (Q := Q) (k := k) (J := 0) (d := d) hrow hsz5 HQ.out (Nat.zero_le _) HATJ.out
       have hq3 := insZ_mem (cm := cm) (Q := Q) HQm.out hd
       obtain ⟨a9, c9, rfl⟩ := q1.shape
       generalize hins : insZ cm Q (d : Int) = R9 at *
       rw [q2] at q1
       have HR := Lib.hid (And.intro q1 (And.intro q2 (And.intro hq3 hB9)))
       rw [q2]
       clear hrow q1 q2 hq3 hB9 hHeld hw5 hsz5
       go_wp2
       go_roundw
       case rel => exact ⟨k + 1, c9, a9, R9, by go_num, by omega, rfl, by omega, Lib.hid HR.out.1, Lib.hid HR.out.2.1, Lib.hid HR.out.2.2.1, HST, Lib.hid HR.out.2.2.2⟩
       case measure => simp [intOf]; omega
  ·have hkn : k = n := by omega
   subst hkn
   have hfin : Q = X := by
    have := HK.out
    rw [List.drop_of_length_le (by rw [drawnZ_len]; exact Nat.le_refl _), ordG] at this
    exact this
   subst hfin
   have hbb := bstep HB1.out HB.out
   have hoo := own_low (show wr.ownsRow _ _ _ _ _ _ from HO.out) hs1
   have HF := Lib.hid (And.intro hoo hbb)
   clear hoo hbb HB HO HK HX
   go_wp2
   go_ret
   exact ⟨_, rfl, HF.out.1, HF.out.2⟩
end Go.Mk
