/-
  Proved: the reference's Changed, as a plain function. Conditions: the runners lie where the slices say; at most 20 heats, each at most 170 long, at most 1,000 runners.
-/
import Derived.Test.YtkjolejppnogiaaGreatDoorKa
import Derived.Test.YtkjolejppnogiaaGreatDoorJj
set_option linter.unusedVariables false
set_option linter.unusedSimpArgs false
open Go Go.Proofs Go.RowKit Go.Sort
set_option maxRecDepth 100000
namespace Go.Mk
theorem OwnNames.src {w : World} {B : Nat} {v : Value} {L : List ByteArray} (h : OwnNames w B v L) : ∃ ao c, v = .slice ao L.length c ∧ (ao = none → L.length = 0 ∧ c = 0) ∧
    (∀ ad, ao = some ad → ∀ (j : Nat) (u : Value), (L.map Value.string)[j]? = some u → w.cell? (ad.add j) = some u) := by
  rcases h.2 with ⟨rfl, h0⟩ | ⟨g, cap, cur, rfl, hrest⟩
  · exact ⟨none, 0, by rw [h0], fun _ => ⟨h0, rfl⟩, (fun ad e => by cases e)⟩
  · exact ⟨_, cap, rfl, (fun e => by cases e), (fun ad e => by cases e; exact World.ownsRow.cells h (g := g) rfl)⟩
theorem OwnNames.app {w1 : World} {B : Nat} {v' : Value} {L M : List ByteArray} (h : w1.ownsRow B 9 1 v' (L.length + M.length) (L.map Value.string ++ M.map Value.string)) : OwnNames w1 B v' (L ++ M) := by
  unfold OwnNames
  rw [List.length_append, List.map_append]
  exact h
theorem str_one (L : List ByteArray) : ∀ u ∈ L.map Value.string, u.oneCell' = true := by
  intro u hu
  obtain ⟨x, _, rfl⟩ := List.mem_map.1 hu
  rfl
/-- The names of runners that change. -/
def chgL (ch : ByteArray → Bool) (L : List Run) : List ByteArray := (L.map Run.name).filter ch
theorem chgL_snoc (ch : ByteArray → Bool) (L : List Run) (x : Run) : chgL ch (L ++ [x]) = chgL ch L ++ (if ch x.name then [x.name] else []) := by
  unfold chgL
  rw [List.map_append, List.filter_append]
  cases h : ch x.name <;> simp [h]
theorem chgL_len (ch : ByteArray → Bool) (L : List Run) : (chgL ch L).length ≤ L.length := by
  unfold chgL
  exact Nat.le_trans (List.length_filter_le _ _) (by simp)
theorem flatten_take {LL : List (List Run)} {k : Nat} {l : List Run} (h : LL[k]? = some l) : (LL.take (k + 1)).flatten = (LL.take k).flatten ++ l := by
  rw [List.take_add_one, h]; simp
theorem flatten_take_le (LL : List (List Run)) (k : Nat) : (LL.take k).flatten.length ≤ LL.flatten.length := by
  have : LL.flatten = (LL.take k).flatten ++ (LL.drop k).flatten := by rw [← List.flatten_append, List.take_append_drop]
  rw [this, List.length_append]
  omega
theorem flatten_step_le {LL : List (List Run)} {k : Nat} {l : List Run} (h : LL[k]? = some l) : (LL.take k).flatten.length + l.length ≤ LL.flatten.length := by
  have := flatten_take_le LL (k + 1)
  rwa [flatten_take h, List.length_append] at this
/-- What Changed leaves. -/
def RChPost (LL LL' : List (List Run)) (p t : Int) (w : World) (e : Ending) (w' : World) : Prop :=
  ∃ v, e = .returned v ∧ OwnNames w' w.heap.size v (chgN LL LL' p t) ∧ Below w.heap.size w w'
theorem advN_len (LL : List (List Run)) (p t : Int) : (advN LL p t).length ≤ 2 * LL.flatten.length := by
  have h1 := byPl_len LL p
  have h2 := byTm_len LL p t
  unfold advN
  rw [List.length_append, List.length_map, List.length_map]
  omega
set_option maxHeartbeats 8000000 in
theorem r4Changed_any (LL LL' : List (List Run)) (n cap n2 cap2 : Nat) (A A2 : Option Addr) (B B2 : Nat) (p t : Int) (w : World) (hZ : RHeats w B A n LL) (hn : n ≤ 20) (hs : ∀ l ∈ LL, l.length ≤ 170) (ht : LL.flatten.length ≤ 1000)
    (hZ2 : RHeats w B2 A2 n2 LL') (hn2 : n2 ≤ 20) (hs2 : ∀ l ∈ LL', l.length ≤ 170) (ht2 : LL'.flatten.length ≤ 1000) :
    Calls Tryz.prog 48 #[.slice A n cap, .slice A2 n2 cap2, .int .i64 p, .int .i64 t] w (RChPost LL LL' p t w) := by
  obtain ⟨i0, hi, hz0, hz1, hz2⟩ := info_parts infoS
  have hni : (n : Int) ≤ 20 := by omega
  have hA1 := r4Advance_any LL n cap A B p t w hZ hn hs ht
  have HA2 : Hid (∀ w', Below w.heap.size w w' → Calls Tryz.prog 42 #[.slice A2 n2 cap2, .int .i64 p, .int .i64 t] w' (RAdvPost LL' p t w')) := fun w' hb => r4Advance_any LL' n2 cap2 A2 B2 p t w' (hZ2.below hb hZ2.2.1) hn2 hs2 ht2
  have HM : Hid (∀ w', Below w.heap.size w w' → RHeats w' B A n LL) := fun w' hb => hZ.below hb hZ.2.1
  have Hlen : Hid (LL.length = n) := hZ.1
  have HS := Lib.hid hs
  have HTT := Lib.hid ht
  have hl1 := advN_len LL p t
  have hl2 := advN_len LL' p t
  unfold RAdvPost at hA1 HA2
  unfold RChPost chgN
  rw [← tm_eq] at hA1 HA2
  have e1 : advN LL p t = (byPl LL p).map Run.name ++ (byTm LL p t).map Run.name := rfl
  have e2 : advN LL' p t = (byPl LL' p).map Run.name ++ (byTm LL' p t).map Run.name := rfl
  obtain ⟨P1, hP1⟩ : ∃ P1, (byPl LL p).map Run.name = P1 := ⟨_, rfl⟩
  obtain ⟨T1, hT1⟩ : ∃ T1, (byTm LL p t).map Run.name = T1 := ⟨_, rfl⟩
  obtain ⟨P2, hP2⟩ : ∃ P2, (byPl LL' p).map Run.name = P2 := ⟨_, rfl⟩
  obtain ⟨T2, hT2⟩ : ∃ T2, (byTm LL' p t).map Run.name = T2 := ⟨_, rfl⟩
  rw [hP1, hT1] at hA1 e1
  rw [hP2, hT2] at HA2 e2
  have q1 : P1.length + T1.length ≤ 2000 := by rw [← List.length_append, ← e1]; omega
  have q2 : P2.length + T2.length ≤ 2000 := by rw [← List.length_append, ← e2]; omega
  rw [e1, e2]
  have HQ := Lib.hid (And.intro q1 q2)
  obtain ⟨ch, hch⟩ : ∃ ch : ByteArray → Bool, (fun s => isIn (P1 ++ T1) s != isIn (P2 ++ T2) s) = ch := ⟨_, rfl⟩
  have HCH : Hid (∀ s, ch s = (isIn (P1 ++ T1) s != isIn (P2 ++ T2) s)) := fun s => by rw [← hch]
  rw [hch]
  clear hZ hs ht hZ2 hs2 ht2 hl1 hl2 e1 e2 hP1 hT1 hP2 hT2 q1 q2 hch
  go_enter Tryz.func48, Tryz.ntmps48
  go_wp2_with fail
  refine hA1.mono ?_
  rintro e w1 ⟨u1, v1, rfl, hu1, hv1, hb1⟩
  have hA2 := HA2.out _ hb1
  have LU1 : ∀ b, u1.ownBlock = some b → b < w1.heap.size := fun b h => (World.ownsRow.lt hu1 b h).2
  have HU1 := Lib.hid hu1
  have HV1 := Lib.hid hv1
  clear hA1 HA2 hu1 hv1
  go_wp2_with fail
  refine hA2.mono ?_
  rintro e w2 ⟨u2, v2, rfl, hu2, hv2, hb2⟩
  have hu1 : OwnNames w2 w.heap.size u1 P1 := ownN HU1.out hb2
  have hv1 : OwnNames w2 w.heap.size v1 T1 := ownN HV1.out hb2
  have hb12 : Below w.heap.size w w2 := hb1.trans (hb2.mono hb1.size)
  have L2 : ∀ b, u2.ownBlock = some b → w1.heap.size ≤ b ∧ b < w2.heap.size := fun b h => World.ownsRow.lt hu2 b h
  have LV2 : ∀ b, v2.ownBlock = some b → w1.heap.size ≤ b ∧ b < w2.heap.size := fun b h => World.ownsRow.lt hv2 b h
  have hsz1 := hb1.size
  have hsz2 := hb2.size
  obtain ⟨ao1, c1, rfl, hno1, hce1⟩ := hv1.src
  obtain ⟨m1, hm1⟩ : ∃ m1, T1.length = m1 := ⟨_, rfl⟩
  have HN1 : Hid ((T1.map Value.string).length = m1 * 1 ∧ T1.length = m1 ∧ (ao1 = none → m1 = 0 ∧ c1 = 0)) := ⟨by simp [hm1], hm1, by rw [← hm1]; exact hno1⟩
  have HCE1 := Lib.hid hce1
  rw [hm1]
  have HU1' := Lib.hid hu1
  have HU2' := Lib.hid hu2
  have HV2' := Lib.hid hv2
  have LU1' := Lib.hid LU1
  have L2' := Lib.hid L2
  have LV2' := Lib.hid LV2
  clear hA2 hb1 hb2 HU1 HV1 hu1 hv1 hno1 hce1 hm1 hu2 hv2 LU1 L2 LV2
  go_wp2_with (at_builtin; refine wpList_append_src _ rfl _ _ 68 rfl w.heap.size 9 i0 (.string ⟨#[]⟩) 1 16 Tryz.underlying68 hi hz0 hz1 hz2 rfl (by decide) _ _ _ rfl HU1'.out ao1 m1 c1 (T1.map Value.string) rfl HN1.out.1 HN1.out.2.2 HCE1.out (str_one T1) ?c3 ?c4 ?c5 ?_)
  case c3 => have := HQ.out.1; have := HN1.out.2.1; unfold maxLen; omega
  case c4 => have := HQ.out.1; have := HN1.out.2.1; omega
  case c5 => exact hb12.size
  intro u3 w3 hown3 hgrow3 hat3
  have hN3 : OwnNames w3 w.heap.size u3 (P1 ++ T1) := OwnNames.app (by rw [HN1.out.2.1]; exact hown3)
  have hu2 : OwnNames w3 w1.heap.size u2 P2 := HU2'.out.kept hgrow3 (by
    cases e : u2.ownBlock with
    | none => exact .inl rfl
    | some b => exact .inr fun q => by have h1 := L2'.out b e; have h2 := LU1'.out b q.symm; omega)
  have hv2 : OwnNames w3 w1.heap.size v2 T2 := HV2'.out.kept hgrow3 (by
    cases e : v2.ownBlock with
    | none => exact .inl rfl
    | some b => exact .inr fun q => by have h1 := LV2'.out b e; have h2 := LU1'.out b q.symm; omega)
  have hb3 : Below w.heap.size w w3 := hb12.grown hgrow3 hb12.size (fun r hr => (World.ownsRow.lt HU1'.out r hr).1)
  have hsz3 := hgrow3.size
  have h3a : u3.ownBlock = none ∨ u3.ownBlock ≠ u2.ownBlock := by
    cases e : u2.ownBlock with
    | none =>
      cases e3 : u3.ownBlock with
      | none => exact .inl rfl
      | some b => exact .inr (fun q => by cases q)
    | some b =>
      refine .inr fun q => ?_
      have h1 := L2'.out b e
      rcases hat3 with h | h
      · have h2 := LU1'.out b (by rw [← h, q]); omega
      · rw [q] at h; have := Option.some.inj h; omega
  obtain ⟨ao2, c2, rfl, hno2, hce2⟩ := hv2.src
  obtain ⟨m2, hm2⟩ : ∃ m2, T2.length = m2 := ⟨_, rfl⟩
  have HN2 : Hid ((T2.map Value.string).length = m2 * 1 ∧ T2.length = m2 ∧ (ao2 = none → m2 = 0 ∧ c2 = 0)) := ⟨by simp [hm2], hm2, by rw [← hm2]; exact hno2⟩
  have HCE2 := Lib.hid hce2
  rw [hm2]
  have HU2'' := Lib.hid hu2
  have HN3 := Lib.hid hN3
  have H3A := Lib.hid h3a
  clear hno2 hce2 hm2 hown3 hgrow3 hat3 hu2 hv2 hN3 h3a HU1' HU2' HV2' L2' LV2' LU1' HCE1
  go_wp2_with (at_builtin; refine wpList_append_src _ rfl _ _ 68 rfl w1.heap.size 9 i0 (.string ⟨#[]⟩) 1 16 Tryz.underlying68 hi hz0 hz1 hz2 rfl (by decide) _ _ _ rfl HU2''.out ao2 m2 c2 (T2.map Value.string) rfl HN2.out.1 HN2.out.2.2 HCE2.out (str_one T2) ?d3 ?d4 ?d5 ?_)
  case d3 => have := HQ.out.2; have := HN2.out.2.1; unfold maxLen; omega
  case d4 => have := HQ.out.2; have := HN2.out.2.1; omega
  case d5 => omega
  intro u4 w4 hown4 hgrow4 hat4
  have hN4 : OwnNames w4 w1.heap.size u4 (P2 ++ T2) := OwnNames.app (by rw [HN2.out.2.1]; exact hown4)
  have hN3 : OwnNames w4 w.heap.size u3 (P1 ++ T1) := HN3.out.kept hgrow4 H3A.out
  have hb4 : Below w.heap.size w w4 := hb3.grown hgrow4 hb3.size (fun r hr => Nat.le_trans hsz1 (World.ownsRow.lt HU2''.out r hr).1)
  obtain ⟨A3, c3, rfl, hX3⟩ := TextsZ.of_own hN3
  obtain ⟨A4, c4, rfl, hX4⟩ := TextsZ.of_own hN4
  obtain ⟨n3, hn3⟩ : ∃ n3, (P1 ++ T1).length = n3 := ⟨_, rfl⟩
  obtain ⟨n4, hn4⟩ : ∃ n4, (P2 ++ T2).length = n4 := ⟨_, rfl⟩
  rw [hn3] at hX3 ⊢
  rw [hn4] at hX4 ⊢
  have hn3b : n3 ≤ 100000 := by rw [← hn3, List.length_append]; have := HQ.out.1; omega
  have hn4b : n4 ≤ 100000 := by rw [← hn4, List.length_append]; have := HQ.out.2; omega
  have H1 : Hid (∀ s w', Below w4.heap.size w4 w' → Calls Tryz.prog 49 #[.slice A3 n3 c3, .string s] w' (RetPost (.bool (isIn (P1 ++ T1) s)) w')) := fun s w' hb => r4Has_any _ s n3 c3 A3 w' (hX3.below hb) hn3b
  have H2 : Hid (∀ s w', Below w4.heap.size w4 w' → Calls Tryz.prog 49 #[.slice A4 n4 c4, .string s] w' (RetPost (.bool (isIn (P2 ++ T2) s)) w')) := fun s w' hb => r4Has_any _ s n4 c4 A4 w' (hX4.below hb) hn4b
  have HB4 : Hid (∀ w', Below w4.heap.size w4 w' → Below w.heap.size w w') := fun w' hb => hb4.trans (hb.mono hb4.size)
  have hw4 := hb4.size
  clear hn3 hn4 hn3b hn4b hX3 hX4 hN3 hN4 hb4 hb3 hb12 hown4 hgrow4 hat4 HU2'' HN3 H3A HCE2 HN1 HN2
  go_wp2
  go_loopw [15, 16] (fun v i wr => ∃ k : Nat, k ≤ n ∧ i = .int .i64 k ∧ OwnNames wr w4.heap.size v (chgL ch (LL.take k).flatten) ∧ Below w4.heap.size w4 wr) (fun _ i _ => n - (RowKit.intOf i).toNat)
  case atStart => exact ⟨0, by omega, rfl, World.ownsRow_nil _ _ _ _, Below.refl _ _⟩
  case round =>
    obtain ⟨k, hk, rfl, hown, hb⟩ := hrel
    by_cases hlt : k < n
    · obtain ⟨b, off, l, A', c', rfl, hbl, hL, hc, hZl⟩ := (HM.out _ (HB4.out _ hb)).at_ hlt
      have hki : (k : Int) < (n : Int) := by omega
      have hk0 : (0 : Int) ≤ (k : Int) := by omega
      have hkt : ((k : Int)).toNat = k := by omega
      have HL := Lib.hid hL
      have f1 := Lib.hid (flatten_take hL)
      have f2 := flatten_step_le hL
      have F3 : Hid ((LL.take k).flatten.length + l.length ≤ 1000) := (show _ ≤ _ by have := HTT.out; omega)
      obtain ⟨m, hm⟩ : ∃ m, l.length = m := ⟨_, rfl⟩
      have hm1 := HS.out l (List.mem_of_getElem? hL)
      rw [hm] at hc hm1
      have Hm := Lib.hid hm
      have hmi : (m : Int) ≤ 170 := by omega
      clear hL hZl hm f2
      go_wp2
      go_loopw [15, 17] (fun v i wx => ∃ j : Nat, j ≤ m ∧ i = .int .i64 j ∧ OwnNames wx w4.heap.size v (chgL ch ((LL.take k).flatten ++ l.take j)) ∧ Below w4.heap.size w4 wx) (fun _ i _ => m - (RowKit.intOf i).toNat)
      case atStart => exact ⟨0, by omega, rfl, by simpa using hown, hb⟩
      case round =>
        obtain ⟨j, hj, rfl, hownx, hbx⟩ := hrel
        clear hc hown hb
        obtain ⟨b', off', l', A9, c9, hAq, _, hLq, hc, hZ2⟩ := (HM.out _ (HB4.out _ hbx)).at_ hlt
        cases hAq
        cases HL.out.symm.trans hLq
        rw [Hm.out] at hc hZ2
        by_cases hjm : j < m
        · obtain ⟨b2, off2, x, rfl, _, hx, c0, c1', c2', c3'⟩ := hZ2.at_ hjm
          have hji : (j : Int) < (m : Int) := by omega
          have hj0 : (0 : Int) ≤ (j : Int) := by omega
          have hjt : ((j : Int)).toNat = j := by omega
          have hst : chgL ch ((LL.take k).flatten ++ l.take (j + 1)) = chgL ch ((LL.take k).flatten ++ l.take j) ++ (if ch x.name then [x.name] else []) := by
            rw [List.take_add_one, hx, Option.toList_some, ← List.append_assoc, chgL_snoc]
          have hlen : (chgL ch ((LL.take k).flatten ++ l.take j)).length ≤ 1000 := by
            have h1 := chgL_len ch ((LL.take k).flatten ++ l.take j)
            rw [List.length_append, List.length_take] at h1
            have := F3.out
            omega
          have hchs := HCH.out x.name
          obtain ⟨nm, kd, vv, rr⟩ := x
          simp only at c0 c1' c2' c3' hst hchs
          have K1 := H1.out nm
          have K2 := H2.out nm
          obtain ⟨Q, hQ⟩ : ∃ Q, chgL ch ((LL.take k).flatten ++ l.take j) = Q := ⟨_, rfl⟩
          obtain ⟨Q', hQ'⟩ : ∃ Q', chgL ch ((LL.take k).flatten ++ l.take (j + 1)) = Q' := ⟨_, rfl⟩
          rw [hQ] at hownx hst hlen
          rw [hQ'] at hst
          have HQ' := Lib.hid hQ'
          have HQL := Lib.hid hlen
          obtain ⟨b1, hb1⟩ : ∃ b1, isIn (P1 ++ T1) nm = b1 := ⟨_, rfl⟩
          obtain ⟨b2, hb2⟩ : ∃ b2, isIn (P2 ++ T2) nm = b2 := ⟨_, rfl⟩
          rw [hb1] at K1 hchs
          rw [hb2] at K2 hchs
          rw [hchs] at hst
          have K1 := Lib.hid K1
          have K2 := Lib.hid K2
          have HO := Lib.hid hownx
          have hszx := hbx.size
          clear hx hLq hZ2 hQ hQ' hlen hb1 hb2 hchs c1' c2' c3' hownx
          cases b1 <;> cases b2
          all_goals
            simp only [bne_self_eq_false, Bool.false_eq_true, if_false, List.append_nil, Bool.true_bne, Bool.false_bne, Bool.not_true, Bool.not_false, if_true] at hst
            have HST := Lib.hid hst
            clear hst
            as_aux_lemma =>
              go_wp2_with fail
              refine (K1.out _ hbx).mono ?_
              rintro e w5 ⟨rfl, hb5⟩
              have hbx5 := bstep hbx hb5
              go_wp2_with fail
              refine (K2.out _ hbx5).mono ?_
              rintro e w6 ⟨rfl, hb6⟩
              have hbx6 := bstep hbx5 hb6
              have hown6 : OwnNames w6 w4.heap.size _ Q := ownN HO.out (bstep hb5 hb6)
              clear hbx5 hb5 hb6
              first
                | (go_wp2_with (at_builtin; refine wpList_append_own _ rfl _ _ 68 rfl w4.heap.size 9 i0 (.string ⟨#[]⟩) 1 16 Tryz.underlying68 hi hz0 hz1 hz2 rfl (by decide) _ _ _ rfl (World.ownsRow.alloc hown6 _) ⟨_, 0, none⟩ 1 1 [.string nm] rfl rfl (new1 _) (by intro u hu; simp at hu; subst hu; rfl) (by have := HQL.out; unfold maxLen; omega) (by have := HQL.out; omega) (by have := hbx6.size; simp; omega) ?_)
                   intro v' w7 hown' hgrow' _
                   have hb7 : Below w4.heap.size w4 w7 := (hbx6.alloc hbx6.size _).grown hgrow' (by have := hbx6.size; simp; omega) (fun r hr => (World.ownsRow.lt hown6 r hr).1)
                   have ho7 : OwnNames w7 w4.heap.size v' (chgL ch ((LL.take k).flatten ++ l.take (j + 1))) := by
                     rw [HQ'.out, HST.out]
                     exact OwnNames.next (by simpa using hown')
                   clear hown' hgrow' hown6
                   go_wp2
                   go_roundw
                   case rel => exact ⟨j + 1, by omega, by go_num, ho7, hb7⟩
                   case measure => simp [RowKit.intOf]; omega)
                | (have ho7 : OwnNames w6 w4.heap.size _ (chgL ch ((LL.take k).flatten ++ l.take (j + 1))) := (show OwnNames _ _ _ _ by rw [HQ'.out, HST.out]; exact hown6)
                   clear hown6
                   go_wp2
                   go_roundw
                   case rel => exact ⟨j + 1, by omega, by go_num, ho7, hbx6⟩
                   case measure => simp [RowKit.intOf]; omega)
        · obtain rfl : j = m := by omega
          have htl : l.take j = l := List.take_of_length_le (by rw [Hm.out]; omega)
          have hz : chgL ch (LL.take (k + 1)).flatten = chgL ch ((LL.take k).flatten ++ l.take j) := by rw [f1.out, htl]
          rw [← hz] at hownx
          have HO := Lib.hid hownx
          clear hz htl hownx hLq hZ2
          as_aux_lemma =>
            go_wp2
            go_roundw
            case rel => exact ⟨k + 1, by omega, by go_num, HO.out, hbx⟩
            case measure => simp [RowKit.intOf]; omega
    · obtain rfl : k = n := by omega
      have htk : LL.take k = LL := List.take_of_length_le (by rw [Hlen.out]; omega)
      rw [htk] at hown
      have ho : OwnNames _ w.heap.size _ ((LL.flatten.map Run.name).filter ch) := OwnNames.low hown hw4
      have HO := Lib.hid (And.intro ho (HB4.out _ hb))
      clear hown htk ho
      go_wp2
      go_ret
      exact ⟨_, rfl, HO.out.1, HO.out.2⟩
end Go.Mk
