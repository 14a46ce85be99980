/-
  Proved: the members of teams by the reference: the names, each once, sorted by their bytes. Conditions: the names and the teams lie where the slices say; at most 1,000 teams and names in a list, at most 100,000 names in all.
-/
import Derived.Test.YtnknmplepgmfmaaGreatDoorXo
import Derived.Test.YtnknmplepgmfmaaGreatDoorXga
import Derived.Laws.Cover1
set_option linter.unusedVariables false
set_option linter.unusedSimpArgs false
open Go Go.Proofs Go.RowKit Go.Maps Go.Sort Go.WideMaps
set_option maxRecDepth 100000
namespace Go.Mk
theorem wrapX (x : Int) (h : -1000 ≤ x ∧ x ≤ 1000000) : IntKind.i64.wrap x = x := by
  simp [IntKind.wrap, IntKind.bits, IntKind.signed]
  omega
theorem add_atX (g o i : Nat) : (⟨g, o, none⟩ : Addr).add i = ⟨g, o + i, none⟩ := by unfold Addr.add; split <;> simp_all
theorem strs_one (L : List ByteArray) : ∀ u ∈ L.map Value.string, u.oneCell' = true := by
  intro u hu
  obtain ⟨z, _, rfl⟩ := List.mem_map.1 hu
  rfl
theorem smap_take {Q : List ByteArray} {J i : Nat} {u : Value} (h : ((Q.take J).map Value.string)[i]? = some u) : ∃ x, Q[i]? = some x ∧ u = .string x := by
  rw [List.getElem?_map, List.getElem?_take] at h
  by_cases q : i < J
  · rw [if_pos q] at h
    cases hx : Q[i]? with
    | none => rw [hx] at h; cases h
    | some x => rw [hx] at h; exact ⟨x, rfl, (Option.some.inj h).symm⟩
  · rw [if_neg q] at h; cases h
theorem smap_drop {Q : List ByteArray} {J i : Nat} {u : Value} (h : ((Q.drop J).map Value.string)[i]? = some u) : ∃ x, Q[J + i]? = some x ∧ u = .string x := by
  rw [List.getElem?_map, List.getElem?_drop] at h
  cases hx : Q[J + i]? with
  | none => rw [hx] at h; cases h
  | some x => rw [hx] at h; exact ⟨x, rfl, (Option.some.inj h).symm⟩
/-- A row of texts and the length of its slice. -/
theorem OwnNames.at0 {w : World} {B : Nat} {v : Value} {L : List ByteArray} (h : OwnNames w B v L) (h0 : 0 < L.length) : ∃ g c, v = .slice (some ⟨g, 0, none⟩) L.length c ∧ g < w.heap.size ∧ L.length ≤ c ∧ ∀ (i : Nat) (x : ByteArray), L[i]? = some x → w.cell? ⟨g, i, none⟩ = some (.string x) := by
  obtain ⟨g, c, hv, _, hg⟩ := ownSome h h0
  refine ⟨g, c, hv, hg, ?_, fun i x hx => ?_⟩
  · rcases h.2 with ⟨_, h1⟩ | ⟨g', cap, cur, a, b, c', d, e1, _⟩
    · omega
    · rw [hv] at a
      cases a
      exact d
  · have := World.ownsRow.cells h (g := g) (by rw [hv]; rfl) i (.string x) (by simp [hx])
    rwa [add_atX, Nat.zero_add] at this
theorem OwnNames.low {w : World} {B B' : Nat} {v : Value} {L : List ByteArray} (h : OwnNames w B v L) (hb : B' ≤ B) : OwnNames w B' v L := ownsRow_base_a h hb
theorem insB_row {w : World} {B : Nat} {v : Value} {n : Nat} {xs : List Value} {S : List ByteArray} {x : ByteArray} (h : w.ownsRow B 9 1 v n xs) (hn : n = (insB S x).length) (hx : xs = (insB S x).map Value.string) : OwnNames w B v (insB S x) := by
  subst hn hx
  exact h
set_option maxHeartbeats 16000000 in
theorem r7Members_any (AT : Option Addr) (nT cT : Nat) (LT : List (List ByteArray)) (w : World) (hT : TeamsB w w.heap.size AT nT LT) (hnT : nT ≤ 1000) (hnf : ∀ l ∈ LT, l.length ≤ 1000) (hfl : LT.flatten.length ≤ 10000) :
    Calls Tryz.prog 29 #[.slice AT nT cT] w (fun e w' => ∃ v, e = .returned v ∧ OwnNames w' w.heap.size v (srtB (dst [] LT.flatten)) ∧ Below w.heap.size w w') := by
  obtain ⟨i0, hi, hz0, hz1, hz2⟩ := info_parts infoStr
  have hnTi : (nT : Int) ≤ 1000 := by omega
  have HTr : Hid (∀ w', Below w.heap.size w w' → TeamsB w' w.heap.size AT nT LT) := Lib.hid fun w' hb => hT.below hb (Nat.le_refl _)
  have Hlen := Lib.hid hT.1
  have HS := Lib.hid hnf
  obtain ⟨M, hM⟩ : ∃ M, dst [] LT.flatten = M := ⟨_, rfl⟩
  rw [hM]
  have HY : Hid (dst [] (LT.drop 0).flatten = M) := Lib.hid (by rw [List.drop_zero]; exact hM)
  have HML : Hid (∀ Q l, dst Q l = M → Q.length ≤ 10000) := Lib.hid fun Q l h => by
    have h1 : M.length ≤ 10000 := by
      rw [← hM]
      have := dst_len [] LT.flatten
      rw [List.length_nil] at this
      omega
    have h2 : ∀ l Q, Q.length ≤ (dst Q l).length := by
      intro l
      induction l with
      | nil => intro Q; exact Nat.le_refl _
      | cons s l ih =>
        intro Q
        rw [dst]
        refine Nat.le_trans ?_ (ih _)
        split <;> simp
    have := h2 l Q
    rw [h] at this
    omega
  have HHAS : Hid (∀ (L : List ByteArray) (s : ByteArray) (m c : Nat) (Al : Option Addr) (w' : World), TextsZ w' Al m L → m ≤ 100000 → Calls Tryz.prog 72 #[.slice Al m c, .string s] w' (RetSame (.bool (isIn L s)) w')) := Lib.hid fun L s m c Al w' h1 h2 => r7Has_any L s m c Al w' h1 h2
  clear hT hnf hfl hM
  go_enter Tryz.func29, Tryz.ntmps29
  go_wp2
  go_loopw [3, 4] (fun v i wr => ∃ (k : Nat) (Q : List ByteArray), k ≤ nT ∧ i = .int .i64 k ∧ Hid (dst Q (LT.drop k).flatten = M) ∧ Hid (OwnNames wr w.heap.size v (srtB Q)) ∧ (Q = [] → v = .slice none 0 0) ∧ Below w.heap.size w wr) (fun _ i _ => nT - (RowKit.intOf i).toNat)
  case atStart => exact ⟨0, [], by omega, rfl, HY, Lib.hid (by rw [srtB_nil]; exact World.ownsRow_nil _ _ _ _), fun _ => rfl, Below.refl _ _⟩
  case round =>
    obtain ⟨k, Q, hk, rfl, HK, HO, hv0, hb⟩ := hrel
    by_cases hlt : k < nT
    · obtain ⟨tb, toff, T, At, ct, rfl, htb, hTk, hTc, hTl, hTB⟩ := (HTr.out _ hb).at_ hlt
      have hki : (k : Int) < (nT : Int) := by omega
      have hTs := HS.out T (List.mem_of_getElem? hTk)
      have hst := HK.out
      rw [flat_drop hTk] at hst
      obtain ⟨X, hX⟩ : ∃ X, (LT.drop (k + 1)).flatten = X := ⟨_, rfl⟩
      rw [hX] at hst
      have HX := Lib.hid hX
      have Hst : Hid (dst Q (T.drop 0 ++ X) = M) := Lib.hid (by rw [List.drop_zero]; exact hst)
      have HTk := Lib.hid hTk
      obtain ⟨nt, hnt⟩ : ∃ nt, T.length = nt := ⟨_, rfl⟩
      rw [hnt] at hTs
      have Hnt := Lib.hid hnt
      have hnti : (nt : Int) ≤ 1000 := by omega
      obtain ⟨wy, hwy⟩ : ∃ wy : World, wr = wy := ⟨_, rfl⟩
      rw [hwy] at HO hb ⊢
      have HBY := Lib.hid hb
      clear hwy hst hX hTB hTl HK hb hTk hnt hTc
      go_wp2
      go_loopw [3, 5] (fun v i wr => ∃ (j : Nat) (Q : List ByteArray), j ≤ nt ∧ i = .int .i64 j ∧ Hid (dst Q (T.drop j ++ X) = M) ∧ Hid (OwnNames wr w.heap.size v (srtB Q)) ∧ (Q = [] → v = .slice none 0 0) ∧ Below w.heap.size wy wr) (fun _ i _ => nt - (RowKit.intOf i).toNat)
      case atStart => exact ⟨0, Q, by omega, rfl, Hst, HO, hv0, Below.refl _ _⟩
      case round =>
        obtain ⟨j, P, hj, rfl, HK, HO2, hv1, hb⟩ := hrel
        have hbT := HBY.out.trans hb
        obtain ⟨tb', toff', T', At', ct', e1, htb', hT', hTc', _, hTB'⟩ := (HTr.out _ hbT).at_ hlt
        cases e1
        obtain rfl : T' = T := Option.some.inj (hT'.symm.trans HTk.out)
        rw [Hnt.out] at hTc'
        have hTBZ := hTB'.toZ
        have HBT := Lib.hid hbT
        have hwr := hbT.size
        clear hT' hTB' hbT
        by_cases hjlt : j < nt
        · obtain ⟨b2, off2, x, rfl, hbl2, hx, hcx⟩ := hTBZ.at_ (by rw [Hnt.out]; exact hjlt)
          have hji : (j : Int) < (nt : Int) := by omega
          have hst2 := HK.out
          rw [dst_step hx] at hst2
          have hPl := HML.out _ _ HK.out
          obtain ⟨Ao, co, rfl, hPZ⟩ := TextsZ.of_own HO2.out
          have hsl : (srtB P).length = P.length := srtB_len P
          obtain ⟨m, hm⟩ : ∃ m, P.length = m := ⟨_, rfl⟩
          rw [hsl, hm] at hPZ
          rw [hm] at hsl hPl
          have hCP := HHAS.out (srtB P) x m co Ao wr hPZ (by omega)
          rw [isIn_srtB] at hCP
          rw [hsl] at HO2 hv1 ⊢
          have hmi : (m : Int) ≤ 10000 := by omega
          have Hm := Lib.hid hm
          have HPZ := Lib.hid hPZ
          clear hTBZ HK hx hm hPZ
          cases hp : isIn P x with
          | true =>
            rw [hp] at hst2 hCP
            rw [if_pos rfl] at hst2
            have Hst2 := Lib.hid hst2
            clear hst2 hp
            as_aux_lemma =>
              go_wp2_with fail
              refine hCP.mono ?_
              rintro e w' ⟨rfl, rfl⟩
              go_wp2
              go_roundw
              case rel => exact ⟨j + 1, P, by omega, by go_num, Hst2, HO2, hv1, hb⟩
              case measure => simp [RowKit.intOf]; omega
          | false =>
            rw [hp] at hst2 hCP
            rw [if_neg (by simp)] at hst2
            have Hst2 := Lib.hid hst2
            have HSN := Lib.hid (srtB_snoc P x)
            have HSL := Lib.hid hsl
            obtain ⟨S, hS⟩ : ∃ S, srtB P = S := ⟨_, rfl⟩
            rw [hS] at HO2 HSN HSL HPZ
            clear hst2 hp hS hsl
            go_wp2_with fail
            refine hCP.mono ?_
            rintro e w' ⟨rfl, rfl⟩
            clear hCP
            go_wp2
            go_loop [7] (fun i => ∃ q : Nat, i = .int .i64 q ∧ q ≤ m ∧ Hid (posB S x q = posB S x m)) (fun i => (RowKit.intOf i).toNat)
            case atStart => exact ⟨m, rfl, by omega, Lib.hid rfl⟩
            case round =>
              obtain ⟨q, rfl, hq, HQ⟩ := hrel
              by_cases hq0 : 0 < q
              · have hq0i : (0 : Int) < (q : Int) := by omega
                obtain ⟨q', rfl⟩ : ∃ q', q = q' + 1 := ⟨q - 1, by omega⟩
                obtain ⟨go, co', hvv, hgo, hcap, hcells⟩ := OwnNames.at0 HO2.out (by rw [HSL.out]; omega)
                rw [HSL.out] at hvv hcap
                obtain ⟨rfl, rfl⟩ : Ao = some ⟨go, 0, none⟩ ∧ co = co' := by injection hvv with h1 h2 h3; exact ⟨h1, h3⟩
                obtain ⟨y, hy⟩ : ∃ y, S[q']? = some y := ⟨S[q']'(by rw [HSL.out]; omega), List.getElem?_eq_getElem _⟩
                have hcy := hcells q' y hy
                have HCE := Lib.hid hcells
                have HAT : Hid (posB S x (q' + 1) = if gtB y x then posB S x q' else q' + 1) := Lib.hid (by rw [posB, List.getD_eq_getElem?_getD, hy, Option.getD_some])
                obtain ⟨bl, hbl⟩ : ∃ b, Op.bytesLess y.toList x.toList = b := ⟨_, rfl⟩
                obtain ⟨be, hbe⟩ : ∃ b, (y.toList == x.toList) = b := ⟨_, rfl⟩
                have hg : gtB y x = !(bl || be) := by unfold gtB; rw [hbl, hbe]
                rw [hg] at HAT
                have hw1 : IntKind.i64.wrap (q' : Int) = (q' : Int) := wrapX _ (by omega)
                have hjp : (0 : Int) ≤ (q' : Int) := by omega
                have hjk : (q' : Int) < (m : Int) := by omega
                have hjt : ((q' : Int)).toNat = q' := by omega
                have hjj : (0 : Int) ≤ (q' : Int) ∧ (q' : Int) < (m : Int) := ⟨hjp, hjk⟩
                clear hy hg hvv hcells
                cases bl with
                | true =>
                  have HQ2 : Hid (posB S x m = q' + 1) := Lib.hid (by rw [← HQ.out, HAT.out, if_neg (by simp)])
                  clear HAT HQ
                  have hJ0 : (0 : Int) ≤ (q' : Int) + 1 := by omega
                  have hJc : (q' : Int) + 1 ≤ (co : Int) := by omega
                  have hJm : (q' : Int) + 1 ≤ (m : Int) := by omega
                  have hJt : ((q' : Int) + 1).toNat = q' + 1 := by omega
                  have hs1 : (0 : Int) ≤ (q' : Int) + 1 ∧ (q' : Int) + 1 ≤ (co : Int) := ⟨hJ0, hJc⟩
                  have hs2 : (0 : Int) ≤ (q' : Int) + 1 ∧ (q' : Int) + 1 ≤ (m : Int) := ⟨hJ0, hJm⟩
                  obtain ⟨A2, hA2⟩ : ∃ A2 : Option Addr, (if co = q' + 1 then some ⟨go, 0, none⟩ else some ⟨go, q' + 1, none⟩) = A2 := ⟨_, rfl⟩
                  have hA2n : A2 ≠ none := by rw [← hA2]; split <;> simp
                  have HA2 := Lib.hid hA2
                  clear hA2
                  have HSrc : Hid (∀ w', Below wr.heap.size wr w' → ∀ (i : Nat) (y : ByteArray), S[i]? = some y → w'.cell? ⟨go, i, none⟩ = some (.string y)) := Lib.hid fun w' hq i y hy => (hq.cell (p := ⟨go, i, none⟩) hgo).trans (HCE.out i y hy)
                  have hrow0 : (wr.alloc (.cells #[] 9)).ownsRow wr.heap.size 9 1 (.slice (some ⟨wr.heap.size, 0, none⟩) 0 0) 0 [] := World.ownsRow_lit wr #[] 0 (Nat.le_refl _) (by decide) rfl
                  have hb13 : Below wr.heap.size wr (wr.alloc (.cells #[] 9)) := (Below.refl _ _).alloc (Nat.le_refl _) _
                  go_wp2_with (at_builtin; refine wpList_append_src _ rfl _ _ 54 rfl wr.heap.size 9 i0 (.string ⟨#[]⟩) 1 16 Tryz.underlying54 hi hz0 hz1 hz2 rfl (by decide) _ _ _ rfl hrow0 _ _ _ ((S.take (q' + 1)).map Value.string) rfl (by rw [List.length_map, List.length_take, HSL.out]; omega) (fun q => by cases q) (fun ad had i u hu => by cases had; obtain ⟨y, q1, rfl⟩ := smap_take hu; rw [add_atX, Nat.zero_add]; exact HSrc.out _ hb13 i y q1) (strs_one _) (by unfold maxLen; omega) (by omega) hb13.size ?_; intro v8 w8 hrow hgrow _)
                  have hb8 := hb13.grown hgrow hb13.size (fun r hr => (World.ownsRow.lt hrow0 r hr).1)
                  clear hgrow hrow0 hb13
                  go_wp2_with fail
                  have hrow := hrow.drew
                  refine wp_region_held_drew (S := fun w' => Below wr.heap.size wr w') (by kernel_rfl) ?_ (fun hHeld => ?_)
                  · exact hb8.drew
                  clear hb8
                  generalize World.drew w8 = wd at hHeld hrow ⊢
                  refine wpAnyH_take (i := 0) (oi := _) (v := ?_) rfl (by kernel_rfl) (by kernel_rfl) (by kernel_rfl) (fun _ _ _ h => h) (Or.inl ⟨by kernel_rfl, ?_⟩) (by assumption) ?_
                  rotate_left
                  · rintro w hw
                    go_simp
                    try with_reducible rfl
                  try simp only [Act.put, List.setIfInBounds_toArray, List.set_cons_zero, List.set_cons_succ, List.getElem_toArray, List.getElem_cons_zero, List.getElem_cons_succ]
                  refine wpAnyH_take (i := 1) (oi := _) (v := ?_) rfl (by kernel_rfl) (by kernel_rfl) (by kernel_rfl) (fun _ _ _ h => h) (Or.inl ⟨by kernel_rfl, ?_⟩) (by assumption) ?_
                  rotate_left
                  · rintro w hw
                    go_simp
                    try with_reducible rfl
                  try simp only [Act.put, List.setIfInBounds_toArray, List.set_cons_zero, List.set_cons_succ, List.getElem_toArray, List.getElem_cons_zero, List.getElem_cons_succ]
                  refine wpAnyH_take (i := 4) (oi := _) (v := ?_) rfl (by kernel_rfl) (by kernel_rfl) (by kernel_rfl) (fun _ _ _ h => h) (Or.inl ⟨by kernel_rfl, ?_⟩) (by assumption) ?_
                  rotate_left
                  · rintro w hw
                    go_simp
                    try with_reducible rfl
                  try simp only [Act.put, List.setIfInBounds_toArray, List.set_cons_zero, List.set_cons_succ, List.getElem_toArray, List.getElem_cons_zero, List.getElem_cons_succ]
                  refine wpAnyH_take (i := 5) (oi := _) (v := ?_) rfl (by kernel_rfl) (by kernel_rfl) (by kernel_rfl) (fun _ _ _ h => h) (Or.inl ⟨by kernel_rfl, ?_⟩) (by assumption) ?_
                  rotate_left
                  · rintro w hw
                    go_simp
                    try with_reducible rfl
                  try simp only [Act.put, List.setIfInBounds_toArray, List.set_cons_zero, List.set_cons_succ, List.getElem_toArray, List.getElem_cons_zero, List.getElem_cons_succ]
                  refine wpAnyH_take (i := 6) (oi := _) (v := ?_) rfl (by kernel_rfl) (by kernel_rfl) (by kernel_rfl) (fun _ _ _ h => h) (Or.inl ⟨by kernel_rfl, ?_⟩) (by assumption) ?_
                  rotate_left
                  · rintro w hw
                    go_simp
                    try simp only [if_pos hs1, if_pos hs2, HA2.out]
                    try with_reducible rfl
                  try simp only [Act.put, List.setIfInBounds_toArray, List.set_cons_zero, List.set_cons_succ, List.getElem_toArray, List.getElem_cons_zero, List.getElem_cons_succ]
                  refine wpAnyH_ready (rs := [2]) (by kernel_rfl) (by simp) ?_
                  refine AllReadyH.cons (o := _) rfl (fun K hKK => ?_) AllReadyH.nil
                  go_simp
                  have hc2 : (wd.alloc (.cells #[.string x] 9)).cell? ⟨wd.heap.size, 0, none⟩ = some (.string x) := by simp
                  have hrow := World.ownsRow.alloc hrow (.cells #[.string x] 9)
                  have hN := hHeld.alloc hHeld.size (.cells #[.string x] 9)
                  clear hHeld
                  refine hKK.out _ _ ?_ (fun hHeld => ?_)
                  · exact hN
                  clear hKK K
                  try simp only [Act.put, List.setIfInBounds_toArray, List.set_cons_zero, List.set_cons_succ, List.getElem_toArray, List.getElem_cons_zero, List.getElem_cons_succ]
                  clear hN
                  refine wpAnyH_ready (rs := [3]) (by kernel_rfl) (by simp) ?_
                  refine AllReadyH.cons (o := _) rfl (fun K hKK => ?_) AllReadyH.nil
                  refine step_append_src rfl (.tmp 54) (.tmp 56) 54 rfl wr.heap.size 9 i0 (.string ⟨#[]⟩) 1 16 Tryz.underlying54 hi hz0 hz1 hz2 rfl (by decide) _ _ _ rfl hrow _ _ _ [.string x] rfl rfl (fun q => by cases q) (fun ad had i u hu => by cases had; match i, hu with | 0, hu => (simp at hu; subst hu; rw [add_atX]; exact hc2)) (by intro u hu; rw [List.mem_singleton] at hu; subst hu; rfl) (by unfold maxLen; omega) (by omega) hHeld.size ?_
                  intro v9 w9 hown9 hgrow hat
                  have hN := hHeld.grown hgrow hHeld.size (fun r hr => (World.ownsRow.lt hrow r hr).1)
                  clear hHeld hrow hat hgrow hc2
                  have hrow := hown9
                  clear hown9
                  refine hKK.out _ _ ?_ (fun hHeld => ?_)
                  · exact hN
                  clear hKK K
                  try simp only [Act.put, List.setIfInBounds_toArray, List.set_cons_zero, List.set_cons_succ, List.getElem_toArray, List.getElem_cons_zero, List.getElem_cons_succ]
                  clear hN
                  refine wpAnyH_ready (rs := [7]) (by kernel_rfl) (by simp) ?_
                  refine AllReadyH.cons (o := _) rfl (fun K hKK => ?_) AllReadyH.nil
                  refine step_append_src rfl (.tmp 57) (.tmp 60) 54 rfl wr.heap.size 9 i0 (.string ⟨#[]⟩) 1 16 Tryz.underlying54 hi hz0 hz1 hz2 rfl (by decide) _ _ _ rfl hrow _ _ _ ((S.drop (q' + 1)).map Value.string) rfl (by rw [List.length_map, List.length_drop, HSL.out]; omega) (fun q => absurd q hA2n) (fun ad had i u hu => by obtain ⟨y, q1, rfl⟩ := smap_drop hu; have hi9 := (List.getElem?_eq_some_iff.1 q1).1; rw [HSL.out] at hi9; rw [← HA2.out, if_neg (by omega)] at had; cases had; rw [add_atX]; exact HSrc.out _ hHeld _ y q1) (strs_one _) (by unfold maxLen; omega) (by omega) hHeld.size ?_
                  intro v9 w9 hown9 hgrow hat
                  have hN := hHeld.grown hgrow hHeld.size (fun r hr => (World.ownsRow.lt hrow r hr).1)
                  clear hHeld hrow hat hgrow
                  have hrow := hown9
                  clear hown9
                  refine hKK.out _ _ ?_ (fun hHeld => ?_)
                  · exact hN
                  clear hKK K
                  try simp only [Act.put, List.setIfInBounds_toArray, List.set_cons_zero, List.set_cons_succ, List.getElem_toArray, List.getElem_cons_zero, List.getElem_cons_succ]
                  clear hN
                  refine wpAnyH_ready (rs := [8]) (by kernel_rfl) (by simp) ?_
                  refine AllReadyH.cons (o := _) rfl (fun K hKK => ?_) AllReadyH.nil
                  go_simp
                  refine hKK.out _ _ ?_ (fun hHeld => ?_)
                  · exact hHeld
                  clear hKK K
                  try simp only [Act.put, List.setIfInBounds_toArray, List.set_cons_zero, List.set_cons_succ, List.getElem_toArray, List.getElem_cons_zero, List.getElem_cons_succ]
                  refine wpAnyH_done (by kernel_rfl) ?_ _
                  have hins := insB_row (S := S) (x := x) hrow (by rw [insB_len, HSL.out]; first | done | omega) (by unfold insB; rw [HSL.out, HQ2.out]; simp)
                  have hins2 := OwnNames.low hins hwr
                  rw [← HSN.out] at hins2
                  have HO3 := Lib.hid hins2
                  have hb9 := hb.trans (hHeld.mono hwr)
                  clear hrow hins hins2 hHeld
                  go_wp2
                  go_roundw
                  case rel => exact ⟨j + 1, P ++ [x], by omega, by go_num, Hst2, HO3, fun q => by simp at q, hb9⟩
                  case measure => simp [RowKit.intOf]; omega
                | false =>
                  cases be with
                  | true =>
                    have HQ2 : Hid (posB S x m = q' + 1) := Lib.hid (by rw [← HQ.out, HAT.out, if_neg (by simp)])
                    clear HAT HQ
                    have hJ0 : (0 : Int) ≤ (q' : Int) + 1 := by omega
                    have hJc : (q' : Int) + 1 ≤ (co : Int) := by omega
                    have hJm : (q' : Int) + 1 ≤ (m : Int) := by omega
                    have hJt : ((q' : Int) + 1).toNat = q' + 1 := by omega
                    have hs1 : (0 : Int) ≤ (q' : Int) + 1 ∧ (q' : Int) + 1 ≤ (co : Int) := ⟨hJ0, hJc⟩
                    have hs2 : (0 : Int) ≤ (q' : Int) + 1 ∧ (q' : Int) + 1 ≤ (m : Int) := ⟨hJ0, hJm⟩
                    obtain ⟨A2, hA2⟩ : ∃ A2 : Option Addr, (if co = q' + 1 then some ⟨go, 0, none⟩ else some ⟨go, q' + 1, none⟩) = A2 := ⟨_, rfl⟩
                    have hA2n : A2 ≠ none := by rw [← hA2]; split <;> simp
                    have HA2 := Lib.hid hA2
                    clear hA2
                    have HSrc : Hid (∀ w', Below wr.heap.size wr w' → ∀ (i : Nat) (y : ByteArray), S[i]? = some y → w'.cell? ⟨go, i, none⟩ = some (.string y)) := Lib.hid fun w' hq i y hy => (hq.cell (p := ⟨go, i, none⟩) hgo).trans (HCE.out i y hy)
                    have hrow0 : (wr.alloc (.cells #[] 9)).ownsRow wr.heap.size 9 1 (.slice (some ⟨wr.heap.size, 0, none⟩) 0 0) 0 [] := World.ownsRow_lit wr #[] 0 (Nat.le_refl _) (by decide) rfl
                    have hb13 : Below wr.heap.size wr (wr.alloc (.cells #[] 9)) := (Below.refl _ _).alloc (Nat.le_refl _) _
                    go_wp2_with (at_builtin; refine wpList_append_src _ rfl _ _ 54 rfl wr.heap.size 9 i0 (.string ⟨#[]⟩) 1 16 Tryz.underlying54 hi hz0 hz1 hz2 rfl (by decide) _ _ _ rfl hrow0 _ _ _ ((S.take (q' + 1)).map Value.string) rfl (by rw [List.length_map, List.length_take, HSL.out]; omega) (fun q => by cases q) (fun ad had i u hu => by cases had; obtain ⟨y, q1, rfl⟩ := smap_take hu; rw [add_atX, Nat.zero_add]; exact HSrc.out _ hb13 i y q1) (strs_one _) (by unfold maxLen; omega) (by omega) hb13.size ?_; intro v8 w8 hrow hgrow _)
                    have hb8 := hb13.grown hgrow hb13.size (fun r hr => (World.ownsRow.lt hrow0 r hr).1)
                    clear hgrow hrow0 hb13
                    go_wp2_with fail
                    have hrow := hrow.drew
                    refine wp_region_held_drew (S := fun w' => Below wr.heap.size wr w') (by kernel_rfl) ?_ (fun hHeld => ?_)
                    · exact hb8.drew
                    clear hb8
                    generalize World.drew w8 = wd at hHeld hrow ⊢
                    refine wpAnyH_take (i := 0) (oi := _) (v := ?_) rfl (by kernel_rfl) (by kernel_rfl) (by kernel_rfl) (fun _ _ _ h => h) (Or.inl ⟨by kernel_rfl, ?_⟩) (by assumption) ?_
                    rotate_left
                    · rintro w hw
                      go_simp
                      try with_reducible rfl
                    try simp only [Act.put, List.setIfInBounds_toArray, List.set_cons_zero, List.set_cons_succ, List.getElem_toArray, List.getElem_cons_zero, List.getElem_cons_succ]
                    refine wpAnyH_take (i := 1) (oi := _) (v := ?_) rfl (by kernel_rfl) (by kernel_rfl) (by kernel_rfl) (fun _ _ _ h => h) (Or.inl ⟨by kernel_rfl, ?_⟩) (by assumption) ?_
                    rotate_left
                    · rintro w hw
                      go_simp
                      try with_reducible rfl
                    try simp only [Act.put, List.setIfInBounds_toArray, List.set_cons_zero, List.set_cons_succ, List.getElem_toArray, List.getElem_cons_zero, List.getElem_cons_succ]
                    refine wpAnyH_take (i := 4) (oi := _) (v := ?_) rfl (by kernel_rfl) (by kernel_rfl) (by kernel_rfl) (fun _ _ _ h => h) (Or.inl ⟨by kernel_rfl, ?_⟩) (by assumption) ?_
                    rotate_left
                    · rintro w hw
                      go_simp
                      try with_reducible rfl
                    try simp only [Act.put, List.setIfInBounds_toArray, List.set_cons_zero, List.set_cons_succ, List.getElem_toArray, List.getElem_cons_zero, List.getElem_cons_succ]
                    refine wpAnyH_take (i := 5) (oi := _) (v := ?_) rfl (by kernel_rfl) (by kernel_rfl) (by kernel_rfl) (fun _ _ _ h => h) (Or.inl ⟨by kernel_rfl, ?_⟩) (by assumption) ?_
                    rotate_left
                    · rintro w hw
                      go_simp
                      try with_reducible rfl
                    try simp only [Act.put, List.setIfInBounds_toArray, List.set_cons_zero, List.set_cons_succ, List.getElem_toArray, List.getElem_cons_zero, List.getElem_cons_succ]
                    refine wpAnyH_take (i := 6) (oi := _) (v := ?_) rfl (by kernel_rfl) (by kernel_rfl) (by kernel_rfl) (fun _ _ _ h => h) (Or.inl ⟨by kernel_rfl, ?_⟩) (by assumption) ?_
                    rotate_left
                    · rintro w hw
                      go_simp
                      try simp only [if_pos hs1, if_pos hs2, HA2.out]
                      try with_reducible rfl
                    try simp only [Act.put, List.setIfInBounds_toArray, List.set_cons_zero, List.set_cons_succ, List.getElem_toArray, List.getElem_cons_zero, List.getElem_cons_succ]
                    refine wpAnyH_ready (rs := [2]) (by kernel_rfl) (by simp) ?_
                    refine AllReadyH.cons (o := _) rfl (fun K hKK => ?_) AllReadyH.nil
                    go_simp
                    have hc2 : (wd.alloc (.cells #[.string x] 9)).cell? ⟨wd.heap.size, 0, none⟩ = some (.string x) := by simp
                    have hrow := World.ownsRow.alloc hrow (.cells #[.string x] 9)
                    have hN := hHeld.alloc hHeld.size (.cells #[.string x] 9)
                    clear hHeld
                    refine hKK.out _ _ ?_ (fun hHeld => ?_)
                    · exact hN
                    clear hKK K
                    try simp only [Act.put, List.setIfInBounds_toArray, List.set_cons_zero, List.set_cons_succ, List.getElem_toArray, List.getElem_cons_zero, List.getElem_cons_succ]
                    clear hN
                    refine wpAnyH_ready (rs := [3]) (by kernel_rfl) (by simp) ?_
                    refine AllReadyH.cons (o := _) rfl (fun K hKK => ?_) AllReadyH.nil
                    refine step_append_src rfl (.tmp 54) (.tmp 56) 54 rfl wr.heap.size 9 i0 (.string ⟨#[]⟩) 1 16 Tryz.underlying54 hi hz0 hz1 hz2 rfl (by decide) _ _ _ rfl hrow _ _ _ [.string x] rfl rfl (fun q => by cases q) (fun ad had i u hu => by cases had; match i, hu with | 0, hu => (simp at hu; subst hu; rw [add_atX]; exact hc2)) (by intro u hu; rw [List.mem_singleton] at hu; subst hu; rfl) (by unfold maxLen; omega) (by omega) hHeld.size ?_
                    intro v9 w9 hown9 hgrow hat
                    have hN := hHeld.grown hgrow hHeld.size (fun r hr => (World.ownsRow.lt hrow r hr).1)
                    clear hHeld hrow hat hgrow hc2
                    have hrow := hown9
                    clear hown9
                    refine hKK.out _ _ ?_ (fun hHeld => ?_)
                    · exact hN
                    clear hKK K
                    try simp only [Act.put, List.setIfInBounds_toArray, List.set_cons_zero, List.set_cons_succ, List.getElem_toArray, List.getElem_cons_zero, List.getElem_cons_succ]
                    clear hN
                    refine wpAnyH_ready (rs := [7]) (by kernel_rfl) (by simp) ?_
                    refine AllReadyH.cons (o := _) rfl (fun K hKK => ?_) AllReadyH.nil
                    refine step_append_src rfl (.tmp 57) (.tmp 60) 54 rfl wr.heap.size 9 i0 (.string ⟨#[]⟩) 1 16 Tryz.underlying54 hi hz0 hz1 hz2 rfl (by decide) _ _ _ rfl hrow _ _ _ ((S.drop (q' + 1)).map Value.string) rfl (by rw [List.length_map, List.length_drop, HSL.out]; omega) (fun q => absurd q hA2n) (fun ad had i u hu => by obtain ⟨y, q1, rfl⟩ := smap_drop hu; have hi9 := (List.getElem?_eq_some_iff.1 q1).1; rw [HSL.out] at hi9; rw [← HA2.out, if_neg (by omega)] at had; cases had; rw [add_atX]; exact HSrc.out _ hHeld _ y q1) (strs_one _) (by unfold maxLen; omega) (by omega) hHeld.size ?_
                    intro v9 w9 hown9 hgrow hat
                    have hN := hHeld.grown hgrow hHeld.size (fun r hr => (World.ownsRow.lt hrow r hr).1)
                    clear hHeld hrow hat hgrow
                    have hrow := hown9
                    clear hown9
                    refine hKK.out _ _ ?_ (fun hHeld => ?_)
                    · exact hN
                    clear hKK K
                    try simp only [Act.put, List.setIfInBounds_toArray, List.set_cons_zero, List.set_cons_succ, List.getElem_toArray, List.getElem_cons_zero, List.getElem_cons_succ]
                    clear hN
                    refine wpAnyH_ready (rs := [8]) (by kernel_rfl) (by simp) ?_
                    refine AllReadyH.cons (o := _) rfl (fun K hKK => ?_) AllReadyH.nil
                    go_simp
                    refine hKK.out _ _ ?_ (fun hHeld => ?_)
                    · exact hHeld
                    clear hKK K
                    try simp only [Act.put, List.setIfInBounds_toArray, List.set_cons_zero, List.set_cons_succ, List.getElem_toArray, List.getElem_cons_zero, List.getElem_cons_succ]
                    refine wpAnyH_done (by kernel_rfl) ?_ _
                    have hins := insB_row (S := S) (x := x) hrow (by rw [insB_len, HSL.out]; first | done | omega) (by unfold insB; rw [HSL.out, HQ2.out]; simp)
                    have hins2 := OwnNames.low hins hwr
                    rw [← HSN.out] at hins2
                    have HO3 := Lib.hid hins2
                    have hb9 := hb.trans (hHeld.mono hwr)
                    clear hrow hins hins2 hHeld
                    go_wp2
                    go_roundw
                    case rel => exact ⟨j + 1, P ++ [x], by omega, by go_num, Hst2, HO3, fun q => by simp at q, hb9⟩
                    case measure => simp [RowKit.intOf]; omega
                  | false =>
                    have HQ2 : Hid (posB S x q' = posB S x m) := Lib.hid (by rw [← HQ.out, HAT.out, if_pos (by simp)])
                    clear HAT
                    go_wp2
                    exact ⟨⟨q', by go_num, by omega, HQ2⟩, by simp [RowKit.intOf]⟩
              · obtain rfl : q = 0 := by omega
                have HQ2 : Hid (posB S x m = 0) := Lib.hid (by rw [← HQ.out]; rfl)
                clear HQ
                by_cases hm0 : m = 0
                · have hPe : P = [] := List.eq_nil_of_length_eq_zero (Hm.out.trans hm0)
                  have hvn := hv1 hPe
                  obtain ⟨rfl, rfl⟩ : Ao = none ∧ co = 0 := by injection hvn with h1 h2 h3; exact ⟨h1, h3⟩
                  subst hm0
                  clear hvn
                  skip
                  have hrow0 : (wr.alloc (.cells #[] 9)).ownsRow wr.heap.size 9 1 (.slice (some ⟨wr.heap.size, 0, none⟩) 0 0) 0 [] := World.ownsRow_lit wr #[] 0 (Nat.le_refl _) (by decide) rfl
                  have hb13 : Below wr.heap.size wr (wr.alloc (.cells #[] 9)) := (Below.refl _ _).alloc (Nat.le_refl _) _
                  go_wp2_with (at_builtin; refine wpList_append_src _ rfl _ _ 54 rfl wr.heap.size 9 i0 (.string ⟨#[]⟩) 1 16 Tryz.underlying54 hi hz0 hz1 hz2 rfl (by decide) _ _ _ rfl hrow0 _ _ _ (([] : List ByteArray).map Value.string) rfl (rfl) (fun _ => ⟨rfl, rfl⟩) (fun ad q => by cases q) (strs_one _) (by unfold maxLen; omega) (by omega) hb13.size ?_; intro v8 w8 hrow hgrow _)
                  have hb8 := hb13.grown hgrow hb13.size (fun r hr => (World.ownsRow.lt hrow0 r hr).1)
                  clear hgrow hrow0 hb13
                  go_wp2_with fail
                  have hrow := hrow.drew
                  refine wp_region_held_drew (S := fun w' => Below wr.heap.size wr w') (by kernel_rfl) ?_ (fun hHeld => ?_)
                  · exact hb8.drew
                  clear hb8
                  generalize World.drew w8 = wd at hHeld hrow ⊢
                  refine wpAnyH_take (i := 0) (oi := _) (v := ?_) rfl (by kernel_rfl) (by kernel_rfl) (by kernel_rfl) (fun _ _ _ h => h) (Or.inl ⟨by kernel_rfl, ?_⟩) (by assumption) ?_
                  rotate_left
                  · rintro w hw
                    go_simp
                    try with_reducible rfl
                  try simp only [Act.put, List.setIfInBounds_toArray, List.set_cons_zero, List.set_cons_succ, List.getElem_toArray, List.getElem_cons_zero, List.getElem_cons_succ]
                  refine wpAnyH_take (i := 1) (oi := _) (v := ?_) rfl (by kernel_rfl) (by kernel_rfl) (by kernel_rfl) (fun _ _ _ h => h) (Or.inl ⟨by kernel_rfl, ?_⟩) (by assumption) ?_
                  rotate_left
                  · rintro w hw
                    go_simp
                    try with_reducible rfl
                  try simp only [Act.put, List.setIfInBounds_toArray, List.set_cons_zero, List.set_cons_succ, List.getElem_toArray, List.getElem_cons_zero, List.getElem_cons_succ]
                  refine wpAnyH_take (i := 4) (oi := _) (v := ?_) rfl (by kernel_rfl) (by kernel_rfl) (by kernel_rfl) (fun _ _ _ h => h) (Or.inl ⟨by kernel_rfl, ?_⟩) (by assumption) ?_
                  rotate_left
                  · rintro w hw
                    go_simp
                    try with_reducible rfl
                  try simp only [Act.put, List.setIfInBounds_toArray, List.set_cons_zero, List.set_cons_succ, List.getElem_toArray, List.getElem_cons_zero, List.getElem_cons_succ]
                  refine wpAnyH_take (i := 5) (oi := _) (v := ?_) rfl (by kernel_rfl) (by kernel_rfl) (by kernel_rfl) (fun _ _ _ h => h) (Or.inl ⟨by kernel_rfl, ?_⟩) (by assumption) ?_
                  rotate_left
                  · rintro w hw
                    go_simp
                    try with_reducible rfl
                  try simp only [Act.put, List.setIfInBounds_toArray, List.set_cons_zero, List.set_cons_succ, List.getElem_toArray, List.getElem_cons_zero, List.getElem_cons_succ]
                  refine wpAnyH_take (i := 6) (oi := _) (v := ?_) rfl (by kernel_rfl) (by kernel_rfl) (by kernel_rfl) (fun _ _ _ h => h) (Or.inl ⟨by kernel_rfl, ?_⟩) (by assumption) ?_
                  rotate_left
                  · rintro w hw
                    go_simp
                    try with_reducible rfl
                  try simp only [Act.put, List.setIfInBounds_toArray, List.set_cons_zero, List.set_cons_succ, List.getElem_toArray, List.getElem_cons_zero, List.getElem_cons_succ]
                  refine wpAnyH_ready (rs := [2]) (by kernel_rfl) (by simp) ?_
                  refine AllReadyH.cons (o := _) rfl (fun K hKK => ?_) AllReadyH.nil
                  go_simp
                  have hc2 : (wd.alloc (.cells #[.string x] 9)).cell? ⟨wd.heap.size, 0, none⟩ = some (.string x) := by simp
                  have hrow := World.ownsRow.alloc hrow (.cells #[.string x] 9)
                  have hN := hHeld.alloc hHeld.size (.cells #[.string x] 9)
                  clear hHeld
                  refine hKK.out _ _ ?_ (fun hHeld => ?_)
                  · exact hN
                  clear hKK K
                  try simp only [Act.put, List.setIfInBounds_toArray, List.set_cons_zero, List.set_cons_succ, List.getElem_toArray, List.getElem_cons_zero, List.getElem_cons_succ]
                  clear hN
                  refine wpAnyH_ready (rs := [3]) (by kernel_rfl) (by simp) ?_
                  refine AllReadyH.cons (o := _) rfl (fun K hKK => ?_) AllReadyH.nil
                  refine step_append_src rfl (.tmp 54) (.tmp 56) 54 rfl wr.heap.size 9 i0 (.string ⟨#[]⟩) 1 16 Tryz.underlying54 hi hz0 hz1 hz2 rfl (by decide) _ _ _ rfl hrow _ _ _ [.string x] rfl rfl (fun q => by cases q) (fun ad had i u hu => by cases had; match i, hu with | 0, hu => (simp at hu; subst hu; rw [add_atX]; exact hc2)) (by intro u hu; rw [List.mem_singleton] at hu; subst hu; rfl) (by unfold maxLen; omega) (by omega) hHeld.size ?_
                  intro v9 w9 hown9 hgrow hat
                  have hN := hHeld.grown hgrow hHeld.size (fun r hr => (World.ownsRow.lt hrow r hr).1)
                  clear hHeld hrow hat hgrow hc2
                  have hrow := hown9
                  clear hown9
                  refine hKK.out _ _ ?_ (fun hHeld => ?_)
                  · exact hN
                  clear hKK K
                  try simp only [Act.put, List.setIfInBounds_toArray, List.set_cons_zero, List.set_cons_succ, List.getElem_toArray, List.getElem_cons_zero, List.getElem_cons_succ]
                  clear hN
                  refine wpAnyH_ready (rs := [7]) (by kernel_rfl) (by simp) ?_
                  refine AllReadyH.cons (o := _) rfl (fun K hKK => ?_) AllReadyH.nil
                  refine step_append_src rfl (.tmp 57) (.tmp 60) 54 rfl wr.heap.size 9 i0 (.string ⟨#[]⟩) 1 16 Tryz.underlying54 hi hz0 hz1 hz2 rfl (by decide) _ _ _ rfl hrow _ _ _ (([] : List ByteArray).map Value.string) rfl (rfl) (fun _ => ⟨rfl, rfl⟩) (fun ad q => by cases q) (strs_one _) (by unfold maxLen; omega) (by omega) hHeld.size ?_
                  intro v9 w9 hown9 hgrow hat
                  have hN := hHeld.grown hgrow hHeld.size (fun r hr => (World.ownsRow.lt hrow r hr).1)
                  clear hHeld hrow hat hgrow
                  have hrow := hown9
                  clear hown9
                  refine hKK.out _ _ ?_ (fun hHeld => ?_)
                  · exact hN
                  clear hKK K
                  try simp only [Act.put, List.setIfInBounds_toArray, List.set_cons_zero, List.set_cons_succ, List.getElem_toArray, List.getElem_cons_zero, List.getElem_cons_succ]
                  clear hN
                  refine wpAnyH_ready (rs := [8]) (by kernel_rfl) (by simp) ?_
                  refine AllReadyH.cons (o := _) rfl (fun K hKK => ?_) AllReadyH.nil
                  go_simp
                  refine hKK.out _ _ ?_ (fun hHeld => ?_)
                  · exact hHeld
                  clear hKK K
                  try simp only [Act.put, List.setIfInBounds_toArray, List.set_cons_zero, List.set_cons_succ, List.getElem_toArray, List.getElem_cons_zero, List.getElem_cons_succ]
                  refine wpAnyH_done (by kernel_rfl) ?_ _
                  have hSe : S = [] := List.eq_nil_of_length_eq_zero HSL.out
                  have hins := insB_row (S := S) (x := x) hrow (by rw [insB_len, HSL.out]; first | done | omega) (by subst hSe; rfl)
                  have hins2 := OwnNames.low hins hwr
                  rw [← HSN.out] at hins2
                  have HO3 := Lib.hid hins2
                  have hb9 := hb.trans (hHeld.mono hwr)
                  clear hrow hins hins2 hHeld
                  go_wp2
                  go_roundw
                  case rel => exact ⟨j + 1, P ++ [x], by omega, by go_num, Hst2, HO3, fun q => by simp at q, hb9⟩
                  case measure => simp [RowKit.intOf]; omega
                · obtain ⟨go, co', hvv, hgo, hcap, hcells⟩ := OwnNames.at0 HO2.out (by rw [HSL.out]; omega)
                  rw [HSL.out] at hvv hcap
                  obtain ⟨rfl, rfl⟩ : Ao = some ⟨go, 0, none⟩ ∧ co = co' := by injection hvv with h1 h2 h3; exact ⟨h1, h3⟩
                  have HCE := Lib.hid hcells
                  clear hvv hcells
                  have HSrc : Hid (∀ w', Below wr.heap.size wr w' → ∀ (i : Nat) (y : ByteArray), S[i]? = some y → w'.cell? ⟨go, i, none⟩ = some (.string y)) := Lib.hid fun w' hq i y hy => (hq.cell (p := ⟨go, i, none⟩) hgo).trans (HCE.out i y hy)
                  have hrow0 : (wr.alloc (.cells #[] 9)).ownsRow wr.heap.size 9 1 (.slice (some ⟨wr.heap.size, 0, none⟩) 0 0) 0 [] := World.ownsRow_lit wr #[] 0 (Nat.le_refl _) (by decide) rfl
                  have hb13 : Below wr.heap.size wr (wr.alloc (.cells #[] 9)) := (Below.refl _ _).alloc (Nat.le_refl _) _
                  go_wp2_with (at_builtin; refine wpList_append_src _ rfl _ _ 54 rfl wr.heap.size 9 i0 (.string ⟨#[]⟩) 1 16 Tryz.underlying54 hi hz0 hz1 hz2 rfl (by decide) _ _ _ rfl hrow0 _ _ _ (([] : List ByteArray).map Value.string) rfl (rfl) (fun q => by cases q) (fun ad _ i u hu => by simp at hu) (strs_one _) (by unfold maxLen; omega) (by omega) hb13.size ?_; intro v8 w8 hrow hgrow _)
                  have hb8 := hb13.grown hgrow hb13.size (fun r hr => (World.ownsRow.lt hrow0 r hr).1)
                  clear hgrow hrow0 hb13
                  go_wp2_with fail
                  have hrow := hrow.drew
                  refine wp_region_held_drew (S := fun w' => Below wr.heap.size wr w') (by kernel_rfl) ?_ (fun hHeld => ?_)
                  · exact hb8.drew
                  clear hb8
                  generalize World.drew w8 = wd at hHeld hrow ⊢
                  refine wpAnyH_take (i := 0) (oi := _) (v := ?_) rfl (by kernel_rfl) (by kernel_rfl) (by kernel_rfl) (fun _ _ _ h => h) (Or.inl ⟨by kernel_rfl, ?_⟩) (by assumption) ?_
                  rotate_left
                  · rintro w hw
                    go_simp
                    try with_reducible rfl
                  try simp only [Act.put, List.setIfInBounds_toArray, List.set_cons_zero, List.set_cons_succ, List.getElem_toArray, List.getElem_cons_zero, List.getElem_cons_succ]
                  refine wpAnyH_take (i := 1) (oi := _) (v := ?_) rfl (by kernel_rfl) (by kernel_rfl) (by kernel_rfl) (fun _ _ _ h => h) (Or.inl ⟨by kernel_rfl, ?_⟩) (by assumption) ?_
                  rotate_left
                  · rintro w hw
                    go_simp
                    try with_reducible rfl
                  try simp only [Act.put, List.setIfInBounds_toArray, List.set_cons_zero, List.set_cons_succ, List.getElem_toArray, List.getElem_cons_zero, List.getElem_cons_succ]
                  refine wpAnyH_take (i := 4) (oi := _) (v := ?_) rfl (by kernel_rfl) (by kernel_rfl) (by kernel_rfl) (fun _ _ _ h => h) (Or.inl ⟨by kernel_rfl, ?_⟩) (by assumption) ?_
                  rotate_left
                  · rintro w hw
                    go_simp
                    try with_reducible rfl
                  try simp only [Act.put, List.setIfInBounds_toArray, List.set_cons_zero, List.set_cons_succ, List.getElem_toArray, List.getElem_cons_zero, List.getElem_cons_succ]
                  refine wpAnyH_take (i := 5) (oi := _) (v := ?_) rfl (by kernel_rfl) (by kernel_rfl) (by kernel_rfl) (fun _ _ _ h => h) (Or.inl ⟨by kernel_rfl, ?_⟩) (by assumption) ?_
                  rotate_left
                  · rintro w hw
                    go_simp
                    try with_reducible rfl
                  try simp only [Act.put, List.setIfInBounds_toArray, List.set_cons_zero, List.set_cons_succ, List.getElem_toArray, List.getElem_cons_zero, List.getElem_cons_succ]
                  refine wpAnyH_take (i := 6) (oi := _) (v := ?_) rfl (by kernel_rfl) (by kernel_rfl) (by kernel_rfl) (fun _ _ _ h => h) (Or.inl ⟨by kernel_rfl, ?_⟩) (by assumption) ?_
                  rotate_left
                  · rintro w hw
                    go_simp
                    try with_reducible rfl
                  try simp only [Act.put, List.setIfInBounds_toArray, List.set_cons_zero, List.set_cons_succ, List.getElem_toArray, List.getElem_cons_zero, List.getElem_cons_succ]
                  refine wpAnyH_ready (rs := [2]) (by kernel_rfl) (by simp) ?_
                  refine AllReadyH.cons (o := _) rfl (fun K hKK => ?_) AllReadyH.nil
                  go_simp
                  have hc2 : (wd.alloc (.cells #[.string x] 9)).cell? ⟨wd.heap.size, 0, none⟩ = some (.string x) := by simp
                  have hrow := World.ownsRow.alloc hrow (.cells #[.string x] 9)
                  have hN := hHeld.alloc hHeld.size (.cells #[.string x] 9)
                  clear hHeld
                  refine hKK.out _ _ ?_ (fun hHeld => ?_)
                  · exact hN
                  clear hKK K
                  try simp only [Act.put, List.setIfInBounds_toArray, List.set_cons_zero, List.set_cons_succ, List.getElem_toArray, List.getElem_cons_zero, List.getElem_cons_succ]
                  clear hN
                  refine wpAnyH_ready (rs := [3]) (by kernel_rfl) (by simp) ?_
                  refine AllReadyH.cons (o := _) rfl (fun K hKK => ?_) AllReadyH.nil
                  refine step_append_src rfl (.tmp 54) (.tmp 56) 54 rfl wr.heap.size 9 i0 (.string ⟨#[]⟩) 1 16 Tryz.underlying54 hi hz0 hz1 hz2 rfl (by decide) _ _ _ rfl hrow _ _ _ [.string x] rfl rfl (fun q => by cases q) (fun ad had i u hu => by cases had; match i, hu with | 0, hu => (simp at hu; subst hu; rw [add_atX]; exact hc2)) (by intro u hu; rw [List.mem_singleton] at hu; subst hu; rfl) (by unfold maxLen; omega) (by omega) hHeld.size ?_
                  intro v9 w9 hown9 hgrow hat
                  have hN := hHeld.grown hgrow hHeld.size (fun r hr => (World.ownsRow.lt hrow r hr).1)
                  clear hHeld hrow hat hgrow hc2
                  have hrow := hown9
                  clear hown9
                  refine hKK.out _ _ ?_ (fun hHeld => ?_)
                  · exact hN
                  clear hKK K
                  try simp only [Act.put, List.setIfInBounds_toArray, List.set_cons_zero, List.set_cons_succ, List.getElem_toArray, List.getElem_cons_zero, List.getElem_cons_succ]
                  clear hN
                  refine wpAnyH_ready (rs := [7]) (by kernel_rfl) (by simp) ?_
                  refine AllReadyH.cons (o := _) rfl (fun K hKK => ?_) AllReadyH.nil
                  refine step_append_src rfl (.tmp 57) (.tmp 60) 54 rfl wr.heap.size 9 i0 (.string ⟨#[]⟩) 1 16 Tryz.underlying54 hi hz0 hz1 hz2 rfl (by decide) _ _ _ rfl hrow _ _ _ (S.map Value.string) rfl (by rw [List.length_map, HSL.out]; omega) (fun q => by cases q) (fun ad had i u hu => by cases had; rw [List.getElem?_map] at hu; cases hq1 : S[i]? with | none => (rw [hq1] at hu; cases hu) | some y => (rw [hq1] at hu; cases hu; rw [add_atX, Nat.zero_add]; exact HSrc.out _ hHeld i y hq1)) (strs_one _) (by unfold maxLen; omega) (by omega) hHeld.size ?_
                  intro v9 w9 hown9 hgrow hat
                  have hN := hHeld.grown hgrow hHeld.size (fun r hr => (World.ownsRow.lt hrow r hr).1)
                  clear hHeld hrow hat hgrow
                  have hrow := hown9
                  clear hown9
                  refine hKK.out _ _ ?_ (fun hHeld => ?_)
                  · exact hN
                  clear hKK K
                  try simp only [Act.put, List.setIfInBounds_toArray, List.set_cons_zero, List.set_cons_succ, List.getElem_toArray, List.getElem_cons_zero, List.getElem_cons_succ]
                  clear hN
                  refine wpAnyH_ready (rs := [8]) (by kernel_rfl) (by simp) ?_
                  refine AllReadyH.cons (o := _) rfl (fun K hKK => ?_) AllReadyH.nil
                  go_simp
                  refine hKK.out _ _ ?_ (fun hHeld => ?_)
                  · exact hHeld
                  clear hKK K
                  try simp only [Act.put, List.setIfInBounds_toArray, List.set_cons_zero, List.set_cons_succ, List.getElem_toArray, List.getElem_cons_zero, List.getElem_cons_succ]
                  refine wpAnyH_done (by kernel_rfl) ?_ _
                  have hins := insB_row (S := S) (x := x) hrow (by rw [insB_len, HSL.out]; first | done | omega) (by unfold insB; rw [HSL.out, HQ2.out]; simp)
                  have hins2 := OwnNames.low hins hwr
                  rw [← HSN.out] at hins2
                  have HO3 := Lib.hid hins2
                  have hb9 := hb.trans (hHeld.mono hwr)
                  clear hrow hins hins2 hHeld
                  go_wp2
                  go_roundw
                  case rel => exact ⟨j + 1, P ++ [x], by omega, by go_num, Hst2, HO3, fun q => by simp at q, hb9⟩
                  case measure => simp [RowKit.intOf]; omega
        · have hjn : j = nt := by omega
          have h0 := HK.out
          rw [hjn, List.drop_of_length_le (by rw [Hnt.out]; omega), List.nil_append, ← HX.out] at h0
          have Hst2 := Lib.hid h0
          clear h0 HK hTBZ
          go_wp2
          go_roundw
          case rel => exact ⟨k + 1, P, by omega, by go_num, Hst2, HO2, hv1, HBT.out⟩
          case measure => simp [RowKit.intOf]; omega
    · have hkn : k = nT := by omega
      have h0 := HK.out
      rw [hkn, List.drop_of_length_le (by rw [Hlen.out]; omega), List.flatten_nil, dst] at h0
      subst h0
      clear HK
      go_wp2
      go_ret
      exact ⟨_, rfl, HO.out, hb⟩
end Go.Mk
