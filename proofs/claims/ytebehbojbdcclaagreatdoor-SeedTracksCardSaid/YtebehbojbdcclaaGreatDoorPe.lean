/-
  Proved: the reference's Lanes and the program's return the lanes of athletes, or the first error. Conditions: the lanes lie where the slices say, a pattern without an error, at most 12 groups of at most 12 lanes; key and number are ints.
-/
import Derived.Test.YtebehbojbdcclaaGreatDoorPd
import Derived.Lib.SliceRun
set_option linter.unusedVariables false
set_option linter.unusedSimpArgs false
open Go Go.Proofs Go.RowKit Go.Sort
set_option maxRecDepth 100000
namespace Go.Mk
/-- The lanes of as many athletes. -/
def lanesR (LL : List (List Int)) (a key : Int) : List Int × Int :=
  if (drawnE key LL).2 ≠ 0 then ([], (drawnE key LL).2) else if ((drawnE key LL).1.length : Int) < a then ([], 17) else ((drawnE key LL).1.take a.toNat, 0)
theorem lanesR_bad (LL : List (List Int)) (a key : Int) : (lanesR LL a key).2 ≠ 0 → (lanesR LL a key).1 = [] := by
  unfold lanesR
  split
  · intro _; rfl
  · split
    · intro _; rfl
    · intro h; exact absurd rfl h
theorem lanesR_len (LL : List (List Int)) (a key : Int) (hn : LL.length ≤ 12) (hs : ∀ l ∈ LL, l.length ≤ 12) : (lanesR LL a key).1.length ≤ 300 := by
  have h := drawnE_len LL 12 hs key
  unfold lanesR
  split
  · simp
  · split
    · simp
    · simp only [List.length_take]; omega
theorem pat_ok {LL : List (List Int)} (h : patE LL = 0) : LL.length ≤ 10 ∧ ∃ l L2, LL = l :: L2 ∧ l ≠ [] := by
  unfold patE at h
  split at h
  · omega
  · split at h
    · omega
    · rename_i h1 h2
      refine ⟨by omega, ?_⟩
      cases LL with
      | nil => exact absurd rfl h2
      | cons l L2 =>
        refine ⟨l, L2, rfl, fun q => ?_⟩
        subst q
        simp [groupsE, groupE] at h
theorem drawn_pos {LL : List (List Int)} (h : patE LL = 0) (key : Int) (h0 : (drawnE key LL).2 = 0) : 0 < (drawnE key LL).1.length := by
  obtain ⟨_, l, L2, rfl, hl⟩ := pat_ok h
  rw [drawnE] at h0 ⊢
  split at h0
  · simp at h0
  · rename_i h1
    rw [if_neg h1]
    unfold preL at h0 ⊢
    split
    · have : 0 < l.length := List.length_pos_iff.2 hl
      simp only [List.length_append, picked_len]
      omega
    · rename_i h2
      rw [if_neg h2] at h0
      exact absurd h0 h2
theorem own_take {w : World} {B : Nat} {g cap k : Nat} {L : List Int} (h : OwnInts w B (.slice (some ⟨g, 0, none⟩) L.length cap) L) (hk : k ≤ L.length) : OwnInts w B (.slice (some ⟨g, 0, none⟩) k cap) (L.take k) := by
  have hl : (L.take k).length = k := by rw [List.length_take]; omega
  unfold OwnInts
  rw [hl]
  refine ⟨by simp; omega, ?_⟩
  rcases h.2 with ⟨q, _⟩ | ⟨g', cap', cur, a, b, c, d, e1, f, hx⟩
  · simp at q
  · obtain ⟨rfl, rfl⟩ : g = g' ∧ cap = cap' := by simpa using a
    refine .inr ⟨g, cap, cur, rfl, b, c, by omega, e1, f, ?_⟩
    rw [List.map_take, ← hx, List.take_take]
    congr 1
    omega
theorem own_cap {w : World} {B e size n g cap : Nat} {xs : List Value} (h : w.ownsRow B e size (.slice (some ⟨g, 0, none⟩) n cap) n xs) : n ≤ cap ∧ (cap : Int) ≤ 9223372036854775807 := by
  rcases h.2 with ⟨q, _⟩ | ⟨g', cap', cur, a, b, c, d, e1, f, hx⟩
  · simp at q
  · obtain ⟨rfl, rfl⟩ : g = g' ∧ cap = cap' := by simpa using a
    have : maxLen = 9223372036854775807 := rfl
    exact ⟨d, by omega⟩
set_option maxHeartbeats 1000000 in
theorem Clone_any (L : List Int) (g n cap B : Nat) (w : World) (hown : OwnInts w B (.slice (some ⟨g, 0, none⟩) n cap) L) (hl : L.length = n) (hn : n ≤ 300) :
    Calls Tryz.prog 43 #[.slice (some ⟨g, 0, none⟩) n cap] w fun e w' => ∃ v, e = .returned v ∧ OwnInts w' w.heap.size v L ∧ Below w.heap.size w w' := by
  obtain ⟨i0, hi, hz0, hz1, hz2⟩ := info_parts infoInt
  subst hl
  have hnews := World.ownsRow.cells hown (g := g) rfl
  have HB : Hid (Below w.heap.size w (w.alloc (.cells #[] 3))) := (Below.refl _ _).alloc (Nat.le_refl _) _
  have hcell : ∀ j u, (L.map fun z => Value.int .i64 z)[j]? = some u → (w.alloc (.cells #[] 3)).cell? ((⟨g, 0, none⟩ : Addr).add j) = some u := fun j u hu => by
    have h1 := hnews j u hu
    have hg : g < w.heap.size := (World.ownsRow.lt hown g rfl).2
    rw [show (⟨g, 0, none⟩ : Addr).add j = ⟨g, j, none⟩ from by unfold Addr.add; split <;> simp_all] at h1 ⊢
    exact (HB.out.cell (p := ⟨g, j, none⟩) hg).trans h1
  have hone : ∀ u ∈ L.map (fun z => Value.int .i64 z), u.oneCell' = true := by
    intro u hu
    obtain ⟨z, _, rfl⟩ := List.mem_map.1 hu
    rfl
  have h0 : (w.alloc (.cells #[] 3)).ownsRow w.heap.size 3 1 (.slice (some ⟨w.heap.size, 0, none⟩) 0 0) 0 [] := World.ownsRow_lit w #[] 0 (Nat.le_refl _) (by decide) rfl
  obtain ⟨m, hm⟩ : ∃ m, L.length = m := ⟨_, rfl⟩
  have Hm := Lib.hid hm
  rw [hm] at hn hown ⊢
  clear hnews hm
  have hq : ∀ W, (binOp .eql 28 (.slice (some ⟨g, 0, none⟩) m cap) (.slice none 0 0)).run Tryz.prog W = .ok (.bool false) W := fun W => Lib.run_eql_slice_nil W _ _ (some ⟨g, 0, none⟩) m cap 0 0 Tryz.underlying28
  go_enter Tryz.func43, Tryz.ntmps43
  go_wp2_with (at_builtin; refine wpList_append_own _ rfl _ _ 28 rfl w.heap.size 3 i0 (.int .i64 0) 1 8 Tryz.underlying28 hi hz0 hz1 hz2 rfl (by decide) _ _ _ rfl h0 ⟨g, 0, none⟩ m cap (L.map fun z => Value.int .i64 z) rfl (by rw [List.length_map, Hm.out]; omega) hcell hone ?c3 ?c4 ?c5 ?_)
  case c3 => unfold maxLen; omega
  case c4 => omega
  case c5 => exact HB.out.size
  intro v' w1 hown' hgrow _
  have hb1 : Below w.heap.size w w1 := HB.out.grown hgrow HB.out.size (fun r hr => (World.ownsRow.lt h0 r hr).1)
  have ho1 : OwnInts w1 w.heap.size v' L := by
    unfold OwnInts
    rw [Hm.out]
    simpa using hown'
  clear hown' hgrow h0
  go_wp2
  go_ret
  exact ⟨_, rfl, ho1, hb1⟩
set_option maxHeartbeats 4000000 in
theorem r4Lanes_any (LL : List (List Int)) (n cap : Nat) (A : Option Addr) (B : Nat) (key : Int) (w : World) (hZ : Zss w B A n LL) (hn : n ≤ 12) (hs : ∀ l ∈ LL, l.length ≤ 12) (hk1 : -9223372036854775808 ≤ key) (hk2 : key ≤ 9223372036854775807) (a : Int) (ha0 : 0 ≤ a) (ha1 : a ≤ 160) (hp : patE LL = 0) :
    Calls Tryz.prog 14 #[.slice A n cap, .int .i64 a, .int .i64 key] w (NumPost (lanesR LL a key) w) := by
  obtain ⟨i0, hi, hz0, hz1, hz2⟩ := info_parts infoInt
  have hni : (n : Int) ≤ 12 := by omega
  have HM : Hid (∀ k, k < n → ∃ b off l A' c', A = some ⟨b, off, none⟩ ∧ b < B ∧ LL[k]? = some l ∧ ∀ w', Below w.heap.size w w' → w'.cell? ⟨b, off + k, none⟩ = some (.slice A' l.length c') ∧ Zi w' B A' l.length l) := fun k hk => hZ.fix hk
  have Hlen : Hid (LL.length = n) := hZ.1
  have HS := Lib.hid hs
  have HP := Lib.hid (drawn_pos hp key)
  have HRR : Hid (lanesR LL a key = if (drawnE key LL).2 ≠ 0 then ([], (drawnE key LL).2) else if ((drawnE key LL).1.length : Int) < a then ([], 17) else ((drawnE key LL).1.take a.toNat, 0)) := (show _ = _ from rfl)
  obtain ⟨Y, hY⟩ : ∃ Y, lanesR LL a key = Y := ⟨_, rfl⟩
  rw [hY] at HRR ⊢
  obtain ⟨X, hX⟩ : ∃ X, drawnE key LL = X := ⟨_, rfl⟩
  rw [hX] at HP HRR
  have HX : Hid (finN [] (drawnE (key + (0 : Nat)) (LL.drop 0)) = X) := (show _ = _ by rw [List.drop_zero, show key + ((0 : Nat) : Int) = key from by omega, hX, finN_nil]; rw [← hX]; exact drawnE_bad LL key)
  clear hX hZ hs hp hY
  go_enter Tryz.func14, Tryz.ntmps14
  go_wp2
  go_loopw [9, 8] (fun i v wr => ∃ (k : Nat) (P : List Int), i = .int .i64 k ∧ k ≤ n ∧ P.length ≤ 12 * k ∧ (k = 0 ∨ (1 ≤ key ∧ key ≤ 2147483646)) ∧ Hid (finN P (drawnE (key + k) (LL.drop k)) = X) ∧ OwnInts wr w.heap.size v P ∧ Below w.heap.size w wr) (fun i _ _ => n - (intOf i).toNat)
  case atStart => exact ⟨0, [], rfl, by omega, by simp, .inl rfl, HX, World.ownsRow_nil _ _ _ _, Below.refl _ _⟩
  case round =>
    obtain ⟨k, P, rfl, hk, hP, hkey, HK, hown, hb⟩ := hrel
    by_cases hlt : k < n
    · obtain ⟨b, off, l, A', c', rfl, hbl, hL, hall⟩ := HM.out k hlt
      obtain ⟨hc, _⟩ := hall wr hb
      have hD : LL.drop k = l :: LL.drop (k + 1) := by
        have hkl := (List.getElem?_eq_some_iff.1 hL).1
        rw [List.drop_eq_getElem_cons hkl, (List.getElem?_eq_some_iff.1 hL).2]
      have hst := HK.out
      rw [hD, drawnE] at hst
      have hki : (k : Int) < (n : Int) := by omega
      have hll := HS.out l (List.mem_of_getElem? hL)
      obtain ⟨m, hm⟩ : ∃ m, l.length = m := ⟨_, rfl⟩
      have Hm := Lib.hid hm
      rw [hm] at hc hll hall
      have HA := Lib.hid hall
      have HL := Lib.hid hL
      have hmi : (m : Int) ≤ 12 := by omega
      have hwk : IntKind.i64.wrap (key + (k : Int)) = key + (k : Int) := IntWalk.i64_in _ (by omega)
      obtain ⟨kk, hkk⟩ : ∃ kk, key + (k : Int) = kk := ⟨_, rfl⟩
      rw [hkk] at hwk hst
      have Hkk := Lib.hid hkk
      clear hD hL HK hall hm
      by_cases hr : kk < 1 ∨ 2147483646 < kk
      · rw [if_pos hr] at hst
        unfold finN at hst
        rw [if_neg (by decide)] at hst
        subst hst
        have hy := HRR.out
        rw [if_pos (by decide)] at hy
        subst hy
        have hC := fun w => refCheckDraw_bad kk (m : Int) w (by omega)
        clear hr
        go_wp2_with fail
        refine (hC _).mono ?_
        rintro e w2 ⟨rfl, hb2⟩
        go_wp2
        go_ret2
        exact ⟨_, rfl, fun _ => rfl, World.ownsRow_nil _ _ _ _, hb.trans (hb2.mono hb.size)⟩
      · rw [if_neg hr, finN_preL] at hst
        obtain ⟨kn, rfl⟩ : ∃ kn : Nat, kk = (kn : Int) := ⟨kk.toNat, by omega⟩
        have hst2 : finN (P ++ (Sh.order kn m).map fun j => l.getD j 0) (drawnE (key + ((k + 1 : Nat) : Int)) (LL.drop (k + 1))) = X := by
          rw [← hst, show key + ((k + 1 : Nat) : Int) = (kn : Int) + 1 from by have := Hkk.out; omega]
          unfold picked
          rw [Hm.out]
          rfl
        have Hst := Lib.hid hst2
        have hC0 := fun w => refCheckDraw_ok kn m w (by omega) (by omega) (by omega)
        have hC := fun w => refDraw_any kn m w (by omega) (by omega) (by omega)
        have hkr : 1 ≤ key ∧ key ≤ 2147483646 := by
          have := Hkk.out
          rcases hkey with h | h
          · subst h; omega
          · exact h
        clear hr hst hst2
        go_wp2_with fail
        refine (hC0 _).mono ?_
        rintro e w5 ⟨rfl, hb5⟩
        replace hown : OwnInts w5 w.heap.size u8 P := ownB hown hb5
        replace hb := hb.trans (hb5.mono hb.size)
        obtain ⟨hc5, _⟩ := HA.out w5 hb
        clear hb5 hc
        go_wp2_with fail
        refine (hC _).mono ?_
        rintro e w2 ⟨g, rfl, hrow, hg, hb2⟩
        have hvg : u8.ownBlock ≠ some g := fun q => by
          have := (OwnInts.lt hown g q).2
          omega
        replace hown : OwnInts w2 w.heap.size u8 P := ownB hown hb2
        replace hb := hb.trans (hb2.mono hb.size)
        have hgl := hrow.1
        clear hg hb2 hC
        go_wp2
        go_loopw [12, 8] (fun i v wr => ∃ (q : Nat) (R : List Int), i = .int .i64 q ∧ q ≤ m ∧ Hid (R.length = P.length + q) ∧ R.length ≤ 200 ∧ Hid (R = P ++ ((Sh.order kn m).take q).map fun j => l.getD j 0) ∧ OwnInts wr w.heap.size v R ∧ v.ownBlock ≠ some g ∧ Row wr g (Sh.order kn m) ∧ Below w.heap.size w wr) (fun i _ _ => m - (intOf i).toNat)
        case atStart => exact ⟨0, P, rfl, by omega, (show _ = _ by omega), by omega, (show _ = _ by simp), hown, hvg, hrow, hb⟩
        case round =>
          obtain ⟨q, R, rfl, hq, HRl, hRb, HR, hownR, hvR, hrowR, hbR⟩ := hrel
          by_cases hqm : q < m
          · obtain ⟨d1, _⟩ := hrowR.at_ (j := q) (by rw [Sh.order_length]; exact hqm)
            have hzl : (Sh.order kn m).getD q 0 < m := by
              refine Sh.order_lt kn m _ ?_
              rw [List.getD_eq_getElem?_getD, List.getElem?_eq_getElem (by rw [Sh.order_length]; exact hqm)]
              exact List.getElem_mem _
            have htk : (Sh.order kn m).take (q + 1) = (Sh.order kn m).take q ++ [(Sh.order kn m).getD q 0] := by
              have hl : q < (Sh.order kn m).length := by rw [Sh.order_length]; exact hqm
              rw [List.take_succ_eq_append_getElem hl, List.getD_eq_getElem?_getD, List.getElem?_eq_getElem hl]
              rfl
            obtain ⟨z, hz⟩ : ∃ z, (Sh.order kn m).getD q 0 = z := ⟨_, rfl⟩
            rw [hz] at d1 hzl htk
            obtain ⟨_, hZ2⟩ := HA.out _ hbR
            obtain ⟨b2, off2, x, rfl, _, hx, hcx⟩ := hZ2.at_ hzl
            have hgx : l.getD z 0 = x := by rw [List.getD_eq_getElem?_getD, hx]; rfl
            have hR2 : R ++ [x] = P ++ ((Sh.order kn m).take (q + 1)).map fun j => l.getD j 0 := by
              rw [htk, List.map_append, ← List.append_assoc, ← HR.out, List.map_cons, List.map_nil, hgx]
            have HR2 := Lib.hid hR2
            have hqi : (q : Int) < (m : Int) := by omega
            have hzi : (z : Int) < (m : Int) := by omega
            have hzn : (0 : Int) ≤ (z : Int) := by omega
            clear hZ2 hx hgx htk hR2 HR hz
            obtain ⟨hcB, _⟩ := HA.out wr hbR
            have hnews : ∀ (j : Nat) (u : Value), ([.int .i64 x] : List Value)[j]? = some u → ((wr.alloc (.cells #[.int .i64 x] 3)).drew).cell? ((⟨wr.heap.size, 0, none⟩ : Addr).add j) = some u := by
              intro j u hj
              match j, hj with
              | 0, hj => simp at hj; subst hj; simp [Addr.add]
            have hone : ∀ u ∈ ([.int .i64 x] : List Value), u.oneCell' = true := by intro u hu; simp at hu; subst hu; rfl
            have hownA : ((wr.alloc (.cells #[.int .i64 x] 3)).drew).ownsRow w.heap.size 3 1 u8 R.length (R.map fun z => Value.int .i64 z) := World.ownsRow.alloc hownR _
            have hbs : w.heap.size ≤ ((wr.alloc (.cells #[.int .i64 x] 3)).drew).heap.size := by have := hbR.size; simp; omega
            have hmx : R.length + 1 ≤ maxLen := by unfold maxLen; omega
            have hmb : (R.length + 1) * 8 ≤ 140737488355328 := by omega
            go_wp2_with fail
            go_region_law (refine step_append_lies _ rfl (.tmp 46) (.tmp 57) 28 rfl w.heap.size 3 i0 (.int .i64 0) 1 8 Tryz.underlying28 hi hz0 hz1 hz2 rfl (by decide) u8 R.length (R.map fun z => Value.int .i64 z) (by simp [Act.eval, Act.put]) hownA ⟨wr.heap.size, 0, none⟩ 1 1 [.int .i64 x] (by simp [Act.eval, Act.put]) rfl hnews hone (by decide) hmx hmb hbs _ rfl ?_; intro g' cap' w1 hown' hgrow hat hlt1)
            all_goals
              have hb1 : Below w.heap.size w w1 := ((hbR.alloc hbR.size (.cells #[.int .i64 x] 3)).drew).grown hgrow (by have := hbR.size; simp; omega) (fun r hr => (World.ownsRow.lt hownR r hr).1)
              have ho1 : OwnInts w1 w.heap.size (.slice (some ⟨g', 0, none⟩) (R.length + 1) cap') (R ++ [x]) := OwnInts.next hown'
              have hgl2 := hrowR.1
              have hrow1 : Row w1 g (Sh.order kn m) := (show Row ((wr.alloc (.cells #[.int .i64 x] 3)).drew) g (Sh.order kn m) from hrowR.alloc _).grown hgrow (fun q => hvR q.symm)
              have hv1 : (Value.slice (some ⟨g', 0, none⟩) (R.length + 1) cap').ownBlock ≠ some g := by
                intro q
                simp only [Value.ownBlock, Option.some.injEq] at q
                rcases hat with e | e
                · exact hvR (by rw [e, q])
                · have e2 : g' = wr.heap.size + 1 := by simpa using e
                  omega
              clear hown' hgrow hat hownR hrowR hownA hnews hcB
              go_wp2
              exact ⟨⟨q + 1, R ++ [x], by go_num, by omega, (show _ = _ by have := HRl.out; simp; omega), by have := HRl.out; simp; omega, HR2, ho1, hv1, hrow1, hb1⟩, by simp [intOf]; omega⟩
          · have hqe : q = m := by omega
            have hRe := HR.out
            rw [hqe, List.take_of_length_le (by rw [Sh.order_length]; exact Nat.le_refl _)] at hRe
            rw [← hRe] at Hst
            go_wp2
            go_roundw
            case rel => exact ⟨k + 1, R, by go_num, by omega, by have := HRl.out; omega, .inr hkr, Hst, hownR, hbR⟩
            case measure => simp [intOf]; omega
    · have hke : k = n := by omega
      have hz := HK.out
      rw [List.drop_of_length_le (by rw [Hlen.out]; omega), drawnE, finN, if_pos rfl, List.append_nil] at hz
      subst hz
      have hpos := HP.out rfl
      simp only at hpos
      have hy := HRR.out
      rw [if_neg (by simp)] at hy
      simp only at hy
      have hP0 : P.length ≤ 144 := by omega
      obtain ⟨g, cp, rfl, hg1, hg2⟩ := own_some hown hpos
      obtain ⟨hc1, hc2⟩ := own_cap hown
      by_cases hl : (P.length : Int) < a
      · rw [if_pos hl] at hy
        subst hy
        go_wp2
        go_ret2
        exact ⟨_, rfl, fun _ => rfl, World.ownsRow_nil _ _ _ _, hb⟩
      · rw [if_neg hl] at hy
        subst hy
        obtain ⟨an, rfl⟩ : ∃ an : Nat, a = (an : Int) := ⟨a.toNat, by omega⟩
        have ht := own_take hown (k := an) (by omega)
        have hcp : (an : Int) ≤ (cp : Int) := by omega
        go_wp2
        go_ret2
        exact ⟨_, rfl, fun h => absurd rfl h, by simpa using ht, hb⟩
end Go.Mk
