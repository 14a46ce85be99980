/-
  Proved: the reference's unmarked and ordered: the places in the order of their ranks, in new memory. Conditions: at most 100 places, with ranks from 0 to their number, where the slice says.
  Proved: the reference's Ranking returns the places of rows in the order of their ranks, in new memory. Conditions: at most 100 rows, each with at most 12 trials, where the slices say.
  Proved: CheckContest and CheckVertical of the reference of chapter 6 return the same plain functions as those of package field; ShortNames as a plain function. Conditions: the texts and the integers lie where the slices say; there are at most 1,000 of both, each text no longer than an int says.
  Proved: the reference's rowNames and CheckRows return the same plain functions as those of package field. Conditions: the rows lie where the slice says, at most 1,000 of them, with names no longer than an int says, and at most 1,000 trials each.
-/
import Derived.Test.YthgkaojplomapaaGreatDoorFrc
import Derived.Test.YthgkaojplomapaaGreatDoorFb
section
set_option linter.unusedVariables false
set_option linter.unusedSimpArgs false
open Go Go.Proofs Go.RowKit
set_option maxRecDepth 100000
namespace Go.Mk
def OwnPlR (w : World) (B : Nat) (v : Value) (L : List Plc) : Prop := w.ownsRow B 126 5 v L.length (L.flatMap Plc.cells)
theorem OwnPlR.next {w1 : World} {B : Nat} {v' : Value} {L : List Plc} {p : Plc} (h : w1.ownsRow B 126 5 v' (L.length + 1) (L.flatMap Plc.cells ++ p.cells)) : OwnPlR w1 B v' (L ++ [p]) := by
  unfold OwnPlR
  rw [List.length_append, List.flatMap_append]
  simpa using h
theorem OwnPlR.low {w : World} {B B' : Nat} {v : Value} {L : List Plc} (h : OwnPlR w B v L) (hB : B' ≤ B) : OwnPlR w B' v L := by
  refine ⟨h.1, ?_⟩
  rcases h.2 with q | ⟨g, cap, cur, a, b, c⟩
  · exact .inl q
  · exact .inr ⟨g, cap, cur, a, Nat.le_trans hB b, c⟩
def byRk (L : List Plc) (r : Nat) : List Plc := L.filter fun p => decide (p.rk = (r : Int) + 1)
def noRk (L : List Plc) : List Plc := L.filter fun p => decide (p.rk = 0)
def ordP (n : Nat) (L : List Plc) : List Plc := (List.range n).flatMap (byRk L) ++ noRk L
end Go.Mk
end
section
set_option linter.unusedVariables false
set_option linter.unusedSimpArgs false
open Go Go.Proofs Go.RowKit
set_option maxRecDepth 100000
namespace Go.Mk
theorem three_blk {w : World} {g : Nat} {a b c : Value} {t : TypeId} (k : w.heap[g]? = some (.cells #[a, b, c] t (0, 0))) : (w.cell? ⟨g, 0, none⟩ = some a ∧ w.cell? ⟨g, 1, none⟩ = some b ∧ w.cell? ⟨g, 2, none⟩ = some c) ∧ (w.frozen? ⟨g, 0, none⟩ = false ∧ w.frozen? ⟨g, 1, none⟩ = false ∧ w.frozen? ⟨g, 2, none⟩ = false) :=
  ⟨⟨Go.Joins.cell_of_block k 0, Go.Joins.cell_of_block k 1, Go.Joins.cell_of_block k 2⟩, Go.Joins.unfrozen_of_block k 0, Go.Joins.unfrozen_of_block k 1, Go.Joins.unfrozen_of_block k 2⟩
end Go.Mk
end
section
set_option linter.unusedVariables false
set_option linter.unusedSimpArgs false
open Go Go.Proofs Go.RowKit
set_option maxRecDepth 100000
namespace Go.Mk
set_option maxHeartbeats 4000000 in
theorem r6checkName_any (L : List ByteArray) (n c k : Nat) (A : Option Addr) (s : ByteArray) (w : World) (hZ : TextsZ w A n L) (hn : n ≤ 1000) (hk : L[k]? = some s) (hz : s.size ≤ maxLen) :
    Calls Tryz.prog 71 #[.slice A n c, .int .i64 k] w (RetPost (.int .i64 (twE (L.take k) s)) w) := by
  have hkn : k < n := by have := (List.getElem?_eq_some_iff.1 hk).1; rw [hZ.1] at this; exact this
  have hN := fun w => refIsName_any s w hz
  obtain ⟨b, off, x, rfl, hbl, hx, hcx⟩ := hZ.at_ hkn
  rw [hk] at hx
  obtain rfl : s = x := Option.some.inj hx
  have hni : (n : Int) ≤ 1000 := by omega
  have hki : (k : Int) < (n : Int) := by omega
  have hk0 : (0 : Int) ≤ (k : Int) := by omega
  have hkt : ((k : Int)).toNat = k := by omega
  obtain ⟨y, hy⟩ : ∃ y, twE (L.take k) s = y := ⟨_, rfl⟩
  rw [hy]
  unfold twE nmE at hy
  cases hnb : isNm s with
  | false =>
    rw [hnb] at hy hN
    have hy8 : y = 8 := by rw [← hy]; simp [fstN]
    subst hy8
    clear hy hZ hk hx hnb
    go_enter Tryz.func71, Tryz.ntmps71
    go_wp2_with fail
    refine (hN _).mono ?_
    rintro e w1 ⟨rfl, rfl⟩
    go_wp2
    go_ret
    exact ⟨rfl, Below.refl _ _⟩
  | true =>
    rw [hnb] at hy hN
    have HT : Hid (isIn (L.take k) s = true → y = 9) := Lib.hid fun h => by rw [← hy, h]; simp [fstN]
    have HF : Hid (isIn (L.take k) s = false → y = 0) := Lib.hid fun h => by rw [← hy, h]; simp [fstN]
    have HM : Hid (∀ w', Below w.heap.size w w' → TextsZ w' (some ⟨b, off, none⟩) n L ∧ w'.cell? ⟨b, off + k, none⟩ = some (.string s)) := Lib.hid fun w' hb => ⟨hZ.below hb, (hb.cell (p := ⟨b, _, none⟩) hbl).trans hcx⟩
    clear hy hZ hk hx hnb
    go_enter Tryz.func71, Tryz.ntmps71
    go_wp2_with fail
    refine (hN _).mono ?_
    rintro e w1 ⟨rfl, rfl⟩
    go_wp2
    go_loopw [5] (fun i wr => ∃ j : Nat, j ≤ k ∧ i = .int .i64 j ∧ Hid (isIn (L.take j) s = false) ∧ Below w.heap.size w wr) (fun i _ => k - (intOf i).toNat)
    case atStart => exact ⟨0, by omega, rfl, Lib.hid rfl, Below.refl _ _⟩
    case round =>
      obtain ⟨j, hj, rfl, HK, hb⟩ := hrel
      by_cases hlt : j < k
      · obtain ⟨hZr, ck⟩ := HM.out _ hb
        obtain ⟨b', off', t, hA, _, hLj, cj⟩ := hZr.at_ (show j < n by omega)
        cases hA
        have hji : (j : Int) < (k : Int) := by omega
        have hjn : (j : Int) < (n : Int) := by omega
        have hj0 : (0 : Int) ≤ (j : Int) := by omega
        have hjt : ((j : Int)).toNat = j := by omega
        by_cases g : t = s
        · have hin : isIn (L.take k) s = true := isIn_mem.2 (by rw [← g]; exact List.mem_of_getElem? (show (L.take k)[j]? = some t by rw [List.getElem?_take_of_lt hlt]; exact hLj))
          obtain rfl : y = 9 := HT.out hin
          have gb : (t.toList == s.toList) = true := by rw [g]; simp
          clear hLj g HK hin hZr
          go_wp2_with fail
          go_quiet (fail)
          go_wp2
          go_ret
          exact ⟨rfl, below_drewN hb _⟩
        · have HK2 : Hid (isIn (L.take (j + 1)) s = false) := (show _ = _ by rw [isIn_take hLj, HK.out, decide_eq_false g]; rfl)
          have gb : (t.toList == s.toList) = false := tl_ne g
          clear hLj g HK hZr
          go_wp2_with fail
          go_quiet (fail)
          go_wp2
          exact ⟨⟨j + 1, by omega, by go_num, HK2, below_drewN hb _⟩, by simp [intOf]; omega⟩
      · obtain rfl : j = k := by omega
        obtain rfl : y = 0 := HF.out HK.out
        go_wp2
        go_ret
        exact ⟨rfl, hb⟩
def shNm (L : List ByteArray) : Bool := decide (L.length ≤ 35) && L.all fun s => decide (s.size ≤ 40)
end Go.Mk
end
section
set_option linter.unusedVariables false
set_option linter.unusedSimpArgs false
open Go Go.Proofs Go.RowKit
set_option maxRecDepth 100000
namespace Go.Mk
set_option maxHeartbeats 4000000 in
theorem r6rowNames_any (L : List RowR) (n cap : Nat) (A : Option Addr) (w : World) (hZ : Rows w A n L) (hn : n ≤ 1000) :
    Calls Tryz.prog 70 #[.slice A n cap] w (fun e w' => ∃ v, e = .returned v ∧ OwnNames w' w.heap.size v (L.map (·.s)) ∧ Below w.heap.size w w') := by
  obtain ⟨i0, hi, hz0, hz1, hz2⟩ := info_parts infoStr
  have hni : (n : Int) ≤ 1000 := by omega
  have H := Lib.hid hZ
  have HL := Lib.hid hZ.1
  clear hZ
  go_enter Tryz.func70, Tryz.ntmps70
  go_wp2
  go_loopw [3, 4] (fun v i wr => ∃ k : Nat, k ≤ n ∧ i = .int .i64 k ∧ OwnNames wr w.heap.size v ((L.take k).map (·.s)) ∧ Below w.heap.size w wr) (fun _ i _ => n - (RowKit.intOf i).toNat)
  case atStart => exact ⟨0, by omega, rfl, World.ownsRow_nil _ _ _ _, Below.refl _ _⟩
  case round =>
    obtain ⟨k, hk, rfl, hown, hb⟩ := hrel
    by_cases hlt : k < n
    · obtain ⟨b', off, r, rfl, hbl, hx, ⟨hc0, hc1, hc2⟩, _, _⟩ := (H.out.below hb).at_ hlt
      have hki : (k : Int) < (n : Int) := by omega
      have hk0 : (0 : Int) ≤ (k : Int) := by omega
      have hkt : ((k : Int)).toNat = k := by omega
      have hlen : ((L.take k).map (·.s)).length = k := by rw [List.length_map, List.length_take, HL.out]; omega
      have hst : (L.take (k + 1)).map (·.s) = (L.take k).map (·.s) ++ [r.s] := by rw [List.take_add_one, hx, Option.toList_some, List.map_append]; rfl
      have Hst := Lib.hid hst
      have Hlen := Lib.hid hlen
      clear hst hlen hx
      generalize r.s = rs at *
      go_wp2_with (at_builtin; refine wpList_append_own _ rfl _ _ 22 rfl w.heap.size 9 i0 (.string ⟨#[]⟩) 1 16 Tryz.underlying22 hi hz0 hz1 hz2 rfl (by decide) _ _ _ rfl (World.ownsRow.alloc hown _) ⟨wr.heap.size, 0, none⟩ 1 1 [.string rs] rfl rfl ?c1 ?c2 ?c3 ?c4 ?c5 ?_)
      case c2 => rfl
      case c3 => unfold maxLen; have := Hlen.out; omega
      case c4 => have := Hlen.out; omega
      case c5 => have := hb.size; simp; omega
      intro v' w2 hown' hgrow _
      have hb2 : Below w.heap.size w w2 := (hb.alloc hb.size _).grown hgrow (by have := hb.size; simp; omega) (fun r hr => (World.ownsRow.lt hown r hr).1)
      have ho2 : OwnNames w2 w.heap.size v' ((L.take (k + 1)).map (·.s)) := by
        rw [Hst.out]
        refine OwnNames.next ?_
        simpa using hown'
      clear hown' hgrow hown hb hc0 hc1 hc2
      go_wp2
      go_roundw
      case rel => exact ⟨k + 1, by omega, by go_num, ho2, hb2⟩
      case measure => simp [RowKit.intOf]; omega
    · have hkn : k = n := by omega
      rw [hkn, List.take_of_length_le (by rw [HL.out]; omega)] at hown
      have HO := Lib.hid hown
      clear hown
      go_wp2
      go_ret
      exact ⟨_, rfl, HO.out, hb⟩
def row0E (P : List ByteArray) (r : RowR) : Int := if twE P r.s = 0 then (if 6 < r.n then 5 else 0) else twE P r.s
theorem rowE_of0 (P : List ByteArray) (r : RowR) : (row0E P r ≠ 0 → rowE P r = row0E P r) ∧ (row0E P r = 0 → rowE P r = trsE r.T) := by
  unfold row0E rowE trialsE
  simp only [fstN]
  by_cases h1 : twE P r.s = 0
  · rw [if_pos h1, if_pos h1]
    by_cases h2 : 6 < r.n
    · rw [if_pos h2, if_pos h2]; simp
    · rw [if_neg h2, if_neg h2]
      refine ⟨fun h => absurd rfl h, fun _ => ?_⟩
      split <;> simp_all
  · rw [if_neg h1, if_neg h1]
    exact ⟨fun _ => rfl, fun h => absurd h h1⟩
set_option maxHeartbeats 8000000 in
theorem r6CheckRows_any (L : List RowR) (n cap : Nat) (A : Option Addr) (w : World) (hZ : Rows w A n L) (hn : n ≤ 1000) (hs : ∀ r ∈ L, r.s.size ≤ maxLen ∧ r.n ≤ 1000) :
    Calls Tryz.prog 22 #[.slice A n cap] w (RetPost (.int .i64 (rowsE L)) w) := by
  have hN := r6rowNames_any L n cap A w hZ hn
  have H := Lib.hid hZ
  have HL := Lib.hid hZ.1
  have HS := Lib.hid hs
  have hni : (n : Int) ≤ 1000 := by omega
  unfold rowsE
  rw [hZ.1]
  clear hZ hs
  by_cases h32 : 32 < n
  · have h32i : (32 : Int) < (n : Int) := by omega
    rw [if_pos h32]
    clear hN
    go_enter Tryz.func22, Tryz.ntmps22
    go_wp2
    go_ret
    exact ⟨rfl, Below.refl _ _⟩
  · have h32i : ¬ (32 : Int) < (n : Int) := by omega
    rw [if_neg h32]
    obtain ⟨y, hy⟩ : ∃ y, rwsE [] L = y := ⟨_, rfl⟩
    rw [hy]
    have HY : Hid (rwsE ((L.map (·.s)).take 0) (L.drop 0) = y) := Lib.hid (by rw [← hy]; rfl)
    clear hy
    go_enter Tryz.func22, Tryz.ntmps22
    go_wp2_with fail
    refine hN.mono ?_
    rintro e w2 ⟨v2, rfl, ho2, hb2⟩
    obtain ⟨A2, c2, rfl, hc2, _, hT2⟩ := TextsZ.of_own ho2
    rw [List.length_map, HL.out] at hT2 hc2 ⊢
    have HT2 := Lib.hid hT2
    have HB2 := Lib.hid hb2
    clear ho2 hT2 hb2 hN
    go_wp2
    go_loopw [4] (fun i wr => ∃ k : Nat, k ≤ n ∧ i = .int .i64 k ∧ Hid (rwsE ((L.map (·.s)).take k) (L.drop k) = y) ∧ Below w2.heap.size w2 wr) (fun i _ => n - (RowKit.intOf i).toNat)
    case atStart => exact ⟨0, by omega, rfl, HY, Below.refl _ _⟩
    case round =>
      obtain ⟨k, hk, rfl, HK, hb⟩ := hrel
      by_cases hlt : k < n
      · have hbw : Below w.heap.size w wr := bstep HB2.out hb
        obtain ⟨b', off, r, rfl, hbl, hx, ⟨hc0, hc1, hcd⟩, hT, hcap⟩ := H.out.at_ hlt
        have hki : (k : Int) < (n : Int) := by omega
        have hk0 : (0 : Int) ≤ (k : Int) := by omega
        have hkt : ((k : Int)).toNat = k := by omega
        obtain ⟨hr1, hr2⟩ := HS.out r (List.mem_of_getElem? hx)
        have hrn : (r.n : Int) ≤ 1000 := by omega
        have hst := HK.out
        rw [rwsE_drop hx] at hst
        have hC := fun w' h => r6checkName_any (L.map (·.s)) n c2 k A2 r.s w' h hn (by rw [List.getElem?_map, hx]; rfl) hr1
        have HC := Lib.hid (hC wr (HT2.out.below hb))
        obtain ⟨hE1, hE2⟩ := rowE_of0 ((L.map (·.s)).take k) r
        have HPN : Hid ((L.map (·.s)).take k ++ [r.s] = (L.map (·.s)).take (k + 1)) := Lib.hid (by rw [List.take_add_one, List.getElem?_map, hx]; rfl)
        rw [← HPN.out] at hst
        generalize (L.map (·.s)).take k = P at *
        obtain ⟨E, hE⟩ : ∃ E, rowE P r = E := ⟨_, rfl⟩
        rw [hE] at hst hE1 hE2
        have HE1 := Lib.hid hE1
        have HE2 := Lib.hid hE2
        have HTZ : Hid (∀ w', Below w2.heap.size w2 w' → (w'.cell? ⟨b', off + k * 3 + 1, none⟩ = some (.slice r.A r.n r.c)) ∧ IntsZ w' r.A r.n r.T) := Lib.hid fun w' hb' =>
          have hq := bstep HB2.out hb'
          ⟨(hq.cell (p := ⟨b', _, none⟩) hbl).trans hc1, hT.below hq⟩
        have Hst := Lib.hid hst
        have HB := Lib.hid hb
        obtain ⟨x1, _⟩ := HTZ.out wr hb
        obtain ⟨tw, htw⟩ : ∃ tw, twE P r.s = tw := ⟨_, rfl⟩
        rw [htw] at HC
        have hr0 : row0E P r = if tw = 0 then (if 6 < r.n then 5 else 0) else tw := by unfold row0E; rw [htw]
        rw [hr0] at HE1 HE2
        clear hst hx hT hcap hc0 hc1 hcd hbw hb HK hE hE1 hE2 hC hbl htw hr0
        have HK2 : Hid True := Lib.hid trivial
        go_wp2_with fail
        refine HC.out.mono ?_
        rintro e w5 ⟨rfl, hb5⟩
        have HB5 := Lib.hid (bstep HB.out hb5)
        obtain ⟨x1, _⟩ := HTZ.out w5 HB5.out
        clear hb5
        by_cases htw : tw = 0
        · subst htw
          rw [if_pos rfl] at HE1 HE2
          by_cases h6 : 6 < r.n
          · have h6i : (6 : Int) < (r.n : Int) := by omega
            rw [if_pos h6] at HE1 HE2
            go_wp2
            go_loopw [5, 6] (fun ev i wx => ∃ (j : Nat) (z : Int), j ≤ r.n ∧ i = .int .i64 j ∧ ev = .int .i64 z ∧ Hid ((z = 0 ∧ E = trsE (r.T.drop j)) ∨ (z ≠ 0 ∧ z = E)) ∧ Below w2.heap.size w2 wx) (fun ev i _ => if RowKit.intOf ev = 0 then r.n + 1 - (RowKit.intOf i).toNat else 0)
            case atStart => exact ⟨0, 5, by omega, rfl, rfl, Lib.hid (.inr ⟨by decide, (HE1.out (by decide)).symm⟩), HB5.out⟩
            case round =>
              obtain ⟨j, z, hj, rfl, rfl, HZ, hbx⟩ := hrel
              obtain ⟨x1, hIx⟩ := HTZ.out _ hbx
              have HBX := Lib.hid hbx
              by_cases hz : z = 0
              · subst hz
                have hZ : E = trsE (r.T.drop j) := by rcases HZ.out with h | h
                                                      · exact h.2
                                                      · exact absurd rfl h.1
                by_cases hjn : j < r.n
                · obtain ⟨b5, o5, t, hA5, _, ht, hct⟩ := hIx.cellAt hjn
                  rw [trsE_drop ht] at hZ
                  rw [hA5] at x1
                  have hji : (j : Int) < (r.n : Int) := by omega
                  have hj0 : (0 : Int) ≤ (j : Int) := by omega
                  have hjt : ((j : Int)).toNat = j := by omega
                  clear hIx hA5 ht hbx HZ
                  by_cases h1 : t < -2
                  · have hr3 : rngE t (-2) 999999 = 3 := by unfold rngE; rw [if_pos (.inl h1)]
                    rw [hr3, if_neg (by decide)] at hZ
                    have HZ3 := Lib.hid hZ
                    clear hZ hr3
                    go_wp2
                    go_roundw
                    case rel => exact ⟨j + 1, 3, by omega, by go_num, rfl, Lib.hid (.inr ⟨by decide, HZ3.out.symm⟩), HBX.out⟩
                    case measure => simp [RowKit.intOf]; omega
                  · by_cases h2 : 999999 < t
                    · have hr3 : rngE t (-2) 999999 = 3 := by unfold rngE; rw [if_pos (.inr h2)]
                      rw [hr3, if_neg (by decide)] at hZ
                      have HZ3 := Lib.hid hZ
                      clear hZ hr3
                      go_wp2
                      go_roundw
                      case rel => exact ⟨j + 1, 3, by omega, by go_num, rfl, Lib.hid (.inr ⟨by decide, HZ3.out.symm⟩), HBX.out⟩
                      case measure => simp [RowKit.intOf]; omega
                    · have hr3 : rngE t (-2) 999999 = 0 := by unfold rngE; rw [if_neg (by omega)]
                      rw [hr3, if_pos rfl] at hZ
                      have HZ3 := Lib.hid hZ
                      clear hZ hr3
                      go_wp2
                      go_roundw
                      case rel => exact ⟨j + 1, 0, by omega, by go_num, rfl, Lib.hid (.inl ⟨rfl, HZ3.out⟩), HBX.out⟩
                      case measure => simp [RowKit.intOf]; omega
                · have hjn' : j = r.n := by omega
                  rw [show r.T.drop j = [] from List.drop_eq_nil_of_le (by rw [hIx.1]; omega), trsE] at hZ
                  have hEst := Hst.out
                  rw [hZ, if_pos rfl] at hEst
                  have HEst := Lib.hid hEst
                  have hjni : ¬ (j : Int) < (r.n : Int) := by omega
                  clear hEst hZ hIx hbx HZ
                  go_wp2
                  go_roundw
                  case rel => exact ⟨k + 1, by omega, by go_num, by have := HEst.out; rwa [HPN.out] at this, HBX.out⟩
                  case measure => simp [RowKit.intOf]; omega
              · have hZ : z = E := by rcases HZ.out with h | h
                                      · exact absurd h.1 hz
                                      · exact h.2
                have hzb : (z == 0) = false := by simp [hz]
                have hzn : (z != 0) = true := by simp [hz]
                have hyE : y = z := by have := Hst.out; rw [if_neg (by rw [← hZ]; exact hz)] at this; rw [← this, hZ]
                have HBW := Lib.hid (bstep HB2.out hbx)
                subst hyE
                clear hZ hIx hbx HZ Hst HE1 HE2 HK2
                by_cases hjn : j < r.n
                · have hji : (j : Int) < (r.n : Int) := by omega
                  go_wp2
                  go_ret
                  exact ⟨rfl, HBW.out⟩
                · have hji : ¬ (j : Int) < (r.n : Int) := by omega
                  go_wp2
                  go_ret
                  exact ⟨rfl, HBW.out⟩
          · have h6i : ¬ (6 : Int) < (r.n : Int) := by omega
            rw [if_neg h6] at HE1 HE2
            go_wp2
            go_loopw [5, 6] (fun ev i wx => ∃ (j : Nat) (z : Int), j ≤ r.n ∧ i = .int .i64 j ∧ ev = .int .i64 z ∧ Hid ((z = 0 ∧ E = trsE (r.T.drop j)) ∨ (z ≠ 0 ∧ z = E)) ∧ Below w2.heap.size w2 wx) (fun ev i _ => if RowKit.intOf ev = 0 then r.n + 1 - (RowKit.intOf i).toNat else 0)
            case atStart => exact ⟨0, 0, by omega, rfl, rfl, Lib.hid (.inl ⟨rfl, by rw [List.drop_zero]; exact HE2.out (by first | trivial | rfl)⟩), HB5.out⟩
            case round =>
              obtain ⟨j, z, hj, rfl, rfl, HZ, hbx⟩ := hrel
              obtain ⟨x1, hIx⟩ := HTZ.out _ hbx
              have HBX := Lib.hid hbx
              by_cases hz : z = 0
              · subst hz
                have hZ : E = trsE (r.T.drop j) := by rcases HZ.out with h | h
                                                      · exact h.2
                                                      · exact absurd rfl h.1
                by_cases hjn : j < r.n
                · obtain ⟨b5, o5, t, hA5, _, ht, hct⟩ := hIx.cellAt hjn
                  rw [trsE_drop ht] at hZ
                  rw [hA5] at x1
                  have hji : (j : Int) < (r.n : Int) := by omega
                  have hj0 : (0 : Int) ≤ (j : Int) := by omega
                  have hjt : ((j : Int)).toNat = j := by omega
                  clear hIx hA5 ht hbx HZ
                  by_cases h1 : t < -2
                  · have hr3 : rngE t (-2) 999999 = 3 := by unfold rngE; rw [if_pos (.inl h1)]
                    rw [hr3, if_neg (by decide)] at hZ
                    have HZ3 := Lib.hid hZ
                    clear hZ hr3
                    go_wp2
                    go_roundw
                    case rel => exact ⟨j + 1, 3, by omega, by go_num, rfl, Lib.hid (.inr ⟨by decide, HZ3.out.symm⟩), HBX.out⟩
                    case measure => simp [RowKit.intOf]; omega
                  · by_cases h2 : 999999 < t
                    · have hr3 : rngE t (-2) 999999 = 3 := by unfold rngE; rw [if_pos (.inr h2)]
                      rw [hr3, if_neg (by decide)] at hZ
                      have HZ3 := Lib.hid hZ
                      clear hZ hr3
                      go_wp2
                      go_roundw
                      case rel => exact ⟨j + 1, 3, by omega, by go_num, rfl, Lib.hid (.inr ⟨by decide, HZ3.out.symm⟩), HBX.out⟩
                      case measure => simp [RowKit.intOf]; omega
                    · have hr3 : rngE t (-2) 999999 = 0 := by unfold rngE; rw [if_neg (by omega)]
                      rw [hr3, if_pos rfl] at hZ
                      have HZ3 := Lib.hid hZ
                      clear hZ hr3
                      go_wp2
                      go_roundw
                      case rel => exact ⟨j + 1, 0, by omega, by go_num, rfl, Lib.hid (.inl ⟨rfl, HZ3.out⟩), HBX.out⟩
                      case measure => simp [RowKit.intOf]; omega
                · have hjn' : j = r.n := by omega
                  rw [show r.T.drop j = [] from List.drop_eq_nil_of_le (by rw [hIx.1]; omega), trsE] at hZ
                  have hEst := Hst.out
                  rw [hZ, if_pos rfl] at hEst
                  have HEst := Lib.hid hEst
                  have hjni : ¬ (j : Int) < (r.n : Int) := by omega
                  clear hEst hZ hIx hbx HZ
                  go_wp2
                  go_roundw
                  case rel => exact ⟨k + 1, by omega, by go_num, by have := HEst.out; rwa [HPN.out] at this, HBX.out⟩
                  case measure => simp [RowKit.intOf]; omega
              · have hZ : z = E := by rcases HZ.out with h | h
                                      · exact absurd h.1 hz
                                      · exact h.2
                have hzb : (z == 0) = false := by simp [hz]
                have hzn : (z != 0) = true := by simp [hz]
                have hyE : y = z := by have := Hst.out; rw [if_neg (by rw [← hZ]; exact hz)] at this; rw [← this, hZ]
                have HBW := Lib.hid (bstep HB2.out hbx)
                subst hyE
                clear hZ hIx hbx HZ Hst HE1 HE2 HK2
                by_cases hjn : j < r.n
                · have hji : (j : Int) < (r.n : Int) := by omega
                  go_wp2
                  go_ret
                  exact ⟨rfl, HBW.out⟩
                · have hji : ¬ (j : Int) < (r.n : Int) := by omega
                  go_wp2
                  go_ret
                  exact ⟨rfl, HBW.out⟩
        · rw [if_neg htw] at HE1 HE2
          have hzb : (tw == 0) = false := by simp [htw]
          go_wp2
          go_loopw [5, 6] (fun ev i wx => ∃ (j : Nat) (z : Int), j ≤ r.n ∧ i = .int .i64 j ∧ ev = .int .i64 z ∧ Hid ((z = 0 ∧ E = trsE (r.T.drop j)) ∨ (z ≠ 0 ∧ z = E)) ∧ Below w2.heap.size w2 wx) (fun ev i _ => if RowKit.intOf ev = 0 then r.n + 1 - (RowKit.intOf i).toNat else 0)
          case atStart => exact ⟨0, tw, by omega, rfl, rfl, Lib.hid (.inr ⟨htw, (HE1.out htw).symm⟩), HB5.out⟩
          case round =>
            obtain ⟨j, z, hj, rfl, rfl, HZ, hbx⟩ := hrel
            obtain ⟨x1, hIx⟩ := HTZ.out _ hbx
            have HBX := Lib.hid hbx
            by_cases hz : z = 0
            · subst hz
              have hZ : E = trsE (r.T.drop j) := by rcases HZ.out with h | h
                                                    · exact h.2
                                                    · exact absurd rfl h.1
              by_cases hjn : j < r.n
              · obtain ⟨b5, o5, t, hA5, _, ht, hct⟩ := hIx.cellAt hjn
                rw [trsE_drop ht] at hZ
                rw [hA5] at x1
                have hji : (j : Int) < (r.n : Int) := by omega
                have hj0 : (0 : Int) ≤ (j : Int) := by omega
                have hjt : ((j : Int)).toNat = j := by omega
                clear hIx hA5 ht hbx HZ
                by_cases h1 : t < -2
                · have hr3 : rngE t (-2) 999999 = 3 := by unfold rngE; rw [if_pos (.inl h1)]
                  rw [hr3, if_neg (by decide)] at hZ
                  have HZ3 := Lib.hid hZ
                  clear hZ hr3
                  go_wp2
                  go_roundw
                  case rel => exact ⟨j + 1, 3, by omega, by go_num, rfl, Lib.hid (.inr ⟨by decide, HZ3.out.symm⟩), HBX.out⟩
                  case measure => simp [RowKit.intOf]; omega
                · by_cases h2 : 999999 < t
                  · have hr3 : rngE t (-2) 999999 = 3 := by unfold rngE; rw [if_pos (.inr h2)]
                    rw [hr3, if_neg (by decide)] at hZ
                    have HZ3 := Lib.hid hZ
                    clear hZ hr3
                    go_wp2
                    go_roundw
                    case rel => exact ⟨j + 1, 3, by omega, by go_num, rfl, Lib.hid (.inr ⟨by decide, HZ3.out.symm⟩), HBX.out⟩
                    case measure => simp [RowKit.intOf]; omega
                  · have hr3 : rngE t (-2) 999999 = 0 := by unfold rngE; rw [if_neg (by omega)]
                    rw [hr3, if_pos rfl] at hZ
                    have HZ3 := Lib.hid hZ
                    clear hZ hr3
                    go_wp2
                    go_roundw
                    case rel => exact ⟨j + 1, 0, by omega, by go_num, rfl, Lib.hid (.inl ⟨rfl, HZ3.out⟩), HBX.out⟩
                    case measure => simp [RowKit.intOf]; omega
              · have hjn' : j = r.n := by omega
                rw [show r.T.drop j = [] from List.drop_eq_nil_of_le (by rw [hIx.1]; omega), trsE] at hZ
                have hEst := Hst.out
                rw [hZ, if_pos rfl] at hEst
                have HEst := Lib.hid hEst
                have hjni : ¬ (j : Int) < (r.n : Int) := by omega
                clear hEst hZ hIx hbx HZ
                go_wp2
                go_roundw
                case rel => exact ⟨k + 1, by omega, by go_num, by have := HEst.out; rwa [HPN.out] at this, HBX.out⟩
                case measure => simp [RowKit.intOf]; omega
            · have hZ : z = E := by rcases HZ.out with h | h
                                    · exact absurd h.1 hz
                                    · exact h.2
              have hzb : (z == 0) = false := by simp [hz]
              have hzn : (z != 0) = true := by simp [hz]
              have hyE : y = z := by have := Hst.out; rw [if_neg (by rw [← hZ]; exact hz)] at this; rw [← this, hZ]
              have HBW := Lib.hid (bstep HB2.out hbx)
              subst hyE
              clear hZ hIx hbx HZ Hst HE1 HE2 HK2
              by_cases hjn : j < r.n
              · have hji : (j : Int) < (r.n : Int) := by omega
                go_wp2
                go_ret
                exact ⟨rfl, HBW.out⟩
              · have hji : ¬ (j : Int) < (r.n : Int) := by omega
                go_wp2
                go_ret
                exact ⟨rfl, HBW.out⟩
      · have hkn : k = n := by omega
        have h0 := HK.out
        rw [show L.drop k = [] from List.drop_eq_nil_of_le (by rw [HL.out]; omega), rwsE] at h0
        subst h0
        have HB := Lib.hid (bstep HB2.out hb)
        clear hb HK
        go_wp2
        go_ret
        exact ⟨rfl, HB.out⟩
end Go.Mk
end
