/-
  Proved: the legs of a relay: the first error of their lengths, and their sum, by package track. Conditions: the legs lie where the slice says; there are at most a hundred.
  Proved: the error of the zones of a relay by package track, as a plain function of what machine integers reckon. Conditions: the legs lie where the slice says; there are two to a hundred.
-/
import Derived.Test.YtickjnahdeikfaaGreatDoorYa
section
set_option linter.unusedVariables false
set_option linter.unusedSimpArgs false
open Go Go.Proofs Go.RowKit
set_option maxRecDepth 100000
namespace Go.Mk
theorem trLegC_any (i x : Int) (w : World) : Calls Tryz.prog 61 #[.int .i64 i, .int .i64 x] w (RetSame (.int .i64 (rngE x 1 999999)) w) := by
  have hL := trLength_any x
  go_enter Tryz.func61, Tryz.ntmps61
  go_wp2_with fail
  refine (hL _).mono ?_
  rintro e w' ⟨rfl, rfl⟩
  go_wp2
  go_ret
  exact ⟨rfl, rfl⟩
def LegF : Value := .func (.func 61) #[] #[]
theorem IntsZ.cellAt {w : World} {A : Option Addr} {n : Nat} {L : List Int} (h : IntsZ w A n L) {k : Nat} (hk : k < n) : ∃ b off x, A = some ⟨b, off, none⟩ ∧ b < w.heap.size ∧ L[k]? = some x ∧ w.cell? ⟨b, off + k, none⟩ = some (.int .i64 x) := by
  obtain ⟨b, off, e, hlt, hc⟩ := h.2 (by omega)
  have hl : k < L.length := by rw [h.1]; exact hk
  exact ⟨b, off, L[k], e, hlt, List.getElem?_eq_getElem hl, hc k L[k] (List.getElem?_eq_getElem hl)⟩
theorem legs_drop (L : List Int) (k : Nat) (x : Int) (h : L[k]? = some x) : fstN ((L.map fun x => rngE x 1 999999).drop k) = if rngE x 1 999999 = 0 then fstN ((L.map fun x => rngE x 1 999999).drop (k + 1)) else rngE x 1 999999 :=
  fstN_drop _ k _ (by rw [List.getElem?_map, h]; rfl)
theorem trFirstInt_any (L : List Int) (n cap : Nat) (A : Option Addr) (w : World) (hZ : IntsZ w A n L) (hn : n ≤ 100) :
    Calls Tryz.prog 60 #[.slice A n cap, LegF] w (fun e w' => ∃ at_ : Int, e = .returned (.tuple #[.int .i64 at_, .int .i64 (fstN (L.map fun x => rngE x 1 999999))]) ∧ w = w') := by
  unfold LegF
  have hni : (n : Int) ≤ 100 := by omega
  have H := Lib.hid hZ
  have Hn := Lib.hid hZ.1
  obtain ⟨y, hy⟩ : ∃ y, fstN (L.map fun x => rngE x 1 999999) = y := ⟨_, rfl⟩
  rw [hy]
  have HY : Hid (fstN ((L.map fun x => rngE x 1 999999).drop 0) = y) := by rw [← hy]; rfl
  clear hZ hy
  go_enter Tryz.func60, Tryz.ntmps60
  go_wp2
  go_loop [11] (fun i => ∃ k : Nat, k ≤ n ∧ i = .int .i64 k ∧ Hid (fstN ((L.map fun x => rngE x 1 999999).drop k) = y)) (fun i => n - (intOf i).toNat)
  case atStart => exact ⟨0, by omega, rfl, HY⟩
  case round =>
    obtain ⟨k, hk, rfl, HK⟩ := hrel
    by_cases hlt : k < n
    · obtain ⟨b, off, x, rfl, hbl, hx, hc⟩ := H.out.cellAt hlt
      have hst := legs_drop L k x hx
      rw [HK.out] at hst
      have hki : (k : Int) < (n : Int) := by omega
      have hC := fun w => trLegC_any (k : Int) x w
      obtain ⟨z, hz⟩ : ∃ z, rngE x 1 999999 = z := ⟨_, rfl⟩
      rw [hz] at hst hC
      clear hz hx
      by_cases h0 : z = 0
      · subst h0
        rw [if_pos rfl] at hst
        have Hst : Hid (fstN ((L.map fun x => rngE x 1 999999).drop (k + 1)) = y) := hst.symm
        clear hst HK
        go_wp2_with fail
        refine (hC _).mono ?_
        rintro e w' ⟨rfl, rfl⟩
        go_wp2
        exact ⟨⟨k + 1, by omega, by go_num, Hst⟩, by simp [intOf]; omega⟩
      · rw [if_neg h0] at hst
        subst hst
        have hb : (y != 0) = true := by rw [bne_iff_ne]; exact h0
        clear HK HY
        go_wp2_with fail
        refine (hC _).mono ?_
        rintro e w' ⟨rfl, rfl⟩
        go_wp2
        go_ret2
        exact ⟨_, rfl, rfl⟩
    · have hkn : k = n := by omega
      have h0 := HK.out
      rw [hkn, List.drop_of_length_le (by rw [List.length_map, Hn.out]; omega)] at h0
      have h0' : 0 = y := h0
      subst h0'
      go_wp2
      go_ret2
      exact ⟨⟨_, rfl⟩, rfl⟩
/-- The sum of the legs, as machine integers add. -/
def sumW : List Int → Int → Int
  | [], s => s
  | x :: l, s => sumW l (wrap64 (s + x))
theorem trDist_any (L : List Int) (n cap : Nat) (A : Option Addr) (z b : Int) (w : World) (hZ : IntsZ w A n L) (hn : n ≤ 100) :
    Calls Tryz.prog 98 #[.agg #[.slice A n cap, .int .i64 z, .int .i64 b]] w (RetPost (.int .i64 (sumW L 0)) w) := by
  have hni : (n : Int) ≤ 100 := by omega
  have hb0 : Below w.heap.size w (w.alloc (.cells #[.slice A n cap, .int .i64 z, .int .i64 b] 24)) := balloc _ (Below.refl _ _)
  have H := Lib.hid (hZ.below hb0)
  have Hn := Lib.hid hZ.1
  obtain ⟨y, hy⟩ : ∃ y, sumW L 0 = y := ⟨_, rfl⟩
  rw [hy]
  have HY : Hid (sumW (L.drop 0) 0 = y) := by rw [← hy]; rfl
  clear hZ hy
  go_enter Tryz.func98, Tryz.ntmps98
  go_wp2
  go_loop [3, 9] (fun s i => ∃ (k : Nat) (v : Int), k ≤ n ∧ i = .int .i64 k ∧ s = .int .i64 v ∧ Hid (sumW (L.drop k) v = y)) (fun _ i => n - (intOf i).toNat)
  case atStart => exact ⟨0, 0, by omega, rfl, rfl, HY⟩
  case round =>
    obtain ⟨k, v, hk, rfl, rfl, HK⟩ := hrel
    by_cases hlt : k < n
    · obtain ⟨b', off, x, rfl, hbl, hx, hc⟩ := H.out.cellAt hlt
      have hki : (k : Int) < (n : Int) := by omega
      have hd : L.drop k = x :: L.drop (k + 1) := by
        have hkl := (List.getElem?_eq_some_iff.1 hx).1
        rw [List.drop_eq_getElem_cons hkl, (List.getElem?_eq_some_iff.1 hx).2]
      have Hst : Hid (sumW (L.drop (k + 1)) (wrap64 (v + x)) = y) := Lib.hid (by have := HK.out; rw [hd] at this; exact this)
      clear HK hx hd
      go_wp2
      exact ⟨⟨k + 1, _, by omega, by go_num, rfl, Hst⟩, by simp [intOf]; omega⟩
    · have hkn : k = n := by omega
      have h0 := HK.out
      rw [hkn, List.drop_of_length_le (by rw [Hn.out]; omega)] at h0
      have h0' : v = y := h0
      subst h0'
      go_wp2
      go_ret
      exact ⟨rfl, hb0⟩
def pairC (r : Int × Int) : List Value := [.int .i64 r.1, .int .i64 r.2]
theorem infoPair : (Tryz.prog.info? 47).map (fun i => (i.zero, i.size, i.bytes)) = some (some (.agg #[.int .i64 0, .int .i64 0]), 2, 16) := by kernel_rfl
/-- A list of pairs in new memory. -/
def OwnPairs (w : World) (B : Nat) (v : Value) (L : List (Int × Int)) : Prop := w.ownsRow B 47 2 v L.length (L.flatMap pairC)
theorem OwnPairs.next {w1 : World} {B : Nat} {v' : Value} {L : List (Int × Int)} {r : Int × Int} (h : w1.ownsRow B 47 2 v' (L.length + 1) (L.flatMap pairC ++ pairC r)) : OwnPairs w1 B v' (L ++ [r]) := by
  unfold OwnPairs
  rw [List.length_append, List.flatMap_append]
  simpa using h
/-- The zones behind a sum of legs, as machine integers reckon. -/
def zonesW (z b : Int) : List Int → Int → List (Int × Int)
  | [], _ => []
  | x :: l, s => (wrap64 (wrap64 (s + x) - b), wrap64 (wrap64 (wrap64 (s + x) - b) + z)) :: zonesW z b l (wrap64 (s + x))
theorem zonesW_drop (z b : Int) {L : List Int} {k : Nat} {x : Int} (s : Int) (h : L[k]? = some x) : zonesW z b (L.drop k) s = (wrap64 (wrap64 (s + x) - b), wrap64 (wrap64 (wrap64 (s + x) - b) + z)) :: zonesW z b (L.drop (k + 1)) (wrap64 (s + x)) := by
  have hkl := (List.getElem?_eq_some_iff.1 h).1
  rw [List.drop_eq_getElem_cons hkl, (List.getElem?_eq_some_iff.1 h).2, zonesW]
set_option maxHeartbeats 4000000 in
theorem trZonesOf_any (L : List Int) (n cap : Nat) (A : Option Addr) (z b : Int) (w : World) (hZ : IntsZ w A (n + 1) L) (hn : n ≤ 100) (hc : n + 1 ≤ cap) :
    Calls Tryz.prog 49 #[.agg #[.slice A (n + 1) cap, .int .i64 z, .int .i64 b]] w (fun e w' => ∃ v, e = .returned v ∧ OwnPairs w' (w.heap.size + 1) v (zonesW z b (L.take n) 0) ∧ Below w.heap.size w w') := by
  have hni : (n : Int) ≤ 100 := by omega
  have hci : (n : Int) + 1 ≤ (cap : Int) := by omega
  obtain ⟨i0, hi, hz0, hz1, hz2⟩ := info_parts infoPair
  have hb0 : Below w.heap.size w (w.alloc (.cells #[.slice A (n + 1) cap, .int .i64 z, .int .i64 b] 24)) := balloc _ (Below.refl _ _)
  have H := Lib.hid (hZ.below hb0)
  have HL := Lib.hid hZ.1
  obtain ⟨F, hF⟩ : ∃ F, zonesW z b (L.take n) 0 = F := ⟨_, rfl⟩
  rw [hF]
  have HF := Lib.hid hF
  have HB0 := Lib.hid hb0
  have HC : Hid ((w.alloc (.cells #[.slice A (n + 1) cap, .int .i64 z, .int .i64 b] 24)).heap.size = w.heap.size + 1 ∧ ∀ w', Below (w.heap.size + 1) (w.alloc (.cells #[.slice A (n + 1) cap, .int .i64 z, .int .i64 b] 24)) w' → w'.cell? ⟨w.heap.size, 1, none⟩ = some (.int .i64 z) ∧ w'.cell? ⟨w.heap.size, 2, none⟩ = some (.int .i64 b)) :=
    Lib.hid ⟨by simp, fun w' hb => ⟨(hb.cell (p := ⟨w.heap.size, 1, none⟩) (by show w.heap.size < _; omega)).trans (by simp), (hb.cell (p := ⟨w.heap.size, 2, none⟩) (by show w.heap.size < _; omega)).trans (by simp)⟩⟩
  clear hZ hF hb0
  go_enter Tryz.func49, Tryz.ntmps49
  go_wp2
  obtain ⟨w1, hw1⟩ : ∃ w1, w.alloc (.cells #[.slice A (n + 1) cap, .int .i64 z, .int .i64 b] 24) = w1 := ⟨_, rfl⟩
  rw [hw1] at H HB0 HC ⊢
  obtain ⟨g0, hg0⟩ : ∃ g0, w.heap.size = g0 := ⟨_, rfl⟩
  have hsz := HC.out.1
  rw [hg0] at HC hsz ⊢
  clear hw1
  go_loopw [3, 4, 15] (fun v e i wr => ∃ (k : Nat) (s : Int) (P : List (Int × Int)), k ≤ n ∧ P.length = k ∧ i = .int .i64 k ∧ e = .int .i64 s ∧ Hid (P ++ zonesW z b ((L.take n).drop k) s = F) ∧ OwnPairs wr (g0 + 1) v P ∧ Below (g0 + 1) w1 wr) (fun _ _ i _ => n - (intOf i).toNat)
  case atStart => exact ⟨0, 0, [], by omega, rfl, rfl, rfl, Lib.hid (by rw [List.drop_zero]; exact HF.out), World.ownsRow_nil _ _ _ _, Below.refl _ _⟩
  case round =>
    obtain ⟨k, s, P, hk, hP, rfl, rfl, HK, hown, hb⟩ := hrel
    by_cases hlt : k < n
    · obtain ⟨b', off, x, rfl, hbl, hx, hc0⟩ := (H.out.below (by rw [hsz]; exact hb)).cellAt (show k < n + 1 by omega)
      have hki : (k : Int) < (n : Int) := by omega
      obtain ⟨c1, c2⟩ := HC.out.2 _ hb
      have hgr : g0 < wr.heap.size := by have := hb.size; omega
      have hst := HK.out
      rw [zonesW_drop z b s (show (L.take n)[k]? = some x by rw [List.getElem?_take_of_lt hlt]; exact hx)] at hst
      have Hst : Hid ((P ++ [(wrap64 (wrap64 (s + x) - b), wrap64 (wrap64 (wrap64 (s + x) - b) + z))]) ++ zonesW z b ((L.take n).drop (k + 1)) (wrap64 (s + x)) = F) := Lib.hid (by rw [← hst]; simp)
      clear hst HK hx
      go_wp2_with (at_builtin; refine wpList_append_own _ rfl _ _ 32 rfl (g0 + 1) 47 i0 (.agg #[.int .i64 0, .int .i64 0]) 2 16 Tryz.underlying32 hi hz0 hz1 hz2 rfl (by decide) _ _ _ rfl (World.ownsRow.alloc hown _) ⟨wr.heap.size, 0, none⟩ 1 1 (pairC (wrap64 (wrap64 (s + x) - b), wrap64 (wrap64 (wrap64 (s + x) - b) + z))) rfl rfl ?c1 ?c2 ?c3 ?c4 ?c5 ?_)
      case c1 =>
        intro j u hj
        match j, hj with
        | 0, hj => simp [pairC] at hj; subst hj; simp [Addr.add]
        | 1, hj => simp [pairC] at hj; subst hj; simp [Addr.add]
      case c2 => intro u hu; simp [pairC] at hu; rcases hu with rfl | rfl <;> rfl
      case c3 => unfold maxLen; omega
      case c4 => omega
      case c5 => have := hb.size; simp; omega
      intro v' w2 hown' hgrow _
      have hb2 : Below (g0 + 1) w1 w2 := (hb.alloc (by omega) _).grown hgrow (by have := hb.size; simp; omega) (fun r hr => (World.ownsRow.lt hown r hr).1)
      have ho2 : OwnPairs w2 (g0 + 1) v' (P ++ [(wrap64 (wrap64 (s + x) - b), wrap64 (wrap64 (wrap64 (s + x) - b) + z))]) := OwnPairs.next (by rw [hP]; simpa using hown')
      clear hown' hgrow hown hb
      go_wp2
      go_roundw
      case rel => exact ⟨k + 1, _, _, by omega, by simp [hP], by go_num, rfl, Hst, ho2, hb2⟩
      case measure => simp [intOf]; omega
    · have hkn : k = n := by omega
      have h0 := HK.out
      rw [hkn, List.drop_of_length_le (by rw [List.length_take, HL.out]; omega), zonesW, List.append_nil] at h0
      subst h0
      have hbw : Below w.heap.size w wr := HB0.out.trans (hb.mono (by omega))
      clear HK
      go_wp2
      go_ret
      exact ⟨_, rfl, by rw [hg0]; exact hown, hbw⟩
end Go.Mk
end
section
set_option linter.unusedVariables false
set_option linter.unusedSimpArgs false
open Go Go.Proofs Go.RowKit
set_option maxRecDepth 100000
namespace Go.Mk
theorem zonesW_len (z b : Int) : ∀ (L : List Int) (s : Int), (zonesW z b L s).length = L.length
  | [], _ => rfl
  | x :: l, s => by rw [zonesW, List.length_cons, List.length_cons, zonesW_len z b l]
/-- The error of zones behind a last place, before the end. -/
def zErr : List (Int × Int) → Int → Int → Int
  | [], last, d => if d < last then 18 else 0
  | p :: l, last, d => if p.1 ≤ last then 18 else zErr l p.2 d
theorem pairC_at : ∀ (L : List (Int × Int)) (k : Nat) (p : Int × Int) (j : Nat), L[k]? = some p → j < 2 → (L.flatMap pairC)[k * 2 + j]? = (pairC p)[j]?
  | [], k, p, j, h, _ => by simp at h
  | x :: L, 0, p, j, h, hj => by
    obtain rfl : x = p := by simpa using h
    rw [List.flatMap_cons, List.getElem?_append_left (by simp [pairC]; omega)]
    simp
  | x :: L, k + 1, p, j, h, hj => by
    rw [List.flatMap_cons, List.getElem?_append_right (by simp [pairC]; omega), show (k + 1) * 2 + j - (pairC x).length = k * 2 + j by simp [pairC]; omega]
    exact pairC_at L k p j (by simpa using h) hj
/-- The pairs of a list lie in the cells of a slice. -/
def Pairs (w : World) (A : Option Addr) (n : Nat) (L : List (Int × Int)) : Prop :=
  L.length = n ∧ (0 < n → ∃ b off, A = some ⟨b, off, none⟩ ∧ b < w.heap.size ∧ ∀ (i : Nat) (p : Int × Int), L[i]? = some p → w.cell? ⟨b, off + i * 2, none⟩ = some (.int .i64 p.1) ∧ w.cell? ⟨b, off + i * 2 + 1, none⟩ = some (.int .i64 p.2))
theorem Pairs.below {w w' : World} {A : Option Addr} {n : Nat} {L : List (Int × Int)} (h : Pairs w A n L) (hb : Below w.heap.size w w') : Pairs w' A n L := by
  refine ⟨h.1, fun hn => ?_⟩
  obtain ⟨b, off, e, hlt, hc⟩ := h.2 hn
  exact ⟨b, off, e, Nat.lt_of_lt_of_le hlt hb.size, fun i p hp => ⟨(hb.cell (p := ⟨b, _, none⟩) hlt).trans (hc i p hp).1, (hb.cell (p := ⟨b, _, none⟩) hlt).trans (hc i p hp).2⟩⟩
theorem Pairs.of_own {w : World} {base : Nat} {v : Value} {L : List (Int × Int)} (h : OwnPairs w base v L) : ∃ A c, v = .slice A L.length c ∧ Pairs w A L.length L := by
  by_cases h0 : 0 < L.length
  · obtain ⟨g, c, rfl, hg1, hg2⟩ := ownSome h h0
    refine ⟨_, _, rfl, rfl, fun _ => ⟨g, 0, rfl, hg2, fun i p hp => ?_⟩⟩
    have hi := (List.getElem?_eq_some_iff.1 hp).1
    constructor
    · rw [Nat.zero_add, World.ownsRow.cellAt h (i * 2) (by omega)]
      exact (pairC_at L i p 0 hp (by decide)).trans rfl
    · rw [Nat.zero_add, World.ownsRow.cellAt h (i * 2 + 1) (by omega)]
      exact (pairC_at L i p 1 hp (by decide)).trans rfl
  · obtain rfl : L = [] := List.length_eq_zero_iff.1 (by omega)
    rcases h.2 with ⟨e, _⟩ | ⟨g, c, cur, e, _⟩
    · exact ⟨none, 0, e, rfl, fun q => absurd q (by simp)⟩
    · exact ⟨_, c, e, rfl, fun q => absurd q (by simp)⟩
theorem Pairs.at_ {w : World} {A : Option Addr} {n : Nat} {L : List (Int × Int)} (h : Pairs w A n L) {k : Nat} (hk : k < n) : ∃ b off p, A = some ⟨b, off, none⟩ ∧ b < w.heap.size ∧ L[k]? = some p ∧ w.cell? ⟨b, off + k * 2, none⟩ = some (.int .i64 p.1) ∧ w.cell? ⟨b, off + k * 2 + 1, none⟩ = some (.int .i64 p.2) := by
  obtain ⟨b, off, e, hlt, hc⟩ := h.2 (by omega)
  have hl : k < L.length := by rw [h.1]; exact hk
  exact ⟨b, off, L[k], e, hlt, List.getElem?_eq_getElem hl, hc k L[k] (List.getElem?_eq_getElem hl)⟩
theorem zErr_drop {L : List (Int × Int)} {k : Nat} {p : Int × Int} (last d : Int) (h : L[k]? = some p) : zErr (L.drop k) last d = if p.1 ≤ last then 18 else zErr (L.drop (k + 1)) p.2 d := by
  have hkl := (List.getElem?_eq_some_iff.1 h).1
  rw [List.drop_eq_getElem_cons hkl, (List.getElem?_eq_some_iff.1 h).2, zErr]
set_option maxHeartbeats 4000000 in
theorem trZonesErr_any (L : List Int) (n cap : Nat) (A : Option Addr) (z b : Int) (w : World) (hZ : IntsZ w A (n + 1) L) (hn : n + 1 ≤ 100) (hc : n + 1 ≤ cap) :
    Calls Tryz.prog 63 #[.agg #[.slice A (n + 1) cap, .int .i64 z, .int .i64 b]] w (RetPost (.int .i64 (zErr (zonesW z b (L.take n) 0) (-1) (sumW L 0))) w) := by
  have hni : (n : Int) ≤ 100 := by omega
  have hb0 : Below w.heap.size w (w.alloc (.cells #[.slice A (n + 1) cap, .int .i64 z, .int .i64 b] 24)) := balloc _ (Below.refl _ _)
  have HZ := Lib.hid (trZonesOf_any L n cap A z b _ (hZ.below hb0) (by omega) hc)
  have HD : Hid (∀ w', Below w.heap.size w w' → Calls Tryz.prog 98 #[.agg #[.slice A (n + 1) cap, .int .i64 z, .int .i64 b]] w' (RetPost (.int .i64 (sumW L 0)) w')) := Lib.hid fun w' hb => trDist_any L (n + 1) cap A z b w' (hZ.below hb) hn
  have HC : Hid (∀ w', Below (w.heap.size + 1) (w.alloc (.cells #[.slice A (n + 1) cap, .int .i64 z, .int .i64 b] 24)) w' → w'.cell? ⟨w.heap.size, 0, none⟩ = some (.slice A (n + 1) cap) ∧ w'.cell? ⟨w.heap.size, 1, none⟩ = some (.int .i64 z) ∧ w'.cell? ⟨w.heap.size, 2, none⟩ = some (.int .i64 b)) :=
    Lib.hid fun w' hb => ⟨(hb.cell (p := ⟨w.heap.size, 0, none⟩) (by show w.heap.size < _; omega)).trans (by simp), (hb.cell (p := ⟨w.heap.size, 1, none⟩) (by show w.heap.size < _; omega)).trans (by simp), (hb.cell (p := ⟨w.heap.size, 2, none⟩) (by show w.heap.size < _; omega)).trans (by simp)⟩
  have HLn : Hid ((zonesW z b (L.take n) 0).length = n) := Lib.hid (by rw [zonesW_len, List.length_take, hZ.1]; omega)
  obtain ⟨d, hd⟩ : ∃ d, sumW L 0 = d := ⟨_, rfl⟩
  rw [hd] at HD ⊢
  obtain ⟨F, hF⟩ : ∃ F, zonesW z b (L.take n) 0 = F := ⟨_, rfl⟩
  rw [hF] at HZ HLn ⊢
  obtain ⟨y, hy⟩ : ∃ y, zErr F (-1) d = y := ⟨_, rfl⟩
  rw [hy]
  have HY := Lib.hid hy
  have HB0 := Lib.hid hb0
  have hs0 : (w.alloc (.cells #[.slice A (n + 1) cap, .int .i64 z, .int .i64 b] 24)).heap.size = w.heap.size + 1 := by simp
  clear hZ hF hb0 hd hy
  go_enter Tryz.func63, Tryz.ntmps63
  go_wp2_with fail
  refine HZ.out.mono ?_
  rintro e w2 ⟨v, rfl, hown, hb12⟩
  obtain ⟨A2, c2, rfl, hP⟩ := Pairs.of_own hown
  rw [HLn.out] at hP ⊢
  obtain ⟨w1, hw1⟩ : ∃ w1, w.alloc (.cells #[.slice A (n + 1) cap, .int .i64 z, .int .i64 b] 24) = w1 := ⟨_, rfl⟩
  rw [hw1] at HB0 HC hb12 hs0
  rw [hs0] at hb12
  have HB12 := Lib.hid hb12
  have HP := Lib.hid hP
  have hg02 : w.heap.size + 1 ≤ w2.heap.size := by have := hb12.size; omega
  clear hw1 hown HZ hP hb12
  go_wp2
  go_loopw [3, 9] (fun l i wr => ∃ (k : Nat) (last : Int), k ≤ n ∧ i = .int .i64 k ∧ l = .int .i64 last ∧ Hid (zErr (F.drop k) last d = y) ∧ Below w2.heap.size w2 wr) (fun _ i _ => n - (intOf i).toNat)
  case atStart => exact ⟨0, -1, by omega, rfl, rfl, HY, Below.refl _ _⟩
  case round =>
    obtain ⟨k, last, hk, rfl, rfl, HK, hb⟩ := hrel
    by_cases hlt : k < n
    · obtain ⟨b', off, p, rfl, hbl, hp, c0, c1⟩ := (HP.out.below hb).at_ hlt
      have hki : (k : Int) < (n : Int) := by omega
      have HBR := Lib.hid (HB0.out.trans ((HB12.out.trans (hb.mono hg02)).mono (by omega)))
      have hst := HK.out
      rw [zErr_drop last d hp] at hst
      obtain ⟨p1, p2⟩ := p
      simp only at c0 c1 hst
      clear HK hp
      by_cases hle : p1 ≤ last
      · rw [if_pos hle] at hst
        subst hst
        go_wp2
        go_ret
        exact ⟨rfl, balloc _ HBR.out⟩
      · rw [if_neg hle] at hst
        have Hst := Lib.hid hst
        clear hst
        go_wp2
        exact ⟨⟨k + 1, p2, by omega, by go_num, rfl, Hst, balloc _ hb⟩, by simp [intOf]; omega⟩
    · have hkn : k = n := by omega
      have h0 := HK.out
      rw [hkn, List.drop_of_length_le (by rw [HLn.out]; omega), zErr] at h0
      have hbw1 : Below (w.heap.size + 1) w1 wr := HB12.out.trans (hb.mono hg02)
      obtain ⟨c0, c1, c2⟩ := HC.out _ hbw1
      have hbw : Below w.heap.size w wr := HB0.out.trans (hbw1.mono (by omega))
      have hDw := HD.out _ hbw
      have hgr : w.heap.size < wr.heap.size := by have := hb.size; omega
      clear HK HC
      go_wp2_with fail
      refine hDw.mono ?_
      rintro e w3 ⟨rfl, hb3⟩
      have hW := fun w => trWhen_any (decide (d < last)) 18 w
      go_wp2_with fail
      refine (hW _).mono ?_
      rintro e w4 ⟨rfl, rfl⟩
      go_wp2
      go_ret
      exact ⟨by rw [← h0]; simp, bstep hbw hb3⟩
end Go.Mk
end
