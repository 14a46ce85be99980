/-
  Proved: the law's shortRows, and its copies of rows in new memory. Conditions: the rows lie where the slice says.
-/
import Derived.Test.YthgkaojplomapaaGreatDoorFrh
set_option linter.unusedVariables false
set_option linter.unusedSimpArgs false
open Go Go.Proofs Go.RowKit
set_option maxRecDepth 100000
namespace Go.Mk
def shR (L : List RowR) : Bool := decide (L.length ≤ 35) && L.all fun r => decide (r.s.size ≤ 40) && decide (r.n ≤ 10)
theorem shR_true {L : List RowR} (h : shR L = true) : L.length ≤ 35 ∧ ∀ r ∈ L, r.s.size ≤ 40 ∧ r.n ≤ 10 := by
  unfold shR at h
  rw [Bool.and_eq_true, List.all_eq_true] at h
  refine ⟨by simpa using h.1, fun r hr => ?_⟩
  have := h.2 r hr
  simpa using this
theorem all_dropR {L : List RowR} {k : Nat} {r : RowR} (f : RowR → Bool) (h : L[k]? = some r) : (L.drop k).all f = (f r && (L.drop (k + 1)).all f) := by
  obtain ⟨hk, rfl⟩ := List.getElem?_eq_some_iff.1 h
  rw [List.drop_eq_getElem_cons hk, List.all_cons]
set_option maxHeartbeats 4000000 in
theorem l6shortRows_any (L : List RowR) (n cap : Nat) (A : Option Addr) (w : World) (hZ : Rows w A n L) (hn : (n : Int) ≤ 9223372036854775807) (hs : ∀ r ∈ L, r.s.size ≤ maxLen ∧ (r.n : Int) ≤ 9223372036854775807) :
    Calls Tryz.prog 21 #[.slice A n cap] w (RetPost (.bool (shR L)) w) := by
  have H := Lib.hid hZ
  have HL := Lib.hid hZ.1
  have HS := Lib.hid hs
  unfold shR
  rw [hZ.1]
  clear hZ hs
  by_cases h35 : n ≤ 35
  · rw [decide_eq_true h35, Bool.true_and]
    have h35i : ¬ (35 : Int) < (n : Int) := by omega
    obtain ⟨y, hy⟩ : ∃ y, (L.all fun r => decide (r.s.size ≤ 40) && decide (r.n ≤ 10)) = y := ⟨_, rfl⟩
    rw [hy]
    have HY : Hid (((L.drop 0).all fun r => decide (r.s.size ≤ 40) && decide (r.n ≤ 10)) = y) := Lib.hid (by rw [← hy]; rfl)
    clear hy hn
    go_enter Tryz.func21, Tryz.ntmps21
    go_wp2
    go_loopw [10] (fun i wr => ∃ k : Nat, k ≤ n ∧ i = .int .i64 k ∧ Hid (((L.drop k).all fun r => decide (r.s.size ≤ 40) && decide (r.n ≤ 10)) = y) ∧ Below w.heap.size w wr) (fun i _ => n - (RowKit.intOf i).toNat)
    case atStart => exact ⟨0, by omega, rfl, HY, Below.refl _ _⟩
    case round =>
      obtain ⟨k, hk, rfl, HK, hb⟩ := hrel
      by_cases hlt : k < n
      · obtain ⟨b', off, r, rfl, hbl, hx, ⟨hc0, hc1, hcd⟩, hT, hcap⟩ := (H.out.below hb).at_ hlt
        have hki : (k : Int) < (n : Int) := by omega
        have hk0 : (0 : Int) ≤ (k : Int) := by omega
        have hkt : ((k : Int)).toNat = k := by omega
        obtain ⟨hr1, hr2⟩ := HS.out r (List.mem_of_getElem? hx)
        have hst := HK.out
        rw [all_dropR _ hx] at hst
        have hb2 : Below w.heap.size w (wr.alloc (.cells #[.string r.s, .slice r.A r.n r.c, .bool r.rt] 57)) := hb.alloc hb.size _
        have HB := Lib.hid hb2
        have hz : (r.s.size : Int) ≤ 9223372036854775807 := by have : maxLen = 9223372036854775807 := rfl; omega
        clear hx HK hb hb2 hT hcap
        by_cases q1 : r.s.size ≤ 40
        · have q1i : ¬ (40 : Int) < (r.s.size : Int) := by omega
          by_cases q2 : r.n ≤ 10
          · have q2i : ¬ (10 : Int) < (r.n : Int) := by omega
            rw [decide_eq_true q1, decide_eq_true q2, Bool.true_and, Bool.true_and] at hst
            have Hst := Lib.hid hst
            clear hst
            go_wp2
            go_roundw
            case rel => exact ⟨k + 1, by omega, by go_num, Hst, HB.out⟩
            case measure => simp [RowKit.intOf]; omega
          · have q2i : (10 : Int) < (r.n : Int) := by omega
            rw [decide_eq_false q2, Bool.and_false, Bool.false_and] at hst
            subst hst
            go_wp2
            go_ret
            exact ⟨rfl, HB.out⟩
        · have q1i : (40 : Int) < (r.s.size : Int) := by omega
          rw [decide_eq_false q1, Bool.false_and, Bool.false_and] at hst
          subst hst
          go_wp2
          go_ret
          exact ⟨rfl, HB.out⟩
      · have h0 := HK.out
        rw [List.drop_eq_nil_of_le (by rw [HL.out]; omega)] at h0
        have : y = true := by rw [← h0]; rfl
        subst this
        have HB := Lib.hid hb
        clear hb HK h0
        go_wp2
        go_ret
        exact ⟨rfl, HB.out⟩
  · rw [decide_eq_false h35, Bool.false_and]
    have h35i : (35 : Int) < (n : Int) := by omega
    go_enter Tryz.func21, Tryz.ntmps21
    go_wp2
    go_ret
    exact ⟨rfl, Below.refl _ _⟩
def nrm (r : RowR) : RowR := { r with A := none, c := 0 }
theorem rwsE_nrm : ∀ (P : List ByteArray) (L : List RowR), rwsE P (L.map nrm) = rwsE P L
  | _, [] => rfl
  | P, r :: L => by rw [List.map_cons, rwsE, rwsE, rwsE_nrm]; rfl
theorem rowsE_nrm (L : List RowR) : rowsE (L.map nrm) = rowsE L := by unfold rowsE; rw [List.length_map, rwsE_nrm]
theorem sersOf_nrm (L : List RowR) : sersOf (L.map nrm) = sersOf L := by unfold sersOf; rw [List.map_map]; rfl
theorem plcOf_nrm (L : List RowR) (n i : Nat) (r : RowR) : plcOf (L.map nrm) n i (nrm r) = plcOf L n i r := by unfold plcOf; rw [sersOf_nrm]; rfl
theorem plcsOf_nrm (L : List RowR) : plcsOf (L.map nrm) = plcsOf L := by
  apply List.ext_getElem?
  intro i
  by_cases h : i < L.length
  · have hx : L[i]? = some L[i] := List.getElem?_eq_getElem h
    have hx2 : (L.map nrm)[i]? = some (nrm L[i]) := by rw [List.getElem?_map, hx]; rfl
    rw [plcs_at hx, plcs_at hx2, List.length_map, plcOf_nrm]
  · rw [List.getElem?_eq_none (by rw [plcs_len, List.length_map]; omega), List.getElem?_eq_none (by rw [plcs_len]; omega)]
theorem rankL_nrm (L : List RowR) : rankL (L.map nrm) = rankL L := by unfold rankL; rw [List.length_map, plcsOf_nrm]
theorem same_rows {L M : List RowR} (h : M.map nrm = L.map nrm) : rowsE M = rowsE L ∧ rankL M = rankL L ∧ M.length = L.length := by
  refine ⟨by rw [← rowsE_nrm M, h, rowsE_nrm], by rw [← rankL_nrm M, h, rankL_nrm], ?_⟩
  have := congrArg List.length h
  simpa using this
theorem same_mem {L M : List RowR} (h : M.map nrm = L.map nrm) {P : RowR → Prop} (hP : ∀ r, P r ↔ P (nrm r)) (hL : ∀ r ∈ L, P r) : ∀ r ∈ M, P r := by
  intro r hr
  have h1 : nrm r ∈ M.map nrm := List.mem_map_of_mem hr
  rw [h] at h1
  obtain ⟨q, hq, e⟩ := List.mem_map.1 h1
  have := (hP q).1 (hL q hq)
  rw [e] at this
  exact (hP r).2 this
def rowC (r : RowR) : List Value := [.string r.s, .slice r.A r.n r.c, .bool r.rt]
def OwnRows (w : World) (B : Nat) (v : Value) (L : List RowR) : Prop := w.ownsRow B 55 3 v L.length (L.flatMap rowC) ∧ ∀ r ∈ L, w.ownsRow B 3 1 (.slice r.A r.n r.c) r.n (r.T.map fun z => Value.int .i64 z)
theorem rowC_at : ∀ (L : List RowR) (i : Nat) (r : RowR) (c : Nat), L[i]? = some r → c < 3 → (L.flatMap rowC)[i * 3 + c]? = (rowC r)[c]?
  | [], i, p, c, h, _ => by simp at h
  | x :: L, 0, p, c, h, hc => by
    obtain rfl : x = p := by simpa using h
    rw [List.flatMap_cons, List.getElem?_append_left (by simp [rowC]; omega)]
    simp
  | x :: L, i + 1, p, c, h, hc => by
    rw [List.flatMap_cons, List.getElem?_append_right (by simp [rowC]; omega), show (i + 1) * 3 + c - (rowC x).length = i * 3 + c by simp [rowC]; omega]
    exact rowC_at L i p c (by simpa using h) hc
theorem ints_of_row {w : World} {B : Nat} {A : Option Addr} {n c : Nat} {T : List Int} (h : w.ownsRow B 3 1 (.slice A n c) n (T.map fun z => Value.int .i64 z)) : IntsZ w A n T ∧ n ≤ c ∧ c ≤ maxLen ∧ T.length = n := by
  have hl : T.length = n := by have := h.1; simpa using this
  have ho : OwnZ w B (.slice A n c) T := by unfold OwnZ; rw [hl]; exact h
  obtain ⟨A', c', e, hI⟩ := IntsZ.of_own ho
  rw [hl] at e hI
  cases e
  refine ⟨hI, ?_, ?_, hl⟩
  · rcases h.2 with ⟨e, _⟩ | ⟨g, cap, cur, e, _, _, d, _⟩
    · cases e; exact Nat.le_refl _
    · cases e; exact d
  · rcases h.2 with ⟨e, _⟩ | ⟨g, cap, cur, e, _, _, _, d, _⟩
    · cases e; exact Nat.zero_le _
    · cases e; exact d
theorem OwnRows.below {w w' : World} {B : Nat} {v : Value} {L : List RowR} (h : OwnRows w B v L) (hb : Below w.heap.size w w') : OwnRows w' B v L := ⟨ownN h.1 hb, fun r hr => ownN (h.2 r hr) hb⟩
theorem Rows.of_own {w : World} {B : Nat} {v : Value} {L : List RowR} (h : OwnRows w B v L) : ∃ A c, v = .slice A L.length c ∧ Rows w A L.length L := by
  rcases h.1.2 with ⟨a, b⟩ | ⟨g, cap, cur, a, b, c, d, e1, f, hx⟩
  · exact ⟨none, 0, by rw [a, b], rfl, fun hn => absurd hn (by omega)⟩
  · refine ⟨_, cap, a, rfl, fun _ => ⟨g, 0, rfl, (Array.getElem?_eq_some_iff.1 c).1, fun j p hp => ?_⟩⟩
    have hj := (List.getElem?_eq_some_iff.1 hp).1
    have h1 := h.1
    rw [a] at h1
    obtain ⟨q1, q2, _, _⟩ := ints_of_row (h.2 p (List.mem_of_getElem? hp))
    refine ⟨?_, ?_, ?_, q1, q2⟩ <;> rw [Nat.zero_add]
    · rw [World.ownsRow.cellAt h1 (j * 3) (by omega)]; exact (rowC_at _ j _ 0 hp (by decide)).trans rfl
    · rw [World.ownsRow.cellAt h1 (j * 3 + 1) (by omega)]; exact (rowC_at _ j _ 1 hp (by decide)).trans rfl
    · rw [World.ownsRow.cellAt h1 (j * 3 + 2) (by omega)]; exact (rowC_at _ j _ 2 hp (by decide)).trans rfl
theorem rows_next {w1 w2 : World} {B : Nat} {v v' : Value} {P : List RowR} {r : RowR} (h : OwnRows w1 B v P) (hu : w1.ownsRow B 3 1 (.slice r.A r.n r.c) r.n (r.T.map fun z => Value.int .i64 z))
    (hown' : w2.ownsRow B 55 3 v' (P.length + 1) (P.flatMap rowC ++ rowC r)) (hg : w1.grownBy w2 v.ownBlock) : OwnRows w2 B v' (P ++ [r]) := by
  have hne : (3 : Nat) ≠ 55 := by decide
  refine ⟨by rw [List.length_append, List.flatMap_append]; simpa using hown', fun q hq => ?_⟩
  rcases List.mem_append.1 hq with hq | hq
  · exact World.ownsRow.kept (h.2 q hq) hg (own_apart hne (h.2 q hq) h.1)
  · rw [List.mem_singleton] at hq
    subst hq
    exact World.ownsRow.kept hu hg (own_apart hne hu h.1)
theorem infoRow : (Tryz.prog.info? 55).map (fun i => (i.zero, i.size, i.bytes)) = some (some (.agg #[.string ⟨#[]⟩, .slice none 0 0, .bool false]), 3, 48) := by kernel_rfl
theorem ints_srcX {w : World} {A : Option Addr} {n : Nat} {T : List Int} (h : IntsZ w A n T) : ∀ ad, A = some ad → ∀ j u, (T.map fun z => Value.int .i64 z)[j]? = some u → w.cell? (ad.add j) = some u := by
  intro ad hA j u hu
  rw [List.getElem?_map] at hu
  cases hx : T[j]? with
  | none => rw [hx] at hu; cases hu
  | some x =>
    rw [hx] at hu
    obtain rfl : Value.int .i64 x = u := Option.some.inj hu
    have hj := (List.getElem?_eq_some_iff.1 hx).1
    obtain ⟨g, off, e, _, hc⟩ := h.2 (by have := h.1; omega)
    rw [hA] at e
    obtain rfl : ad = ⟨g, off, none⟩ := Option.some.inj e
    rw [add_atX]
    exact hc j x hx
def AprR (P : List RowR) : Prop := P.Pairwise fun r q => ∀ g, (Value.slice q.A q.n q.c).ownBlock = some g → (Value.slice r.A r.n r.c).ownBlock ≠ some g
set_option maxHeartbeats 8000000 in
theorem l6rowsD_any (L : List RowR) (n cap : Nat) (A : Option Addr) (w : World) (hZ : Rows w A n L) (hn : n ≤ 1000) (hs : ∀ r ∈ L, r.n ≤ 1000 ∧ (r.A = none → r.c = 0)) :
    Calls Tryz.prog 23 #[.slice A n cap] w (fun e w' => ∃ v L', e = .returned v ∧ L'.map nrm = L.map nrm ∧ (OwnRows w' w.heap.size v L' ∧ AprR L') ∧ Below w.heap.size w w') := by
  obtain ⟨i0, hi, hz0, hz1, hz2⟩ := info_parts infoRow
  obtain ⟨i1, hj', hy0, hy1, hy2⟩ := info_parts infoInt
  have hni : (n : Int) ≤ 1000 := by omega
  have H := Lib.hid hZ
  have HL := Lib.hid hZ.1
  have HS := Lib.hid hs
  clear hZ hs
  go_enter Tryz.func23, Tryz.ntmps23
  go_wp2
  go_loopw [3, 8] (fun v i wr => ∃ (k : Nat) (P : List RowR), k ≤ n ∧ i = .int .i64 k ∧ Hid (P.map nrm = (L.take k).map nrm) ∧ (OwnRows wr w.heap.size v P ∧ AprR P) ∧ Below w.heap.size w wr) (fun _ i _ => n - (RowKit.intOf i).toNat)
  case atStart => exact ⟨0, [], by omega, rfl, Lib.hid rfl, ⟨⟨World.ownsRow_nil _ _ _ _, fun r h => by cases h⟩, List.Pairwise.nil⟩, Below.refl _ _⟩
  case round =>
    obtain ⟨k, P, hk, rfl, HP, ⟨hown, hapr⟩, hb⟩ := hrel
    by_cases hlt : k < n
    · obtain ⟨b', off, r, rfl, hbl, hx, ⟨hc0, hc1, hc2⟩, hT, hcap⟩ := (H.out.below hb).at_ hlt
      have hki : (k : Int) < (n : Int) := by omega
      have hk0 : (0 : Int) ≤ (k : Int) := by omega
      have hkt : ((k : Int)).toNat = k := by omega
      obtain ⟨hr1, hr2⟩ := HS.out r (List.mem_of_getElem? hx)
      have hPl : P.length = k := by
        have := congrArg List.length HP.out
        rw [List.length_map, List.length_map, List.length_take, HL.out] at this
        omega
      have HPl := Lib.hid hPl
      have hst : ∀ q : RowR, nrm q = nrm r → (P ++ [q]).map nrm = (L.take (k + 1)).map nrm := fun q hq => by
        rw [List.take_add_one, hx, Option.toList_some, List.map_append, List.map_append, HP.out]
        simp [hq]
      have Hst := Lib.hid hst
      have HOX := Lib.hid hown
      have HAP := Lib.hid hapr
      have HB := Lib.hid hb
      obtain ⟨p, hp⟩ : ∃ p, wr.heap.size = p := ⟨_, rfl⟩
      obtain ⟨wx, hwx⟩ : ∃ wx, wr.alloc (.cells #[.string r.s, .slice r.A r.n r.c, .bool r.rt] 57) = wx := ⟨_, rfl⟩
      have hbx : Below wr.heap.size wr wx := by rw [← hwx]; exact balloc _ (Below.refl _ _)
      have hbw : Below w.heap.size w wx := by rw [← hwx]; exact hb.alloc hb.size _
      have hkx : wx.heap[p]? = some (.cells #[.string r.s, .slice r.A r.n r.c, .bool r.rt] 57 (0, 0)) := by rw [← hwx, ← hp]; exact World.alloc_heap_new wr _
      have hTx := hT.below hbx
      have hox := hown.below hbx
      have hpx : p < wx.heap.size := (Array.getElem?_eq_some_iff.1 hkx).1
      have x1 : wx.cell? ⟨p, 1, none⟩ = some (.slice r.A r.n r.c) := Go.Joins.cell_of_block hkx 1
      -- the new row of trials
      obtain ⟨wy, hwy⟩ : ∃ wy, wx.alloc (.cells #[] 3) = wy := ⟨_, rfl⟩
      have hby : Below wx.heap.size wx wy := by rw [← hwy]; exact balloc _ (Below.refl _ _)
      have hry : wy.ownsRow w.heap.size 3 1 (.slice (some ⟨wx.heap.size, 0, none⟩) 0 0) 0 [] := by rw [← hwy]; exact World.ownsRow_lit wx #[] 0 hbw.size (by decide) rfl
      have hky := (hby.block p hpx).trans hkx
      have y1 : wy.cell? ⟨p, 1, none⟩ = some (.slice r.A r.n r.c) := Go.Joins.cell_of_block hky 1
      have hTy := hTx.below hby
      have hoy := hox.below hby
      have hbwy : Below w.heap.size w wy := bstep hbw hby
      have hpw : w.heap.size ≤ p := by rw [← hp]; exact hb.size
      have hpy : p < wy.heap.size := Nat.lt_of_lt_of_le hpx hby.size
      have hbry : Below wr.heap.size wr wy := bstep hbx hby
      have HKY := Lib.hid hky
      have HBY := Lib.hid (And.intro hbry hbwy)
      have HPP := Lib.hid (And.intro hpw (And.intro hpy (And.intro hp hpx)))
      have HXY : Hid (wx.heap.size < wy.heap.size) := Lib.hid (by rw [← hwy]; simp)
      have HTl := Lib.hid hT.1
      have HTY := Lib.hid hTy
      have HHB := Lib.hid hb
      clear hst hx hown hapr hb hT hcap hbx hbw hkx hTx hox hpx x1 hby hky hoy hbwy hpw hpy hbry hTy HB
      obtain ⟨nm, rA, rn, rc, rT, rt⟩ := r
      dsimp only at *
      go_wp2_with (at_builtin; refine wpList_append_src _ rfl _ _ 23 rfl w.heap.size 3 i1 (.int .i64 0) 1 8 Tryz.underlying23 hj' hy0 hy1 hy2 rfl (by decide) _ _ _ rfl hry _ _ _ (rT.map fun z => Value.int .i64 z) rfl ?c1 ?c2 ?c3 ?c4 ?c5 ?c6 ?c7 ?_)
      case c1 => rw [List.length_map, HTl.out, Nat.mul_one]
      case c2 =>
        intro h
        refine ⟨?_, hr2 h⟩
        rcases Nat.eq_zero_or_pos rn with q | q
        · exact q
        · obtain ⟨g, o, e, _⟩ := HTY.out.2 q
          rw [h] at e; cases e
      case c3 => exact ints_srcX HTY.out
      case c4 => exact ints_one _
      case c5 => unfold maxLen; omega
      case c6 => omega
      case c7 => exact HBY.out.2.size
      intro v' w2 hown' hgrow hat
      obtain ⟨A', c', rfl⟩ : ∃ A' c', v' = .slice A' rn c' := by
        rcases hown'.2 with ⟨h, h0⟩ | ⟨g, cap, cur, h, _⟩
        · exact ⟨none, 0, by rw [h, h0]⟩
        · exact ⟨_, _, h⟩
      obtain ⟨hpw, hpy, hp', hpx⟩ := HPP.out
      have hge : ∀ g, (Value.slice A' rn c').ownBlock = some g → wr.heap.size < g := fun g hg => by
        rcases hat with h | h
        · rw [h] at hg; simp [Value.ownBlock] at hg; omega
        · rw [h] at hg; simp at hg; omega
      have HAP2 : Hid (AprR (P ++ [⟨nm, A', rn, c', rT, rt⟩])) := Lib.hid (List.pairwise_append.2 ⟨HAP.out, List.pairwise_singleton _ _, fun r hr q hq g hg => by
        obtain rfl := List.mem_singleton.1 hq
        intro e
        have h1 := (World.ownsRow.lt (HOX.out.2 r hr) g e).2
        have h2 := hge g hg
        omega⟩)
      clear hge
      have hne : (Value.slice A' rn c').ownBlock ≠ some p := by
        rcases hat with h | h
        · rw [h]; simp [Value.ownBlock]; omega
        · rw [h]; simp; omega
      have hk2 : w2.heap[p]? = some (.cells #[.string nm, .slice rA rn rc, .bool rt] 57 (0, 0)) := (hgrow.block p hpy (by simp [Value.ownBlock]; omega)).trans HKY.out
      have hxw : wr.heap.size ≤ wx.heap.size := by rw [hp']; omega
      have hb2 : Below wr.heap.size wr w2 := HBY.out.1.grown hgrow HBY.out.1.size (fun r hr => Nat.le_trans hxw (Nat.le_of_eq (show wx.heap.size = r by simpa [Value.ownBlock] using hr)))
      have hb3 : Below wr.heap.size wr (w2.setCell ⟨p, 1, none⟩ (.slice A' rn c')) := hb2.setCell (p := ⟨p, 1, none⟩) (by rw [hp']; exact Nat.le_refl _) _
      have hk3 : (w2.setCell ⟨p, 1, none⟩ (.slice A' rn c')).heap[p]? = some (.cells #[.string nm, .slice A' rn c', .bool rt] 57 (0, 0)) := Go.Joins.block_setCell (i := 1) hk2 (.slice A' rn c')
      have hr3 : (w2.setCell ⟨p, 1, none⟩ (.slice A' rn c')).ownsRow w.heap.size 3 1 (.slice A' rn c') rn (rT.map fun z => Value.int .i64 z) := World.ownsRow.kept hown' (grown_set w2 p 1 _) (.inr hne)
      obtain ⟨⟨e0, e1, e2⟩, f0, f1, f2⟩ := three_blk hk2
      obtain ⟨w3, hw3⟩ : ∃ w3, w2.setCell ⟨p, 1, none⟩ (.slice A' rn c') = w3 := ⟨_, rfl⟩
      rw [hw3] at hb3 hk3 hr3
      obtain ⟨⟨g0, g1, g2⟩, _⟩ := three_blk hk3
      have hox3 := HOX.out.below hb3
      have hown3 := hox3.1
      rw [HPl.out] at hown3
      have HB3 := Lib.hid (bstep HHB.out hb3)
      have HR3 := Lib.hid hr3
      have HOX3 := Lib.hid hox3
      clear hown' hgrow hat hpw hpy hpx hne hk2 hxw hb2 hb3 hk3 hr3 hox3 hp' y1
      go_wp2_with (at_builtin; refine wpList_append_own _ rfl _ _ 52 rfl w.heap.size 55 i0 (.agg #[.string ⟨#[]⟩, .slice none 0 0, .bool false]) 3 48 Tryz.underlying52 hi hz0 hz1 hz2 rfl (by decide) _ _ _ rfl (World.ownsRow.alloc hown3 _) ⟨w3.heap.size, 0, none⟩ 1 1 (rowC ⟨nm, A', rn, c', rT, rt⟩) rfl rfl ?c1 ?c2 ?c3 ?c4 ?c5 ?_)
      case c1 =>
        intro j u hj
        match j, hj with
        | 0, hj => simp [rowC] at hj; subst hj; simp [Addr.add]
        | 1, hj => simp [rowC] at hj; subst hj; simp [Addr.add]
        | 2, hj => simp [rowC] at hj; subst hj; simp [Addr.add]
      case c2 => intro u hu; simp [rowC] at hu; rcases hu with rfl | rfl | rfl <;> rfl
      case c3 => unfold maxLen; omega
      case c4 => omega
      case c5 => have := HB3.out.size; simp; omega
      intro v4 w4 hown4 hgrow4 _
      have hb4 : Below w.heap.size w w4 := (HB3.out.alloc HB3.out.size _).grown hgrow4 (by have := HB3.out.size; simp; omega) (fun r hr => (World.ownsRow.lt hown3 r hr).1)
      have ho4 : OwnRows w4 w.heap.size v4 (P ++ [⟨nm, A', rn, c', rT, rt⟩]) := rows_next (HOX3.out.below (balloc _ (Below.refl _ _))) (World.ownsRow.alloc HR3.out _) (by rw [HPl.out]; exact hown4) hgrow4
      clear hown4 hgrow4 hown3 hc0 hc1 e0 e1 e2 f0 f1 f2 g0 g1 g2
      go_wp2
      go_roundw
      case rel => exact ⟨k + 1, P ++ [⟨nm, A', rn, c', rT, rt⟩], by omega, by go_num, Lib.hid (Hst.out _ rfl), ⟨ho4, HAP2.out⟩, hb4⟩
      case measure => simp [RowKit.intOf]; omega
    · have hkn : k = n := by omega
      have hPn := HP.out
      rw [hkn, List.take_of_length_le (by rw [HL.out]; omega)] at hPn
      have HO := Lib.hid (And.intro hPn (And.intro hown hapr))
      clear hPn hown hapr
      go_wp2
      go_ret
      exact ⟨_, P, rfl, HO.out.1, HO.out.2, hb⟩
end Go.Mk
