/-
  Proved: rows of package field in memory; the errors of their trials (trialError, firstOf, listError), and the names of rows (each). Conditions: the rows and their trials lie where the slices say, at most 1,000 of both.
-/
import Derived.Test.YthgkaojplomapaaGreatDoorFa
import Derived.Test.YthgkaojplomapaaGreatDoorFb
set_option linter.unusedVariables false
set_option linter.unusedSimpArgs false
open Go Go.Proofs Go.RowKit
set_option maxRecDepth 100000
namespace Go.Mk
structure RowR where
  s : ByteArray
  A : Option Addr
  n : Nat
  c : Nat
  T : List Int
  rt : Bool
def Rows (w : World) (A : Option Addr) (n : Nat) (L : List RowR) : Prop :=
  L.length = n ∧ (0 < n → ∃ b off, A = some ⟨b, off, none⟩ ∧ b < w.heap.size ∧ ∀ (j : Nat) (r : RowR), L[j]? = some r →
    w.cell? ⟨b, off + j * 3, none⟩ = some (.string r.s) ∧ w.cell? ⟨b, off + j * 3 + 1, none⟩ = some (.slice r.A r.n r.c) ∧ w.cell? ⟨b, off + j * 3 + 2, none⟩ = some (.bool r.rt) ∧ IntsZ w r.A r.n r.T ∧ r.n ≤ r.c)
theorem Rows.below {w w' : World} {A : Option Addr} {n : Nat} {L : List RowR} (h : Rows w A n L) (hb : Below w.heap.size w w') : Rows w' A n L := by
  refine ⟨h.1, fun h0 => ?_⟩
  obtain ⟨b, off, e, hlt, hc⟩ := h.2 h0
  refine ⟨b, off, e, Nat.lt_of_lt_of_le hlt hb.size, fun j r hr => ?_⟩
  obtain ⟨h1, h2, h3, h4, h5⟩ := hc j r hr
  exact ⟨(hb.cell (p := ⟨b, _, none⟩) hlt).trans h1, (hb.cell (p := ⟨b, _, none⟩) hlt).trans h2, (hb.cell (p := ⟨b, _, none⟩) hlt).trans h3, h4.below hb, h5⟩
theorem Rows.at_ {w : World} {A : Option Addr} {n : Nat} {L : List RowR} (h : Rows w A n L) {k : Nat} (hk : k < n) : ∃ b off r, A = some ⟨b, off, none⟩ ∧ b < w.heap.size ∧ L[k]? = some r ∧
    (w.cell? ⟨b, off + k * 3, none⟩ = some (.string r.s) ∧ w.cell? ⟨b, off + k * 3 + 1, none⟩ = some (.slice r.A r.n r.c) ∧ w.cell? ⟨b, off + k * 3 + 2, none⟩ = some (.bool r.rt)) ∧ IntsZ w r.A r.n r.T ∧ r.n ≤ r.c := by
  obtain ⟨b, off, e, hlt, hc⟩ := h.2 (by omega)
  have hl : k < L.length := by rw [h.1]; exact hk
  obtain ⟨h1, h2, h3, h4, h5⟩ := hc k L[k] (List.getElem?_eq_getElem hl)
  exact ⟨b, off, L[k], e, hlt, List.getElem?_eq_getElem hl, ⟨h1, h2, h3⟩, h4, h5⟩
def trsE : List Int → Int
  | [] => 0
  | t :: l => if rngE t (-2) 999999 = 0 then trsE l else rngE t (-2) 999999
theorem trsE_drop {L : List Int} {k : Nat} {t : Int} (e : L[k]? = some t) : trsE (L.drop k) = if rngE t (-2) 999999 = 0 then trsE (L.drop (k + 1)) else rngE t (-2) 999999 := by
  obtain ⟨hk, rfl⟩ := List.getElem?_eq_some_iff.1 e
  rw [List.drop_eq_getElem_cons hk, trsE]
set_option maxHeartbeats 1000000 in
theorem fdTrialE_any (k t : Int) (w : World) : Calls Tryz.prog 125 #[.int .i64 k, .int .i64 t] w (RetSame (.int .i64 (rngE t (-2) 999999)) w) := by
  have hR := fun w => trRange_any t (-2) 999999 w
  generalize rngE t (-2) 999999 = y at *
  go_enter Tryz.func125, Tryz.ntmps125
  go_wp2_with fail
  refine (hR _).mono ?_
  rintro e w1 ⟨rfl, rfl⟩
  go_wp2
  go_ret
  exact ⟨rfl, rfl⟩
set_option maxHeartbeats 4000000 in
theorem fdFirstT_any (L : List Int) (n cap : Nat) (A : Option Addr) (w : World) (hZ : IntsZ w A n L) (hn : n ≤ 1000) :
    Calls Tryz.prog 178 #[.slice A n cap, .func (.func 125) #[] #[]] w (RetSame (.int .i64 (trsE L)) w) := by
  have hni : (n : Int) ≤ 1000 := by omega
  have H := Lib.hid hZ
  have Hn := Lib.hid hZ.1
  obtain ⟨y, hy⟩ : ∃ y, trsE L = y := ⟨_, rfl⟩
  rw [hy]
  have HY : Hid (trsE (L.drop 0) = y) := by rw [← hy]; rfl
  clear hZ hy
  go_enter Tryz.func178, Tryz.ntmps178
  go_wp2
  go_loop [10] (fun i => ∃ k : Nat, k ≤ n ∧ i = .int .i64 k ∧ Hid (trsE (L.drop k) = y)) (fun i => n - (intOf i).toNat)
  case atStart => exact ⟨0, by omega, rfl, HY⟩
  case round =>
    obtain ⟨k, hk, rfl, HK⟩ := hrel
    by_cases hlt : k < n
    · obtain ⟨b, off, x, rfl, hbl, hx, hcx⟩ := H.out.cellAt hlt
      have hst := HK.out
      rw [trsE_drop hx] at hst
      have hki : (k : Int) < (n : Int) := by omega
      have hk0 : (0 : Int) ≤ (k : Int) := by omega
      have hkt : ((k : Int)).toNat = k := by omega
      have hC := fun w => fdTrialE_any k x w
      obtain ⟨z, hz⟩ : ∃ z, rngE x (-2) 999999 = z := ⟨_, rfl⟩
      rw [hz] at hst hC
      clear hz hx HK
      by_cases h0 : z = 0
      · subst h0
        rw [if_pos rfl] at hst
        have Hst : Hid (trsE (L.drop (k + 1)) = y) := Lib.hid hst
        clear hst
        go_wp2_with fail
        refine (hC _).mono ?_
        rintro e w' ⟨rfl, rfl⟩
        go_wp2
        exact ⟨⟨k + 1, by omega, by go_num, Hst⟩, by simp [intOf]; omega⟩
      · rw [if_neg h0] at hst
        subst hst
        have hne : (z != 0) = true := by simp [h0]
        clear h0
        go_wp2_with fail
        refine (hC _).mono ?_
        rintro e w' ⟨rfl, rfl⟩
        go_wp2
        go_ret
        exact ⟨rfl, rfl⟩
    · have h0 := HK.out
      rw [List.drop_eq_nil_of_le (by rw [Hn.out]; omega), trsE] at h0
      subst h0
      go_wp2
      go_ret
      exact ⟨rfl, rfl⟩
def trialsE (r : RowR) : Int := if 6 < r.n then 5 else trsE r.T
set_option maxHeartbeats 1000000 in
theorem fdListT_any (r : RowR) (w : World) (hZ : IntsZ w r.A r.n r.T) (hn : r.n ≤ 1000) :
    Calls Tryz.prog 115 #[.slice r.A r.n r.c, .int .i64 6, .func (.func 125) #[] #[]] w (RetSame (.int .i64 (trialsE r)) w) := by
  have hF := fun w' h => fdFirstT_any r.T r.n r.c r.A w' h hn
  have HF := Lib.hid (hF w hZ)
  have hni : (r.n : Int) ≤ 1000 := by omega
  unfold trialsE
  by_cases h6 : 6 < r.n
  · rw [if_pos h6]
    have h : (6 : Int) < (r.n : Int) := by omega
    clear hF hZ
    go_enter Tryz.func115, Tryz.ntmps115
    go_wp2
    go_ret
    exact ⟨rfl, rfl⟩
  · rw [if_neg h6]
    have h : ¬ (6 : Int) < (r.n : Int) := by omega
    clear hF hZ
    generalize trsE r.T = y at *
    go_enter Tryz.func115, Tryz.ntmps115
    go_wp2_with fail
    refine HF.out.mono ?_
    rintro e w' ⟨rfl, rfl⟩
    go_wp2
    go_ret
    exact ⟨rfl, rfl⟩
set_option maxHeartbeats 1000000 in
theorem fdRowsN_any (r : RowR) (w : World) : Calls Tryz.prog 121 #[.agg #[.string r.s, .slice r.A r.n r.c, .bool r.rt]] w (RetPost (.string r.s) w) := by
  obtain ⟨g, hg⟩ : ∃ g, w.heap.size = g := ⟨_, rfl⟩
  obtain ⟨w1, hw1⟩ : ∃ w1, w.alloc (.cells #[.string r.s, .slice r.A r.n r.c, .bool r.rt] 55) = w1 := ⟨_, rfl⟩
  have hb1 : Below w.heap.size w w1 := by rw [← hw1]; exact balloc _ (Below.refl _ _)
  have c0 : w1.cell? ⟨g, 0, none⟩ = some (.string r.s) := by rw [← hw1, ← hg]; simp
  go_enter Tryz.func121, Tryz.ntmps121
  go_wp2
  go_ret
  exact ⟨rfl, hb1⟩
set_option maxHeartbeats 4000000 in
theorem fdEachRS_any (L : List RowR) (n cap : Nat) (A : Option Addr) (w : World) (hZ : Rows w A n L) (hn : n ≤ 1000) :
    Calls Tryz.prog 77 #[.slice A n cap, .func (.func 121) #[] #[]] w (fun e w' => ∃ v, e = .returned v ∧ OwnNames w' w.heap.size v (L.map (·.s)) ∧ Below w.heap.size w w') := by
  obtain ⟨i0, hi, hz0, hz1, hz2⟩ := info_parts infoStr
  have hni : (n : Int) ≤ 1000 := by omega
  have H := Lib.hid hZ
  have HL := Lib.hid hZ.1
  clear hZ
  go_enter Tryz.func77, Tryz.ntmps77
  go_wp2
  go_loopw [5, 10] (fun v i wr => ∃ k : Nat, k ≤ n ∧ i = .int .i64 k ∧ OwnNames wr w.heap.size v ((L.take k).map (·.s)) ∧ Below w.heap.size w wr) (fun _ i _ => n - (intOf i).toNat)
  case atStart => exact ⟨0, by omega, rfl, World.ownsRow_nil _ _ _ _, Below.refl _ _⟩
  case round =>
    obtain ⟨k, hk, rfl, hown, hb⟩ := hrel
    by_cases hlt : k < n
    · obtain ⟨b', off, r, rfl, hbl, hx, ⟨hc0, hc1, hc2⟩, _, _⟩ := (H.out.below hb).at_ hlt
      have hki : (k : Int) < (n : Int) := by omega
      have hk0 : (0 : Int) ≤ (k : Int) := by omega
      have hkt : ((k : Int)).toNat = k := by omega
      have hlen : ((L.take k).map (·.s)).length = k := by rw [List.length_map, List.length_take, HL.out]; omega
      have hst : (L.take (k + 1)).map (·.s) = (L.take k).map (·.s) ++ [r.s] := by rw [List.take_add_one, hx, Option.toList_some, List.map_append]; rfl
      have Hst := Lib.hid hst
      have Hlen := Lib.hid hlen
      have hN := fun w => fdRowsN_any r w
      have HOWN := Lib.hid hown
      have HB := Lib.hid hb
      obtain ⟨p, hp⟩ : ∃ p, wr.heap.size = p := ⟨_, rfl⟩
      obtain ⟨wx, hwx⟩ : ∃ wx, wr.alloc (.cells #[.string r.s, .slice r.A r.n r.c, .bool r.rt] 55) = wx := ⟨_, rfl⟩
      have hbx : Below w.heap.size w wx := by rw [← hwx]; exact hb.alloc hb.size _
      have x0 : wx.cell? ⟨p, 0, none⟩ = some (.string r.s) := by rw [← hwx, ← hp]; simp
      have x1 : wx.cell? ⟨p, 1, none⟩ = some (.slice r.A r.n r.c) := by rw [← hwx, ← hp]; simp
      have x2 : wx.cell? ⟨p, 2, none⟩ = some (.bool r.rt) := by rw [← hwx, ← hp]; simp
      have HBX := Lib.hid hbx
      have HOX : Hid (OwnNames wx w.heap.size _ ((L.take k).map (·.s))) := Lib.hid (by rw [← hwx]; exact World.ownsRow.alloc hown _)
      clear hst hlen hx hown hb hbx
      go_wp2_with fail
      refine (hN _).mono ?_
      rintro e w5 ⟨rfl, hb5⟩
      have hb15 := bstep HBX.out hb5
      have hown5 : OwnNames w5 w.heap.size _ ((L.take k).map (·.s)) := ownN HOX.out hb5
      clear hb5
      go_wp2_with (at_builtin; refine wpList_append_own _ rfl _ _ 22 rfl w.heap.size 9 i0 (.string ⟨#[]⟩) 1 16 Tryz.underlying22 hi hz0 hz1 hz2 rfl (by decide) _ _ _ rfl (World.ownsRow.alloc hown5 _) ⟨w5.heap.size, 0, none⟩ 1 1 [.string r.s] rfl rfl ?c1 ?c2 ?c3 ?c4 ?c5 ?_)
      case c1 =>
        intro j u hj
        match j, hj with
        | 0, hj => simp at hj; subst hj; simp [Addr.add]
      case c2 => intro u hu; simp at hu; subst hu; rfl
      case c3 => unfold maxLen; have := Hlen.out; omega
      case c4 => have := Hlen.out; omega
      case c5 => have := hb15.size; simp; omega
      intro v' w2 hown' hgrow _
      have hb2 : Below w.heap.size w w2 := (hb15.alloc hb15.size _).grown hgrow (by have := hb15.size; simp; omega) (fun r hr => (World.ownsRow.lt hown5 r hr).1)
      have ho2 : OwnNames w2 w.heap.size v' ((L.take (k + 1)).map (·.s)) := by
        rw [Hst.out]
        refine OwnNames.next ?_
        simpa using hown'
      clear hown' hgrow hown5 hb15 hc0 hc1 hc2
      go_wp2
      go_roundw
      case rel => exact ⟨k + 1, by omega, by go_num, ho2, hb2⟩
      case measure => simp [intOf]; omega
    · have hkn : k = n := by omega
      rw [hkn, List.take_of_length_le (by rw [HL.out]; omega)] at hown
      have HO := Lib.hid hown
      clear hown
      go_wp2
      go_ret
      exact ⟨_, rfl, HO.out, hb⟩
end Go.Mk
