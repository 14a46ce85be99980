/-
  Proved: each of package field with series: the marks of each row in descending order, in new memory; and the ranks of rows. Conditions: at most 100 rows, each with at most 12 trials, each of them at most 999,999, where the slices say.
-/
import Derived.Test.YthgkaojplomapaaGreatDoorFpl
import Derived.Test.YthgkaojplomapaaGreatDoorFec
set_option linter.unusedVariables false
set_option linter.unusedSimpArgs false
open Go Go.Proofs Go.RowKit
set_option maxRecDepth 100000
namespace Go.Mk
theorem own_apart {w : World} {B B' s s' n n' e e' : Nat} {u v : Value} {xs ys : List Value} (he : e ≠ e') (h : w.ownsRow B e s u n xs) (h' : w.ownsRow B' e' s' v n' ys) : u.ownBlock = none ∨ u.ownBlock ≠ v.ownBlock := by
  rcases h.2 with ⟨a, b⟩ | ⟨g, cap, cur, a, b, c, d⟩
  · exact .inl (by rw [a]; rfl)
  · right
    rcases h'.2 with ⟨a', b'⟩ | ⟨g', cap', cur', a', b', c', d'⟩
    · rw [a, a']; intro q; cases q
    · rw [a, a']
      intro q
      have q : g = g' := by simpa [Value.ownBlock] using q
      subst q
      rw [c] at c'
      cases c'
      exact he rfl
def OwnSers (w : World) (B : Nat) (v : Value) (LL : List (List Int)) : Prop :=
  ∃ vs : List Value, vs.length = LL.length ∧ w.ownsRow B 23 1 v LL.length vs ∧ ∀ (i : Nat) (l : List Int), LL[i]? = some l → ∃ u, vs[i]? = some u ∧ OwnZ w B u l
theorem OwnSers.below {w w' : World} {B : Nat} {v : Value} {LL : List (List Int)} (h : OwnSers w B v LL) (hb : Below w.heap.size w w') : OwnSers w' B v LL := by
  obtain ⟨vs, h1, h2, h3⟩ := h
  exact ⟨vs, h1, ownN h2 hb, fun i l hl => by obtain ⟨u, a, b⟩ := h3 i l hl; exact ⟨u, a, ownN b hb⟩⟩
theorem sers_next {w1 w2 : World} {B : Nat} {v v' u : Value} {P : List (List Int)} {l : List Int} {vs : List Value} (hl : vs.length = P.length) (ho : w1.ownsRow B 23 1 v P.length vs) (hi : ∀ (i : Nat) (l : List Int), P[i]? = some l → ∃ u, vs[i]? = some u ∧ OwnZ w1 B u l) (hu : OwnZ w1 B u l)
    (hown' : w2.ownsRow B 23 1 v' (P.length + 1) (vs ++ [u])) (hg : w1.grownBy w2 v.ownBlock) : OwnSers w2 B v' (P ++ [l]) := by
  have hne : (3 : Nat) ≠ 23 := by decide
  refine ⟨vs ++ [u], by simp [hl], by rw [List.length_append]; exact hown', fun i q hq => ?_⟩
  by_cases h : i < P.length
  · rw [List.getElem?_append_left h] at hq
    obtain ⟨u', hu', hr⟩ := hi i q hq
    exact ⟨u', by rw [List.getElem?_append_left (by omega)]; exact hu', World.ownsRow.kept hr hg (own_apart hne hr ho)⟩
  · rw [List.getElem?_append_right (by omega)] at hq
    have h2 : i - P.length = 0 := by
      have := (List.getElem?_eq_some_iff.1 hq).1
      simp at this
      omega
    rw [h2] at hq
    simp at hq
    subst hq
    refine ⟨u, ?_, World.ownsRow.kept hu hg (own_apart hne hu ho)⟩
    rw [List.getElem?_append_right (by omega), show i - vs.length = 0 from by omega]
    rfl
def SersZ (w : World) (A : Option Addr) (n : Nat) (LL : List (List Int)) : Prop :=
  LL.length = n ∧ (0 < n → ∃ b off, A = some ⟨b, off, none⟩ ∧ b < w.heap.size ∧ ∀ (j : Nat) (l : List Int), LL[j]? = some l → ∃ A' c', w.cell? ⟨b, off + j, none⟩ = some (.slice A' l.length c') ∧ IntsZ w A' l.length l)
theorem SersZ.below {w w' : World} {A : Option Addr} {n : Nat} {LL : List (List Int)} (h : SersZ w A n LL) (hb : Below w.heap.size w w') : SersZ w' A n LL := by
  refine ⟨h.1, fun h0 => ?_⟩
  obtain ⟨b, off, e, hlt, hc⟩ := h.2 h0
  refine ⟨b, off, e, Nat.lt_of_lt_of_le hlt hb.size, fun j l hl => ?_⟩
  obtain ⟨A', c', h1, h2⟩ := hc j l hl
  exact ⟨A', c', (hb.cell (p := ⟨b, _, none⟩) hlt).trans h1, h2.below hb⟩
theorem SersZ.of_own {w : World} {B : Nat} {v : Value} {LL : List (List Int)} (h : OwnSers w B v LL) : ∃ A c, v = .slice A LL.length c ∧ SersZ w A LL.length LL := by
  obtain ⟨vs, hl, ho, hi⟩ := h
  by_cases h0 : 0 < LL.length
  · obtain ⟨g, c, rfl, hgb, hgl⟩ := ownSome ho h0
    refine ⟨_, _, rfl, rfl, fun _ => ⟨g, 0, rfl, hgl, fun i l hx => ?_⟩⟩
    obtain ⟨u, hu, hr⟩ := hi i l hx
    obtain ⟨A', c', rfl, hR⟩ := IntsZ.of_own hr
    have := World.ownsRow.cells ho (g := g) rfl i _ hu
    rw [show (⟨g, 0, none⟩ : Addr).add i = ⟨g, 0 + i, none⟩ from by unfold Addr.add; split <;> simp_all] at this
    exact ⟨A', c', this, hR⟩
  · rcases ho.2 with ⟨hv, _⟩ | ⟨g, cap, cur, hv, _⟩
    · exact ⟨none, 0, by rw [hv, show LL.length = 0 by omega], rfl, fun q => absurd q h0⟩
    · exact ⟨_, _, hv, rfl, fun q => absurd q h0⟩
def sersOf (L : List RowR) : List (List Int) := L.map fun r => serD r.T
theorem own_lowZ {w : World} {B B' : Nat} {v : Value} {L : List Int} (h : OwnZ w B v L) (hB : B' ≤ B) : OwnZ w B' v L := own_mono h hB
theorem infoInts : (Tryz.prog.info? 23).map (fun i => (i.zero, i.size, i.bytes)) = some (some (.slice none 0 0), 1, 24) := by kernel_rfl
set_option maxHeartbeats 4000000 in
theorem fdEachRZ_any (L : List RowR) (n cap : Nat) (A : Option Addr) (w : World) (hZ : Rows w A n L) (hn : n ≤ 100) (hs : ∀ r ∈ L, r.n ≤ 12 ∧ ∀ t ∈ r.T, t ≤ 999999) :
    Calls Tryz.prog 126 #[.slice A n cap, .func (.func 127) #[] #[]] w (fun e w' => ∃ v, e = .returned v ∧ OwnSers w' w.heap.size v (sersOf L) ∧ Below w.heap.size w w') := by
  obtain ⟨i0, hi, hz0, hz1, hz2⟩ := info_parts infoInts
  have hni : (n : Int) ≤ 100 := by omega
  have H := Lib.hid hZ
  have HL := Lib.hid hZ.1
  have HS := Lib.hid hs
  unfold sersOf
  clear hZ hs
  go_enter Tryz.func126, Tryz.ntmps126
  go_wp2
  go_loopw [5, 10] (fun v i wr => ∃ k : Nat, k ≤ n ∧ i = .int .i64 k ∧ OwnSers wr w.heap.size v ((L.take k).map fun r => serD r.T) ∧ Below w.heap.size w wr) (fun _ i _ => n - (intOf i).toNat)
  case atStart => exact ⟨0, by omega, rfl, ⟨[], rfl, World.ownsRow_nil _ _ _ _, fun i l h => by simp at h⟩, Below.refl _ _⟩
  case round =>
    obtain ⟨k, hk, rfl, hown, hb⟩ := hrel
    by_cases hlt : k < n
    · obtain ⟨b', off, r, rfl, hbl, hx, ⟨hc0, hc1, hc2⟩, hT, hcap⟩ := (H.out.below hb).at_ hlt
      have hki : (k : Int) < (n : Int) := by omega
      have hk0 : (0 : Int) ≤ (k : Int) := by omega
      have hkt : ((k : Int)).toNat = k := by omega
      obtain ⟨hr1, hr2⟩ := HS.out r (List.mem_of_getElem? hx)
      have hlen : ((L.take k).map fun r => serD r.T).length = k := by rw [List.length_map, List.length_take, HL.out]; omega
      have hst : ((L.take (k + 1)).map fun r => serD r.T) = ((L.take k).map fun r => serD r.T) ++ [serD r.T] := by rw [List.take_add_one, hx, Option.toList_some, List.map_append]; rfl
      have Hst := Lib.hid hst
      have Hlen := Lib.hid hlen
      obtain ⟨p, hp⟩ : ∃ p, wr.heap.size = p := ⟨_, rfl⟩
      obtain ⟨wx, hwx⟩ : ∃ wx, wr.alloc (.cells #[.string r.s, .slice r.A r.n r.c, .bool r.rt] 55) = wx := ⟨_, rfl⟩
      have hbx0 : Below wr.heap.size wr wx := by rw [← hwx]; exact balloc _ (Below.refl _ _)
      have hbx : Below w.heap.size w wx := by rw [← hwx]; exact hb.alloc hb.size _
      have x0 : wx.cell? ⟨p, 0, none⟩ = some (.string r.s) := by rw [← hwx, ← hp]; simp
      have x1 : wx.cell? ⟨p, 1, none⟩ = some (.slice r.A r.n r.c) := by rw [← hwx, ← hp]; simp
      have x2 : wx.cell? ⟨p, 2, none⟩ = some (.bool r.rt) := by rw [← hwx, ← hp]; simp
      have hN := fdSeries_any r wx (hT.below hbx0) hr1 hr2
      have HBX := Lib.hid hbx
      have HOX : Hid (OwnSers wx w.heap.size _ ((L.take k).map fun r => serD r.T)) := Lib.hid (hown.below hbx0)
      generalize ((L.take k).map fun r => serD r.T) = P at *
      generalize serD r.T = Q at *
      clear hst hlen hx hown hb hbx hT hr1 hr2 hcap hbx0
      go_wp2_with fail
      refine hN.mono ?_
      rintro e w5 ⟨u, rfl, hu0, hb5⟩
      have hb15 := bstep HBX.out hb5
      obtain ⟨vs, hvl, hvo, hvi⟩ := HOX.out.below hb5
      have hu : OwnZ w5 w.heap.size u Q := own_lowZ hu0 HBX.out.size
      obtain ⟨ua, uc, rfl, _⟩ := IntsZ.of_own hu
      have HU := Lib.hid hu
      have HV := Lib.hid hvi
      rw [Hlen.out] at hvo
      obtain ⟨q, hq⟩ : ∃ q, Q.length = q := ⟨_, rfl⟩
      rw [hq] at HU ⊢
      clear hb5 hu0 hu hvi hN
      go_wp2_with (at_builtin; refine wpList_append_own _ rfl _ _ 201 rfl w.heap.size 23 i0 (.slice none 0 0) 1 24 Tryz.underlying201 hi hz0 hz1 hz2 rfl (by decide) _ _ _ rfl (World.ownsRow.alloc hvo _) ⟨w5.heap.size, 0, none⟩ 1 1 [.slice ua q uc] rfl rfl ?c1 ?c2 ?c3 ?c4 ?c5 ?_)
      case c1 =>
        intro j u hj
        match j, hj with
        | 0, hj => simp at hj; subst hj; simp [Addr.add]
      case c2 => intro u hu; simp at hu; subst hu; rfl
      case c3 => unfold maxLen; omega
      case c4 => omega
      case c5 => have := hb15.size; simp; omega
      intro v' w2 hown' hgrow _
      have hb2 : Below w.heap.size w w2 := (hb15.alloc hb15.size _).grown hgrow (by have := hb15.size; simp; omega) (fun r hr => (World.ownsRow.lt hvo r hr).1)
      have ho2 : OwnSers w2 w.heap.size v' ((L.take (k + 1)).map fun r => serD r.T) := by
        rw [Hst.out]
        exact sers_next hvl (by rw [Hlen.out]; exact World.ownsRow.alloc hvo _) (fun i l hl => by obtain ⟨u, h1, h2⟩ := HV.out i l hl; exact ⟨u, h1, World.ownsRow.alloc h2 _⟩) (World.ownsRow.alloc HU.out _) (by rw [Hlen.out]; exact hown') hgrow
      clear hown' hgrow hvo hb15 hc0 hc1 hc2
      go_wp2
      go_roundw
      case rel => exact ⟨k + 1, by omega, by go_num, ho2, hb2⟩
      case measure => simp [intOf]; omega
    · have hkn : k = n := by omega
      rw [hkn, List.take_of_length_le (by rw [HL.out]; omega)] at hown
      have HO := Lib.hid hown
      clear hown
      go_wp2
      go_ret
      exact ⟨_, rfl, HO.out, hb⟩
def rkR (S : List (List Int)) (i : Nat) : Bool := decide (0 < (S.getD i []).length)
def rkBt (S : List (List Int)) (j i : Nat) : Bool := decide (0 < cmpL (S.getD j []) (S.getD i []))
set_option maxHeartbeats 1000000 in
theorem fdRkA_any (S : List (List Int)) (n c bx : Nat) (A : Option Addr) (hn : n ≤ 100) (i : Nat) (hi : i < n) (w : World) (hS : SersZ w A n S) (hs : ∀ l ∈ S, l.length ≤ 12) (hbx : bx < w.heap.size) (hc : w.cell? ⟨bx, 0, none⟩ = some (.slice A n c)) :
    Calls Tryz.prog 128 #[.int .i64 i, .pointer (some ⟨bx, 0, none⟩)] w (RetPost (.bool (rkR S i)) w) := by
  obtain ⟨b, off, rfl, hbl, hcc⟩ := hS.2 (by omega)
  have hl : i < S.length := by rw [hS.1]; exact hi
  obtain ⟨A', c', h1, h2⟩ := hcc i S[i] (List.getElem?_eq_getElem hl)
  have hii : (i : Int) < (n : Int) := by omega
  have hi0 : (0 : Int) ≤ (i : Int) := by omega
  have hit : ((i : Int)).toNat = i := by omega
  have e : rkR S i = decide ((0 : Int) < (S[i].length : Int)) := by
    unfold rkR
    rw [List.getD_eq_getElem?_getD, List.getElem?_eq_getElem hl]
    simp
  rw [e]
  generalize S[i].length = m at *
  clear e hcc hS h2
  go_enter Tryz.func128, Tryz.ntmps128
  go_wp2
  go_ret
  exact ⟨by simp, Below.refl _ _⟩
end Go.Mk
