/-
  Proved: the zones of a relay by package track and by its reference, and the reference's distance. Conditions: the legs lie where the slice says; there is at least one.
  Proved: append of a slice (nil or not) to a row of one's own, as an operation and as one step of a region that draws, telling where the new row lies. No condition.
-/
import Derived.Test.YtickjnahdeikfaaGreatDoorYh
import Derived.Test.YtickjnahdeikfaaGreatDoorYa
import Derived.Laws.AppendOwn
import Derived.Maps.AppendAt
import Derived.Deep.RegionLaw
section
set_option linter.unusedVariables false
set_option linter.unusedSimpArgs false
open Go Go.Proofs Go.RowKit
set_option maxRecDepth 100000
namespace Go.Mk
theorem RelB.old {W w w' : World} {A : Option Addr} {g n cap : Nat} {z b : Int} {L : List Int} (h : RelB W g A n cap z b L w) (hb : Below (g + 1) w w') (hs : w.heap.size = g + 1) : RelB W g A n cap z b L w' := h.next (by rw [hs]; exact hb)
set_option maxHeartbeats 4000000 in
theorem r7Zones_any (L : List Int) (n cap : Nat) (A : Option Addr) (z b : Int) (w : World) (hZ : IntsZ w A (n + 1) L) (hn : n ≤ 100) :
    Calls Tryz.prog 16 #[.agg #[.slice A (n + 1) cap, .int .i64 z, .int .i64 b]] w (fun e w' => ∃ v, e = .returned v ∧ OwnPairs w' (w.heap.size + 1) v (zonesW z b (L.take n) 0) ∧ Below w.heap.size w w') := by
  have hni : (n : Int) ≤ 100 := by omega
  obtain ⟨i0, hi, hz0, hz1, hz2⟩ := info_parts infoPair
  have HL := Lib.hid hZ.1
  obtain ⟨F, hF⟩ : ∃ F, zonesW z b (L.take n) 0 = F := ⟨_, rfl⟩
  rw [hF]
  have HF := Lib.hid hF
  have HN := Lib.hid (RelB.new (cap := cap) (z := z) (b := b) hZ 26)
  have hsz : (w.alloc (.cells #[.slice A (n + 1) cap, .int .i64 z, .int .i64 b] 26)).heap.size = w.heap.size + 1 := by simp
  clear hZ hF
  go_enter Tryz.func16, Tryz.ntmps16
  go_wp2
  obtain ⟨w1, hw1⟩ : ∃ w1, w.alloc (.cells #[.slice A (n + 1) cap, .int .i64 z, .int .i64 b] 26) = w1 := ⟨_, rfl⟩
  rw [hw1] at HN hsz ⊢
  obtain ⟨g0, hg0⟩ : ∃ g0, w.heap.size = g0 := ⟨_, rfl⟩
  rw [hg0] at HN hsz ⊢
  clear hw1
  go_loopw [3, 4, 5] (fun v e i wr => ∃ (k : Nat) (s : Int) (P : List (Int × Int)), k ≤ n ∧ P.length = k ∧ i = .int .i64 k ∧ e = .int .i64 s ∧ Hid (P ++ zonesW z b ((L.take n).drop k) s = F) ∧ OwnPairs wr (g0 + 1) v P ∧ Below (g0 + 1) w1 wr) (fun _ _ i _ => n - (intOf i).toNat)
  case atStart => exact ⟨0, 0, [], by omega, rfl, rfl, rfl, Lib.hid (by rw [List.drop_zero]; exact HF.out), World.ownsRow_nil _ _ _ _, Below.refl _ _⟩
  case round =>
    obtain ⟨k, s, P, hk, hP, rfl, rfl, HK, hown, hb⟩ := hrel
    obtain ⟨c0, c1, c2, hgr, hbw, hzr⟩ := HN.out.old hb hsz
    by_cases hlt : k < n
    · obtain ⟨b', off, x, rfl, hbl, hx, hc0⟩ := hzr.cellAt (show k < n + 1 by omega)
      have hki : (k : Int) < (n : Int) := by omega
      have hki1 : (k : Int) + 1 < (n : Int) + 1 := by omega
      have hki2 : (k : Int) < (n : Int) + 1 := by omega
      have hst := HK.out
      rw [zonesW_drop z b s (show (L.take n)[k]? = some x by rw [List.getElem?_take_of_lt hlt]; exact hx)] at hst
      have Hst : Hid ((P ++ [(wrap64 (wrap64 (s + x) - b), wrap64 (wrap64 (wrap64 (s + x) - b) + z))]) ++ zonesW z b ((L.take n).drop (k + 1)) (wrap64 (s + x)) = F) := Lib.hid (by rw [← hst]; simp)
      clear hst HK hx hzr
      go_wp2_with (at_builtin; refine wpList_append_own _ rfl _ _ 32 rfl (g0 + 1) 47 i0 (.agg #[.int .i64 0, .int .i64 0]) 2 16 Tryz.underlying32 hi hz0 hz1 hz2 rfl (by decide) _ _ _ rfl (World.ownsRow.alloc hown _) ⟨wr.heap.size, 0, none⟩ 1 1 (pairC (wrap64 (wrap64 (s + x) - b), wrap64 (wrap64 (wrap64 (s + x) - b) + z))) rfl rfl ?c1 ?c2 ?c3 ?c4 ?c5 ?_)
      case c1 =>
        intro j u hj
        match j, hj with
        | 0, hj => simp [pairC] at hj; subst hj; simp [Addr.add]
        | 1, hj => simp [pairC] at hj; subst hj; simp [Addr.add]
      case c2 => intro u hu; simp [pairC] at hu; rcases hu with rfl | rfl <;> rfl
      case c3 => unfold maxLen; omega
      case c4 => omega
      case c5 => have := hb.size; simp; omega
      intro v' w2 hown' hgrow _
      have hb2 : Below (g0 + 1) w1 w2 := (hb.alloc (by omega) _).grown hgrow (by have := hb.size; simp; omega) (fun r hr => (World.ownsRow.lt hown r hr).1)
      have ho2 : OwnPairs w2 (g0 + 1) v' (P ++ [(wrap64 (wrap64 (s + x) - b), wrap64 (wrap64 (wrap64 (s + x) - b) + z))]) := OwnPairs.next (by rw [hP]; simpa using hown')
      clear hown' hgrow hown hb
      go_wp2
      go_roundw
      case rel => exact ⟨k + 1, _, _, by omega, by simp [hP], by go_num, rfl, Hst, ho2, hb2⟩
      case measure => simp [intOf]; omega
    · have hkn : k = n := by omega
      have hki1 : ¬ ((k : Int) + 1 < (n : Int) + 1) := by omega
      have h0 := HK.out
      rw [hkn, List.drop_of_length_le (by rw [List.length_take, HL.out]; omega), zonesW, List.append_nil] at h0
      subst h0
      clear HK
      go_wp2
      go_ret
      exact ⟨_, rfl, hown, by rw [← hg0]; exact hbw⟩
set_option maxHeartbeats 1000000 in
theorem r7Whole_any (L : List Int) (n cap : Nat) (A : Option Addr) (z b : Int) (w : World) (hZ : IntsZ w A n L) (hn : n ≤ 100) :
    Calls Tryz.prog 48 #[.agg #[.slice A n cap, .int .i64 z, .int .i64 b]] w (RetPost (.int .i64 (sumW L 0)) w) := by
  have hni : (n : Int) ≤ 100 := by omega
  have Hn := Lib.hid hZ.1
  obtain ⟨y, hy⟩ : ∃ y, sumW L 0 = y := ⟨_, rfl⟩
  rw [hy]
  have HY : Hid (sumW (L.drop 0) 0 = y) := by rw [← hy]; rfl
  obtain ⟨c0, c1, c2, hgr, hbw, hzr⟩ := RelB.new (cap := cap) (z := z) (b := b) hZ 26
  have H := Lib.hid hzr
  clear hZ hy hzr
  go_enter Tryz.func48, Tryz.ntmps48
  go_wp2
  go_loop [3, 4] (fun s i => ∃ (k : Nat) (v : Int), k ≤ n ∧ i = .int .i64 k ∧ s = .int .i64 v ∧ Hid (sumW (L.drop k) v = y)) (fun _ i => n - (intOf i).toNat)
  case atStart => exact ⟨0, 0, by omega, rfl, rfl, HY⟩
  case round =>
    obtain ⟨k, v, hk, rfl, rfl, HK⟩ := hrel
    by_cases hlt : k < n
    · obtain ⟨b', off, x, rfl, hbl, hx, hc⟩ := H.out.cellAt hlt
      have hki : (k : Int) < (n : Int) := by omega
      have hd : L.drop k = x :: L.drop (k + 1) := by
        have hkl := (List.getElem?_eq_some_iff.1 hx).1
        rw [List.drop_eq_getElem_cons hkl, (List.getElem?_eq_some_iff.1 hx).2]
      have Hst : Hid (sumW (L.drop (k + 1)) (wrap64 (v + x)) = y) := Lib.hid (by have := HK.out; rw [hd] at this; exact this)
      clear HK hx hd
      go_wp2
      exact ⟨⟨k + 1, _, by omega, by go_num, rfl, Hst⟩, by simp [intOf]; omega⟩
    · have hkn : k = n := by omega
      have h0 := HK.out
      rw [hkn, List.drop_of_length_le (by rw [Hn.out]; omega)] at h0
      have h0' : v = y := h0
      subst h0'
      go_wp2
      go_ret
      exact ⟨rfl, hbw⟩
end Go.Mk
end
section
set_option linter.unusedVariables false
set_option linter.unusedSimpArgs false
open Go Go.Proofs Go.RowKit Go.Sort
set_option maxRecDepth 100000
namespace Go.Mk
/-- 'append(v, src...)', whatever src's address, as a step of a region that draws. -/
theorem step_append_src {P : Program} {ops : Array Oper} {o : Oper} {a : Act} {w : World} {K : Act → World → Prop} {Q : Exit → Act → World → Prop} {E : Prop}
    (hg : o.guard = none) (s x : Operand) (t : TypeId) (hop : o.op = Op.call { callee := Callee.builtin Builtin.append, args := #[s, x], argTypes := #[t, t] })
    (base : Nat) (e : TypeId) (i : TypeInfo) (z : Value) (size bytes : Nat) (ht : P.underlying t = some (.slice e)) (hi : P.info? e = some i) (hz : i.zero = some z)
    (hsize : i.size = size) (hby : i.bytes = bytes) (hzs : z.cells.size = size) (hsz : 0 < size)
    (v : Value) (n : Nat) (xs : List Value) (hs : a.eval s = v) (hown : w.ownsRow base e size v n xs)
    (ao : Option Addr) (m c : Nat) (news : List Value) (hx : a.eval x = .slice ao m c) (hl : news.length = m * size) (hnone : ao = none → m = 0 ∧ c = 0)
    (hnews : ∀ ad, ao = some ad → ∀ j u, news[j]? = some u → w.cell? (ad.add j) = some u) (h1 : ∀ u ∈ news, u.oneCell' = true)
    (h63 : n + m ≤ maxLen) (hbytes : (n + m) * bytes ≤ 140737488355328) (hbase : base ≤ w.heap.size)
    (hK : ∀ v' w', w'.ownsRow base e size v' (n + m) (xs ++ news) → w.grownBy w' v.ownBlock → (v'.ownBlock = v.ownBlock ∨ v'.ownBlock = some w.heap.size) → K (a.put o.dst v') w') :
    if Region.wanted o (yielded ops a.tmps) = true then Oper.wp P o a w K Q else E := by
  have hw : Region.wanted o (yielded ops a.tmps) = true := by simp [Region.wanted, hg]
  rw [if_pos hw]
  cases ao with
  | some ad =>
    obtain ⟨v', w', hr, h2, h3, _, h5⟩ := run_append_own_at (P := P) w base t o.type e i z size bytes ht hi hz hsize hby hzs hsz v n xs hown ad m c news hl (hnews ad rfl) h1 h63 hbytes hbase
    unfold Oper.wp execOp
    simp only [hop, resolve, invoke, builtin, Sem.run_bind, Sem.run_pure, Result.andThen_ok, List.map_toArray, List.map_cons, List.map_nil, hs, hx, hr]
    exact hK v' w' h2 h3 h5
  | none =>
    obtain ⟨rfl, rfl⟩ := hnone rfl
    have hn : news = [] := List.eq_nil_of_length_eq_zero (by simpa using hl)
    subst hn
    have hrun := run_append_owned_none (P := P) w base t o.type e i size ht hi v n xs hown
    unfold Oper.wp execOp
    simp only [hop, resolve, invoke, builtin, Sem.run_bind, Sem.run_pure, Result.andThen_ok, List.map_toArray, List.map_cons, List.map_nil, hs, hx, hrun]
    exact hK v w (by simpa using hown) (World.grownBy.refl _ _) (.inl rfl)
/-- 'append(v, src...)', whatever src's address: the row grows; it stays where it is, or lies in a new block. -/
theorem wpList_append_src {P : Program} (w : World) {ops : Array Oper} {rest : List Oper} {o : Oper} {a : Act} {Q : Exit → Act → World → Prop} (hgd : o.guard = none) (s x : Operand) (t : TypeId)
    (ho : o.op = .call { callee := .builtin .append, args := #[s, x], argTypes := #[t, t] })
    (base : Nat) (e : TypeId) (i : TypeInfo) (z : Value) (size bytes : Nat) (ht : P.underlying t = some (.slice e)) (hi : P.info? e = some i) (hz : i.zero = some z)
    (hsize : i.size = size) (hby : i.bytes = bytes) (hzs : z.cells.size = size) (hsz : 0 < size)
    (v : Value) (n : Nat) (xs : List Value) (hs : a.eval s = v) (hown : w.ownsRow base e size v n xs)
    (ao : Option Addr) (m c : Nat) (news : List Value) (hx : a.eval x = .slice ao m c) (hl : news.length = m * size) (hnone : ao = none → m = 0 ∧ c = 0)
    (hnews : ∀ ad, ao = some ad → ∀ j u, news[j]? = some u → w.cell? (ad.add j) = some u) (h1 : ∀ u ∈ news, u.oneCell' = true)
    (h63 : n + m ≤ maxLen) (hbytes : (n + m) * bytes ≤ 140737488355328) (hbase : base ≤ w.heap.size)
    (h : ∀ v' w', w'.ownsRow base e size v' (n + m) (xs ++ news) → w.grownBy w' v.ownBlock → (v'.ownBlock = v.ownBlock ∨ v'.ownBlock = some w.heap.size) → wpList P ops Q rest (a.put o.dst v') w') : wpList P ops Q (o :: rest) a w := by
  refine wpList_plain hgd fun K hK => ?_
  cases ao with
  | some ad =>
    obtain ⟨v', w', hr, h2, h3, _, h5⟩ := run_append_own_at (P := P) w base t o.type e i z size bytes ht hi hz hsize hby hzs hsz v n xs hown ad m c news hl (hnews ad rfl) h1 h63 hbytes hbase
    unfold Oper.wp execOp
    simp only [ho, resolve, invoke, builtin, Sem.run_bind, Sem.run_pure, Result.andThen_ok, List.map_toArray, List.map_cons, List.map_nil, hs, hx, hr]
    exact hK _ _ (h v' w' h2 h3 h5)
  | none =>
    obtain ⟨rfl, rfl⟩ := hnone rfl
    have hn : news = [] := List.eq_nil_of_length_eq_zero (by simpa using hl)
    subst hn
    have hrun := run_append_owned_none (P := P) w base t o.type e i size ht hi v n xs hown
    unfold Oper.wp execOp
    simp only [ho, resolve, invoke, builtin, Sem.run_bind, Sem.run_pure, Result.andThen_ok, List.map_toArray, List.map_cons, List.map_nil, hs, hx, hrun]
    exact hK _ _ (h v w (by simpa using hown) (World.grownBy.refl _ _) (.inl rfl))
end Go.Mk
end
