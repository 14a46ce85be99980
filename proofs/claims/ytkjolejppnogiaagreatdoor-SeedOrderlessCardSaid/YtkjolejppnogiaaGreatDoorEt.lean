/-
  Proved: the law's own copy of heats of runners, as those of the reference; read in cells again. Conditions: the runners lie where the slices say; at most 100 heats, each at most 1,000 long.
  Proved: the law's runners returns a copy of heats of runners in new memory. Conditions: the runners lie where the slices say; at most 100 heats, each at most 1,000 long.
-/
import Derived.Test.YtkjolejppnogiaaGreatDoorEq
section
set_option linter.unusedVariables false
set_option linter.unusedSimpArgs false
open Go Go.Proofs Go.RowKit Go.Sort
set_option maxRecDepth 100000
namespace Go.Mk
def runC (x : Run) : List Value := [.string x.name, .string x.kind, .int .i64 x.value, .string x.reason]
/-- A list of runners in new memory. -/
def OwnRuns (w : World) (B : Nat) (v : Value) (L : List Run) : Prop := w.ownsRow B 83 4 v L.length (L.flatMap runC)
theorem OwnRuns.next {w1 : World} {B : Nat} {v' : Value} {L : List Run} {r : Run} (h : w1.ownsRow B 83 4 v' (L.length + 1) (L.flatMap runC ++ runC r)) : OwnRuns w1 B v' (L ++ [r]) := by
  unfold OwnRuns
  rw [List.length_append, List.flatMap_append]
  simpa using h
theorem runC_at : ∀ (l : List Run) (i : Nat) (x : Run) (j : Nat), l[i]? = some x → j < 4 → (l.flatMap runC)[i * 4 + j]? = (runC x)[j]?
  | [], i, x, j, h, _ => by simp at h
  | y :: l, 0, x, j, h, hj => by
    simp at h
    subst h
    rw [List.flatMap_cons, Nat.zero_mul, Nat.zero_add, List.getElem?_append_left (by simpa [runC] using hj)]
  | y :: l, i + 1, x, j, h, hj => by
    have ih := runC_at l i x j (by simpa using h) hj
    rw [List.flatMap_cons, List.getElem?_append_right (by simp [runC]; omega), ← ih]
    congr 1
    simp [runC]
    omega
theorem Runs.of_own {w : World} {base : Nat} {v : Value} {L : List Run} (h : OwnRuns w base v L) : ∃ A c, v = .slice A L.length c ∧ Runs w w.heap.size A L.length L := by
  by_cases h0 : 0 < L.length
  · obtain ⟨g, c, rfl, hgb, hgl⟩ := ownSome h h0
    refine ⟨_, _, rfl, rfl, Nat.le_refl _, fun _ => ⟨g, 0, rfl, hgl, fun i x hx => ?_⟩⟩
    have hcell : ∀ j, j < 4 → w.cell? ⟨g, i * 4 + j, none⟩ = (runC x)[j]? := fun j hj => by
      have e := runC_at L i x j hx hj
      obtain ⟨u, hu⟩ : ∃ u, (runC x)[j]? = some u := ⟨(runC x)[j]'(by simpa [runC] using hj), List.getElem?_eq_getElem _⟩
      rw [hu] at e ⊢
      have := World.ownsRow.cells h (g := g) rfl (i * 4 + j) u e
      rwa [show (⟨g, 0, none⟩ : Addr).add (i * 4 + j) = ⟨g, i * 4 + j, none⟩ from by unfold Addr.add; split <;> simp_all] at this
    have q0 := hcell 0 (by decide)
    have q1 := hcell 1 (by decide)
    have q2 := hcell 2 (by decide)
    have q3 := hcell 3 (by decide)
    rw [Nat.zero_add]
    exact ⟨q0, q1, q2, q3⟩
  · obtain ⟨a, c, rfl⟩ : ∃ a c, v = .slice a L.length c := by
      rcases h.2 with ⟨hv, h0⟩ | ⟨g, cap, cur, hv, _⟩
      · exact ⟨none, 0, by rw [hv, h0]⟩
      · exact ⟨_, _, hv⟩
    exact ⟨a, c, rfl, rfl, Nat.le_refl _, fun q => absurd q h0⟩
theorem OwnRuns.low {w : World} {B B' : Nat} {v : Value} {L : List Run} (h : OwnRuns w B v L) (hB : B' ≤ B) : OwnRuns w B' v L := by
  refine ⟨h.1, ?_⟩
  rcases h.2 with ⟨a, b⟩ | ⟨g, cap, cur, a, b, c, d⟩
  · exact .inl ⟨a, b⟩
  · exact .inr ⟨g, cap, cur, a, Nat.le_trans hB b, c, d⟩
/-- Rows of different types of elements lie apart. -/
theorem own_apart {w : World} {B B' s s' n n' e e' : Nat} {u v : Value} {xs ys : List Value} (he : e ≠ e') (h : w.ownsRow B e s u n xs) (h' : w.ownsRow B' e' s' v n' ys) : u.ownBlock = none ∨ u.ownBlock ≠ v.ownBlock := by
  rcases h.2 with ⟨a, b⟩ | ⟨g, cap, cur, a, b, c, d⟩
  · exact .inl (by rw [a]; rfl)
  · right
    rcases h'.2 with ⟨a', b'⟩ | ⟨g', cap', cur', a', b', c', d'⟩
    · rw [a, a']; intro q; cases q
    · rw [a, a']
      intro q
      have q : g = g' := by simpa [Value.ownBlock] using q
      subst q
      rw [c] at c'
      cases c'
      exact he rfl
/-- Heats of runners in new memory. -/
def OwnHeats (w : World) (B : Nat) (v : Value) (LL : List (List Run)) : Prop :=
  ∃ vs : List Value, vs.length = LL.length ∧ w.ownsRow B 67 1 v LL.length vs ∧ ∀ (i : Nat) (l : List Run), LL[i]? = some l → ∃ u, vs[i]? = some u ∧ OwnRuns w B u l
theorem RHeats.of_own {w : World} {base : Nat} {v : Value} {LL : List (List Run)} (h : OwnHeats w base v LL) : ∃ A c, v = .slice A LL.length c ∧ RHeats w w.heap.size A LL.length LL := by
  obtain ⟨vs, hl, ho, hi⟩ := h
  by_cases h0 : 0 < LL.length
  · obtain ⟨g, c, rfl, hgb, hgl⟩ := ownSome ho h0
    refine ⟨_, _, rfl, rfl, Nat.le_refl _, fun _ => ⟨g, 0, rfl, hgl, fun i l hx => ?_⟩⟩
    obtain ⟨u, hu, hr⟩ := hi i l hx
    obtain ⟨A', c', rfl, hR⟩ := Runs.of_own hr
    have := World.ownsRow.cells ho (g := g) rfl i _ hu
    rw [show (⟨g, 0, none⟩ : Addr).add i = ⟨g, 0 + i, none⟩ from by unfold Addr.add; split <;> simp_all] at this
    exact ⟨A', c', this, hR⟩
  · obtain ⟨a, c, rfl⟩ : ∃ a c, v = .slice a LL.length c := by
      rcases ho.2 with ⟨hv, h0⟩ | ⟨g, cap, cur, hv, _⟩
      · exact ⟨none, 0, by rw [hv, h0]⟩
      · exact ⟨_, _, hv⟩
    exact ⟨a, c, rfl, rfl, Nat.le_refl _, fun q => absurd q h0⟩
theorem OwnHeats.below {w w' : World} {B : Nat} {v : Value} {LL : List (List Run)} (h : OwnHeats w B v LL) (hb : Below w.heap.size w w') : OwnHeats w' B v LL := by
  obtain ⟨vs, hl, ho, hi⟩ := h
  exact ⟨vs, hl, ownN ho hb, fun i l hx => by obtain ⟨u, hu, hr⟩ := hi i l hx; exact ⟨u, hu, ownN hr hb⟩⟩
end Go.Mk
end
section
set_option linter.unusedVariables false
set_option linter.unusedSimpArgs false
open Go Go.Proofs Go.RowKit Go.Sort
set_option maxRecDepth 100000
namespace Go.Mk
theorem infoRRun : (Tryz.prog.info? 83).map (fun i => (i.zero, i.size, i.bytes)) = some (some (.agg #[.string ⟨#[]⟩, .string ⟨#[]⟩, .int .i64 0, .string ⟨#[]⟩]), 4, 56) := by kernel_rfl
theorem infoRRuns : (Tryz.prog.info? 67).map (fun i => (i.zero, i.size, i.bytes)) = some (some (.slice none 0 0), 1, 24) := by kernel_rfl
theorem OwnRuns.shape {w : World} {B : Nat} {v : Value} {L : List Run} (h : OwnRuns w B v L) : ∃ a c, v = .slice a L.length c := by
  rcases h.2 with ⟨hv, h0⟩ | ⟨g, cap, cur, hv, _⟩
  · exact ⟨none, 0, by rw [hv, h0]⟩
  · exact ⟨_, _, hv⟩
theorem heats_next {w1 w2 : World} {B : Nat} {v v' u : Value} {P : List (List Run)} {l : List Run} {vs : List Value} (hl : vs.length = P.length) (ho : w1.ownsRow B 67 1 v P.length vs) (hi : ∀ (i : Nat) (l : List Run), P[i]? = some l → ∃ u, vs[i]? = some u ∧ OwnRuns w1 B u l) (hu : OwnRuns w1 B u l)
    (hown' : w2.ownsRow B 67 1 v' (P.length + 1) (vs ++ [u])) (hg : w1.grownBy w2 v.ownBlock) : OwnHeats w2 B v' (P ++ [l]) := by
  have hne : (83 : Nat) ≠ 67 := by decide
  refine ⟨vs ++ [u], by simp [hl], by rw [List.length_append]; exact hown', fun i q hq => ?_⟩
  by_cases h : i < P.length
  · rw [List.getElem?_append_left h] at hq
    obtain ⟨u', hu', hr⟩ := hi i q hq
    exact ⟨u', by rw [List.getElem?_append_left (by omega)]; exact hu', World.ownsRow.kept hr hg (own_apart hne hr ho)⟩
  · rw [List.getElem?_append_right (by omega)] at hq
    have h2 : i - P.length = 0 := by
      have := (List.getElem?_eq_some_iff.1 hq).1
      simp at this
      omega
    rw [h2] at hq
    simp at hq
    subst hq
    refine ⟨u, ?_, World.ownsRow.kept hu hg (own_apart hne hu ho)⟩
    rw [List.getElem?_append_right (by omega), show i - vs.length = 0 from by omega]
    rfl
set_option maxHeartbeats 8000000 in
theorem l4runners_any (LL : List (List Run)) (n cap : Nat) (A : Option Addr) (B : Nat) (w : World) (hZ : RHeats w B A n LL) (hn : n ≤ 100) (hs : ∀ l ∈ LL, l.length ≤ 1000) :
    Calls Tryz.prog 35 #[.slice A n cap] w (fun e w' => ∃ v, e = .returned v ∧ OwnHeats w' w.heap.size v LL ∧ Below w.heap.size w w') := by
  obtain ⟨i0, hi, hz0, hz1, hz2⟩ := info_parts infoRRun
  obtain ⟨i1, hj', hy0, hy1, hy2⟩ := info_parts infoRRuns
  have hni : (n : Int) ≤ 100 := by omega
  have HM : Hid (∀ w', Below w.heap.size w w' → RHeats w' B A n LL) := fun w' hb => hZ.below hb hZ.2.1
  have Hlen : Hid (LL.length = n) := hZ.1
  have HS := Lib.hid hs
  clear hZ hs
  go_enter Tryz.func35, Tryz.ntmps35
  go_wp2
  go_loopw [3, 4] (fun v i wr => ∃ (k : Nat) (P : List (List Run)), i = .int .i64 k ∧ k ≤ n ∧ P.length = k ∧ Hid (P ++ LL.drop k = LL) ∧ OwnHeats wr w.heap.size v P ∧ Below w.heap.size w wr) (fun _ i _ => n - (intOf i).toNat)
  case atStart => exact ⟨0, [], rfl, by omega, rfl, Lib.hid rfl, ⟨[], rfl, World.ownsRow_nil _ _ _ _, fun i l h => by simp at h⟩, Below.refl _ _⟩
  case round =>
    obtain ⟨k, P, rfl, hk, hP, HK, hown, hb⟩ := hrel
    by_cases hlt : k < n
    · obtain ⟨b, off, l, A', c', rfl, hbl, hL, hc, hZl⟩ := (HM.out _ hb).at_ hlt
      have hst := HK.out
      rw [drop_cons hL] at hst
      have Hst : Hid ((P ++ [l]) ++ LL.drop (k + 1) = LL) := (show _ = _ by rw [List.append_assoc]; exact hst)
      have HL := Lib.hid hL
      have hki : (k : Int) < (n : Int) := by omega
      obtain ⟨m, hm⟩ : ∃ m, l.length = m := ⟨_, rfl⟩
      have hm1 := HS.out l (List.mem_of_getElem? hL)
      rw [hm] at hc hm1
      have Hm := Lib.hid hm
      have hmi : (m : Int) ≤ 1000 := by omega
      obtain ⟨wy, hwy⟩ : ∃ wy : World, wy = wr := ⟨_, rfl⟩
      have HO : Hid (OwnHeats wy w.heap.size _ P) := (show OwnHeats _ _ _ _ by rw [hwy]; exact hown)
      have HB : Hid (Below w.heap.size w wy) := (show Below _ _ _ by rw [hwy]; exact hb)
      have HP := Lib.hid hP
      clear hst hL HK hZl hm hown
      go_wp2
      go_loopw [5, 6] (fun v i wx => ∃ (j : Nat) (Q : List Run), i = .int .i64 j ∧ j ≤ m ∧ Q.length = j ∧ Hid (Q ++ l.drop j = l) ∧ OwnRuns wx wy.heap.size v Q ∧ Below wy.heap.size wy wx) (fun _ i _ => m - (intOf i).toNat)
      case atStart => exact ⟨0, [], rfl, by omega, rfl, Lib.hid rfl, World.ownsRow_nil _ _ _ _, by rw [hwy]; exact Below.refl _ _⟩
      case round =>
        obtain ⟨j, Q, rfl, hj, hQ, HJ, hownx, hbx⟩ := hrel
        have hbw : Below w.heap.size w wr := HB.out.trans (hbx.mono HB.out.size)
        clear hc hwy hb
        obtain ⟨b', off', l', A2, c2, hAq, _, hLq, hc2, hZ2⟩ := (HM.out _ hbw).at_ hlt
        cases hAq
        cases HL.out.symm.trans hLq
        rw [Hm.out] at hc2 hZ2
        by_cases hjm : j < m
        · obtain ⟨b2, off2, x, rfl, _, hx, c0, c1, c2', c3⟩ := hZ2.at_ hjm
          have hst := HJ.out
          rw [drop_cons hx] at hst
          have HJ2 : Hid ((Q ++ [x]) ++ l.drop (j + 1) = l) := (show _ = _ by rw [List.append_assoc]; exact hst)
          obtain ⟨nm, kd, v, r⟩ := x
          simp only at c0 c1 c2' c3
          have hji : (j : Int) < (m : Int) := by omega
          clear hst hx HJ hLq hZ2
          as_aux_lemma =>
            go_wp2_with (at_builtin; refine wpList_append_own _ rfl _ _ 67 rfl wy.heap.size 83 i0 (.agg #[.string ⟨#[]⟩, .string ⟨#[]⟩, .int .i64 0, .string ⟨#[]⟩]) 4 56 Tryz.underlying67 hi hz0 hz1 hz2 rfl (by decide) _ _ _ rfl (World.ownsRow.alloc hownx _) ⟨wr.heap.size, 0, none⟩ 1 1 (runC ⟨nm, kd, v, r⟩) rfl rfl ?c1 ?c2 ?c3 ?c4 ?c5 ?_)
            case c1 =>
              intro j u hj
              match j, hj with
              | 0, hj => simp [runC] at hj; subst hj; simp [Addr.add]
              | 1, hj => simp [runC] at hj; subst hj; simp [Addr.add]
              | 2, hj => simp [runC] at hj; subst hj; simp [Addr.add]
              | 3, hj => simp [runC] at hj; subst hj; simp [Addr.add]
            case c2 => intro u hu; simp [runC] at hu; rcases hu with rfl | rfl | rfl | rfl <;> rfl
            case c3 => unfold maxLen; omega
            case c4 => omega
            case c5 => have := hbx.size; simp; omega
            · intro v' w1 hown' hgrow _
              have hb1 : Below wy.heap.size wy w1 := (hbx.alloc hbx.size _).grown hgrow (by have := hbx.size; simp; omega) (fun r hr => (World.ownsRow.lt hownx r hr).1)
              have ho1 : OwnRuns w1 wy.heap.size v' (Q ++ [⟨nm, kd, v, r⟩]) := OwnRuns.next (by rw [hQ]; exact hown')
              clear hown' hgrow hownx
              go_wp2
              go_roundw
              case rel => exact ⟨j + 1, Q ++ [⟨nm, kd, v, r⟩], by go_num, by omega, by simp; omega, HJ2, ho1, hb1⟩
              case measure => simp [intOf]; omega
        · have hz := HJ.out
          rw [List.drop_of_length_le (by rw [Hm.out]; omega), List.append_nil] at hz
          subst hz
          obtain ⟨vs, hvl, hvo, hvi⟩ := OwnHeats.below HO.out hbx
          have hP2 := HP.out
          have hu : OwnRuns wr w.heap.size _ Q := OwnRuns.low hownx HB.out.size
          rw [hP2] at hvo
          clear HJ hLq hZ2
          obtain ⟨ua, uc, rfl⟩ := hu.shape
          have HU := Lib.hid hu
          have HV := Lib.hid hvi
          obtain ⟨q, hq⟩ : ∃ q, Q.length = q := ⟨_, rfl⟩
          rw [hq] at hownx
          have HUQ : Hid (OwnRuns wr w.heap.size (.slice ua q uc) Q) := (show OwnRuns _ _ _ _ by rw [← hq]; exact hu)
          rw [hq]
          clear hu hvi HU hownx hq hQ
          as_aux_lemma =>
            go_wp2_with (at_builtin; refine wpList_append_own _ rfl _ _ 59 rfl w.heap.size 67 i1 (.slice none 0 0) 1 24 Tryz.underlying59 hj' hy0 hy1 hy2 rfl (by decide) _ _ _ rfl (World.ownsRow.alloc hvo _) ⟨wr.heap.size, 0, none⟩ 1 1 [.slice ua q uc] rfl rfl ?c1 ?c2 ?c3 ?c4 ?c5 ?_)
            case c1 =>
              intro j u hj
              match j, hj with
              | 0, hj => simp at hj; subst hj; simp [Addr.add]
            case c2 => intro u hu; simp at hu; subst hu; rfl
            case c3 => unfold maxLen; omega
            case c4 => omega
            case c5 => have := hbw.size; simp; omega
            · intro v' w1 hown' hgrow _
              have hb1 : Below w.heap.size w w1 := (hbw.alloc hbw.size _).grown hgrow (by have := hbw.size; simp; omega) (fun r hr => (World.ownsRow.lt hvo r hr).1)
              have ho1 : OwnHeats w1 w.heap.size v' (P ++ [Q]) := heats_next hvl (by rw [hP2]; exact World.ownsRow.alloc hvo _) (fun i l hl => by obtain ⟨u, h1, h2⟩ := HV.out i l hl; exact ⟨u, h1, World.ownsRow.alloc h2 _⟩) (World.ownsRow.alloc HUQ.out _) (by rw [hP2]; exact hown') hgrow
              clear hown' hgrow hvo
              go_wp2
              go_roundw
              case rel => exact ⟨k + 1, P ++ [Q], by go_num, by omega, by simp; omega, Hst, ho1, hb1⟩
              case measure => simp [intOf]; omega
    · have hk2 : k = n := by omega
      have hz := HK.out
      rw [List.drop_of_length_le (by rw [Hlen.out]; omega), List.append_nil] at hz
      subst hz
      have HO := Lib.hid hown
      clear hown
      go_wp2
      go_ret
      exact ⟨_, rfl, HO.out, hb⟩
end Go.Mk
end
