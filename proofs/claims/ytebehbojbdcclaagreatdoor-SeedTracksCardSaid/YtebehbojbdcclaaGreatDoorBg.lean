/-
  Proved: the law's helpers rounds, list and SameInts on lists of integers. Conditions: the lists lie where the slices say, at most 300 long.
-/
import Derived.Test.YtebehbojbdcclaaGreatDoorBf
import Derived.BigQuiet
set_option linter.unusedVariables false
set_option linter.unusedSimpArgs false
open Go Go.Proofs Go.RowKit Go.Sort
set_option maxRecDepth 100000
namespace Go.Mk
/-- The integers of a list lie in the cells of a slice. -/
def IntsZ (w : World) (A : Option Addr) (n : Nat) (L : List Int) : Prop :=
  L.length = n ∧ (0 < n → ∃ g off, A = some ⟨g, off, none⟩ ∧ g < w.heap.size ∧ ∀ (j : Nat) (x : Int), L[j]? = some x → w.cell? ⟨g, off + j, none⟩ = some (.int .i64 x))
theorem IntsZ.below {w w' : World} {A : Option Addr} {n : Nat} {L : List Int} (h : IntsZ w A n L) (hb : Below w.heap.size w w') : IntsZ w' A n L := by
  refine ⟨h.1, fun hn => ?_⟩
  obtain ⟨g, off, e, hlt, hc⟩ := h.2 hn
  exact ⟨g, off, e, Nat.lt_of_lt_of_le hlt hb.size, fun j x hx => (hb.cell (p := ⟨g, _, none⟩) hlt).trans (hc j x hx)⟩
theorem IntsZ.of_own {w : World} {base : Nat} {v : Value} {L : List Int} (h : OwnInts w base v L) : ∃ A c, v = .slice A L.length c ∧ IntsZ w A L.length L := by
  rcases h.2 with ⟨a, b⟩ | ⟨g, cap, cur, a, b, c, d, e1, f, hx⟩
  · exact ⟨none, 0, by rw [a, b], rfl, fun hn => absurd hn (by omega)⟩
  · refine ⟨_, cap, a, rfl, fun _ => ⟨g, 0, rfl, (Array.getElem?_eq_some_iff.1 c).1, fun j x hj => ?_⟩⟩
    have := World.ownsRow.cells h (g := g) (by rw [a]; rfl) j (.int .i64 x) (by simp [hj])
    rwa [show (⟨g, 0, none⟩ : Addr).add j = ⟨g, 0 + j, none⟩ from by unfold Addr.add; split <;> simp_all] at this
set_option maxHeartbeats 1000000 in
theorem sameZ_any (L : List Int) (A1 A2 : Option Addr) (n c1 c2 : Nat) (w : World) (hn : n ≤ 300) (h1 : IntsZ w A1 n L) (h2 : IntsZ w A2 n L) :
    Calls Tryz.prog 34 #[.slice A1 n c1, .slice A2 n c2] w (RetPost (.bool true) w) := by
  have hn0 : (n : Int) ≤ 300 := by omega
  have H1 := Lib.hid h1
  have H2 := Lib.hid h2
  clear h1 h2 hn
  go_enter Tryz.func34, Tryz.ntmps34
  go_wp2
  go_loopw [5] (fun i wr => ∃ k : Nat, k ≤ n ∧ i = .int .i64 k ∧ Below w.heap.size w wr) (fun i _ => n - (intOf i).toNat)
  case atStart => exact ⟨0, by omega, rfl, Below.refl _ _⟩
  case round =>
    obtain ⟨k, hk, rfl, hb⟩ := hrel
    by_cases hlt : k < n
    · have g1 := H1.out.below hb
      have g2 := H2.out.below hb
      obtain ⟨p1, f1, rfl, _, q1⟩ := g1.2 (by omega)
      obtain ⟨p2, f2, rfl, _, q2⟩ := g2.2 (by omega)
      have hkl : k < L.length := by rw [g1.1]; exact hlt
      have c1' := q1 k L[k] (List.getElem?_eq_getElem hkl)
      have c2' := q2 k L[k] (List.getElem?_eq_getElem hkl)
      obtain ⟨x, hx⟩ : ∃ x, L[k] = x := ⟨_, rfl⟩
      rw [hx] at c1' c2'
      have hki : (k : Int) < (n : Int) := by omega
      have hk0 : (0 : Int) ≤ (k : Int) := by omega
      have hkt : ((k : Int)).toNat = k := by omega
      clear q1 q2 g1 g2 hx hkl H1 H2
      go_wp2_with fail
      go_quiet (fail)
      go_wp2
      exact ⟨⟨k + 1, by omega, by go_num, below_drewN hb _⟩, by simp [intOf]; omega⟩
    · go_wp2
      go_ret
      exact ⟨rfl, hb⟩
set_option maxHeartbeats 400000 in
theorem l4list_bad (b : Int) (h : (b != 0) = true) (w : World) : Calls Tryz.prog 15 #[.slice none 0 0, .int .i64 b, .int .i64 b, .slice none 0 0] w (RetPost (.bool true) w) := by
  have hb : (b == b) = true := by simp
  go_enter Tryz.func15, Tryz.ntmps15
  go_wp2
  go_ret
  exact ⟨rfl, Below.refl _ _⟩
set_option maxHeartbeats 400000 in
theorem l4list_ok (L : List Int) (A1 A2 : Option Addr) (n c1 c2 : Nat) (w : World) (hn : n ≤ 300) (h1 : IntsZ w A1 n L) (h2 : IntsZ w A2 n L) :
    Calls Tryz.prog 15 #[.slice A1 n c1, .int .i64 0, .int .i64 0, .slice A2 n c2] w (RetPost (.bool true) w) := by
  have hs := sameZ_any L A1 A2 n c1 c2 w hn h1 h2
  clear h1 h2
  go_enter Tryz.func15, Tryz.ntmps15
  go_wp2_with fail
  refine hs.mono ?_
  rintro e w2 ⟨rfl, hb2⟩
  go_wp2
  go_ret
  exact ⟨rfl, hb2⟩
set_option maxHeartbeats 4000000 in
theorem l4rounds_any (L : List (Int × Int × Int)) (n cap : Nat) (A : Option Addr) (B : Nat) (w : World) (hM : Rnds w B A n L) (hn2 : n ≤ 20) :
    Calls Tryz.prog 20 #[.slice A n cap] w (Charted2 43 L w) := by
  obtain ⟨i0, hi, hz0, hz1, hz2⟩ := info_parts infoRRound
  have hni : (n : Int) ≤ 20 := by omega
  have HM : Hid (∀ w', Below w.heap.size w w' → Rnds w' B A n L) := fun w' hb => hM.below hb hM.2.1
  have Hlen : Hid (L.length = n) := hM.1
  clear hM
  go_enter Tryz.func20, Tryz.ntmps20
  go_wp2
  go_loopw [3, 4] (fun v i wr => ∃ (k : Nat) (P : List (Int × Int × Int)), i = .int .i64 k ∧ k ≤ n ∧ P.length = k ∧ Hid (P ++ L.drop k = L) ∧ OwnRounds wr w.heap.size 43 v P ∧ Below w.heap.size w wr) (fun _ i _ => n - (intOf i).toNat)
  case atStart => exact ⟨0, [], rfl, by omega, rfl, Lib.hid rfl, World.ownsRow_nil _ _ _ _, Below.refl _ _⟩
  case round =>
    obtain ⟨k, P, rfl, hk, hP, HK, hown, hb⟩ := hrel
    by_cases hlt : k < n
    · obtain ⟨b, off, h, p, t, rfl, hbl, hL, c0, c1, c2⟩ := (HM.out _ hb).at_ hlt
      have hD : L.drop k = (h, p, t) :: L.drop (k + 1) := by
        have hkl := (List.getElem?_eq_some_iff.1 hL).1
        rw [List.drop_eq_getElem_cons hkl, (List.getElem?_eq_some_iff.1 hL).2]
      have hst := HK.out
      rw [hD] at hst
      have Hst : Hid ((P ++ [(h, p, t)]) ++ L.drop (k + 1) = L) := (show _ = _ by rw [List.append_assoc]; exact hst)
      have hki : (k : Int) < (n : Int) := by omega
      clear hst hD hL HK
      go_wp2_with (at_builtin; refine wpList_append_own _ rfl _ _ 40 rfl w.heap.size 43 i0 (.agg #[.int .i64 0, .int .i64 0, .int .i64 0]) 3 24 Tryz.underlying40 hi hz0 hz1 hz2 rfl (by decide) _ _ _ rfl (World.ownsRow.alloc hown _) ⟨wr.heap.size, 0, none⟩ 1 1 (roundC (h, p, t)) rfl rfl ?c1 ?c2 ?c3 ?c4 ?c5 ?_)
      case c1 =>
        intro j u hj
        match j, hj with
        | 0, hj => simp [roundC] at hj; subst hj; simp [Addr.add]
        | 1, hj => simp [roundC] at hj; subst hj; simp [Addr.add]
        | 2, hj => simp [roundC] at hj; subst hj; simp [Addr.add]
      case c2 => intro u hu; simp [roundC] at hu; rcases hu with rfl | rfl | rfl <;> rfl
      case c3 => unfold maxLen; omega
      case c4 => omega
      case c5 => have := hb.size; simp; omega
      · intro v' w1 hown' hgrow _
        have hb1 : Below w.heap.size w w1 := (hb.alloc hb.size _).grown hgrow (by have := hb.size; simp; omega) (fun r hr => (World.ownsRow.lt hown r hr).1)
        have ho1 : OwnRounds w1 w.heap.size 43 v' (P ++ [(h, p, t)]) := OwnRounds.next (by rw [hP]; exact hown')
        clear hown' hgrow hown
        go_wp2
        go_roundw
        case rel => exact ⟨k + 1, P ++ [(h, p, t)], by go_num, by omega, by simp; omega, Hst, ho1, hb1⟩
        case measure => simp [intOf]; omega
    · have hk2 : k = n := by omega
      have hz := HK.out
      rw [List.drop_of_length_le (by rw [Hlen.out]; omega), List.append_nil] at hz
      subst hz
      go_wp2
      go_ret
      exact ⟨_, rfl, hown, hb⟩
/-- list of what both Numbers return. -/
theorem list_nums {X : List Int × Int} {v1 v2 : Value} {W1 W2 w : World} {B1 B2 : Nat} (hX : X.1.length ≤ 300) (k1 : X.2 ≠ 0 → v1 = .slice none 0 0) (k2 : X.2 ≠ 0 → v2 = .slice none 0 0) (o1 : OwnInts W1 B1 v1 X.1) (o2 : OwnInts W2 B2 v2 X.1) (b1 : Below W1.heap.size W1 w) (b2 : Below W2.heap.size W2 w) :
    Calls Tryz.prog 15 #[v1, .int .i64 X.2, .int .i64 X.2, v2] w (RetPost (.bool true) w) := by
  by_cases h : X.2 = 0
  · rw [h]
    obtain ⟨A1, c1, rfl, h1⟩ := IntsZ.of_own o1
    obtain ⟨A2, c2, rfl, h2⟩ := IntsZ.of_own o2
    exact l4list_ok X.1 A1 A2 _ c1 c2 w hX (h1.below b1) (h2.below b2)
  · rw [k1 h, k2 h]
    exact l4list_bad X.2 (by rw [bne_iff_ne]; exact h) w
end Go.Mk
