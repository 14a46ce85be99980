/-
  Proved: plain facts on a run without an error: what lies between two moments is a distance that is not negative and a time above 0, of at most nine digits. No condition.
  Proved: two rows of the same rational numbers' texts are told to be the same (the reference's SameRow); rows in new memory lie in the cells of slices. Conditions: the rows lie where the slices say; at most 300 elements.
-/
import Derived.Test.YtickjnahdeikfaaGreatDoorNo
import Derived.Test.YtickjnahdeikfaaGreatDoorYj
import Derived.Test.YtickjnahdeikfaaGreatDoorYk
section
set_option linter.unusedVariables false
set_option linter.unusedSimpArgs false
open Go Go.Proofs Go.RowKit
set_option maxRecDepth 100000
namespace Go.Mk
theorem fstN_zero : ∀ {l : List Int}, fstN l = 0 → ∀ x ∈ l, x = 0
  | [], _, x, hx => by cases hx
  | y :: l, h, x, hx => by
    unfold fstN at h
    by_cases q : y = 0
    · rw [if_pos q] at h
      rcases List.mem_cons.1 hx with rfl | hx
      · exact q
      · exact fstN_zero h x hx
    · rw [if_neg q] at h; exact absurd h q
theorem rngE_in {n lo hi : Int} (h : rngE n lo hi = 0) : lo ≤ n ∧ n ≤ hi := by
  unfold rngE at h
  split at h
  · cases h
  · omega
theorem sumW_in : ∀ (G : List Int) (s : Int), (∀ x ∈ G, 1 ≤ x ∧ x ≤ 999999) → 0 ≤ s → s + 999999 * (G.length : Int) ≤ 999999999 → 0 ≤ sumW G s ∧ sumW G s ≤ 999999999
  | [], s, _, h0, h1 => ⟨h0, by simpa [sumW] using h1⟩
  | x :: G, s, hG, h0, h1 => by
    have hx := hG x (by simp)
    rw [List.length_cons] at h1
    have hw : wrap64 (s + x) = s + x := IntWalk.wrap64_in _ (by omega)
    rw [sumW, hw]
    exact sumW_in G (s + x) (fun y hy => hG y (by simp [hy])) (by omega) (by omega)
theorem relW_sum {G : List Int} {z b : Int} (h : relW G z b = 0) : 0 ≤ sumW G 0 ∧ sumW G 0 ≤ 999999999 := by
  obtain ⟨m, hl, h1, h7⟩ := relW_len h
  unfold relW at h
  rw [if_neg (by omega)] at h
  have h0 := fstN_zero h (fstN (G.map fun x => rngE x 1 999999)) (by simp)
  refine sumW_in G 0 (fun x hx => ?_) (by omega) (by omega)
  exact rngE_in (fstN_zero h0 _ (List.mem_map.2 ⟨x, hx, rfl⟩))
theorem relW_zones {G : List Int} {z b : Int} (h : relW G z b = 0) : zErr (zonesW z b (G.take (G.length - 1)) 0) (-1) (sumW G 0) = 0 := by
  obtain ⟨m, hl, h1, h7⟩ := relW_len h
  unfold relW at h
  rw [if_neg (by omega)] at h
  exact fstN_zero h _ (by simp)
theorem exE_in {k : Nat} {p q z : Int × Int} (h : exE k p q z = 0) : 0 ≤ q.1 ∧ q.1 ≤ 999999999 ∧ 1 ≤ q.2 ∧ q.2 ≤ 863999999 ∧ (0 < k → p.1 < q.1 ∧ p.2 < q.2) ∧ q.1 ≤ z.2 := by
  unfold exE at h
  have a := rngE_in (fstN_zero h (rngE q.1 0 999999999) (by simp))
  have b := rngE_in (fstN_zero h (rngE q.2 1 863999999) (by simp))
  have c := fstN_zero h (if 0 < k ∧ (q.1 ≤ p.1 ∨ q.2 ≤ p.2) then 11 else 0) (by simp)
  have d := fstN_zero h (if q.1 < z.1 ∨ z.2 < q.1 then 18 else 0) (by simp)
  refine ⟨a.1, a.2, b.1, b.2, fun hk => ?_, ?_⟩
  · by_cases q0 : 0 < k ∧ (q.1 ≤ p.1 ∨ q.2 ≤ p.2)
    · rw [if_pos q0] at c; cases c
    · constructor <;> (apply Int.lt_of_not_ge; intro hq; exact q0 ⟨hk, by first | exact .inl hq | exact .inr hq⟩)
  · by_cases q0 : q.1 < z.1 ∨ z.2 < q.1
    · rw [if_pos q0] at d; cases d
    · omega
theorem gaps_ok (d f : Int) (hd : 0 ≤ d ∧ d ≤ 999999999) (hf : f ≤ 863999999) : ∀ (l zs : List (Int × Int)) (p : Int × Int) (k : Nat) (last : Int), l.length = zs.length → (runG p k l zs).2 = 0 → zErr zs last d = 0 → (k = 0 → p = (0, 0)) → (0 < k → p.1 ≤ last) →
    (0 ≤ p.1 ∧ p.1 ≤ 999999999 ∧ 0 ≤ p.2 ∧ p.2 ≤ 863999999) → (l.getLastD p).2 < f → ∀ g ∈ gapF p (l ++ [(d, f)]), okG g
  | [], [], p, k, last, _, _, hz, hk0, hk1, hp, hl, g, hg => by
    have hz' : last ≤ d := by
      unfold zErr at hz
      by_cases q : d < last
      · simp [q] at hz
      · omega
    have hl' : p.2 < f := by simpa using hl
    have hpd : p.1 ≤ d := by
      by_cases q : k = 0
      · rw [hk0 q]; exact hd.1
      · exact Int.le_trans (hk1 (by omega)) hz'
    have w1 : wrap64 (d - p.1) = d - p.1 := IntWalk.wrap64_in _ (by omega)
    have w2 : wrap64 (f - p.2) = f - p.2 := IntWalk.wrap64_in _ (by omega)
    simp only [List.nil_append, gapF, List.mem_singleton] at hg
    subst hg
    show 0 ≤ wrap64 (d - p.1) ∧ wrap64 (d - p.1) ≤ 999999999 ∧ 0 < wrap64 (f - p.2) ∧ wrap64 (f - p.2) ≤ 999999999
    rw [w1, w2]
    omega
  | q :: l, z :: zs, p, k, last, hlen, hr, hz, hk0, hk1, hp, hl, g, hg => by
    have he : exE k p q z = 0 := by
      unfold runG at hr
      by_cases q0 : exE k p q z = 0
      · exact q0
      · rw [if_neg q0] at hr; exact hr
    have hr' : (runG q (k + 1) l zs).2 = 0 := by
      unfold runG at hr
      rwa [if_pos he] at hr
    obtain ⟨a1, a2, a3, a4, a5, a6⟩ := exE_in he
    have hz' : zErr zs z.2 d = 0 := by
      unfold zErr at hz
      by_cases q0 : z.1 ≤ last
      · rw [if_pos q0] at hz; cases hz
      · rwa [if_neg q0] at hz
    rw [List.cons_append, gapF] at hg
    rcases List.mem_cons.1 hg with rfl | hg
    · have hx : p.1 ≤ q.1 ∧ p.2 < q.2 := by
        by_cases q0 : k = 0
        · rw [hk0 q0]; exact ⟨a1, by show (0 : Int) < q.2; omega⟩
        · have := a5 (by omega); omega
      have w1 : wrap64 (q.1 - p.1) = q.1 - p.1 := IntWalk.wrap64_in _ (by omega)
      have w2 : wrap64 (q.2 - p.2) = q.2 - p.2 := IntWalk.wrap64_in _ (by omega)
      show 0 ≤ wrap64 (q.1 - p.1) ∧ wrap64 (q.1 - p.1) ≤ 999999999 ∧ 0 < wrap64 (q.2 - p.2) ∧ wrap64 (q.2 - p.2) ≤ 999999999
      rw [w1, w2]
      omega
    · exact gaps_ok d f hd hf l zs q (k + 1) z.2 (by simpa using hlen) hr' hz' (fun h => absurd h (by omega)) (fun _ => a6) ⟨a1, a2, by omega, a4⟩ (by rw [List.getLastD_cons] at hl; exact hl) g hg
theorem lastD_of {L : List (Int × Int)} (h : 0 < L.length) (x y : Int × Int) : L.getD (L.length - 1) x = L.getLastD y := by
  cases L with
  | nil => simp at h
  | cons q l => rw [List.getLastD_eq_getLast?, List.getLast?_eq_getElem?]; simp [List.getD]
/-- A run without an error: its gaps are whole, and there is an exchange less than legs. -/
theorem crW_ok {G : List Int} {z b : Int} {L : List (Int × Int)} {f : Int} (hrel : relW G z b = 0) (h : crW G z b L f = (0, 0)) : L.length + 1 = G.length ∧ ∀ g ∈ gapF (0, 0) (L ++ [(sumW G 0, f)]), okG g := by
  obtain ⟨m, hl, h1, h7⟩ := relW_len hrel
  unfold crW at h
  rw [if_neg (by simp [hrel])] at h
  unfold runW at h
  rw [zonesT_len] at h
  by_cases c1 : L.length ≠ G.length - 1
  · rw [if_pos c1] at h; cases h
  rw [if_neg c1] at h
  by_cases c2 : rngE f 1 863999999 ≠ 0
  · rw [if_pos c2] at h; cases h
  rw [if_neg c2] at h
  have hf := rngE_in (Decidable.not_not.1 c2)
  have hr : (runG (0, 0) 0 L (zonesW z b (G.take (G.length - 1)) 0)).2 = 0 := by
    by_cases c3 : (runG (0, 0) 0 L (zonesW z b (G.take (G.length - 1)) 0)).2 = 0
    · exact c3
    · simp only [ne_eq, c3, not_false_eq_true, if_true] at h
      rw [h]
  simp only [hr, ne_eq, not_true_eq_false, if_false] at h
  have hlast : (L.getD (L.length - 1) (0, 0)).2 < f := by
    by_cases c4 : f ≤ (L.getD (L.length - 1) (0, 0)).2
    · rw [if_pos c4] at h
      have := congrArg Prod.snd h
      cases this
    · omega
  refine ⟨by omega, gaps_ok _ _ (relW_sum hrel) hf.2 L _ (0, 0) 0 (-1) (by rw [zonesT_len]; omega) hr (relW_zones hrel) (fun _ => rfl) (fun h => absurd h (by omega)) (by decide) ?_⟩
  rw [← lastD_of (by omega) (0, 0)]
  exact hlast
end Go.Mk
end
section
set_option linter.unusedVariables false
set_option linter.unusedSimpArgs false
open Go Go.Proofs Go.RowKit
set_option maxRecDepth 100000
namespace Go.Mk
/-- The texts of a list lie in the cells of a slice. -/
def TextR (w : World) (A : Option Addr) (n : Nat) (L : List ByteArray) : Prop :=
  L.length = n ∧ (0 < n → ∃ g off, A = some ⟨g, off, none⟩ ∧ g < w.heap.size ∧ ∀ (j : Nat) (x : ByteArray), L[j]? = some x → w.cell? ⟨g, off + j, none⟩ = some (.string x))
theorem ownV_cells {w : World} {B : Nat} {T : TypeId} {v : Value} {X : List Value} (h : OwnV w B T v X) : ∃ A c, v = .slice A X.length c ∧ (0 < X.length → ∃ g, A = some ⟨g, 0, none⟩ ∧ g < w.heap.size ∧ ∀ (j : Nat) (x : Value), X[j]? = some x → w.cell? ⟨g, 0 + j, none⟩ = some x) := by
  by_cases h0 : 0 < X.length
  · obtain ⟨g, c, rfl, hg1, hg2⟩ := ownSome h h0
    refine ⟨_, _, rfl, fun _ => ⟨g, rfl, hg2, fun j x hx => ?_⟩⟩
    have hj := (List.getElem?_eq_some_iff.1 hx).1
    rw [Nat.zero_add, World.ownsRow.cellAt h j (by omega)]
    exact hx
  · obtain rfl : X = [] := List.length_eq_zero_iff.1 (by omega)
    rcases h.2 with ⟨e, _⟩ | ⟨g, c, cur, e, _⟩
    · exact ⟨none, 0, e, fun q => absurd q (by simp)⟩
    · exact ⟨_, c, e, fun q => absurd q (by simp)⟩
theorem ints_ofV {w : World} {B : Nat} {T : TypeId} {v : Value} {M : List (Int × Int)} (h : OwnV w B T v (M.map legV)) : ∃ A c, v = .slice A M.length c ∧ IntsZ w A M.length (M.map Prod.snd) := by
  obtain ⟨A, c, e, hc⟩ := ownV_cells h
  rw [List.length_map] at e hc
  refine ⟨A, c, e, by simp, fun h0 => ?_⟩
  obtain ⟨g, e2, hg, hx⟩ := hc h0
  refine ⟨g, 0, e2, hg, fun j x hj => hx j _ ?_⟩
  rw [List.getElem?_map] at hj ⊢
  cases q : M[j]? with
  | none => rw [q] at hj; cases hj
  | some y => rw [q] at hj; cases hj; rfl
theorem rats_ofV {w : World} {B : Nat} {T : TypeId} {v : Value} {M : List (Int × Int)} (h : OwnV w B T v (M.map spdV)) : ∃ A c, v = .slice A M.length c ∧ TextR w A M.length (M.map ratG) := by
  obtain ⟨A, c, e, hc⟩ := ownV_cells h
  rw [List.length_map] at e hc
  refine ⟨A, c, e, by simp, fun h0 => ?_⟩
  obtain ⟨g, e2, hg, hx⟩ := hc h0
  refine ⟨g, 0, e2, hg, fun j x hj => hx j _ ?_⟩
  rw [List.getElem?_map] at hj ⊢
  cases q : M[j]? with
  | none => rw [q] at hj; cases hj
  | some y => rw [q] at hj; cases hj; rfl
theorem TextR.below {w w' : World} {A : Option Addr} {n : Nat} {L : List ByteArray} (h : TextR w A n L) (hb : Below w.heap.size w w') : TextR w' A n L := by
  refine ⟨h.1, fun hn => ?_⟩
  obtain ⟨g, off, e, hlt, hc⟩ := h.2 hn
  exact ⟨g, off, e, Nat.lt_of_lt_of_le hlt hb.size, fun j x hx => (hb.cell (p := ⟨g, _, none⟩) hlt).trans (hc j x hx)⟩
theorem texts_none (w : World) : TextR w none 0 [] := ⟨rfl, fun h => absurd h (by decide)⟩
theorem ints_none (w : World) : IntsZ w none 0 [] := ⟨rfl, fun h => absurd h (by decide)⟩
set_option maxHeartbeats 1000000 in
theorem sameT_any (L : List ByteArray) (A1 A2 : Option Addr) (n c1 c2 : Nat) (w : World) (hn : n ≤ 300) (h1 : TextR w A1 n L) (h2 : TextR w A2 n L) :
    Calls Tryz.prog 21 #[.slice A1 n c1, .slice A2 n c2] w (RetPost (.bool true) w) := by
  have hn0 : (n : Int) ≤ 300 := by omega
  have H1 := Lib.hid h1
  have H2 := Lib.hid h2
  clear h1 h2 hn
  go_enter Tryz.func21, Tryz.ntmps21
  go_wp2
  go_loopw [5] (fun i wr => ∃ k : Nat, k ≤ n ∧ i = .int .i64 k ∧ Below w.heap.size w wr) (fun i _ => n - (intOf i).toNat)
  case atStart => exact ⟨0, by omega, rfl, Below.refl _ _⟩
  case round =>
    obtain ⟨k, hk, rfl, hb⟩ := hrel
    by_cases hlt : k < n
    · have g1 := H1.out.below hb
      have g2 := H2.out.below hb
      obtain ⟨p1, f1, rfl, _, q1⟩ := g1.2 (by omega)
      obtain ⟨p2, f2, rfl, _, q2⟩ := g2.2 (by omega)
      have hkl : k < L.length := by rw [g1.1]; exact hlt
      have c1' := q1 k L[k] (List.getElem?_eq_getElem hkl)
      have c2' := q2 k L[k] (List.getElem?_eq_getElem hkl)
      obtain ⟨x, hx⟩ : ∃ x, L[k] = x := ⟨_, rfl⟩
      rw [hx] at c1' c2'
      have hki : (k : Int) < (n : Int) := by omega
      have hk0 : (0 : Int) ≤ (k : Int) := by omega
      have hkt : ((k : Int)).toNat = k := by omega
      clear q1 q2 g1 g2 hx hkl H1 H2
      go_wp2_with fail
      go_quiet (fail)
      go_wp2
      exact ⟨⟨k + 1, by omega, by go_num, below_drewN hb _⟩, by simp [intOf]; omega⟩
    · go_wp2
      go_ret
      exact ⟨rfl, hb⟩
end Go.Mk
end
