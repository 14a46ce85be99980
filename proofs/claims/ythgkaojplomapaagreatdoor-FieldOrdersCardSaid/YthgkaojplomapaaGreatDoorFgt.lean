/-
  Proved: plain facts on a card of which the last clearance is made worse. Conditions: the cards have no error.
  Proved: cards of which one gets heights of its own, one of which is stored anew. Conditions: the rows are new, the cards' other texts lie where they lay.
  Proved: plain facts on the competition of which one card is made worse. Conditions: the cards have no error.
-/
import Derived.Test.YthgkaojplomapaaGreatDoorFgr
set_option linter.unusedVariables false
set_option linter.unusedSimpArgs false
open Go Go.Proofs Go.RowKit
set_option maxRecDepth 100000
section
namespace Go.Mk
def AtO (H : List (List UInt8)) (i : Nat) (a : Int) : Prop := (∀ (k : Nat) (y : List UInt8), k < i → a < (k : Int) → H[k]? = some y → endL y ≠ [111]) ∧ (a = -1 ∨ ∃ t : Nat, a = t ∧ t < i ∧ ∃ x, H[t]? = some x ∧ endL x = [111])
theorem AtO.zero (H : List (List UInt8)) : AtO H 0 (-1) := ⟨fun k y h => by omega, .inl rfl⟩
theorem AtO.hit {H : List (List UInt8)} {i : Nat} {a : Int} {x : List UInt8} (h : AtO H i a) (hx : H[i]? = some x) (he : endL x = [111]) : AtO H (i + 1) i := ⟨fun k y hk ha => by omega, .inr ⟨i, rfl, by omega, x, hx, he⟩⟩
theorem AtO.miss {H : List (List UInt8)} {i : Nat} {a : Int} {x : List UInt8} (h : AtO H i a) (hx : H[i]? = some x) (he : endL x ≠ [111]) : AtO H (i + 1) a := by
 refine ⟨fun k y hk ha hy => ?_, ?_⟩
 ·rcases Nat.lt_or_ge k i with q | q
  ·exact h.1 k y q ha hy
  ·obtain rfl : k = i := by omega
   rw [hx] at hy
   obtain rfl := Option.some.inj hy
   exact he
 ·rcases h.2 with q | ⟨t, e, ht, r⟩
  ·exact .inl q
  ·exact .inr ⟨t, e, by omega, r⟩
theorem nx_spl : ∀ x : List UInt8, x = List.replicate (nxL x) 120 ++ endL x
 | [] => rfl
 | c :: l => by
  have ih := nx_spl l
  unfold endL at ih ⊢
  by_cases h : c = 120
  ·rw [nxL, if_pos h, List.replicate_succ, List.drop_succ_cons, List.cons_append, ← ih, h]
  ·rw [nxL, if_neg h]; rfl
theorem htE_ok {x : List UInt8} (h : htE x = 0) : (endL x = [] ∨ endL x = [111] ∨ endL x = [45]) ∧ 1 ≤ x.length ∧ x.length ≤ 3 := by
 unfold htE at h
 by_cases c : (endL x = [] ∨ endL x = [111] ∨ endL x = [45]) ∧ 1 ≤ x.length ∧ x.length ≤ 3
 ·exact c
 ·rw [if_neg c] at h; simp at h
theorem last_o {x : List UInt8} (h : htE x = 0) (hl : x.length - 1 < x.length) : endL x = [111] ↔ x[x.length - 1] = 111 := by
 obtain ⟨h1, h2, _⟩ := htE_ok h
 have e : x[x.length - 1]? = some x[x.length - 1] := List.getElem?_eq_getElem hl
 have hs := nx_spl x
 have hn : x.length = nxL x + (endL x).length := by
  have := congrArg List.length hs
  simpa using this
 rcases h1 with q | q | q
 ·rw [q] at hs hn
  have : x[x.length - 1]? = some 120 := by
   rw [hs]
   rw [List.append_nil, List.length_replicate, List.getElem?_replicate, if_pos (by simp at hn; omega)]
  rw [e] at this
  have := Option.some.inj this
  rw [q, this]
  simp
 ·have : x[x.length - 1]? = some 111 := by
   rw [q] at hs hn
   have hm : x.length - 1 = nxL x := by simp at hn; omega
   rw [hm, hs, List.getElem?_append_right (by simp [← hs])]
   simp [← hs]
  rw [e] at this
  have := Option.some.inj this
  rw [q, this]
  simp
 ·have : x[x.length - 1]? = some 45 := by
   rw [q] at hs hn
   have hm : x.length - 1 = nxL x := by simp at hn; omega
   rw [hm, hs, List.getElem?_append_right (by simp [← hs])]
   simp [← hs]
  rw [e] at this
  have := Option.some.inj this
  rw [q, this]
  simp
theorem fstT_ok {f : List UInt8 → Int} : ∀ {H : List (List UInt8)}, fstT f H = 0 → ∀ x ∈ H, f x = 0
 | [], _, x, hx => by cases hx
 | t :: l, h, x, hx => by
  rw [fstT] at h
  by_cases q : f t = 0
  ·rw [if_pos q] at h
   rcases List.mem_cons.1 hx with rfl | hx
   ·exact q
   ·exact fstT_ok h x hx
  ·rw [if_neg q] at h; exact absurd h q
theorem frmE_ht {s : ByteArray} {H O : List (List UInt8)} (h : frmE s H O = 0) : ∀ x ∈ H, htE x = 0 := by
 unfold frmE at h
 by_cases h1 : fstN [nmE s, if 24 < H.length ∨ 24 < O.length then 5 else 0] ≠ 0
 ·rw [if_pos h1] at h; exact absurd h h1
 ·rw [if_neg h1] at h
  exact fstT_ok (fst3_zero h).1
theorem talG_post : ∀ (l : List (List UInt8)) (i all : Nat) (t : Tal), (∀ y ∈ l, endL y ≠ [111]) → talG i all t l = t
 | [], _, _, _, _ => rfl
 | x :: l, i, all, t, h => by
  rw [talG, if_neg (h x (by simp))]
  exact talG_post l _ _ _ fun y hy => h y (by simp [hy])
theorem talG_app : ∀ (pre : List (List UInt8)) (i all : Nat) (t : Tal), ∃ (all' : Nat) (t' : Tal), ∀ l, talG i all t (pre ++ l) = talG (i + pre.length) all' t' l
 | [], i, all, t => ⟨all, t, fun l => rfl⟩
 | x :: pre, i, all, t => by
  by_cases h : endL x = [111]
  ·obtain ⟨a, u, hq⟩ := talG_app pre (i + 1) (all + nxL x) ⟨(i : Int) + 1, -(nxL x : Int), -((all + nxL x : Nat) : Int)⟩
   exact ⟨a, u, fun l => by rw [List.cons_append, talG, if_pos h, hq, List.length_cons, show i + 1 + pre.length = i + (pre.length + 1) by omega]⟩
  ·obtain ⟨a, u, hq⟩ := talG_app pre (i + 1) (all + nxL x) t
   exact ⟨a, u, fun l => by rw [List.cons_append, talG, if_neg h, hq, List.length_cons, show i + 1 + pre.length = i + (pre.length + 1) by omega]⟩
theorem worse_tal {H : List (List UInt8)} {t : Nat} {x : List UInt8} (ht : H[t]? = some x) (he : endL x = [111]) (hp : ∀ (k : Nat) (y : List UInt8), t < k → H[k]? = some y → endL y ≠ [111]) :
  0 < (talL H).a ∧ 0 < (talL (H.set t (120 :: x))).a ∧ ¬ leS (talL H).l (talL (H.set t (120 :: x))).l := by
 obtain ⟨hl, e⟩ := List.getElem?_eq_some_iff.1 ht
 have e1 : H = H.take t ++ x :: H.drop (t + 1) := by rw [← e, ← List.drop_eq_getElem_cons hl, List.take_append_drop]
 have hpost : ∀ y ∈ H.drop (t + 1), endL y ≠ [111] := fun y hy => by
  obtain ⟨k, hk⟩ := List.mem_iff_getElem?.1 hy
  rw [List.getElem?_drop] at hk
  exact hp _ y (by omega) hk
 have he' : endL (120 :: x) = [111] := by
  unfold endL at he ⊢
  rw [nxL, if_pos rfl, List.drop_succ_cons]
  exact he
 have hn' : nxL (120 :: x) = nxL x + 1 := by rw [nxL, if_pos rfl]
 obtain ⟨all, u, hq⟩ := talG_app (H.take t) 0 0 ⟨0, 0, 0⟩
 have a1 : talL H = ⟨((0 + (H.take t).length : Nat) : Int) + 1, -(nxL x : Int), -((all + nxL x : Nat) : Int)⟩ := by
  unfold talL
  rw [congrArg (talG 0 0 ⟨0, 0, 0⟩) e1, hq, talG, if_pos he, talG_post _ _ _ _ hpost]
 have a2 : talL (H.set t (120 :: x)) = ⟨((0 + (H.take t).length : Nat) : Int) + 1, -((nxL x + 1 : Nat) : Int), -((all + (nxL x + 1) : Nat) : Int)⟩ := by
  unfold talL
  rw [List.set_eq_take_append_cons_drop, if_pos hl, hq, talG, if_pos he', talG_post _ _ _ _ hpost, hn']
 rw [a1, a2]
 refine ⟨by dsimp only; omega, by dsimp only; omega, ?_⟩
 unfold Tal.l
 intro q
 rcases q with q | ⟨_, q | ⟨q, _⟩⟩
 ·dsimp only at q; omega
 ·dsimp only at q; omega
 ·dsimp only at q; omega
end Go.Mk
end
section
namespace Go.Mk
theorem cards_len : ∀ L : List CardR, (L.flatMap CardR.cells).length = L.length * 4
 | [] => rfl
 | r :: L => by rw [List.flatMap_cons, List.length_append, cards_len L, List.length_cons]; simp [CardR.cells]; omega
theorem cards_set : ∀ (L : List CardR) (k : Nat) (r r' : CardR), L[k]? = some r → r'.s = r.s → (r'.AO = r.AO ∧ r'.no = r.no ∧ r'.co = r.co ∧ r'.rt = r.rt) → (L.flatMap CardR.cells).set (k * 4 + 1) (.slice r'.AH r'.nh r'.ch) = (L.set k r').flatMap CardR.cells
 | [], k, r, r', h, _, _ => by simp at h
 | x :: L, 0, r, r', h, h1, h2 => by
  obtain rfl : x = r := by simpa using h
  obtain ⟨a, b, c, d⟩ := h2
  rw [List.flatMap_cons, List.set_cons_zero, List.flatMap_cons]
  unfold CardR.cells
  rw [h1, a, b, c, d]
  rfl
 | x :: L, k + 1, r, r', h, h1, h2 => by
  have ih := cards_set L k r r' (by simpa using h) h1 h2
  rw [List.flatMap_cons, List.set_cons_succ, List.flatMap_cons, ← ih]
  rw [List.set_append_right _ _ (by simp [CardR.cells]; omega), show (k + 1) * 4 + 1 - x.cells.length = k * 4 + 1 by simp [CardR.cells]; omega]
theorem cards_cell {w : World} {b off n : Nat} {L : List CardR} (h : Cards w (some ⟨b, off, none⟩) n L) (h0 : 0 < n) (j : Nat) (u : Value) (hu : (L.flatMap CardR.cells)[j]? = some u) : w.cell? ((⟨b, off, none⟩ : Addr).add j) = some u := by
 have hj := (List.getElem?_eq_some_iff.1 hu).1
 rw [cards_len] at hj
 obtain ⟨b', off', e, _, hc⟩ := h.2 h0
 simp only [Option.some.injEq, Addr.mk.injEq, and_true] at e
 obtain ⟨rfl, rfl⟩ := e
 have hi : j / 4 < L.length := by omega
 have hr := List.getElem?_eq_getElem hi
 obtain ⟨⟨c0, c1, c2, c3⟩, _⟩ := hc _ _ hr
 have hm : j % 4 < 4 := Nat.mod_lt _ (by decide)
 have hat := card_at L (j / 4) _ (j % 4) hr hm
 have ej : j / 4 * 4 + j % 4 = j := by omega
 rw [ej, hu] at hat
 generalize L[j / 4] = r at *
 rw [show (⟨b, off, none⟩ : Addr).add j = ⟨b, off + j, none⟩ by simp [Addr.add]]
 rcases (show j % 4 = 0 ∨ j % 4 = 1 ∨ j % 4 = 2 ∨ j % 4 = 3 by omega) with q | q | q | q
 ·rw [q] at hat ej
  rw [← show off + j / 4 * 4 = off + j by omega, c0]
  exact hat.symm
 ·rw [q] at hat ej
  rw [← show off + j / 4 * 4 + 1 = off + j by omega, c1]
  exact hat.symm
 ·rw [q] at hat ej
  rw [← show off + j / 4 * 4 + 2 = off + j by omega, c2]
  exact hat.symm
 ·rw [q] at hat ej
  rw [← show off + j / 4 * 4 + 3 = off + j by omega, c3]
  exact hat.symm
theorem cards_one (L : List CardR) : ∀ u ∈ L.flatMap CardR.cells, u.oneCell' = true := fun u hu => by
 obtain ⟨r, _, hr⟩ := List.mem_flatMap.1 hu
 simp [CardR.cells] at hr
 rcases hr with rfl | rfl | rfl | rfl <;> rfl
theorem worse_cards {w0 w1 : World} {v' vH : Value} {L : List CardR} {k t : Nat} {r : CardR} {x : ByteArray} (hk : L[k]? = some r) (ho : w1.ownsRow w0.heap.size 66 4 v' L.length (L.flatMap CardR.cells)) (hH : w1.ownsRow w0.heap.size 9 1 vH r.nh (r.H.map Value.string)) (hlen : r.H.length = r.nh) (ht : r.H[t]? = some x)
  (hZ : ∀ w', Below w0.heap.size w0 w' → ∀ q ∈ L, CardZ w' q) (hbel : Below w0.heap.size w0 w1) (s : ByteArray) :
  ∃ gb c gh ch, v' = .slice (some ⟨gb, 0, none⟩) L.length c ∧ vH = .slice (some ⟨gh, 0, none⟩) r.nh ch ∧ gb < w1.heap.size ∧ gh < w1.heap.size ∧ gb ≠ gh ∧ w0.heap.size ≤ gb ∧ w0.heap.size ≤ gh ∧ w1.cell? ⟨gb, k * 4 + 1, none⟩ = some (.slice r.AH r.nh r.ch) ∧ (∀ o, w1.frozen? ⟨gb, o, none⟩ = false) ∧ (∀ o, w1.frozen? ⟨gh, o, none⟩ = false) ∧ w1.cell? ⟨gh, t, none⟩ = some (.string x) ∧
   Cards (((w1.setCell ⟨gb, k * 4 + 1, none⟩ (.slice (some ⟨gh, 0, none⟩) r.nh ch)).drew).setCell ⟨gh, t, none⟩ (.string s)) (some ⟨gb, 0, none⟩) L.length (L.set k { r with AH := some ⟨gh, 0, none⟩, ch := ch, H := r.H.set t s }) ∧
   Below w0.heap.size w0 (((w1.setCell ⟨gb, k * 4 + 1, none⟩ (.slice (some ⟨gh, 0, none⟩) r.nh ch)).drew).setCell ⟨gh, t, none⟩ (.string s)) := by
 have hkl := (List.getElem?_eq_some_iff.1 hk).1
 have htl := (List.getElem?_eq_some_iff.1 ht).1
 obtain ⟨gb, c, rfl⟩ : ∃ gb c, v' = .slice (some ⟨gb, 0, none⟩) L.length c := by
  rcases ho.2 with ⟨a, b⟩ | ⟨g, cap, cur, a, _⟩
  ·omega
  ·exact ⟨g, cap, a⟩
 obtain ⟨gh, ch, rfl⟩ : ∃ gh ch, vH = .slice (some ⟨gh, 0, none⟩) r.nh ch := by
  rcases hH.2 with ⟨a, b⟩ | ⟨g, cap, cur, a, _⟩
  ·omega
  ·exact ⟨g, cap, a⟩
 have lb := World.ownsRow.lt ho gb rfl
 have lh := World.ownsRow.lt hH gh rfl
 have hne : gb ≠ gh := by
  rcases own_apart (by decide : (66 : Nat) ≠ 9) ho hH with e | e
  ·simp [Value.ownBlock] at e
  ·intro q
   subst q
   exact e rfl
 refine ⟨gb, c, gh, ch, rfl, rfl, lb.2, lh.2, hne, lb.1, lh.1, ?_, fun o => World.ownsRow.frozenAt ho o, fun o => World.ownsRow.frozenAt hH o, ?_, ?_, ?_⟩
 ·rw [World.ownsRow.cellAt ho (k * 4 + 1) (by omega)]; exact (card_at _ k r 1 hk (by decide)).trans rfl
 ·rw [World.ownsRow.cellAt hH t (by omega), List.getElem?_map, ht]; rfl
 ·obtain ⟨w2, hw2⟩ : ∃ w2, (w1.setCell ⟨gb, k * 4 + 1, none⟩ (.slice (some ⟨gh, 0, none⟩) r.nh ch)).drew = w2 := ⟨_, rfl⟩
  have o2 : w2.ownsRow w0.heap.size 66 4 (.slice (some ⟨gb, 0, none⟩) L.length c) L.length ((L.flatMap CardR.cells).set (k * 4 + 1) (.slice (some ⟨gh, 0, none⟩) r.nh ch)) := by rw [← hw2]; exact World.ownsRow.drew (World.ownsRow.stored ho _ _).1
  have h2 : w2.ownsRow w0.heap.size 9 1 (.slice (some ⟨gh, 0, none⟩) r.nh ch) r.nh (r.H.map Value.string) := by rw [← hw2]; exact World.ownsRow.drew (World.ownsRow.kept hH (grown_set w1 gb _ _) (.inr fun e => hne (Option.some.inj e).symm))
  have b2 : Below w0.heap.size w0 w2 := by rw [← hw2]; exact (hbel.setCell (p := ⟨gb, k * 4 + 1, none⟩) lb.1 _).drew
  rw [hw2]
  have o3 := World.ownsRow.kept o2 (grown_set w2 gh t (.string s)) (.inr fun e => hne (Option.some.inj e))
  have h3 := (World.ownsRow.stored h2 t (.string s)).1
  have b3 : Below w0.heap.size w0 (w2.setCell ⟨gh, t, none⟩ (.string s)) := b2.setCell (p := ⟨gh, t, none⟩) lh.1 _
  generalize w2.setCell ⟨gh, t, none⟩ (.string s) = w3 at o3 h3 b3 ⊢
  rw [cards_set L k r { r with AH := some ⟨gh, 0, none⟩, ch := ch, H := r.H.set t s } hk rfl ⟨rfl, rfl, rfl, rfl⟩] at o3
  have hH3 : OwnNames w3 w0.heap.size (.slice (some ⟨gh, 0, none⟩) r.nh ch) (r.H.set t s) := by
   unfold OwnNames
   rw [List.length_set, hlen, List.map_set]
   exact h3
  obtain ⟨A4, c4, e4, hc4, _, hT4⟩ := TextsZ.of_own hH3
  rw [List.length_set, hlen] at e4 hc4 hT4
  simp only [Value.slice.injEq, true_and] at e4
  obtain ⟨rfl, rfl⟩ := e4
  have := Cards.of_row (L := L.set k { r with AH := some ⟨gh, 0, none⟩, ch := ch, H := r.H.set t s }) (by rw [List.length_set]; exact o3) (fun q hq => by
   obtain ⟨i, hi⟩ := List.mem_iff_getElem?.1 hq
   by_cases hik : i = k
   ·subst hik
    rw [List.getElem?_set_self hkl] at hi
    obtain rfl := Option.some.inj hi
    have hz := hZ w3 b3 r (List.mem_of_getElem? hk)
    exact ⟨hT4, hc4, hz.2.2.1, hz.2.2.2⟩
   ·rw [List.getElem?_set_ne (Ne.symm hik)] at hi
    exact hZ w3 b3 q (List.mem_of_getElem? hi))
  obtain ⟨A5, c5, e5, h5⟩ := this
  rw [List.length_set] at e5 h5
  simp only [Value.slice.injEq, true_and] at e5
  obtain ⟨rfl, rfl⟩ := e5
  exact h5
 ·exact ((hbel.setCell (p := ⟨gb, k * 4 + 1, none⟩) lb.1 _).drew).setCell (p := ⟨gh, t, none⟩) lh.1 _
end Go.Mk
end
section
namespace Go.Mk
def worseC (r : CardR) (t : Nat) (x : ByteArray) (gh ch : Nat) : CardR := { r with AH := some ⟨gh, 0, none⟩, ch := ch, H := r.H.set t (⟨#[120]⟩ ++ x) }
theorem bl_x (x : ByteArray) : bl (⟨#[120]⟩ ++ x) = 120 :: bl x := by
 unfold bl
 rw [ByteArray.data_append]
 simp
theorem worse_facts {N : List ByteArray} {G : List Int} {st : Int} {L : List CardR} {k t gh ch : Nat} {r : CardR} {x : ByteArray} (h : crdE N G st L = 0) (hS : ∀ q ∈ L, CardS q ∧ q.nh ≤ 100 ∧ q.no ≤ 100 ∧ (q.AH = none → q.ch = 0) ∧ (q.AO = none → q.co = 0)) (hk : L[k]? = some r) (ht : r.H[t]? = some x) (hx : x.size ≤ 10) (he : endL (bl x) = [111])
  (hp : ∀ (i : Nat) (y : List UInt8), t < i → (bls r.H)[i]? = some y → endL y ≠ [111]) :
  (∀ q ∈ L.set k (worseC r t x gh ch), CardS q ∧ q.nh ≤ 100 ∧ q.no ≤ 100 ∧ (q.AH = none → q.ch = 0) ∧ (q.AO = none → q.co = 0)) ∧ (crdR N G (L.set k (worseC r t x gh ch)) = 0 → crdE N G st (L.set k (worseC r t x gh ch)) = 0 ∧ ∃ p q, plcBy (standL G L) r.s = some p ∧ plcBy (standL G (L.set k (worseC r t x gh ch))) r.s = some q ∧ p.rk ≤ q.rk) := by
 have hkl := (List.getElem?_eq_some_iff.1 hk).1
 refine ⟨fun q hq => ?_, fun hr => ?_⟩
 ·obtain ⟨i, hi⟩ := List.mem_iff_getElem?.1 hq
  by_cases hik : i = k
  ·subst hik
   rw [List.getElem?_set_self hkl] at hi
   obtain rfl := Option.some.inj hi
   obtain ⟨⟨a1, a2, a3, a4, a5⟩, b1, b2, b3, b4⟩ := hS r (List.mem_of_getElem? hk)
   refine ⟨⟨a1, a2, a3, fun y hy => ?_, a5⟩, b1, b2, fun e => by simp [worseC] at e, b4⟩
   rcases List.mem_or_eq_of_mem_set hy with q | q
   ·exact a4 y q
   ·rw [q, ByteArray.size_append]
    show 1 + x.size ≤ 5000
    omega
  ·rw [List.getElem?_set_ne (Ne.symm hik)] at hi
   exact hS q (List.mem_of_getElem? hi)
 ·obtain ⟨hv, _⟩ := crdE_ok h
  have h' := (crdR_crdE (L := L.set k (worseC r t x gh ch)) hv).2 hr
  have hq := placed_card (r := worseC r t x gh ch) (i := k) h' (List.getElem?_set_self hkl)
  refine ⟨h', _, _, placed_card h hk, hq, ?_⟩
  have hb : (bls r.H)[t]? = some (bl x) := by unfold bls; rw [List.getElem?_map, ht]; rfl
  obtain ⟨w1, w2, w3⟩ := worse_tal hb he hp
  have e : talR (worseC r t x gh ch) = talL ((bls r.H).set t (120 :: bl x)) := by
   unfold talR worseC bls
   dsimp only
   rw [List.map_set, bl_x]
  have := rkC_worse (r' := worseC r t x gh ch) hk w1 (by rw [e]; exact w2) (by rw [e]; exact w3)
  dsimp only
  omega
end Go.Mk
end
