/-
  Proved: the errors of weights by mark.checkWeights and by the reference's CheckWeights, as one plain function; slices.Min and slices.Max of numbers. Conditions: the numbers lie where the slice says.
  Proved: plain facts on shares: the places of the remainders in their order; picking the first greatest rest again and again goes along that order. No condition but those named.
-/
import Derived.Test.YtapglbjojpkblaaGreatDoorMs
import Derived.OwnWalk
import Derived.Deep.DeepCutAuto
section
set_option linter.unusedVariables false
set_option linter.unusedSimpArgs false
open Go Go.Proofs Go.RowKit
set_option maxRecDepth 100000
namespace Go.Mk
/-- The numbers of a list lie in the cells of a slice. -/
def Zs (w : World) (B : Nat) (A : Option Addr) (n : Nat) (L : List Int) : Prop :=
  L.length = n ∧ B ≤ w.heap.size ∧ (0 < n → ∃ b off, A = some ⟨b, off, none⟩ ∧ b < B ∧ ∀ (i : Nat) (z : Int), L[i]? = some z → w.cell? ⟨b, off + i, none⟩ = some (.int .i64 z))
theorem Zs.below {w w' : World} {B K n : Nat} {A : Option Addr} {L : List Int} (h : Zs w B A n L) (hb : Below K w w') (hB : B ≤ K) : Zs w' B A n L := by
  refine ⟨h.1, Nat.le_trans h.2.1 hb.size, fun hn => ?_⟩
  obtain ⟨b, off, e, hlt, hc⟩ := h.2.2 hn
  exact ⟨b, off, e, hlt, fun i z hz => (hb.cell (p := ⟨b, _, none⟩) (by show b < K; omega)).trans (hc i z hz)⟩
theorem Zs.at_ {w : World} {B n : Nat} {A : Option Addr} {L : List Int} (h : Zs w B A n L) {k : Nat} (hk : k < n) : ∃ b off z, A = some ⟨b, off, none⟩ ∧ b < B ∧ L[k]? = some z ∧ w.cell? ⟨b, off + k, none⟩ = some (.int .i64 z) := by
  obtain ⟨b, off, e, hlt, hc⟩ := h.2.2 (by omega)
  have hl : k < L.length := by rw [h.1]; exact hk
  exact ⟨b, off, L[k], e, hlt, List.getElem?_eq_getElem hl, hc k _ (List.getElem?_eq_getElem hl)⟩
theorem Zs.cell {w : World} {B n b off k : Nat} {L : List Int} {z : Int} (h : Zs w B (some ⟨b, off, none⟩) n L) (hL : L[k]? = some z) : w.cell? ⟨b, off + k, none⟩ = some (.int .i64 z) := by
  have hk := (List.getElem?_eq_some_iff.1 hL).1
  rw [h.1] at hk
  obtain ⟨b', off', z', e1, _, e2, q⟩ := h.at_ hk
  obtain ⟨rfl, rfl⟩ : b = b' ∧ off = off' := by simpa using e1
  obtain rfl : z = z' := by simpa using hL.symm.trans e2
  exact q
theorem take_mem (L : List Int) (k : Nat) (z : Int) (h : L[k]? = some z) (x : Int) : x ∈ L.take (k + 1) ↔ x ∈ L.take k ∨ x = z := by
  obtain ⟨hk, e⟩ := List.getElem?_eq_some_iff.1 h
  rw [List.take_succ_eq_append_getElem hk, e, List.mem_append, List.mem_singleton]

set_option maxHeartbeats 1000000 in
theorem min_any (L : List Int) (n cap : Nat) (A : Option Addr) (B : Nat) (w : World) (hM : Zs w B A n L) (h0 : 0 < n) (hsm : n ≤ 300) :
    Calls Tryz.prog 90 #[.slice A n cap] w fun e w' => ∃ m : Int, e = .returned (.int .i64 m) ∧ m ∈ L ∧ (∀ z ∈ L, m ≤ z) ∧ Below w.heap.size w w' := by
  have hn0 : (n : Int) ≤ 300 := by omega
  have hn1 : (1 : Int) ≤ (n : Int) := by omega
  have HM : Hid (∀ w', Below w.heap.size w w' → Zs w' B A n L) := fun w' hb => hM.below hb hM.2.1
  have Hlen : Hid (L.length = n) := hM.1
  obtain ⟨b, off, z0, rfl, hbl, hL0, c0⟩ := hM.at_ h0
  have c0 : w.cell? ⟨b, off, none⟩ = some (.int .i64 z0) := by simpa using c0
  have HL0 := Lib.hid hL0
  clear hM hL0
  go_enter Tryz.func90, Tryz.ntmps90
  go_wp2
  go_loopw [3, 4] (fun m i wr => ∃ (k : Nat) (q : Int), k ≤ n ∧ 1 ≤ k ∧ i = .int .i64 k ∧ m = .int .i64 q ∧ Hid (q ∈ L.take k ∧ ∀ z ∈ L.take k, q ≤ z) ∧ Below w.heap.size w wr) (fun _ i _ => n - (intOf i).toNat)
  case atStart =>
    refine ⟨1, z0, by omega, by omega, rfl, rfl, ?_, Below.refl _ _⟩
    have := fun x => take_mem L 0 z0 HL0.out x
    exact ⟨(this z0).2 (.inr rfl), fun z hz => by rcases (this z).1 hz with h | h; · simp at h
                                                  · omega⟩
  case round =>
    obtain ⟨k, q, hk, hk1, rfl, rfl, HQ, hb⟩ := hrel
    by_cases hlt : k < n
    · obtain ⟨b', off', z, e1, _, hL, c1⟩ := (HM.out _ hb).at_ hlt
      obtain ⟨rfl, rfl⟩ : b = b' ∧ off = off' := by simpa using e1
      have hst := fun x => take_mem L k z hL x
      have Hst := Lib.hid hst
      have hki : (k : Int) < (n : Int) := by omega
      clear hst hL e1
      by_cases hz : z < q
      · have HN : Hid (z ∈ L.take (k + 1) ∧ ∀ x ∈ L.take (k + 1), z ≤ x) := ⟨(Hst.out z).2 (.inr rfl), fun x hx => by
          rcases (Hst.out x).1 hx with h | h
          · have := HQ.out.2 x h; omega
          · omega⟩
        have hmin : min q z = z := by omega
        go_wp2
        exact ⟨⟨k + 1, z, by omega, by omega, by go_num, by first | rfl | simp [hmin], HN, hb⟩, by simp [intOf]; omega⟩
      · have HN : Hid (q ∈ L.take (k + 1) ∧ ∀ x ∈ L.take (k + 1), q ≤ x) := ⟨(Hst.out q).2 (.inl HQ.out.1), fun x hx => by
          rcases (Hst.out x).1 hx with h | h
          · exact HQ.out.2 x h
          · omega⟩
        have hmin : min q z = q := by omega
        go_wp2
        exact ⟨⟨k + 1, q, by omega, by omega, by go_num, by first | rfl | simp [hmin], HN, hb⟩, by simp [intOf]; omega⟩
    · have hkn : k = n := by omega
      have hQ := HQ.out
      rw [hkn, List.take_of_length_le (by rw [Hlen.out]; omega)] at hQ
      have HQ2 := Lib.hid hQ
      clear hQ HQ hkn
      go_wp2
      go_ret
      exact ⟨q, rfl, HQ2.out.1, HQ2.out.2, hb⟩
set_option maxHeartbeats 1000000 in
theorem max_any (L : List Int) (n cap : Nat) (A : Option Addr) (B : Nat) (w : World) (hM : Zs w B A n L) (h0 : 0 < n) (hsm : n ≤ 300) :
    Calls Tryz.prog 91 #[.slice A n cap] w fun e w' => ∃ m : Int, e = .returned (.int .i64 m) ∧ m ∈ L ∧ (∀ z ∈ L, z ≤ m) ∧ Below w.heap.size w w' := by
  have hn0 : (n : Int) ≤ 300 := by omega
  have hn1 : (1 : Int) ≤ (n : Int) := by omega
  have HM : Hid (∀ w', Below w.heap.size w w' → Zs w' B A n L) := fun w' hb => hM.below hb hM.2.1
  have Hlen : Hid (L.length = n) := hM.1
  obtain ⟨b, off, z0, rfl, hbl, hL0, c0⟩ := hM.at_ h0
  have c0 : w.cell? ⟨b, off, none⟩ = some (.int .i64 z0) := by simpa using c0
  have HL0 := Lib.hid hL0
  clear hM hL0
  go_enter Tryz.func91, Tryz.ntmps91
  go_wp2
  go_loopw [3, 4] (fun m i wr => ∃ (k : Nat) (q : Int), k ≤ n ∧ 1 ≤ k ∧ i = .int .i64 k ∧ m = .int .i64 q ∧ Hid (q ∈ L.take k ∧ ∀ z ∈ L.take k, z ≤ q) ∧ Below w.heap.size w wr) (fun _ i _ => n - (intOf i).toNat)
  case atStart =>
    refine ⟨1, z0, by omega, by omega, rfl, rfl, ?_, Below.refl _ _⟩
    have := fun x => take_mem L 0 z0 HL0.out x
    exact ⟨(this z0).2 (.inr rfl), fun z hz => by rcases (this z).1 hz with h | h; · simp at h
                                                  · omega⟩
  case round =>
    obtain ⟨k, q, hk, hk1, rfl, rfl, HQ, hb⟩ := hrel
    by_cases hlt : k < n
    · obtain ⟨b', off', z, e1, _, hL, c1⟩ := (HM.out _ hb).at_ hlt
      obtain ⟨rfl, rfl⟩ : b = b' ∧ off = off' := by simpa using e1
      have hst := fun x => take_mem L k z hL x
      have Hst := Lib.hid hst
      have hki : (k : Int) < (n : Int) := by omega
      clear hst hL e1
      by_cases hz : q < z
      · have HN : Hid (z ∈ L.take (k + 1) ∧ ∀ x ∈ L.take (k + 1), x ≤ z) := ⟨(Hst.out z).2 (.inr rfl), fun x hx => by
          rcases (Hst.out x).1 hx with h | h
          · have := HQ.out.2 x h; omega
          · omega⟩
        have hmax : max q z = z := by omega
        go_wp2
        exact ⟨⟨k + 1, z, by omega, by omega, by go_num, by first | rfl | simp [hmax], HN, hb⟩, by simp [intOf]; omega⟩
      · have HN : Hid (q ∈ L.take (k + 1) ∧ ∀ x ∈ L.take (k + 1), x ≤ q) := ⟨(Hst.out q).2 (.inl HQ.out.1), fun x hx => by
          rcases (Hst.out x).1 hx with h | h
          · exact HQ.out.2 x h
          · omega⟩
        have hmax : max q z = q := by omega
        go_wp2
        exact ⟨⟨k + 1, q, by omega, by omega, by go_num, by first | rfl | simp [hmax], HN, hb⟩, by simp [intOf]; omega⟩
    · have hkn : k = n := by omega
      have hQ := HQ.out
      rw [hkn, List.take_of_length_le (by rw [Hlen.out]; omega)] at hQ
      have HQ2 := Lib.hid hQ
      clear hQ HQ hkn
      go_wp2
      go_ret
      exact ⟨q, rfl, HQ2.out.1, HQ2.out.2, hb⟩
end Go.Mk
end
section
set_option linter.unusedSimpArgs false
set_option linter.unusedVariables false
namespace Sh
/-- A place comes before another one: a greater remainder, or an equal one and a lesser place. -/
def ahead (r : Nat → Int) (i k : Nat) : Prop := r k < r i ∨ (r k = r i ∧ i < k)
/-- The rest behind k rounds of picking. -/
def restAt (r : Nat → Int) (P : List Nat) (k i : Nat) : Int := if i ∈ P.take k then -1 else r i
/-- A first greatest place of the first m. -/
def Best (f : Nat → Int) (m b : Nat) : Prop := b < m ∧ ∀ i, i < m → f i < f b ∨ (f i = f b ∧ b ≤ i)
theorem Best.uniq {f : Nat → Int} {m b c : Nat} (hb : Best f m b) (hc : Best f m c) : b = c := by
  rcases hb.2 c hc.1 with h | ⟨h1, h2⟩ <;> rcases hc.2 b hb.1 with k | ⟨k1, k2⟩ <;> omega
theorem Best.one (f : Nat → Int) : Best f 1 0 := by
  refine ⟨by omega, fun i hi => ?_⟩
  have : i = 0 := by omega
  subst this
  exact .inr ⟨rfl, Nat.le_refl _⟩
theorem Best.step_gt {f : Nat → Int} {m b : Nat} (h : Best f m b) (hg : f b < f m) : Best f (m + 1) m := by
  refine ⟨by omega, fun i hi => ?_⟩
  rcases Nat.lt_or_ge i m with h' | h'
  · rcases h.2 i h' with k | ⟨k, _⟩ <;> exact .inl (by omega)
  · have : i = m := by omega
    subst this; exact .inr ⟨rfl, Nat.le_refl _⟩
theorem Best.step_le {f : Nat → Int} {m b : Nat} (h : Best f m b) (hg : f m ≤ f b) : Best f (m + 1) b := by
  refine ⟨by have := h.1; omega, fun i hi => ?_⟩
  rcases Nat.lt_or_ge i m with h' | h'
  · exact h.2 i h'
  · have : i = m := by omega
    subst this
    have := h.1
    rcases (show f i < f b ∨ f i = f b by omega) with k | k
    · exact .inl k
    · exact .inr ⟨k, by omega⟩
/-- A list of places in their order. -/
structure Ord (r : Nat → Int) (n : Nat) (P : List Nat) : Prop where
  perm : P.Perm (List.range n)
  sorted : P.Pairwise (ahead r)
  nonneg : ∀ i, i < n → 0 ≤ r i
theorem Ord.length {r : Nat → Int} {n : Nat} {P : List Nat} (h : Ord r n P) : P.length = n := by rw [h.perm.length_eq]; simp
theorem Ord.lt {r : Nat → Int} {n : Nat} {P : List Nat} (h : Ord r n P) {i : Nat} (hi : i ∈ P) : i < n := by simpa using h.perm.mem_iff.1 hi
theorem Ord.mem {r : Nat → Int} {n : Nat} {P : List Nat} (h : Ord r n P) {i : Nat} (hi : i < n) : i ∈ P := h.perm.mem_iff.2 (by simpa using hi)
theorem Ord.nodup {r : Nat → Int} {n : Nat} {P : List Nat} (h : Ord r n P) : P.Nodup := h.perm.nodup_iff.2 List.nodup_range
theorem Ord.fresh {r : Nat → Int} {n : Nat} {P : List Nat} (h : Ord r n P) {k : Nat} (hk : k < P.length) : P[k] ∉ P.take k := by
  intro hm
  obtain ⟨i, hi, he⟩ := List.mem_take_iff_getElem.1 hm
  have := List.pairwise_iff_getElem.1 (List.nodup_iff_pairwise_ne.1 h.nodup) i k (by omega) hk (by omega)
  exact this he
/-- The next one in the order is the first greatest rest. -/
theorem Ord.best {r : Nat → Int} {n : Nat} {P : List Nat} (h : Ord r n P) {k : Nat} (hk : k < P.length) : Best (restAt r P k) n P[k] := by
  have hf := h.fresh hk
  have hn : P[k] < n := h.lt (List.getElem_mem hk)
  have e : restAt r P k P[k] = r P[k] := by unfold restAt; rw [if_neg hf]
  refine ⟨hn, fun i hi => ?_⟩
  rw [e]
  unfold restAt
  by_cases hm : i ∈ P.take k
  · rw [if_pos hm]
    have := h.nonneg _ hn
    exact .inl (by omega)
  · rw [if_neg hm]
    obtain ⟨q, hq, rfl⟩ := List.getElem_of_mem (h.mem hi)
    have hkq : k ≤ q := by
      rcases Nat.lt_or_ge q k with h' | h'
      · exact absurd (List.mem_take_iff_getElem.2 ⟨q, by omega, rfl⟩) hm
      · exact h'
    rcases Nat.eq_or_lt_of_le hkq with h' | h'
    · subst h'; exact .inr ⟨rfl, Nat.le_refl _⟩
    · rcases List.pairwise_iff_getElem.1 h.sorted k q hk hq h' with a | ⟨a, b⟩
      · exact .inl a
      · exact .inr ⟨a, by omega⟩
theorem restAt_zero (r : Nat → Int) (P : List Nat) : restAt r P 0 = r := by funext i; simp [restAt]
theorem mem_take_succ {P : List Nat} {k : Nat} (hk : k < P.length) (i : Nat) : i ∈ P.take (k + 1) ↔ i ∈ P.take k ∨ i = P[k] := by
  rw [List.take_succ_eq_append_getElem hk, List.mem_append, List.mem_singleton]
theorem restAt_succ (r : Nat → Int) (P : List Nat) (k : Nat) (hk : k < P.length) (i : Nat) : restAt r P (k + 1) i = if i = P[k] then -1 else restAt r P k i := by
  unfold restAt
  by_cases h1 : i = P[k]
  · rw [if_pos h1, if_pos ((mem_take_succ hk i).2 (.inr h1))]
  · rw [if_neg h1]
    by_cases h2 : i ∈ P.take k
    · rw [if_pos h2, if_pos ((mem_take_succ hk i).2 (.inl h2))]
    · rw [if_neg h2, if_neg (fun h => by rcases (mem_take_succ hk i).1 h with a | a; exact h2 a; exact h1 a)]
/-- What is dealt behind k rounds. -/
def dealt (b : Nat → Int) (P : List Nat) (k i : Nat) : Int := if i ∈ P.take k then b i + 1 else b i
theorem dealt_zero (b : Nat → Int) (P : List Nat) : dealt b P 0 = b := by funext i; simp [dealt]
theorem dealt_at {r : Nat → Int} {n : Nat} {P : List Nat} (h : Ord r n P) (b : Nat → Int) (k : Nat) (hk : k < P.length) : dealt b P k P[k] = b P[k] := by unfold dealt; rw [if_neg (h.fresh hk)]
theorem dealt_succ {r : Nat → Int} {n : Nat} {P : List Nat} (h : Ord r n P) (b : Nat → Int) (k : Nat) (hk : k < P.length) (i : Nat) : dealt b P (k + 1) i = if i = P[k] then dealt b P k i + 1 else dealt b P k i := by
  unfold dealt
  by_cases h1 : i = P[k]
  · rw [if_pos h1, if_pos ((mem_take_succ hk i).2 (.inr h1)), if_neg (by rw [h1]; exact h.fresh hk)]
  · rw [if_neg h1]
    by_cases h2 : i ∈ P.take k
    · rw [if_pos h2, if_pos ((mem_take_succ hk i).2 (.inl h2))]
    · rw [if_neg h2, if_neg (fun h => by rcases (mem_take_succ hk i).1 h with a | a; exact h2 a; exact h1 a)]
end Sh
end
