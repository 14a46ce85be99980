/-
  Proved: seed.Numbers returns how many athletes there are in each round, or the first error. Condition: the rounds lie where the slice says, at most 20.
-/
import Derived.Test.YtebehbojbdcclaaGreatDoorBd
set_option linter.unusedVariables false
set_option linter.unusedSimpArgs false
open Go Go.Proofs Go.RowKit Go.Sort
set_option maxRecDepth 100000
namespace Go.Mk
/-- The rounds of a list lie in the cells of a slice. -/
def Rnds (w : World) (B : Nat) (A : Option Addr) (n : Nat) (L : List (Int × Int × Int)) : Prop :=
  L.length = n ∧ B ≤ w.heap.size ∧ (0 < n → ∃ b off, A = some ⟨b, off, none⟩ ∧ b < B ∧ ∀ (i : Nat) (m : Int × Int × Int), L[i]? = some m →
    w.cell? ⟨b, off + i * 3, none⟩ = some (.int .i64 m.1) ∧ w.cell? ⟨b, off + i * 3 + 1, none⟩ = some (.int .i64 m.2.1) ∧ w.cell? ⟨b, off + i * 3 + 2, none⟩ = some (.int .i64 m.2.2))
theorem Rnds.below {w w' : World} {B K n : Nat} {A : Option Addr} {L : List (Int × Int × Int)} (h : Rnds w B A n L) (hb : Below K w w') (hB : B ≤ K) : Rnds w' B A n L := by
  refine ⟨h.1, Nat.le_trans h.2.1 hb.size, fun hn => ?_⟩
  obtain ⟨b, off, e, hlt, hc⟩ := h.2.2 hn
  refine ⟨b, off, e, hlt, fun i m hm => ?_⟩
  obtain ⟨h0, h1, h2⟩ := hc i m hm
  exact ⟨(hb.cell (p := ⟨b, _, none⟩) (by show b < K; omega)).trans h0, (hb.cell (p := ⟨b, _, none⟩) (by show b < K; omega)).trans h1, (hb.cell (p := ⟨b, _, none⟩) (by show b < K; omega)).trans h2⟩
theorem Rnds.at_ {w : World} {B n : Nat} {A : Option Addr} {L : List (Int × Int × Int)} (h : Rnds w B A n L) {k : Nat} (hk : k < n) :
    ∃ b off x y z, A = some ⟨b, off, none⟩ ∧ b < B ∧ L[k]? = some (x, y, z) ∧ w.cell? ⟨b, off + k * 3, none⟩ = some (.int .i64 x) ∧ w.cell? ⟨b, off + k * 3 + 1, none⟩ = some (.int .i64 y) ∧ w.cell? ⟨b, off + k * 3 + 2, none⟩ = some (.int .i64 z) := by
  obtain ⟨b, off, e, hlt, hc⟩ := h.2.2 (by omega)
  have hl : k < L.length := by rw [h.1]; exact hk
  obtain ⟨h0, h1, h2⟩ := hc k L[k] (List.getElem?_eq_getElem hl)
  exact ⟨b, off, L[k].1, L[k].2.1, L[k].2.2, e, hlt, List.getElem?_eq_getElem hl, h0, h1, h2⟩
theorem Rnds.of_own {w : World} {base t n : Nat} {v : Value} {L : List (Int × Int × Int)} (h : OwnRounds w base t v L) (hn : L.length = n) : ∃ A c, v = .slice A n c ∧ Rnds w w.heap.size A n L := by
  subst hn
  rcases h.2 with ⟨a, b⟩ | ⟨g, cap, cur, a, b, c, d, e1, f, hx⟩
  · refine ⟨none, 0, by rw [a, b], rfl, Nat.le_refl _, fun hn => absurd hn (by omega)⟩
  · refine ⟨_, cap, a, rfl, Nat.le_refl _, fun _ => ⟨g, 0, rfl, (Array.getElem?_eq_some_iff.1 c).1, ?_⟩⟩
    have hcell : ∀ j u, (L.flatMap roundC)[j]? = some u → w.cell? ⟨g, j, none⟩ = some u := by
      intro j u hj
      have := World.ownsRow.cells h (g := g) (by rw [a]; rfl) j u hj
      rwa [show (⟨g, 0, none⟩ : Addr).add j = ⟨g, j, none⟩ from by unfold Addr.add; split <;> simp_all] at this
    have hfl : ∀ (l : List (Int × Int × Int)) (i : Nat) (m : Int × Int × Int) (j : Nat), l[i]? = some m → j < 3 → (l.flatMap roundC)[i * 3 + j]? = (roundC m)[j]? := by
      intro l
      induction l with
      | nil => intro i m j hm; simp at hm
      | cons q l ih =>
        intro i m j hm hj
        rw [List.flatMap_cons]
        cases i with
        | zero =>
          simp at hm
          subst hm
          rw [List.getElem?_append_left (by simp [roundC]; omega)]
          simp
        | succ i =>
          rw [List.getElem?_append_right (by simp [roundC]; omega)]
          rw [show (i + 1) * 3 + j - (roundC q).length = i * 3 + j from by simp [roundC]; omega]
          exact ih i m j (by simpa using hm) hj
    intro i m hm
    refine ⟨?_, ?_, ?_⟩
    · rw [Nat.zero_add]; exact hcell _ _ (by rw [show i * 3 = i * 3 + 0 from rfl, hfl L i m 0 hm (by decide)]; rfl)
    · rw [Nat.zero_add]; exact hcell _ _ (by rw [hfl L i m 1 hm (by decide)]; rfl)
    · rw [Nat.zero_add]; exact hcell _ _ (by rw [hfl L i m 2 hm (by decide)]; rfl)
/-- A list of integers in new memory. -/
def OwnInts (w : World) (B : Nat) (v : Value) (L : List Int) : Prop := w.ownsRow B 3 1 v L.length (L.map fun z => Value.int .i64 z)
theorem OwnInts.next {w1 : World} {B : Nat} {v' : Value} {L : List Int} {z : Int} (h : w1.ownsRow B 3 1 v' (L.length + 1) ((L.map fun z => Value.int .i64 z) ++ [.int .i64 z])) : OwnInts w1 B v' (L ++ [z]) := by
  unfold OwnInts
  rw [List.length_append, List.map_append]
  exact h
/-- One more in front of a list, if there is no error. -/
def pre (a : Int) (x : List Int × Int) : List Int × Int := if x.2 = 0 then (a :: x.1, 0) else ([], x.2)
/-- The athletes of each round, or an error. -/
def numGo (lanes : Int) : Int → List (Int × Int × Int) → List Int × Int
  | _, [] => ([], 0)
  | a, r :: l => if rndE a lanes r.1 r.2.1 r.2.2 l.isEmpty = 0 then pre a (numGo lanes (r.1 * r.2.1 + r.2.2) l) else ([], rndE a lanes r.1 r.2.1 r.2.2 l.isEmpty)
/-- What is laid already, and what is still to come. -/
def finN (P : List Int) (x : List Int × Int) : List Int × Int := if x.2 = 0 then (P ++ x.1, 0) else ([], x.2)
theorem finN_pre (P : List Int) (a : Int) (x : List Int × Int) : finN P (pre a x) = finN (P ++ [a]) x := by
  obtain ⟨l, b⟩ := x
  unfold finN pre
  by_cases h : b = 0 <;> simp [h]
theorem finN_nil (x : List Int × Int) (h : x.2 ≠ 0 → x.1 = []) : finN [] x = x := by
  obtain ⟨a, b⟩ := x
  unfold finN
  by_cases hb : b = 0
  · subst hb; simp
  · have := h hb
    simp at this
    simp [hb, this]
theorem numGo_bad (lanes : Int) (l : List (Int × Int × Int)) : ∀ a, (numGo lanes a l).2 ≠ 0 → (numGo lanes a l).1 = [] := by
  cases l with
  | nil => intro a h; simp [numGo] at h
  | cons r l =>
    intro a h
    rw [numGo] at h ⊢
    split
    · rename_i h1
      rw [if_pos h1] at h
      unfold pre at h ⊢
      split
      · rename_i h2; rw [if_pos h2] at h; simp at h
      · rfl
    · rfl
theorem finN_step (P : List Int) (lanes a : Int) (r : Int × Int × Int) (l : List (Int × Int × Int)) (h : rndE a lanes r.1 r.2.1 r.2.2 l.isEmpty = 0) : finN P (numGo lanes a (r :: l)) = finN (P ++ [a]) (numGo lanes (r.1 * r.2.1 + r.2.2) l) := by
  rw [numGo, if_pos h, finN_pre]
theorem finN_stop (P : List Int) (lanes a : Int) (r : Int × Int × Int) (l : List (Int × Int × Int)) (h : rndE a lanes r.1 r.2.1 r.2.2 l.isEmpty ≠ 0) : finN P (numGo lanes a (r :: l)) = ([], rndE a lanes r.1 r.2.1 r.2.2 l.isEmpty) := by
  rw [numGo, if_neg h, finN, if_neg h]
/-- The error of a round, case by case. -/
theorem rndE_cases (a lanes h p t : Int) (last : Bool) :
    ((h < 1 ∨ 16 < h ∨ p < 0 ∨ 10 < p ∨ t < 0 ∨ 160 < t) ∧ rndE a lanes h p t last = 3) ∨
    ((1 ≤ h ∧ h ≤ 16 ∧ 0 ≤ p ∧ p ≤ 10 ∧ 0 ≤ t ∧ t ≤ 160) ∧ IntKind.i64.wrap (h * lanes) < a ∧ rndE a lanes h p t last = 17) ∨
    ((1 ≤ h ∧ h ≤ 16 ∧ 0 ≤ p ∧ p ≤ 10 ∧ 0 ≤ t ∧ t ≤ 160) ∧ ¬ IntKind.i64.wrap (h * lanes) < a ∧ rndE a lanes h p t last = if last then (if h = 1 ∧ p = 0 ∧ t = 0 then 0 else 1) else if a < h * p + t then 23 else 0) := by
  unfold rndE
  simp only [fstN, rngE]
  by_cases q1 : h < 1 ∨ 16 < h
  · exact .inl ⟨by omega, by simp [q1]⟩
  · by_cases q2 : p < 0 ∨ 10 < p
    · exact .inl ⟨by omega, by simp [q1, q2]⟩
    · by_cases q3 : t < 0 ∨ 160 < t
      · exact .inl ⟨by omega, by simp [q1, q2, q3]⟩
      · by_cases q4 : IntKind.i64.wrap (h * lanes) < a
        · exact .inr (.inl ⟨by omega, q4, by simp [q1, q2, q3, q4]⟩)
        · exact .inr (.inr ⟨by omega, q4, by simp [q1, q2, q3, q4]⟩)
/-- A round without an error has its numbers in their ranges. -/
theorem rndE_zero {a lanes h p t : Int} {last : Bool} (h0 : rndE a lanes h p t last = 0) : 1 ≤ h ∧ h ≤ 16 ∧ 0 ≤ p ∧ p ≤ 10 ∧ 0 ≤ t ∧ t ≤ 160 ∧ (last = false → h * p + t ≤ a) ∧ (last = true → h = 1 ∧ p = 0 ∧ t = 0) := by
  rcases rndE_cases a lanes h p t last with ⟨_, e⟩ | ⟨_, _, e⟩ | ⟨r, _, e⟩
  · omega
  · omega
  · obtain ⟨r1, r2, r3, r4, r5, r6⟩ := r
    rw [h0] at e
    refine ⟨r1, r2, r3, r4, r5, r6, fun hl => ?_, fun hl => ?_⟩
    · subst hl
      rw [if_neg (by simp)] at e
      split at e
      · omega
      · rename_i hx
        exact Int.not_lt.1 hx
    · subst hl
      rw [if_pos rfl] at e
      split at e
      · assumption
      · omega
/-- A box of three cells that was made last is as it was behind a call and an append to another row. -/
theorem box_kept {w w3 w1 : World} {B e n : Nat} {v : Value} {xs : List Value} {x y z : Value} {t t2 : TypeId} {o : Value} (hb : Below (w.alloc (.cells #[x, y, z] t)).heap.size (w.alloc (.cells #[x, y, z] t)) w3) (hown : w.ownsRow B e 1 v n xs) (hg : (w3.alloc (.cells #[o] t2)).grownBy w1 v.ownBlock) :
    w1.cell? ⟨w.heap.size, 0, none⟩ = some x ∧ w1.cell? ⟨w.heap.size, 1, none⟩ = some y ∧ w1.cell? ⟨w.heap.size, 2, none⟩ = some z := by
  have hlt : w.heap.size < w3.heap.size := by have := hb.size; simp at this; omega
  have key : ∀ j, w1.cell? ⟨w.heap.size, j, none⟩ = (w.alloc (.cells #[x, y, z] t)).cell? ⟨w.heap.size, j, none⟩ := by
    intro j
    have h1 := hg.cell_far ⟨w.heap.size, j, none⟩ (by simp; omega) (by
      intro q
      have := (World.ownsRow.lt hown w.heap.size q.symm).2
      omega)
    have h2 : (w3.alloc (.cells #[o] t2)).cell? ⟨w.heap.size, j, none⟩ = w3.cell? ⟨w.heap.size, j, none⟩ := ((Below.refl w3.heap.size w3).alloc (Nat.le_refl _) _).cell (p := ⟨w.heap.size, j, none⟩) hlt
    have h3 : w3.cell? ⟨w.heap.size, j, none⟩ = (w.alloc (.cells #[x, y, z] t)).cell? ⟨w.heap.size, j, none⟩ := hb.cell (p := ⟨w.heap.size, j, none⟩) (by simp)
    exact h1.trans (h2.trans h3)
  refine ⟨(key 0).trans ?_, (key 1).trans ?_, (key 2).trans ?_⟩ <;> simp
/-- What Numbers leaves: a list, or an error. -/
def NumPost (x : List Int × Int) (w : World) (e : Ending) (w' : World) : Prop :=
  ∃ v, e = .returned (.tuple #[v, .int .i64 x.2]) ∧ (x.2 ≠ 0 → v = .slice none 0 0) ∧ OwnInts w' w.heap.size v x.1 ∧ Below w.heap.size w w'
theorem es4b (w : World) (x y z u : Int) (t : TypeId) : Es (w.alloc (.cells #[.int .i64 x, .int .i64 y, .int .i64 z, .int .i64 u] t)) w.heap.size [x, y, z, u] := by
  intro i v hv
  match i, hv with
  | 0, hv => simp at hv; subst hv; simp
  | 1, hv => simp at hv; subst hv; simp
  | 2, hv => simp at hv; subst hv; simp
  | 3, hv => simp at hv; subst hv; simp
/-- The first error ahead of the rounds. -/
def numE0 (a lanes : Int) (n : Nat) : Int := fstN [rngE a 0 160, rngE lanes 1 10, if (n : Int) == 0 then 12 else 0, if decide (16 < (n : Int)) then 5 else 0]
set_option maxHeartbeats 1000000 in
theorem Numbers_bad (a lanes : Int) (n cap : Nat) (A : Option Addr) (w : World) (e : Int) (he : numE0 a lanes n = e) (h0 : (e != 0) = true) (hn : (n : Int) ≤ 9223372036854775807) :
    Calls Tryz.prog 17 #[.int .i64 a, .int .i64 lanes, .slice A n cap] w (RetPost (.tuple #[.slice none 0 0, .int .i64 e]) w) := by
  have hA := athletesError_any a
  have hL := lanesError_any lanes
  have hW1 := fun w => seedWhen_any ((n : Int) == 0) 12 w
  have hW2 := fun w => seedWhen_any (decide (16 < (n : Int))) 5 w
  have hF := fun g w => seedFirst_any [rngE a 0 160, rngE lanes 1 10, if (n : Int) == 0 then 12 else 0, if decide (16 < (n : Int)) then 5 else 0] 4 rfl (by decide) g w
  unfold numE0 at he
  rw [he] at hF
  clear he
  generalize rngE a 0 160 = e1 at *
  generalize rngE lanes 1 10 = e2 at *
  generalize (if ((n : Int) == 0) = true then (12 : Int) else 0) = e3 at *
  generalize (if decide (16 < (n : Int)) = true then (5 : Int) else 0) = e4 at *
  go_enter Tryz.func17, Tryz.ntmps17
  go_wp2_with fail
  refine (hA _).mono ?_
  rintro x w' ⟨rfl, rfl⟩
  go_wp2_with fail
  refine (hL _).mono ?_
  rintro x w' ⟨rfl, rfl⟩
  go_wp2_with fail
  refine (hW1 _).mono ?_
  rintro x w' ⟨rfl, rfl⟩
  go_wp2_with fail
  refine (hW2 _).mono ?_
  rintro x w' ⟨rfl, rfl⟩
  go_wp2_with fail
  refine (hF _ _ (es4b _ _ _ _ _ _)).mono ?_
  rintro x w' ⟨rfl, rfl⟩
  go_wp2
  go_ret2
  exact ⟨rfl, (Below.refl _ _).alloc (Nat.le_refl _) _⟩
set_option maxHeartbeats 4000000 in
theorem Numbers_any (L : List (Int × Int × Int)) (a lanes : Int) (n cap : Nat) (A : Option Addr) (B : Nat) (w : World) (h0 : 0 ≤ a) (h1 : a ≤ 160) (h2 : 1 ≤ lanes) (h3 : lanes ≤ 10) (hM : Rnds w B A n L) (hn1 : 1 ≤ n) (hn2 : n ≤ 16) :
    Calls Tryz.prog 17 #[.int .i64 a, .int .i64 lanes, .slice A n cap] w (NumPost (numGo lanes a L) w) := by
  have he : numE0 a lanes n = 0 := by
    unfold numE0 rngE
    rw [if_neg (by omega), if_neg (by omega), if_neg (by simp; omega), if_neg (by simp; omega)]
    rfl
  obtain ⟨i0, hi, hz0, hz1, hz2⟩ := info_parts infoInt
  have hni : (n : Int) ≤ 16 := by omega
  obtain ⟨X, hX⟩ : ∃ X, numGo lanes a L = X := ⟨_, rfl⟩
  rw [hX]
  have HX : Hid (finN [] (numGo lanes a (L.drop 0)) = X) := (show _ = _ by rw [List.drop_zero, hX, finN_nil]; rw [← hX]; exact numGo_bad lanes L a)
  have hA := athletesError_any a
  have hL := lanesError_any lanes
  have hW1 := fun w => seedWhen_any ((n : Int) == 0) 12 w
  have hW2 := fun w => seedWhen_any (decide (16 < (n : Int))) 5 w
  have hF := fun g w => seedFirst_any [rngE a 0 160, rngE lanes 1 10, if (n : Int) == 0 then 12 else 0, if decide (16 < (n : Int)) then 5 else 0] 4 rfl (by decide) g w
  unfold numE0 at he
  rw [he] at hF
  clear he
  generalize rngE a 0 160 = e1 at *
  generalize rngE lanes 1 10 = e2 at *
  generalize (if ((n : Int) == 0) = true then (12 : Int) else 0) = e3 at *
  generalize (if decide (16 < (n : Int)) = true then (5 : Int) else 0) = e4 at *
  go_enter Tryz.func17, Tryz.ntmps17
  go_wp2_with fail
  refine (hA _).mono ?_
  rintro x w' ⟨rfl, rfl⟩
  go_wp2_with fail
  refine (hL _).mono ?_
  rintro x w' ⟨rfl, rfl⟩
  go_wp2_with fail
  refine (hW1 _).mono ?_
  rintro x w' ⟨rfl, rfl⟩
  go_wp2_with fail
  refine (hW2 _).mono ?_
  rintro x w' ⟨rfl, rfl⟩
  go_wp2_with fail
  refine (hF _ _ (es4b _ _ _ _ _ _)).mono ?_
  rintro x w' ⟨rfl, rfl⟩
  go_wp2
  have hb0 : Below w.heap.size w (w.alloc (.cells #[.int .i64 e1, .int .i64 e2, .int .i64 e3, .int .i64 e4] 26)) := (Below.refl _ _).alloc (Nat.le_refl _) _
  generalize w.alloc (.cells #[.int .i64 e1, .int .i64 e2, .int .i64 e3, .int .i64 e4] 26) = w0 at *
  have HM : Hid (∀ w', Below w.heap.size w w' → Rnds w' B A n L) := fun w' hb => hM.below hb hM.2.1
  have Hlen : Hid (L.length = n) := hM.1
  clear hA hL hF hW1 hW2 hM hX
  go_loopw [9, 32, 0] (fun v i at_ wr => ∃ (k : Nat) (P : List Int) (x : Int), i = .int .i64 k ∧ at_ = .int .i64 x ∧ k ≤ n ∧ P.length = k ∧ 0 ≤ x ∧ x ≤ 160 ∧ Hid (finN P (numGo lanes x (L.drop k)) = X) ∧ OwnInts wr w.heap.size v P ∧ Below w.heap.size w wr) (fun _ i _ _ => n - (intOf i).toNat)
  case atStart => exact ⟨0, [], a, rfl, rfl, by omega, rfl, h0, h1, HX, World.ownsRow_nil _ _ _ _, hb0⟩
  case round =>
    obtain ⟨k, P, x, rfl, rfl, hk, hP, hx0, hx1, HK, hown, hb⟩ := hrel
    by_cases hlt : k < n
    · obtain ⟨b, off, h, p, t, rfl, hbl, hL, c0, c1, c2⟩ := (HM.out _ hb).at_ hlt
      have hD : L.drop k = (h, p, t) :: L.drop (k + 1) := by
        have hkl := (List.getElem?_eq_some_iff.1 hL).1
        rw [List.drop_eq_getElem_cons hkl, (List.getElem?_eq_some_iff.1 hL).2]
      have hlast : (L.drop (k + 1)).isEmpty = ((k : Int) == (n : Int) - 1) := by
        have hl := Hlen.out
        by_cases q : k + 1 = n
        · rw [List.drop_of_length_le (by omega)]
          symm
          simp
          omega
        · rw [show ((k : Int) == (n : Int) - 1) = false from by rw [beq_eq_false_iff_ne]; omega]
          rw [List.isEmpty_eq_false_iff_exists_mem]
          exact ⟨(L.drop (k + 1))[0]'(by rw [List.length_drop]; omega), List.getElem_mem _⟩
      have hR : ∀ w, Calls Tryz.prog 48 #[.int .i64 x, .int .i64 lanes, .agg #[.int .i64 h, .int .i64 p, .int .i64 t], .bool ((k : Int) == (n : Int) - 1)] w (RetPost (.int .i64 (rndE x lanes h p t (L.drop (k + 1)).isEmpty)) w) := fun w => by
        rw [hlast]
        exact roundError_any x lanes h p t ((k : Int) == (n : Int) - 1) w
      have hki : (k : Int) < (n : Int) := by omega
      by_cases he : rndE x lanes h p t (L.drop (k + 1)).isEmpty = 0
      · have hst := finN_step P lanes x (h, p, t) (L.drop (k + 1)) he
        rw [← hD, HK.out] at hst
        have Hst : Hid (finN (P ++ [x]) (numGo lanes (h * p + t) (L.drop (k + 1))) = X) := hst.symm
        obtain ⟨r1, r2, r3, r4, r5, r6, r7, r8⟩ := rndE_zero he
        rw [he] at hR
        clear hst hD hlast HK he
        go_wp2_with fail
        refine (hR _).mono ?_
        rintro e w3 ⟨rfl, hb3⟩
        have hbB := (hb.alloc hb.size (.cells #[.int .i64 h, .int .i64 p, .int .i64 t] 44))
        have hb4 := hbB.trans (hb3.mono hbB.size)
        have hownB : w3.ownsRow w.heap.size 3 1 u9 P.length (P.map fun z => Value.int .i64 z) := ownB (World.ownsRow.alloc hown _) hb3
        go_wp2_with (at_builtin; refine wpList_append_own _ rfl _ _ 28 rfl w.heap.size 3 i0 (.int .i64 0) 1 8 Tryz.underlying28 hi hz0 hz1 hz2 rfl (by decide) _ _ _ rfl (World.ownsRow.alloc hownB _) ⟨w3.heap.size, 0, none⟩ 1 1 [.int .i64 x] rfl rfl ?c1 ?c2 ?c3 ?c4 ?c5 ?_)
        case c1 =>
          intro j u hj
          match j, hj with
          | 0, hj => simp at hj; subst hj; simp [Addr.add]
        case c2 => intro u hu; simp at hu; subst hu; rfl
        case c3 => unfold maxLen; omega
        case c4 => omega
        case c5 => have := hb4.size; simp; omega
        · intro v' w1 hown' hgrow _
          have hb1 : Below w.heap.size w w1 := (hb4.alloc hb4.size _).grown hgrow (by have := hb4.size; simp; omega) (fun r hr => (World.ownsRow.lt hown r hr).1)
          have ho1 : OwnInts w1 w.heap.size v' (P ++ [x]) := OwnInts.next (by rw [hP]; exact hown')
          obtain ⟨q0, q1, q2⟩ := box_kept hb3 hown hgrow
          have hV := fun w => advanceFrom_any h p t w r1 r2 r3 r4 r5 r6
          have hl0 : 0 ≤ h * p := Int.mul_nonneg (by omega) (by omega)
          clear hown' hgrow hownB hown hb3 hb4 hbB
          go_wp2_with fail
          refine (hV _).mono ?_
          rintro e w5 ⟨rfl, hb5⟩
          have hb6 := hb1.trans (hb5.mono hb1.size)
          have ho2 : OwnInts w5 w.heap.size v' (P ++ [x]) := ownB ho1 hb5
          have hnx : h * p + t ≤ 160 := by
            cases hq : (L.drop (k + 1)).isEmpty with
            | true => obtain ⟨z1, z2, z3⟩ := r8 hq; subst z1 z2 z3; omega
            | false => have := r7 hq; omega
          clear ho1 hb1 hb5 q0 q1 q2 r7 r8
          go_wp2
          go_roundw
          case rel => exact ⟨k + 1, P ++ [x], h * p + t, by go_num, rfl, by omega, by simp; omega, by omega, hnx, Hst, ho2, hb6⟩
          case measure => simp [intOf]; omega
      · have hst := finN_stop P lanes x (h, p, t) (L.drop (k + 1)) he
        rw [← hD, HK.out] at hst
        simp only at hst
        obtain ⟨e, hee⟩ : ∃ e, rndE x lanes h p t (L.drop (k + 1)).isEmpty = e := ⟨_, rfl⟩
        rw [hee] at hR hst he
        have heb : (e != 0) = true := by rw [bne_iff_ne]; exact he
        subst hst
        clear hD hlast HK hee
        go_wp2_with fail
        refine (hR _).mono ?_
        rintro e' w3 ⟨rfl, hb3⟩
        have hbB := (hb.alloc hb.size (.cells #[.int .i64 h, .int .i64 p, .int .i64 t] 44))
        have hb4 := hbB.trans (hb3.mono hbB.size)
        go_wp2
        go_ret2
        exact ⟨_, rfl, fun _ => rfl, World.ownsRow_nil _ _ _ _, hb4⟩
    · have hk2 : k = n := by omega
      have hz := HK.out
      rw [List.drop_of_length_le (by rw [Hlen.out]; omega), numGo, finN, if_pos rfl, List.append_nil] at hz
      subst hz
      go_wp2
      go_ret2
      exact ⟨_, rfl, fun h => absurd rfl h, hown, hb⟩
end Go.Mk
