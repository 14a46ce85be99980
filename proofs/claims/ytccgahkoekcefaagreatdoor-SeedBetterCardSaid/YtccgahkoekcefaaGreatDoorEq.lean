/-
  Proved: the law's helpers list, words and integer, and SameInts and SameWords, on what is the same. Conditions: the lists lie where the slices say, at most 300 long.
  Proved: the law's helper lists on lists of lists that are the same. Conditions: the lists lie where the slices say; at most 300 lists, each at most 300 long.
-/
import Derived.Test.YtccgahkoekcefaaGreatDoorEn
import Derived.BigQuiet
section
set_option linter.unusedVariables false
set_option linter.unusedSimpArgs false
open Go Go.Proofs Go.RowKit Go.Sort
set_option maxRecDepth 100000
namespace Go.Mk
set_option maxHeartbeats 400000 in
theorem l4integer_bad (b : Int) (h : (b != 0) = true) (w : World) : Calls Tryz.prog 28 #[.int .i64 0, .int .i64 b, .int .i64 b, .int .i64 0] w (RetPost (.bool true) w) := by
  have hb : (b == b) = true := by simp
  go_enter Tryz.func28, Tryz.ntmps28
  go_wp2
  go_ret
  exact ⟨rfl, Below.refl _ _⟩
set_option maxHeartbeats 400000 in
theorem l4integer_ok (z : Int) (w : World) : Calls Tryz.prog 28 #[.int .i64 z, .int .i64 0, .int .i64 0, .int .i64 z] w (RetPost (.bool true) w) := by
  have hb : (z == z) = true := by simp
  go_enter Tryz.func28, Tryz.ntmps28
  go_wp2
  go_ret
  exact ⟨rfl, Below.refl _ _⟩
def IntsZ (w : World) (A : Option Addr) (n : Nat) (L : List Int) : Prop :=
  L.length = n ∧ (0 < n → ∃ g off, A = some ⟨g, off, none⟩ ∧ g < w.heap.size ∧ ∀ (j : Nat) (x : Int), L[j]? = some x → w.cell? ⟨g, off + j, none⟩ = some (.int .i64 x))
theorem IntsZ.below {w w' : World} {A : Option Addr} {n : Nat} {L : List Int} (h : IntsZ w A n L) (hb : Below w.heap.size w w') : IntsZ w' A n L := by
  refine ⟨h.1, fun hn => ?_⟩
  obtain ⟨g, off, e, hlt, hc⟩ := h.2 hn
  exact ⟨g, off, e, Nat.lt_of_lt_of_le hlt hb.size, fun j x hx => (hb.cell (p := ⟨g, _, none⟩) hlt).trans (hc j x hx)⟩
theorem IntsZ.of_own {w : World} {base : Nat} {v : Value} {L : List Int} (h : OwnZ w base v L) : ∃ A c, v = .slice A L.length c ∧ IntsZ w A L.length L := by
  rcases h.2 with ⟨a, b⟩ | ⟨g, cap, cur, a, b, c, d, e1, f, hx⟩
  · exact ⟨none, 0, by rw [a, b], rfl, fun hn => absurd hn (by omega)⟩
  · refine ⟨_, cap, a, rfl, fun _ => ⟨g, 0, rfl, (Array.getElem?_eq_some_iff.1 c).1, fun j x hj => ?_⟩⟩
    have := World.ownsRow.cells h (g := g) (by rw [a]; rfl) j (.int .i64 x) (by simp [hj])
    rwa [show (⟨g, 0, none⟩ : Addr).add j = ⟨g, 0 + j, none⟩ from by unfold Addr.add; split <;> simp_all] at this
set_option maxHeartbeats 1000000 in
theorem sameZ_any (L : List Int) (A1 A2 : Option Addr) (n c1 c2 : Nat) (w : World) (hn : n ≤ 300) (h1 : IntsZ w A1 n L) (h2 : IntsZ w A2 n L) :
    Calls Tryz.prog 45 #[.slice A1 n c1, .slice A2 n c2] w (RetPost (.bool true) w) := by
  have hn0 : (n : Int) ≤ 300 := by omega
  have H1 := Lib.hid h1
  have H2 := Lib.hid h2
  clear h1 h2 hn
  go_enter Tryz.func45, Tryz.ntmps45
  go_wp2
  go_loopw [5] (fun i wr => ∃ k : Nat, k ≤ n ∧ i = .int .i64 k ∧ Below w.heap.size w wr) (fun i _ => n - (intOf i).toNat)
  case atStart => exact ⟨0, by omega, rfl, Below.refl _ _⟩
  case round =>
    obtain ⟨k, hk, rfl, hb⟩ := hrel
    by_cases hlt : k < n
    · have g1 := H1.out.below hb
      have g2 := H2.out.below hb
      obtain ⟨p1, f1, rfl, _, q1⟩ := g1.2 (by omega)
      obtain ⟨p2, f2, rfl, _, q2⟩ := g2.2 (by omega)
      have hkl : k < L.length := by rw [g1.1]; exact hlt
      have c1' := q1 k L[k] (List.getElem?_eq_getElem hkl)
      have c2' := q2 k L[k] (List.getElem?_eq_getElem hkl)
      obtain ⟨x, hx⟩ : ∃ x, L[k] = x := ⟨_, rfl⟩
      rw [hx] at c1' c2'
      have hki : (k : Int) < (n : Int) := by omega
      have hk0 : (0 : Int) ≤ (k : Int) := by omega
      have hkt : ((k : Int)).toNat = k := by omega
      clear q1 q2 g1 g2 hx hkl H1 H2
      go_wp2_with fail
      go_quiet (fail)
      go_wp2
      exact ⟨⟨k + 1, by omega, by go_num, below_drewN hb _⟩, by simp [intOf]; omega⟩
    · go_wp2
      go_ret
      exact ⟨rfl, hb⟩
set_option maxHeartbeats 400000 in
theorem l4list_bad (b : Int) (h : (b != 0) = true) (w : World) : Calls Tryz.prog 17 #[.slice none 0 0, .int .i64 b, .int .i64 b, .slice none 0 0] w (RetPost (.bool true) w) := by
  have hb : (b == b) = true := by simp
  go_enter Tryz.func17, Tryz.ntmps17
  go_wp2
  go_ret
  exact ⟨rfl, Below.refl _ _⟩
set_option maxHeartbeats 400000 in
theorem l4list_ok (L : List Int) (A1 A2 : Option Addr) (n c1 c2 : Nat) (w : World) (hn : n ≤ 300) (h1 : IntsZ w A1 n L) (h2 : IntsZ w A2 n L) :
    Calls Tryz.prog 17 #[.slice A1 n c1, .int .i64 0, .int .i64 0, .slice A2 n c2] w (RetPost (.bool true) w) := by
  have hs := sameZ_any L A1 A2 n c1 c2 w hn h1 h2
  clear h1 h2
  go_enter Tryz.func17, Tryz.ntmps17
  go_wp2_with fail
  refine hs.mono ?_
  rintro e w2 ⟨rfl, hb2⟩
  go_wp2
  go_ret
  exact ⟨rfl, hb2⟩
def TextsZ (w : World) (A : Option Addr) (n : Nat) (L : List ByteArray) : Prop :=
  L.length = n ∧ (0 < n → ∃ g off, A = some ⟨g, off, none⟩ ∧ g < w.heap.size ∧ ∀ (j : Nat) (x : ByteArray), L[j]? = some x → w.cell? ⟨g, off + j, none⟩ = some (.string x))
theorem TextsZ.below {w w' : World} {A : Option Addr} {n : Nat} {L : List ByteArray} (h : TextsZ w A n L) (hb : Below w.heap.size w w') : TextsZ w' A n L := by
  refine ⟨h.1, fun hn => ?_⟩
  obtain ⟨g, off, e, hlt, hc⟩ := h.2 hn
  exact ⟨g, off, e, Nat.lt_of_lt_of_le hlt hb.size, fun j x hx => (hb.cell (p := ⟨g, _, none⟩) hlt).trans (hc j x hx)⟩
theorem TextsZ.of_own {w : World} {base : Nat} {v : Value} {L : List ByteArray} (h : OwnNames w base v L) : ∃ A c, v = .slice A L.length c ∧ TextsZ w A L.length L := by
  rcases h.2 with ⟨a, b⟩ | ⟨g, cap, cur, a, b, c, d, e1, f, hx⟩
  · exact ⟨none, 0, by rw [a, b], rfl, fun hn => absurd hn (by omega)⟩
  · refine ⟨_, cap, a, rfl, fun _ => ⟨g, 0, rfl, (Array.getElem?_eq_some_iff.1 c).1, fun j x hj => ?_⟩⟩
    have := World.ownsRow.cells h (g := g) (by rw [a]; rfl) j (.string x) (by simp [hj])
    rwa [show (⟨g, 0, none⟩ : Addr).add j = ⟨g, 0 + j, none⟩ from by unfold Addr.add; split <;> simp_all] at this
set_option maxHeartbeats 1000000 in
theorem sameW_any (L : List ByteArray) (A1 A2 : Option Addr) (n c1 c2 : Nat) (w : World) (hn : n ≤ 300) (h1 : TextsZ w A1 n L) (h2 : TextsZ w A2 n L) :
    Calls Tryz.prog 46 #[.slice A1 n c1, .slice A2 n c2] w (RetPost (.bool true) w) := by
  have hn0 : (n : Int) ≤ 300 := by omega
  have H1 := Lib.hid h1
  have H2 := Lib.hid h2
  clear h1 h2 hn
  go_enter Tryz.func46, Tryz.ntmps46
  go_wp2
  go_loopw [5] (fun i wr => ∃ k : Nat, k ≤ n ∧ i = .int .i64 k ∧ Below w.heap.size w wr) (fun i _ => n - (intOf i).toNat)
  case atStart => exact ⟨0, by omega, rfl, Below.refl _ _⟩
  case round =>
    obtain ⟨k, hk, rfl, hb⟩ := hrel
    by_cases hlt : k < n
    · have g1 := H1.out.below hb
      have g2 := H2.out.below hb
      obtain ⟨p1, f1, rfl, _, q1⟩ := g1.2 (by omega)
      obtain ⟨p2, f2, rfl, _, q2⟩ := g2.2 (by omega)
      have hkl : k < L.length := by rw [g1.1]; exact hlt
      have c1' := q1 k L[k] (List.getElem?_eq_getElem hkl)
      have c2' := q2 k L[k] (List.getElem?_eq_getElem hkl)
      obtain ⟨x, hx⟩ : ∃ x, L[k] = x := ⟨_, rfl⟩
      rw [hx] at c1' c2'
      have hki : (k : Int) < (n : Int) := by omega
      have hk0 : (0 : Int) ≤ (k : Int) := by omega
      have hkt : ((k : Int)).toNat = k := by omega
      have gb : (x.toList == x.toList) = true := by simp
      clear q1 q2 g1 g2 hx hkl H1 H2
      go_wp2_with fail
      go_quiet (fail)
      go_wp2
      exact ⟨⟨k + 1, by omega, by go_num, below_drewN hb _⟩, by simp [intOf]; omega⟩
    · go_wp2
      go_ret
      exact ⟨rfl, hb⟩
end Go.Mk
end
section
set_option linter.unusedVariables false
set_option linter.unusedSimpArgs false
open Go Go.Proofs Go.RowKit Go.Sort
set_option maxRecDepth 100000
namespace Go.Mk
def RowsZ (w : World) (A : Option Addr) (n : Nat) (LL : List (List Int)) : Prop :=
  LL.length = n ∧ (0 < n → ∃ g off, A = some ⟨g, off, none⟩ ∧ g < w.heap.size ∧ ∀ (j : Nat) (l : List Int), LL[j]? = some l → ∃ A' c', w.cell? ⟨g, off + j, none⟩ = some (.slice A' l.length c') ∧ IntsZ w A' l.length l)
theorem RowsZ.below {w w' : World} {A : Option Addr} {n : Nat} {LL : List (List Int)} (h : RowsZ w A n LL) (hb : Below w.heap.size w w') : RowsZ w' A n LL := by
  refine ⟨h.1, fun hn => ?_⟩
  obtain ⟨g, off, e, hlt, hc⟩ := h.2 hn
  refine ⟨g, off, e, Nat.lt_of_lt_of_le hlt hb.size, fun j l hl => ?_⟩
  obtain ⟨A', c', h1, h2⟩ := hc j l hl
  exact ⟨A', c', (hb.cell (p := ⟨g, _, none⟩) hlt).trans h1, h2.below hb⟩
set_option maxHeartbeats 400000 in
theorem l4lists_bad (b : Int) (h : (b != 0) = true) (w : World) : Calls Tryz.prog 21 #[.slice none 0 0, .int .i64 b, .int .i64 b, .slice none 0 0] w (RetPost (.bool true) w) := by
  have hb : (b == b) = true := by simp
  go_enter Tryz.func21, Tryz.ntmps21
  go_wp2
  go_ret
  exact ⟨rfl, Below.refl _ _⟩
set_option maxHeartbeats 2000000 in
theorem l4lists_ok (LL : List (List Int)) (A1 A2 : Option Addr) (n c1 c2 : Nat) (w : World) (hn : n ≤ 300) (hs : ∀ l ∈ LL, l.length ≤ 300) (h1 : RowsZ w A1 n LL) (h2 : RowsZ w A2 n LL) :
    Calls Tryz.prog 21 #[.slice A1 n c1, .int .i64 0, .int .i64 0, .slice A2 n c2] w (RetPost (.bool true) w) := by
  have hn0 : (n : Int) ≤ 300 := by omega
  have H1 := Lib.hid h1
  have H2 := Lib.hid h2
  have HS := Lib.hid hs
  clear h1 h2 hn hs
  go_enter Tryz.func21, Tryz.ntmps21
  go_wp2
  go_loopw [9] (fun i wr => ∃ k : Nat, k ≤ n ∧ i = .int .i64 k ∧ Below w.heap.size w wr) (fun i _ => n - (intOf i).toNat)
  case atStart => exact ⟨0, by omega, rfl, Below.refl _ _⟩
  case round =>
    obtain ⟨k, hk, rfl, hb⟩ := hrel
    by_cases hlt : k < n
    · have g1 := H1.out.below hb
      have g2 := H2.out.below hb
      obtain ⟨p1, f1, rfl, l1, q1⟩ := g1.2 (by omega)
      obtain ⟨p2, f2, rfl, l2, q2⟩ := g2.2 (by omega)
      have hkl : k < LL.length := by rw [g1.1]; exact hlt
      obtain ⟨R1, d1, c1', z1⟩ := q1 k LL[k] (List.getElem?_eq_getElem hkl)
      obtain ⟨R2, d2, c2', z2⟩ := q2 k LL[k] (List.getElem?_eq_getElem hkl)
      have hl3 := HS.out LL[k] (List.getElem_mem hkl)
      obtain ⟨l, hl⟩ : ∃ l, LL[k] = l := ⟨_, rfl⟩
      rw [hl] at c1' c2' z1 z2 hl3
      obtain ⟨m, hm⟩ : ∃ m, l.length = m := ⟨_, rfl⟩
      rw [hm] at c1' c2' z1 z2 hl3
      have HC : Hid (∀ w', Below wr.heap.size wr w' → Calls Tryz.prog 45 #[.slice R1 m d1, .slice R2 m d2] w' (RetPost (.bool true) w')) := fun w' hb' => sameZ_any l R1 R2 m d1 d2 w' hl3 (z1.below hb') (z2.below hb')
      have HK : Hid (∀ w', Below wr.heap.size wr w' → w'.cell? ⟨p1, f1 + k, none⟩ = some (.slice R1 m d1) ∧ w'.cell? ⟨p2, f2 + k, none⟩ = some (.slice R2 m d2) ∧ Below wr.heap.size wr w') := fun w' hb' => ⟨(hb'.cell (p := ⟨p1, _, none⟩) l1).trans c1', (hb'.cell (p := ⟨p2, _, none⟩) l2).trans c2', hb'⟩
      have hki : (k : Int) < (n : Int) := by omega
      have hk0 : (0 : Int) ≤ (k : Int) := by omega
      have hkt : ((k : Int)).toNat = k := by omega
      clear q1 q2 g1 g2 hl hkl H1 H2 z1 z2 hm hl3 c1' c2'
      go_wp2_with fail
      go_region_held3 (fun w' => w'.cell? ⟨p1, f1 + k, none⟩ = some (.slice R1 m d1) ∧ w'.cell? ⟨p2, f2 + k, none⟩ = some (.slice R2 m d2) ∧ Below wr.heap.size wr w') ((first | (exact HK.out _ (Below.drew (Below.refl _ _))) | (assumption) | (exact HK.out _ (bstep (Below.drew (Below.refl _ _)) hb2)))) ((first | (go_at_call 45; (refine (HC.out _ (Below.drew (Below.refl _ _))).mono ?_); rintro e w2 ⟨rfl, hb2⟩)))
      all_goals
        have hb3 := hb.trans ((bstep (Below.drew (Below.refl _ _)) hb2).mono hb.size)
        go_wp2
        exact ⟨⟨k + 1, by omega, by go_num, hb3⟩, by simp [intOf]; omega⟩
    · go_wp2
      go_ret
      exact ⟨rfl, hb⟩
end Go.Mk
end
