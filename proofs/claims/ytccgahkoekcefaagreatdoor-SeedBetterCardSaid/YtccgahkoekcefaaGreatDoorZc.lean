/-
  Proved: the reference's CheckForm finds no error in heats that have each entrant once. Conditions: the heats lie where the slices say, from 1 to 16 heats of up to 300 entrants.
-/
import Derived.Test.YtccgahkoekcefaaGreatDoorHz
import Derived.Test.YtccgahkoekcefaaGreatDoorZa
set_option linter.unusedVariables false
set_option linter.unusedSimpArgs false
open Go Go.Proofs Go.RowKit Go.Sort
set_option maxRecDepth 100000
namespace Go.Mk
def Zi (w : World) (B : Nat) (A : Option Addr) (n : Nat) (L : List Int) : Prop :=
  L.length = n ∧ B ≤ w.heap.size ∧ (0 < n → ∃ b off, A = some ⟨b, off, none⟩ ∧ b < B ∧ ∀ (i : Nat) (z : Int), L[i]? = some z → w.cell? ⟨b, off + i, none⟩ = some (.int .i64 z))
theorem Zi.below {w w' : World} {B K n : Nat} {A : Option Addr} {L : List Int} (h : Zi w B A n L) (hb : Below K w w') (hB : B ≤ K) : Zi w' B A n L := by
  refine ⟨h.1, Nat.le_trans h.2.1 hb.size, fun hn => ?_⟩
  obtain ⟨b, off, e, hlt, hc⟩ := h.2.2 hn
  exact ⟨b, off, e, hlt, fun i z hz => (hb.cell (p := ⟨b, _, none⟩) (by show b < K; omega)).trans (hc i z hz)⟩
theorem Zi.at_ {w : World} {B n : Nat} {A : Option Addr} {L : List Int} (h : Zi w B A n L) {k : Nat} (hk : k < n) : ∃ b off z, A = some ⟨b, off, none⟩ ∧ b < B ∧ L[k]? = some z ∧ w.cell? ⟨b, off + k, none⟩ = some (.int .i64 z) := by
  obtain ⟨b, off, e, hlt, hc⟩ := h.2.2 (by omega)
  have hl : k < L.length := by rw [h.1]; exact hk
  exact ⟨b, off, L[k], e, hlt, List.getElem?_eq_getElem hl, hc k _ (List.getElem?_eq_getElem hl)⟩
def Zss (w : World) (B : Nat) (A : Option Addr) (n : Nat) (LL : List (List Int)) : Prop :=
  LL.length = n ∧ B ≤ w.heap.size ∧ (0 < n → ∃ b off, A = some ⟨b, off, none⟩ ∧ b < B ∧ ∀ (i : Nat) (l : List Int), LL[i]? = some l → ∃ A' c', w.cell? ⟨b, off + i, none⟩ = some (.slice A' l.length c') ∧ Zi w B A' l.length l)
theorem Zss.below {w w' : World} {B K n : Nat} {A : Option Addr} {LL : List (List Int)} (h : Zss w B A n LL) (hb : Below K w w') (hB : B ≤ K) : Zss w' B A n LL := by
  refine ⟨h.1, Nat.le_trans h.2.1 hb.size, fun hn => ?_⟩
  obtain ⟨b, off, e, hlt, hc⟩ := h.2.2 hn
  refine ⟨b, off, e, hlt, fun i l hl => ?_⟩
  obtain ⟨A', c', h1, h2⟩ := hc i l hl
  exact ⟨A', c', (hb.cell (p := ⟨b, _, none⟩) (by show b < K; omega)).trans h1, h2.below hb hB⟩
theorem Zss.at_ {w : World} {B n : Nat} {A : Option Addr} {LL : List (List Int)} (h : Zss w B A n LL) {k : Nat} (hk : k < n) :
    ∃ b off l A' c', A = some ⟨b, off, none⟩ ∧ b < B ∧ LL[k]? = some l ∧ w.cell? ⟨b, off + k, none⟩ = some (.slice A' l.length c') ∧ Zi w B A' l.length l := by
  obtain ⟨b, off, e, hlt, hc⟩ := h.2.2 (by omega)
  have hl : k < LL.length := by rw [h.1]; exact hk
  obtain ⟨A', c', h1, h2⟩ := hc k LL[k] (List.getElem?_eq_getElem hl)
  exact ⟨b, off, LL[k], A', c', e, hlt, List.getElem?_eq_getElem hl, h1, h2⟩
theorem Zss.cell {w : World} {B n b off k : Nat} {LL : List (List Int)} {l : List Int} (h : Zss w B (some ⟨b, off, none⟩) n LL) (hl : LL[k]? = some l) : ∃ A' c', w.cell? ⟨b, off + k, none⟩ = some (.slice A' l.length c') ∧ Zi w B A' l.length l := by
  have hk : k < n := by rw [← h.1]; exact (List.getElem?_eq_some_iff.1 hl).1
  obtain ⟨b', off', l', A', c', e, _, hl', h1, h2⟩ := h.at_ hk
  obtain ⟨rfl, rfl⟩ : b = b' ∧ off = off' := by simpa using e
  obtain rfl : l = l' := by simpa using hl.symm.trans hl'
  exact ⟨A', c', h1, h2⟩
theorem Zi.of_row {w : World} {base B n : Nat} {v : Value} {L : List Nat} (h : w.ownsRow base 3 1 v n (L.map fun x => Value.int .i64 ((x : Nat) : Int))) (hB : B = w.heap.size) : ∃ A c, v = .slice A L.length c ∧ Zi w B A L.length (L.map fun x : Nat => (x : Int)) := by
  subst hB
  have hl : L.length = n := by have := h.1; simpa using this
  subst hl
  rcases h.2 with ⟨a, b⟩ | ⟨g, cap, cur, a, b, c, d, e1, f, hx⟩
  · exact ⟨none, 0, by rw [a, b], by simp, Nat.le_refl _, fun hn => absurd hn (by omega)⟩
  · refine ⟨_, cap, a, by simp, Nat.le_refl _, fun _ => ⟨g, 0, rfl, (Array.getElem?_eq_some_iff.1 c).1, fun j x hj => ?_⟩⟩
    rw [List.getElem?_map, Option.map_eq_some_iff] at hj
    obtain ⟨y, hy, rfl⟩ := hj
    have := World.ownsRow.cells h (g := g) (by rw [a]; rfl) j (.int .i64 (y : Int)) (by simp [hy])
    rwa [show (⟨g, 0, none⟩ : Addr).add j = ⟨g, 0 + j, none⟩ from by unfold Addr.add; split <;> simp_all] at this
def zLists (h n : Nat) : List (List Int) := (List.range h).map fun i => (rowsZ h n i).map fun x : Nat => (x : Int)
theorem zLists_at (h n i : Nat) (hi : i < h) : (zLists h n)[i]? = some ((rowsZ h n i).map fun x : Nat => (x : Int)) := by
  unfold zLists
  rw [List.getElem?_map, List.getElem?_range hi]
  rfl
theorem GrowR.zss {w : World} {B g h n : Nat} (hR : GrowR w B g h (rowsZ h n)) : Zss w w.heap.size (some ⟨g, 0, none⟩) h (zLists h n) := by
  obtain ⟨hg, hB, V, h1, _⟩ := hR
  refine ⟨by simp [zLists], Nat.le_refl _, fun _ => ⟨g, 0, rfl, hg, fun i l hl => ?_⟩⟩
  have hi : i < h := by
    have := (List.getElem?_eq_some_iff.1 hl).1
    simpa [zLists] using this
  obtain ⟨a, _, c, _⟩ := h1 i hi
  rw [zLists_at h n i hi] at hl
  obtain rfl := Option.some.inj hl
  obtain ⟨A', c', e, hZ⟩ := Zi.of_row c rfl
  refine ⟨A', c', ?_, by simpa using hZ⟩
  rw [Nat.zero_add, a, e]
  simp
theorem infoBool : (Tryz.prog.info? 4).map (fun i => (i.zero, i.size, i.bytes)) = some (some (.bool false), 1, 1) := by kernel_rfl
def Seen (w : World) (B s n : Nat) (P : List Int) : Prop :=
  s < w.heap.size ∧ B ≤ s ∧ ∀ x : Nat, x < n → w.cell? ⟨s, x, none⟩ = some (.bool (decide ((x : Int) ∈ P))) ∧ w.frozen? ⟨s, x, none⟩ = false
theorem Seen.start (w w0 : World) (B n : Nat) (hB : B ≤ w.heap.size) (hw : w0 = w.alloc (.cells (madeCells #[.bool false] n) 4)) : Seen w0 B w.heap.size n [] := by
  subst hw
  refine ⟨by simp, hB, fun x hx => ⟨?_, by simp⟩⟩
  simp [madeCells, hx, Nat.mod_one]
theorem Seen.set_ {w : World} {B s n : Nat} {P : List Int} (h : Seen w B s n P) {x : Nat} (hx : x < n) : Seen (w.setCell ⟨s, x, none⟩ (.bool true)) B s n (P ++ [(x : Int)]) := by
  obtain ⟨h1, h2, h3⟩ := h
  refine ⟨by simpa using h1, h2, fun y hy => ⟨?_, by simpa using (h3 y hy).2⟩⟩
  by_cases e : x = y
  · subst e
    rw [World.cell?_setCell_same w _ _ (h3 x hx).1]
    simp
  · rw [World.cell?_setCell_other w _ _ _ (by intro e2; injection e2 with _ e3; exact e e3), (h3 y hy).1]
    congr 2
    simp only [List.mem_append, List.mem_singleton]
    have : ¬ (y : Int) = (x : Int) := by omega
    simp [this]
theorem Seen.of {w : World} {B s n : Nat} {P : List Int} (h : Seen w B s n P) {x : Nat} (hx : x < n) (hP : (x : Int) ∉ P) : w.cell? ⟨s, x, none⟩ = some (.bool false) ∧ w.frozen? ⟨s, x, none⟩ = false := by
  obtain ⟨a, b⟩ := h.2.2 x hx
  rw [decide_eq_false hP] at a
  exact ⟨a, b⟩
theorem flat_split (LL : List (List Int)) (k q : Nat) (l : List Int) (x : Int) (h1 : LL[k]? = some l) (h2 : l[q]? = some x) : LL.flatten = ((LL.take k).flatten ++ l.take q) ++ x :: (l.drop (q + 1) ++ (LL.drop (k + 1)).flatten) := by
  obtain ⟨hk, e⟩ := List.getElem?_eq_some_iff.1 h1
  obtain ⟨hq, e2⟩ := List.getElem?_eq_some_iff.1 h2
  conv => lhs; rw [← List.take_append_drop k LL, List.drop_eq_getElem_cons hk, e, List.flatten_append, List.flatten_cons, ← List.take_append_drop q l, List.drop_eq_getElem_cons hq, e2]
  simp
set_option maxHeartbeats 4000000 in
theorem r4CheckForm_ok (n h : Nat) (LL : List (List Int)) (cap : Nat) (A : Option Addr) (B : Nat) (w : World) (hZ : Zss w B A h LL) (h1 : 1 ≤ h) (h2 : h ≤ 16) (hn : n ≤ 300) (hnd : LL.flatten.Nodup) (hin : ∀ x ∈ LL.flatten, 0 ≤ x ∧ x < (n : Int)) (hlen : LL.flatten.length = n) :
    Calls Tryz.prog 30 #[.int .i64 (n : Int), .slice A h cap] w (RetPost (.int .i64 0) w) := by
  obtain ⟨j0, hj, hy0, hy1, hy2⟩ := info_parts infoBool
  have hmk : ∀ w : World, (Instr.makeSlice 112 (.int .i64 (n : Int)) (.int .i64 (n : Int))).run Tryz.prog w = .ok (.slice (some ⟨w.heap.size, 0, none⟩) n n) (w.alloc (.cells (madeCells #[.bool false] n) 4)) := by
    intro w
    have := run_make (P := Tryz.prog) w 112 4 j0 (.bool false) Tryz.underlying112 hj hy0 .i64 .i64 n n (by omega) (by omega) (by rw [hy2]; omega) (by omega)
    rw [hy1] at this
    simpa [Value.cells] using this
  have hni : (n : Int) ≤ 300 := by omega
  have hn0 : 0 ≤ (n : Int) := by omega
  have hhi : (h : Int) ≤ 16 := by omega
  have hh0 : ((h : Int) == 0) = false := by rw [beq_eq_false_iff_ne]; omega
  have HM : Hid (∀ w', Below w.heap.size w w' → Zss w' B A h LL) := fun w' hb => hZ.below hb hZ.2.1
  have Hlen : Hid (LL.length = h) := hZ.1
  have HN := Lib.hid hnd
  have HI := Lib.hid hin
  have HL := Lib.hid hlen
  clear hj hy0 hy1 hy2 hZ hnd hin hlen
  go_enter Tryz.func30, Tryz.ntmps30
  go_wp2
  have hS0 := Seen.start w _ w.heap.size n (Nat.le_refl _) rfl
  have hb1 : Below w.heap.size w (w.alloc (.cells (madeCells #[.bool false] n) 4)) := (Below.refl _ _).alloc (Nat.le_refl _) _
  obtain ⟨s, hs⟩ : ∃ s, s = w.heap.size := ⟨_, rfl⟩
  rw [← hs] at hS0 ⊢
  generalize w.alloc (.cells (madeCells #[.bool false] n) 4) = w0 at *
  have hsw : w.heap.size ≤ s := by omega
  clear hs hmk
  go_loopw [7, 6] (fun i c wr => ∃ k : Nat, k ≤ h ∧ i = .int .i64 k ∧ c = .int .i64 (((LL.take k).flatten.length : Nat) : Int) ∧ Seen wr s s n (LL.take k).flatten ∧ Below w.heap.size w wr) (fun i _ _ => h - (intOf i).toNat)
  case atStart => exact ⟨0, by omega, rfl, by simp, by simpa using hS0, hb1⟩
  case round =>
    obtain ⟨k, hk, rfl, rfl, hS, hb⟩ := hrel
    by_cases hlt : k < h
    · obtain ⟨b, off, l, A', c', rfl, hbl, hLL, hc, hZl⟩ := (HM.out _ hb).at_ hlt
      have hki : (k : Int) < (h : Int) := by omega
      have hfl : (LL.take (k + 1)).flatten = (LL.take k).flatten ++ l := by
        obtain ⟨hk', e⟩ := List.getElem?_eq_some_iff.1 hLL
        rw [List.take_succ_eq_append_getElem hk', e, List.flatten_append]
        simp
      have hll : ((LL.take k).flatten ++ l).length ≤ n := by
        rw [← HL.out, ← hfl]
        conv => rhs; rw [← List.take_append_drop (k + 1) LL, List.flatten_append, List.length_append]
        omega
      obtain ⟨c0, hc0⟩ : ∃ c, (LL.take k).flatten.length = c := ⟨_, rfl⟩
      obtain ⟨m, hm⟩ : ∃ m, l.length = m := ⟨_, rfl⟩
      rw [List.length_append, hc0, hm] at hll
      rw [hc0]
      rw [hm] at hc hZl
      have Hc0 := Lib.hid hc0
      have Hm := Lib.hid hm
      have HLL := Lib.hid hLL
      have Hfl := Lib.hid hfl
      clear hc0 hm hLL hfl hZl hc
      go_wp2
      go_loopw [8, 6] (fun i c wx => ∃ q : Nat, q ≤ m ∧ i = .int .i64 q ∧ c = .int .i64 ((c0 + q : Nat) : Int) ∧ Seen wx s s n ((LL.take k).flatten ++ l.take q) ∧ Below w.heap.size w wx) (fun i _ _ => m - (intOf i).toNat)
      case atStart => exact ⟨0, by omega, rfl, rfl, by simpa using hS, hb⟩
      case round =>
        obtain ⟨q, hq, rfl, rfl, hSx, hbx⟩ := hrel
        obtain ⟨A2, c2, hc, hZl⟩ := (HM.out _ hbx).cell HLL.out
        rw [Hm.out] at hc hZl
        by_cases hqm : q < m
        · obtain ⟨b2, off2, x, rfl, _, hx, hcx⟩ := hZl.at_ hqm
          have hsp := flat_split LL k q l x HLL.out hx
          have hxin := HI.out x (by rw [hsp]; simp)
          obtain ⟨y, rfl⟩ : ∃ y : Nat, x = (y : Int) := ⟨x.toNat, by omega⟩
          have hyn : y < n := by omega
          have hnot : (y : Int) ∉ (LL.take k).flatten ++ l.take q := by
            intro hmem
            have := HN.out
            rw [hsp, List.nodup_append] at this
            exact this.2.2 _ hmem _ (List.mem_cons_self) rfl
          obtain ⟨d1, d2⟩ := hSx.of hyn hnot
          have hS2 := hSx.set_ hyn
          have htk : l.take (q + 1) = l.take q ++ [(y : Int)] := by
            obtain ⟨hq', e⟩ := List.getElem?_eq_some_iff.1 hx
            rw [List.take_succ_eq_append_getElem hq', e]
          rw [List.append_assoc, ← htk] at hS2
          have hbS : Below w.heap.size w (wr.setCell ⟨s, y, none⟩ (.bool true)) := hbx.setCell hsw _
          have o1 := fun w => r4outside_any (y : Int) 0 ((n : Int) - 1) w
          rw [show (decide ((y : Int) < 0) || decide ((n : Int) - 1 < (y : Int))) = false from by simp; omega] at o1
          have hqi : (q : Int) < (m : Int) := by omega
          have hyi : (y : Int) < (n : Int) := by omega
          clear hsp hxin hnot hx htk hZl
          go_wp2_with (go_at_call 58; (with_reducible refine (o1 _).mono ?_); rintro e wv ⟨rfl, rfl⟩)
          go_roundw
          case rel => exact ⟨q + 1, by omega, by go_num, by go_num, hS2, hbS⟩
          case measure => simp [intOf]; omega
        · have hqe : q = m := by omega
          subst hqe
          have hS2 : Seen wr s s n (LL.take (k + 1)).flatten := by
            rw [Hfl.out]
            have e := List.take_of_length_le (l := l) (i := q) (by rw [Hm.out]; exact Nat.le_refl _)
            rw [e] at hSx
            exact hSx
          have hlen2 : (LL.take (k + 1)).flatten.length = c0 + q := by rw [Hfl.out, List.length_append, Hc0.out, Hm.out]
          have Hl2 := Lib.hid hlen2
          clear hSx hlen2 hZl
          go_wp2
          go_roundw
          case rel => exact ⟨k + 1, by omega, by go_num, by rw [Hl2.out], hS2, hbx⟩
          case measure => simp [intOf]; omega
    · have hke : (LL.take k).flatten.length = n := by
        rw [List.take_of_length_le (by rw [Hlen.out]; omega)]
        exact HL.out
      rw [hke]
      have hnn : ¬ (n : Int) < (n : Int) := by omega
      go_wp2
      go_ret
      exact ⟨rfl, hb⟩
end Go.Mk
