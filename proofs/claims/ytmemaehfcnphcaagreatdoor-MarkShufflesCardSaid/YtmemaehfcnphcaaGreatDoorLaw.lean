/-
  Proved: the law MarkShuffles returns true and leaves all that was there, for every key and every number of elements. Condition: the two tables that awake reads lie where the program lays them.
-/
import Derived.Test.YtmemaehfcnphcaaGreatDoorDr
import Derived.Test.YtmemaehfcnphcaaGreatDoorAw
import Derived.IntWalk
open Go Go.Proofs Go.RowKit
namespace Go.Mk

/-- The tables lie where they are laid. -/
def Tabs (w : World) : Prop := 15 ≤ w.heap.size ∧ ∀ y ∈ Snap.tabs, y.1 < 15 ∧ ∀ (i : Nat) (v : Value), y.2[i]? = some v → w.cell? ⟨y.1, i, none⟩ = some v ∧ Ev.plainN 0 v = true
theorem Tabs.below {w w' : World} {B : Nat} (h : Tabs w) (hb : Below B w w') (hB : 15 ≤ B) : Tabs w' :=
  ⟨by have := hb.size; have := h.1; omega, fun y hy => by
    obtain ⟨h1, h2⟩ := h.2 y hy
    refine ⟨h1, fun i v hv => ?_⟩
    obtain ⟨h3, h4⟩ := h2 i v hv
    exact ⟨(hb.cell (p := ⟨y.1, i, none⟩) (by show y.1 < B; omega)).trans h3, h4⟩⟩

theorem aw (w : World) (h : Tabs w) : Calls Tryz.prog 4 #[] w fun e w' => e = .returned (.bool true) ∧ Below w.heap.size w w' := Snap.awake_any w h.1 h.2

set_option maxHeartbeats 400000 in
theorem check_ok (key n : Nat) (w : World) (h1 : 1 ≤ (key : Int)) (h2 : (key : Int) ≤ 2147483646) (h3 : (n : Int) ≤ 256) :
    Calls Tryz.prog 5 #[.int .i64 key, .int .i64 n] w fun e w' => e = .returned (.int .i64 0) ∧ w = w' := by
  have h0 : 0 ≤ (n : Int) := by omega
  go_enter Tryz.func5, Tryz.ntmps5
  go_wp2
  go_ret
  exact ⟨rfl, rfl⟩
set_option maxHeartbeats 400000 in
theorem check_bad (key n : Int) (w : World) (h : key < 1 ∨ 2147483646 < key ∨ n < 0 ∨ 256 < n) :
    Calls Tryz.prog 5 #[.int .i64 key, .int .i64 n] w fun e w' => e = .returned (.int .i64 3) ∧ w = w' := by
  go_enter Tryz.func5, Tryz.ntmps5
  go_wp2
  all_goals first | (go_ret; exact ⟨rfl, rfl⟩) | (exfalso; omega)

def Yes (w : World) (e : Ending) (w' : World) : Prop := e = .returned (.bool true) ∧ Below w.heap.size w w'

set_option maxHeartbeats 400000 in
set_option maxRecDepth 100000 in
theorem law_bad (key n : Int) (w : World) (ht : Tabs w) (h : key < 1 ∨ 2147483646 < key ∨ n < 0 ∨ 256 < n) :
    Calls Tryz.prog 3 #[.int .i64 key, .int .i64 n] w (Yes w) := by
  have hc := fun w => check_bad key n w h
  clear h
  go_enter Tryz.func3, Tryz.ntmps3
  go_wp2_with fail
  refine (aw _ ht).mono ?_
  rintro e w1 ⟨rfl, hb1⟩
  have ht1 := ht.below hb1 ht.1
  go_wp2_with fail
  refine (hc _).mono ?_
  rintro e w2 ⟨rfl, rfl⟩
  go_wp2_with fail
  refine (aw _ ht1).mono ?_
  rintro e w3 ⟨rfl, hb3⟩
  go_wp2
  go_ret
  exact ⟨rfl, hb1.trans (hb3.mono hb1.size)⟩

set_option maxHeartbeats 400000 in
set_option maxRecDepth 100000 in
theorem law_large (key n : Nat) (w : World) (ht : Tabs w) (h1 : 1 ≤ (key : Int)) (h2 : (key : Int) ≤ 2147483646) (h3 : (n : Int) ≤ 256) (h4 : 40 < (n : Int)) :
    Calls Tryz.prog 3 #[.int .i64 key, .int .i64 n] w (Yes w) := by
  have hc := fun w => check_ok key n w h1 h2 h3
  clear h1 h2 h3
  go_enter Tryz.func3, Tryz.ntmps3
  go_wp2_with fail
  refine (aw _ ht).mono ?_
  rintro e w1 ⟨rfl, hb1⟩
  have ht1 := ht.below hb1 ht.1
  go_wp2_with fail
  refine (hc _).mono ?_
  rintro e w2 ⟨rfl, rfl⟩
  go_wp2_with fail
  refine (aw _ ht1).mono ?_
  rintro e w3 ⟨rfl, hb3⟩
  go_wp2
  go_ret
  exact ⟨rfl, hb1.trans (hb3.mono hb1.size)⟩

theorem below_drewN {B : Nat} {w w' : World} (h : Below B w w') (n : Nat) : Below B w (w'.drewN n) := ⟨h.os, h.tape, h.output, h.size, h.block⟩
/-- A block of bools that says which numbers are in a list. -/
def Seen (w : World) (s n : Nat) (M : List Nat) : Prop :=
  s < w.heap.size ∧ ∀ j, j < n → w.cell? ⟨s, j, none⟩ = some (.bool (M.contains j)) ∧ w.frozen? ⟨s, j, none⟩ = false
section
variable {w w' : World} {s n : Nat} {M : List Nat}
theorem Seen.at_ (h : Seen w s n M) {j : Nat} (hj : j < n) : w.cell? ⟨s, j, none⟩ = some (.bool (M.contains j)) ∧ w.frozen? ⟨s, j, none⟩ = false := h.2 j hj
theorem Seen.new (w : World) (n : Nat) : Seen (w.alloc (.cells (madeCells #[.bool false] n) 4)) w.heap.size n [] :=
  ⟨by simp, fun j hj => by simp [madeCells, hj, Nat.mod_one]⟩
theorem Seen.put_ (h : Seen w s n M) (v : Nat) : Seen (w.setCell ⟨s, v, none⟩ (.bool true)) s n (M ++ [v]) := by
  refine ⟨by simpa using h.1, fun j hj => ?_⟩
  obtain ⟨h1, h2⟩ := h.2 j hj
  by_cases e : v = j
  · subst e
    refine ⟨?_, by simpa using h2⟩
    rw [World.cell?_setCell_same w _ _ h1]
    simp
  · refine ⟨?_, by simpa using h2⟩
    rw [World.cell?_setCell_other w _ _ _ (by intro e2; injection e2 with _ e3; exact e e3), h1]
    have : (M ++ [v]).contains j = M.contains j := by simp [Ne.symm e]
    rw [this]
end
theorem getD_mem (l : List Nat) (i : Nat) (h : i < l.length) : l.getD i 0 ∈ l := by
  simp [List.getD_eq_getElem?_getD, List.getElem?_eq_getElem h]
theorem take_step (l : List Nat) (n k v : Nat) (hl : l.length = n) (hk : k < n) (hnd : l.Nodup) (hlt : ∀ v ∈ l, v < n) (hv : l.getD k 0 = v) :
    v < n ∧ (l.take k).contains v = false ∧ l.take (k + 1) = l.take k ++ [v] := by
  subst hl
  have e : l[k] = v := by simpa [List.getD_eq_getElem?_getD, List.getElem?_eq_getElem hk] using hv
  refine ⟨by rw [← e]; exact hlt _ (List.getElem_mem hk), ?_, by rw [← e]; exact (List.take_append_getElem hk).symm⟩
  rw [← e]
  simp only [List.contains_eq_mem, decide_eq_false_iff_not]
  intro hm
  obtain ⟨i, hi, he⟩ := List.mem_take_iff_getElem.1 hm
  have hi2 : i < k := by omega
  have := (List.nodup_iff_pairwise_ne.1 hnd)
  rw [List.pairwise_iff_getElem] at this
  exact this i k (by omega) hk hi2 he
theorem info4 : (Tryz.prog.info? 4).map (fun i => (i.zero, i.size, i.bytes)) = some (some (.bool false), 1, 1) := by kernel_rfl

set_option maxHeartbeats 400000 in
set_option maxRecDepth 100000 in
theorem law_good (key n : Nat) (w : World) (ht : Tabs w) (h1 : 1 ≤ (key : Int)) (h2 : (key : Int) ≤ 2147483646) (h3 : (n : Int) ≤ 40) :
    Calls Tryz.prog 3 #[.int .i64 key, .int .i64 n] w (Yes w) := by
  have hc := fun w => check_ok key n w h1 h2 (by omega)
  have hd := fun w => draw_any key n w (by omega) (by omega) (by omega)
  have h0 : 0 ≤ (n : Int) := by omega
  obtain ⟨i0, hi, hz0, hz1, hz2⟩ := info_parts info4
  have hmk : ∀ w : World, (Instr.makeSlice 28 (.int .i64 (n : Int)) (.int .i64 (n : Int))).run Tryz.prog w = .ok (.slice (some ⟨w.heap.size, 0, none⟩) n n) (w.alloc (.cells (madeCells #[.bool false] n) 4)) := by
    intro w
    have := run_make (P := Tryz.prog) w 28 4 i0 (.bool false) Tryz.underlying28 hi hz0 .i64 .i64 n n (by omega) (by omega) (by rw [hz2]; omega) (by omega)
    rw [hz1] at this
    simpa [Value.cells] using this
  clear hi hz0 hz1 hz2
  go_enter Tryz.func3, Tryz.ntmps3
  go_wp2_with fail
  refine (aw _ ht).mono ?_
  rintro e w1 ⟨rfl, hb1⟩
  go_wp2_with fail
  refine (hc _).mono ?_
  rintro e w2 ⟨rfl, rfl⟩
  go_wp2_with fail
  refine (hd _).mono ?_
  rintro e w2 ⟨g, rfl, hr, hg, hb2⟩
  have Hg := Lib.hid hg
  clear hg
  go_wp2_with fail
  have hseen : Seen (w2.alloc (.cells (madeCells #[.bool false] n) 4)) w2.heap.size n [] := Seen.new w2 n
  have hrA : Row (w2.alloc (.cells (madeCells #[.bool false] n) 4)) g (Sh.order key n) := hr.alloc _
  have hgs : g < w2.heap.size := hr.1
  have hB2 : Below w.heap.size w (w2.alloc (.cells (madeCells #[.bool false] n) 4)) := (hb1.trans (hb2.mono hb1.size)).alloc (Nat.le_trans hb1.size hb2.size) _
  have hsz : w.heap.size ≤ w2.heap.size := Nat.le_trans hb1.size hb2.size
  have hgw : w.heap.size ≤ g := by rw [Hg.out]; exact hb1.size
  obtain ⟨s, hs⟩ : ∃ s, w2.heap.size = s := ⟨_, rfl⟩
  rw [hs] at hseen hgs hsz ⊢
  clear hs
  generalize w2.alloc (.cells (madeCells #[.bool false] n) 4) = w3 at hseen hrA hB2 ⊢
  have hlen : (Sh.order key n).length = n := Sh.order_length key n
  have Hlen := Lib.hid hlen
  have hnd := Sh.order_nodup key n
  have hlt := Sh.order_lt key n
  clear hlen hr hb1 hb2 hc hmk ht
  go_loopw [47] (fun i wr => ∃ k : Nat, k ≤ n ∧ i = .int .i64 k ∧ Row wr g (Sh.order key n) ∧ Seen wr s n ((Sh.order key n).take k) ∧ Below w.heap.size w wr) (fun i _ => n - (intOf i).toNat)
  case atStart => exact ⟨0, by omega, rfl, hrA, by simpa using hseen, hB2⟩
  case round =>
    obtain ⟨k, hk, rfl, hr, hsn, hb⟩ := hrel
    by_cases hkn : k < n
    · obtain ⟨hcl, _⟩ := hr.at_ (j := k) (by rw [Hlen.out]; exact hkn)
      obtain ⟨v, hv⟩ : ∃ v, (Sh.order key n).getD k 0 = v := ⟨_, rfl⟩
      obtain ⟨hv1, hv2, hv3⟩ := take_step (Sh.order key n) n k v Hlen.out hkn hnd hlt hv
      rw [hv] at hcl
      have Hv3 := Lib.hid hv3
      obtain ⟨hcs, hfs⟩ := hsn.at_ hv1
      rw [hv2] at hcs
      have hvi : (v : Int) < (n : Int) := by omega
      have hnew : ∀ w', w' = wr.setCell ⟨s, v, none⟩ (.bool true) → Row w' g (Sh.order key n) ∧ Seen w' s n ((Sh.order key n).take (k + 1)) ∧ Below w.heap.size w w' := by
        rintro w' rfl
        exact ⟨hr.far (by simp; omega) _, by rw [Hv3.out]; exact hsn.put_ v, hb.setCell (by simpa using hsz) _⟩
      clear hv hv3 hnd hlt hv2
      go_wp2
      obtain ⟨n1, n2, n3⟩ := hnew _ rfl
      exact ⟨⟨k + 1, by omega, by go_num, n1, n2, n3⟩, by simp [intOf]; omega⟩
    · have hkn : k = n := by omega
      clear hsn hseen hrA hB2
      by_cases hn2 : n < 2
      · have hn2' : (n : Int) < 2 := by omega
        go_wp2
        go_ret
        exact ⟨rfl, hb⟩
      · obtain ⟨m, hm⟩ : ∃ m, n = m + 2 := ⟨n - 2, by omega⟩
        subst hm
        clear hkn hn2 hk hnd hlt h3
        have hx1 : 0 < Sh.nx key := Sh.nx_pos key (by omega) (by omega)
        have hx2 := Sh.nx_lt key
        obtain ⟨x, hx⟩ : ∃ x, Sh.nx key = x := ⟨_, rfl⟩
        have hxe : 69621 * (key : Int) % 2147483647 = (x : Int) := by rw [← hx]; unfold Sh.nx; simp [Int.natCast_emod]
        have Hxe := Lib.hid hxe
        have hlast := Sh.order_last key m
        have hrest := Sh.order_rest key m
        obtain ⟨hcl, _⟩ := hr.at_ (j := m + 1) (by rw [Hlen.out]; omega)
        rw [hlast] at hcl
        rw [hx] at hx1 hx2 hcl hrest
        obtain ⟨j, hj, hj2⟩ : ∃ j : Nat, (x : Int) % ((m : Int) + 2) = (j : Int) ∧ x % (m + 2) = j := ⟨x % (m + 2), by rw [show (m : Int) + 2 = ((m + 2 : Nat) : Int) from by omega, Int.natCast_emod], rfl⟩
        rw [hj2] at hcl
        have Hj := Lib.hid hj
        have Hj2 := Lib.hid hj2
        have Hx := Lib.hid hx
        have Hrest := Lib.hid hrest
        clear hxe hx hlast hj hj2 hrest
        have hd2 : ∀ w, Calls Tryz.prog 6 #[.int .i64 (x : Int), .int .i64 ((m : Int) + 2 - 1)] w (Drawn x (m + 1) w) := fun w => by
          rw [show (m : Int) + 2 - 1 = ((m + 1 : Nat) : Int) from by omega]
          exact draw_any x (m + 1) w (by omega) (by omega) (by omega)
        go_wp2_with fail
        have hxe := Hxe.out
        rw [hxe]
        clear hxe
        have q1 : ((m : Int) + 2 - 1).toNat = m + 1 := by omega
        have q2 : (0 : Int) ≤ (m : Int) + 2 - 1 := by omega
        have q3 : IntKind.i64.wrap ((m : Int) + 2 - 1) = (m : Int) + 2 - 1 := IntWalk.i64_in _ (by omega)
        have q4 : (m : Int) + 2 - 1 < (m : Int) + 2 := by omega
        have q5 := Hj.out
        go_quiet (fail)
        clear q1 q2 q3 q4 q5
        go_wp2_with fail
        refine (hd2 _).mono ?_
        rintro e w4 ⟨g2, rfl, hr2, hg2, hb4⟩
        have hrD : Row w4 g (Sh.order key (m + 2)) := (hr.drewN nq).below hb4 hr.1 hb4.size
        have hB4 : Below w.heap.size w w4 := (below_drewN hb nq).trans (hb4.mono hb.size)
        clear hg2 hb hr hb4
        go_wp2_with fail
        have q5 := Hj.out
        go_loop [100] (fun i => ∃ k : Nat, k ≤ m + 1 ∧ i = .int .i64 k) (fun i => m + 1 - (intOf i).toNat)
        case atStart => exact ⟨0, by omega, rfl⟩
        case round =>
          obtain ⟨i, hi, rfl⟩ := hrel
          by_cases him : i < m + 1
          · have him' : (i : Int) < (m : Int) + 1 := by omega
            obtain ⟨c2, _⟩ := hr2.at_ (j := i) (by rw [Sh.order_length]; exact him)
            obtain ⟨cD, _⟩ := hrD.at_ (j := i) (by rw [Sh.order_length]; omega)
            rw [Hrest.out i him, Hj2.out] at cD
            have hv1 := Sh.order_lt x (m + 1) ((Sh.order x (m + 1)).getD i 0) (getD_mem _ _ (by rw [Sh.order_length]; exact him))
            obtain ⟨v, hv⟩ : ∃ v, (Sh.order x (m + 1)).getD i 0 = v := ⟨_, rfl⟩
            rw [hv] at c2 cD hv1
            clear hv
            by_cases hvj : v = j
            · subst hvj
              have cD' : w4.cell? ⟨g, i, none⟩ = some (.int .i64 ((m : Int) + 2 - 1)) := by
                rw [cD]; simp [Sh.relabel]; omega
              clear cD
              go_wp2
              exact ⟨⟨_, _, _, _, _, ⟨i + 1, by omega, by go_num⟩, rfl, rfl, rfl, rfl, rfl⟩, by simp [intOf]; omega⟩
            · have cD' : w4.cell? ⟨g, i, none⟩ = some (.int .i64 (v : Int)) := by
                rw [cD]; simp [Sh.relabel, hvj]
              have hb : ((v : Int) == (j : Int)) = false := beq_eq_false_iff_ne.2 (by omega)
              clear cD
              go_wp2
              exact ⟨⟨_, _, _, _, _, ⟨i + 1, by omega, by go_num⟩, rfl, rfl, rfl, rfl, rfl⟩, by simp [intOf]; omega⟩
          · have him' : ¬ (i : Int) < (m : Int) + 1 := by omega
            go_wp2
            go_ret
            exact ⟨rfl, hB4⟩

/-- The law returns true, whatever the key and the number. -/
theorem law_any (key n : Int) (w : World) (ht : Tabs w) : Calls Tryz.prog 3 #[.int .i64 key, .int .i64 n] w (Yes w) := by
  by_cases h : key < 1 ∨ 2147483646 < key ∨ n < 0 ∨ 256 < n
  · exact law_bad key n w ht h
  · obtain ⟨k, rfl⟩ : ∃ k : Nat, key = (k : Int) := ⟨key.toNat, by omega⟩
    obtain ⟨m, rfl⟩ : ∃ m : Nat, n = (m : Int) := ⟨n.toNat, by omega⟩
    by_cases h4 : 40 < (m : Int)
    · exact law_large k m w ht (by omega) (by omega) (by omega) h4
    · exact law_good k m w ht (by omega) (by omega) (by omega)
end Go.Mk
