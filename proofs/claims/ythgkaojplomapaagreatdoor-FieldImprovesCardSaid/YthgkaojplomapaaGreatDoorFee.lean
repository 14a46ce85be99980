/-
  Proved: slices.SortFunc of at most 12 integers by the comparison of field.series leaves them in descending order, in place. Conditions: the integers are lengths, in a row of the caller's own.
  Proved: series of package field returns a row's marks that are not below 0, in descending order, in new memory. Conditions: at most 12 trials, each at most 999,999, where the slice says.
  Proved: noMark of package field as a plain function. No conditions.
  Proved: rowMark of package field as a plain function of a row. Conditions: at most 12 trials, each at most 999,999, where the slice says.
  Proved: cmp.Compare of integers and slices.Compare of two lists of integers as plain functions. Conditions: the integers lie where the slices say, at most 1,000 in the first list.
-/
import Derived.Test.YthgkaojplomapaaGreatDoorFed
section
set_option linter.unusedVariables false
set_option linter.unusedSimpArgs false
open Go Go.Proofs Go.RowKit
set_option maxRecDepth 100000
namespace Go.Mk
set_option maxHeartbeats 400000 in
theorem fdSeriesC_any (x y : Int) (hx : 0 ≤ x ∧ x ≤ 999999) (hy : 0 ≤ y ∧ y ≤ 999999) (w : World) : Calls Tryz.prog 182 #[.int .i64 x, .int .i64 y] w (RetPost (.int .i64 (y - x)) w) := by
  obtain ⟨h1, h2⟩ := hx
  obtain ⟨h3, h4⟩ := hy
  go_enter Tryz.func182, Tryz.ntmps182
  go_wp2
  go_ret
  exact ⟨rfl, Below.refl _ _⟩
set_option maxHeartbeats 1000000 in
theorem bitsLen64_small (k : Nat) (hk : k ≤ 12) (w : World) : Calls Tryz.prog 268 #[.int .u64 k] w (fun e w' => ∃ v : Int, e = .returned (.int .i64 v) ∧ w' = w) := by
  have h1 : ¬ (4294967296 : Int) ≤ (k : Int) := by omega
  have h2 : ¬ (65536 : Int) ≤ (k : Int) := by omega
  have h3 : ¬ (256 : Int) ≤ (k : Int) := by omega
  go_enter Tryz.func268, Tryz.ntmps268
  go_wp2
  go_ret
  exact ⟨_, rfl, rfl⟩
set_option maxHeartbeats 1000000 in
theorem bitsLen_small (k : Nat) (hk : k ≤ 12) (w : World) : Calls Tryz.prog 217 #[.int .u64 k] w (fun e w' => ∃ v : Int, e = .returned (.int .i64 v) ∧ w' = w) := by
  have hL := fun w => bitsLen64_small k hk w
  go_enter Tryz.func217, Tryz.ntmps217
  go_wp2_with fail
  refine (hL _).mono ?_
  rintro e w1 ⟨v, rfl, rfl⟩
  go_wp2
  go_ret
  exact ⟨_, rfl, rfl⟩
set_option maxHeartbeats 2000000 in
theorem pdq_small (L : List Int) (B g n cap : Nat) (lim : Int) (w : World) (hr : RowZ w B g n cap L) (hn : n ≤ 12) (hC : CmpD w g L) :
    Calls Tryz.prog 216 #[.slice (some ⟨g, 0, none⟩) n cap, .int .i64 0, .int .i64 n, .int .i64 lim, DescV] w (SortD w B g n cap L 0 n) := by
  have hI : Calls Tryz.prog 223 #[.slice (some ⟨g, 0, none⟩) n cap, .int .i64 0, .int .i64 n, DescV] w (SortD w B g n cap L 0 n) := insertD_any L B g n cap 0 n w hr (Nat.le_refl _) (by omega) (by omega) hC
  have hni : (n : Int) ≤ 12 := by omega
  unfold DescV at *
  clear hr hC
  go_enter Tryz.func216, Tryz.ntmps216
  go_wp2_with fail
  go_loopw [1, 2, 10, 11] (fun x y a b wr => x = .int .i64 0 ∧ y = .int .i64 n ∧ a = .bool true ∧ b = .bool true ∧ wr = w) (fun _ _ _ _ _ => 0)
  case atStart => exact ⟨rfl, rfl, rfl, rfl, rfl⟩
  case round =>
    obtain ⟨rfl, rfl, rfl, rfl, rfl⟩ := hrel
    go_wp2_with fail
    refine hI.mono ?_
    rintro e w1 ⟨M, rfl, h1, h2, h3, h4⟩
    have HH := Lib.hid (And.intro h1 (And.intro h2 (And.intro h3 h4)))
    clear h1 h2 h3 h4
    go_wp2
    (try simp only [Exit.inBlock, Exit.then]); refine bodyPost_ret (results_none rfl _ _ _) rfl ?_
    exact ⟨M, rfl, HH.out⟩
set_option maxHeartbeats 2000000 in
theorem sortFunc_small (L : List Int) (B g n cap : Nat) (w : World) (hr : RowZ w B g n cap L) (hn : n ≤ 12) (hC : CmpD w g L) :
    Calls Tryz.prog 181 #[.slice (some ⟨g, 0, none⟩) n cap, DescV] w (SortD w B g n cap L 0 n) := by
  have hP := fun lim => pdq_small L B g n cap lim w hr hn hC
  have hB := fun w => bitsLen_small n hn w
  have hni : (n : Int) ≤ 12 := by omega
  unfold DescV at *
  clear hr hC
  go_enter Tryz.func181, Tryz.ntmps181
  go_wp2_with fail
  refine (hB _).mono ?_
  rintro e w1 ⟨v, rfl, rfl⟩
  go_wp2_with fail
  refine (hP _).mono ?_
  rintro e w1 ⟨M, rfl, h1, h2, h3, h4⟩
  have HH := Lib.hid (And.intro h1 (And.intro h2 (And.intro h3 h4)))
  clear h1 h2 h3 h4
  go_wp2
  go_end0
  exact ⟨M, rfl, HH.out⟩
set_option maxHeartbeats 2000000 in
theorem insert_nil (w : World) : Calls Tryz.prog 223 #[.slice none 0 0, .int .i64 0, .int .i64 0, DescV] w (fun e w' => e = .returned (.tuple #[]) ∧ w' = w) := by
  unfold DescV
  go_enter Tryz.func223, Tryz.ntmps223
  go_wp2
  go_loop [8] (fun i => i = .int .i64 1) (fun i => 0)
  case atStart => rfl
  case round =>
    subst hrel
    go_wp2
    go_end0
    exact ⟨rfl, rfl⟩
set_option maxHeartbeats 2000000 in
theorem sortFunc_nil (w : World) : Calls Tryz.prog 181 #[.slice none 0 0, DescV] w (fun e w' => e = .returned (.tuple #[]) ∧ w' = w) := by
  have hB : ∀ w, Calls Tryz.prog 217 #[.int .u64 0] w (fun e w' => ∃ v : Int, e = .returned (.int .i64 v) ∧ w' = w) := fun w => bitsLen_small 0 (by decide) w
  have hP : ∀ (lim : Int) w, Calls Tryz.prog 216 #[.slice none 0 0, .int .i64 0, .int .i64 0, .int .i64 lim, DescV] w (fun e w' => e = .returned (.tuple #[]) ∧ w' = w) := fun lim w => by
    have hI := fun w => insert_nil w
    unfold DescV at *
    go_enter Tryz.func216, Tryz.ntmps216
    go_wp2_with fail
    go_loopw [1, 2, 10, 11] (fun x y a b wr => x = .int .i64 0 ∧ y = .int .i64 0 ∧ a = .bool true ∧ b = .bool true ∧ wr = w) (fun _ _ _ _ _ => 0)
    case atStart => exact ⟨rfl, rfl, rfl, rfl, rfl⟩
    case round =>
      obtain ⟨rfl, rfl, rfl, rfl, rfl⟩ := hrel
      go_wp2_with fail
      refine (hI _).mono ?_
      rintro e w1 ⟨rfl, rfl⟩
      go_wp2
      (try simp only [Exit.inBlock, Exit.then]); refine bodyPost_ret (results_none rfl _ _ _) rfl ?_
      exact ⟨rfl, rfl⟩
  unfold DescV at *
  go_enter Tryz.func181, Tryz.ntmps181
  go_wp2_with fail
  refine (hB _).mono ?_
  rintro e w1 ⟨v, rfl, rfl⟩
  go_wp2_with fail
  refine (hP _ _).mono ?_
  rintro e w1 ⟨rfl, rfl⟩
  go_wp2
  go_end0
  exact ⟨rfl, rfl⟩
end Go.Mk
end
section
set_option linter.unusedVariables false
set_option linter.unusedSimpArgs false
open Go Go.Proofs Go.RowKit
set_option maxRecDepth 100000
namespace Go.Mk
def serD (T : List Int) : List Int := (T.filter fun t => decide (0 ≤ t)).mergeSort fun a b => decide (b ≤ a)
theorem srtD_pair {M : List Int} (h : SrtD M 0 M.length) : M.Pairwise fun a b => b ≤ a := by
  rw [List.pairwise_iff_getElem]
  intro i j hi hj hij
  have := h i j (Nat.zero_le _) hij hj
  have e : ∀ k (hk : k < M.length), ga M k = M[k] := fun k hk => by
    have := ga_at hk
    rw [List.getElem?_eq_getElem hk] at this
    exact (Option.some.inj this).symm
  rw [e i hi, e j hj] at this
  exact this
theorem serD_of {T M : List Int} (hp : M.Perm (T.filter fun t => decide (0 ≤ t))) (hs : SrtD M 0 M.length) : M = serD T := by
  refine List.Perm.eq_of_pairwise (le := fun a b => b ≤ a) (fun a b _ _ h1 h2 => by omega) (srtD_pair hs) ?_ (hp.trans (List.mergeSort_perm _ _).symm)
  have := List.pairwise_mergeSort (le := fun a b : Int => decide (b ≤ a)) (fun a b c h1 h2 => by simp at *; omega) (fun a b => by simp; omega) (T.filter fun t => decide (0 ≤ t))
  unfold serD
  exact this.imp (fun h => by simpa using h)
theorem filt_step {T : List Int} {k : Nat} {t : Int} (h : T[k]? = some t) : (T.take (k + 1)).filter (fun t => decide (0 ≤ t)) = (T.take k).filter (fun t => decide (0 ≤ t)) ++ if 0 ≤ t then [t] else [] := by
  rw [List.take_add_one, h, Option.toList_some, List.filter_append]
  congr 1
  by_cases q : 0 ≤ t
  · rw [if_pos q]; simp [q]
  · rw [if_neg q]; simp [q]
theorem own_mono {w : World} {B B' : Nat} {v : Value} {L : List Int} (h : OwnZ w B v L) (hB : B' ≤ B) : OwnZ w B' v L := by
  refine ⟨h.1, ?_⟩
  rcases h.2 with q | ⟨g, cap, cur, a, b, c⟩
  · exact .inl q
  · exact .inr ⟨g, cap, cur, a, Nat.le_trans hB b, c⟩
set_option maxHeartbeats 4000000 in
theorem fdSeries_any (r : RowR) (w : World) (hT : IntsZ w r.A r.n r.T) (hn : r.n ≤ 12) (hv : ∀ t ∈ r.T, t ≤ 999999) :
    Calls Tryz.prog 127 #[.agg #[.string r.s, .slice r.A r.n r.c, .bool r.rt]] w (fun e w' => ∃ v, e = .returned v ∧ OwnZ w' w.heap.size v (serD r.T) ∧ Below w.heap.size w w') := by
  obtain ⟨i0, hi, hz0, hz1, hz2⟩ := info_parts infoInt
  obtain ⟨s, A, n, c, T, rt⟩ := r
  obtain ⟨g0, hg0⟩ : ∃ g, w.heap.size = g := ⟨_, rfl⟩
  obtain ⟨w1, hw1⟩ : ∃ w1, w.alloc (.cells #[.string s, .slice A n c, .bool rt] 55) = w1 := ⟨_, rfl⟩
  have hb1 : Below w.heap.size w w1 := by rw [← hw1]; exact balloc _ (Below.refl _ _)
  have c1 : w1.cell? ⟨g0, 1, none⟩ = some (.slice A n c) := by rw [← hw1, ← hg0]; simp
  have hn' : n ≤ 12 := hn
  have hni : (n : Int) ≤ 12 := by omega
  have hT' : IntsZ w A n T := hT
  have H := Lib.hid (hT'.below hb1)
  have HL : Hid (T.length = n) := hT'.1
  have HV : Hid (∀ t ∈ T, t ≤ 999999) := hv
  have HB1 := Lib.hid hb1
  have HW : Hid (w.heap.size ≤ w1.heap.size) := Lib.hid hb1.size
  clear hT hT' hv hb1 hn
  go_enter Tryz.func127, Tryz.ntmps127
  go_wp2
  go_loopw [3, 9] (fun v i wr => ∃ k : Nat, k ≤ n ∧ i = .int .i64 k ∧ OwnZ wr w1.heap.size v ((T.take k).filter fun t => decide (0 ≤ t)) ∧ Below w1.heap.size w1 wr) (fun _ i _ => n - (RowKit.intOf i).toNat)
  case atStart => exact ⟨0, by omega, rfl, World.ownsRow_nil _ _ _ _, Below.refl _ _⟩
  case round =>
    obtain ⟨k, hk, rfl, hown, hb⟩ := hrel
    by_cases hlt : k < n
    · obtain ⟨b', off, t, rfl, hbl, hx, hc0⟩ := (H.out.below hb).cellAt hlt
      have hki : (k : Int) < (n : Int) := by omega
      have hk0 : (0 : Int) ≤ (k : Int) := by omega
      have hkt : ((k : Int)).toNat = k := by omega
      have hst := filt_step hx
      have hlen : ((T.take k).filter fun t => decide (0 ≤ t)).length ≤ 12 := Nat.le_trans (List.length_filter_le _ _) (by rw [List.length_take]; omega)
      have Hlen := Lib.hid hlen
      have HB := Lib.hid hb
      clear hlen hx
      by_cases h0 : 0 ≤ t
      · rw [if_pos h0] at hst
        have Hst := Lib.hid hst
        clear hst hb
        go_wp2_with (at_builtin; refine wpList_append_own _ rfl _ _ 23 rfl w1.heap.size 3 i0 (.int .i64 0) 1 8 Tryz.underlying23 hi hz0 hz1 hz2 rfl (by decide) _ _ _ rfl (World.ownsRow.alloc hown _) ⟨wr.heap.size, 0, none⟩ 1 1 [.int .i64 t] rfl rfl ?c1 ?c2 ?c3 ?c4 ?c5 ?_)
        case c1 =>
          intro j u hj
          match j, hj with
          | 0, hj => simp at hj; subst hj; simp [Addr.add]
        case c2 => intro u hu; simp at hu; subst hu; rfl
        case c3 => unfold maxLen; have := Hlen.out; omega
        case c4 => have := Hlen.out; omega
        case c5 => have := HB.out.size; simp; omega
        intro v' w2 hown' hgrow _
        have hb2 : Below w1.heap.size w1 w2 := (HB.out.alloc HB.out.size _).grown hgrow (by have := HB.out.size; simp; omega) (fun r hr => (World.ownsRow.lt hown r hr).1)
        have ho2 : OwnZ w2 w1.heap.size v' ((T.take (k + 1)).filter fun t => decide (0 ≤ t)) := by
          rw [Hst.out]
          exact OwnZ.next hown'
        clear hown' hgrow hown hc0
        go_wp2
        exact ⟨⟨k + 1, by omega, by go_num, ho2, hb2⟩, by simp [RowKit.intOf]; omega⟩
      · rw [if_neg h0, List.append_nil] at hst
        have ho2 : Hid (OwnZ wr w1.heap.size _ ((T.take (k + 1)).filter fun t => decide (0 ≤ t))) := Lib.hid (by rw [hst]; exact hown)
        clear hst hown hb
        go_wp2
        exact ⟨⟨k + 1, by omega, by go_num, ho2.out, HB.out⟩, by simp [RowKit.intOf]; omega⟩
    · have hkn : k = n := by omega
      rw [hkn, List.take_of_length_le (by rw [HL.out]; omega)] at hown
      have hlen : (T.filter fun t => decide (0 ≤ t)).length ≤ 12 := Nat.le_trans (List.length_filter_le _ _) (by rw [HL.out]; exact hn')
      have hcmp : ∀ g, CmpD wr g (T.filter fun t => decide (0 ≤ t)) := fun g w' hg x y hx hy => by
        rw [List.mem_filter, decide_eq_true_eq] at hx hy
        exact fdSeriesC_any x y ⟨hx.2, HV.out x hx.1⟩ ⟨hy.2, HV.out y hy.1⟩ w'
      have HB := Lib.hid hb
      have hown' := hown
      rcases hown.2 with ⟨rfl, h0⟩ | ⟨g, cap, cur, rfl, hBg, hgc, _⟩
      · have hS := fun w => sortFunc_nil w
        have hnil : (T.filter fun t => decide (0 ≤ t)) = [] := List.eq_nil_of_length_eq_zero h0
        have HR : Hid (serD T = []) := Lib.hid (by unfold serD; rw [hnil]; simp)
        unfold DescV at hS
        clear hown hown' hcmp hlen hb hnil h0
        go_wp2_with fail
        refine (hS _).mono ?_
        rintro e w5 ⟨rfl, rfl⟩
        go_wp2
        go_ret
        refine ⟨_, rfl, ?_, bstep HB1.out HB.out⟩
        show OwnZ _ _ _ (serD T)
        rw [HR.out]
        exact World.ownsRow_nil _ _ _ _
      · have hS := sortFunc_small (T.filter fun t => decide (0 ≤ t)) w1.heap.size g _ cap wr ⟨rfl, hown'⟩ hlen (hcmp g)
        have HGB := Lib.hid hBg
        have HLN := Lib.hid hlen
        unfold DescV at hS
        clear hown hown' hcmp hlen hb hgc
        go_wp2_with fail
        refine hS.mono ?_
        rintro e w5 ⟨M, rfl, h1, h2, h3, h4⟩
        have hM : M = serD T := serD_of h1 (by rw [h1.length_eq]; exact h2)
        have hfin : Below w.heap.size w w5 := bstep HB1.out (HB.out.grown h4 HB.out.size (fun r hr => by cases hr; exact HGB.out))
        have ho : OwnZ w5 w.heap.size (.slice (some ⟨g, 0, none⟩) (T.filter fun t => decide (0 ≤ t)).length cap) (serD T) := by
          rw [← hM]
          refine own_mono ?_ HW.out
          unfold OwnZ
          rw [h3.1]
          exact h3.2
        have HO := Lib.hid ho
        clear h1 h2 h3 h4 ho hM
        go_wp2
        go_ret
        exact ⟨_, rfl, HO.out, hfin⟩
end Go.Mk
end
section
set_option linter.unusedVariables false
set_option linter.unusedSimpArgs false
open Go Go.Proofs Go.RowKit
set_option maxRecDepth 100000
namespace Go.Mk
def mkV (k : ByteArray) (v : Int) (r : ByteArray) : Value := .agg #[.string k, .int .i64 v, .string r]
def sNone : ByteArray := ⟨#[110, 111, 110, 101]⟩
def sLength : ByteArray := ⟨#[108, 101, 110, 103, 116, 104]⟩
def sNM : ByteArray := ⟨#[78, 77]⟩
def sDNS : ByteArray := ⟨#[68, 78, 83]⟩
def noM (b : Bool) : Value := if b then mkV sNone 0 sNM else mkV sNone 0 sDNS
set_option maxHeartbeats 1000000 in
theorem fdNoMark_any (b : Bool) (w : World) : Calls Tryz.prog 103 #[.bool b] w (RetPost (noM b) w) := by
  obtain ⟨g, hg⟩ : ∃ g, w.heap.size = g := ⟨_, rfl⟩
  cases b with
  | true =>
    obtain ⟨w1, hw1⟩ : ∃ w1, w.alloc (.cells #[.string sNone, .int .i64 0, .string sNM] 59) = w1 := ⟨_, rfl⟩
    have hb1 : Below w.heap.size w w1 := by rw [← hw1]; exact balloc _ (Below.refl _ _)
    have z0 : w1.cell? ⟨g, 0, none⟩ = some (.string sNone) := by rw [← hw1, ← hg]; simp
    have z1 : w1.cell? ⟨g, 1, none⟩ = some (.int .i64 0) := by rw [← hw1, ← hg]; simp
    have z2 : w1.cell? ⟨g, 2, none⟩ = some (.string sNM) := by rw [← hw1, ← hg]; simp
    unfold sNone sNM at *
    go_enter Tryz.func103, Tryz.ntmps103
    go_wp2
    exact bodyPost_ret (v := noM true) (by simp [results, Tryz.results103, go_sem, z0, z1, z2, noM, mkV, sNone, sNM]) rfl ⟨rfl, hb1⟩
  | false =>
    obtain ⟨w1, hw1⟩ : ∃ w1, w.alloc (.cells #[.string sNone, .int .i64 0, .string sDNS] 59) = w1 := ⟨_, rfl⟩
    have hb1 : Below w.heap.size w w1 := by rw [← hw1]; exact balloc _ (Below.refl _ _)
    have z0 : w1.cell? ⟨g, 0, none⟩ = some (.string sNone) := by rw [← hw1, ← hg]; simp
    have z1 : w1.cell? ⟨g, 1, none⟩ = some (.int .i64 0) := by rw [← hw1, ← hg]; simp
    have z2 : w1.cell? ⟨g, 2, none⟩ = some (.string sDNS) := by rw [← hw1, ← hg]; simp
    unfold sNone sDNS at *
    go_enter Tryz.func103, Tryz.ntmps103
    go_wp2
    exact bodyPost_ret (v := noM false) (by simp [results, Tryz.results103, go_sem, z0, z1, z2, noM, mkV, sNone, sDNS]) rfl ⟨rfl, hb1⟩
end Go.Mk
end
section
set_option linter.unusedVariables false
set_option linter.unusedSimpArgs false
open Go Go.Proofs Go.RowKit
set_option maxRecDepth 100000
namespace Go.Mk
def rowM (r : RowR) : Value := match serD r.T with | [] => noM (decide (0 < r.n) || !r.rt) | h :: _ => mkV sLength h ⟨#[]⟩
theorem three_set {w : World} {g : Nat} {a b c : Value} {t : TypeId} (k : w.heap[g]? = some (.cells #[a, b, c] t (0, 0))) (a' b' c' : Value) :
    (((w.setCell ⟨g, 0, none⟩ a').setCell ⟨g, 1, none⟩ b').setCell ⟨g, 2, none⟩ c').heap[g]? = some (.cells #[a', b', c'] t (0, 0)) := by
  have h1 := Go.Joins.block_setCell (i := 0) k a'
  have h2 := Go.Joins.block_setCell (i := 1) h1 b'
  exact Go.Joins.block_setCell (i := 2) h2 c'
theorem three_below {B : Nat} {w w' : World} {g : Nat} (hb : Below B w w') (hg : B ≤ g) (a b c : Value) : Below B w (((w'.setCell ⟨g, 0, none⟩ a).setCell ⟨g, 1, none⟩ b).setCell ⟨g, 2, none⟩ c) :=
  ((hb.setCell hg _).setCell hg _).setCell hg _
set_option maxHeartbeats 4000000 in
theorem fdRowMark_any (r : RowR) (w : World) (hT : IntsZ w r.A r.n r.T) (hn : r.n ≤ 12) (hv : ∀ t ∈ r.T, t ≤ 999999) :
    Calls Tryz.prog 74 #[.agg #[.string r.s, .slice r.A r.n r.c, .bool r.rt]] w (RetPost (rowM r) w) := by
  obtain ⟨g, hg⟩ : ∃ g, w.heap.size = g := ⟨_, rfl⟩
  obtain ⟨w1, hw1⟩ : ∃ w1, (w.alloc (.cells #[.string r.s, .slice r.A r.n r.c, .bool r.rt] 55)).alloc (.cells #[.string ⟨#[]⟩, .int .i64 0, .string ⟨#[]⟩] 59) = w1 := ⟨_, rfl⟩
  have hb1 : Below w.heap.size w w1 := by rw [← hw1]; exact balloc _ (balloc _ (Below.refl _ _))
  have hs1 : w1.heap.size = g + 1 + 1 := by rw [← hw1, ← hg]; simp
  have x0 : w1.cell? ⟨g, 0, none⟩ = some (.string r.s) := by rw [← hw1, ← hg]; simp
  have x1 : w1.cell? ⟨g, 1, none⟩ = some (.slice r.A r.n r.c) := by rw [← hw1, ← hg]; simp
  have x2 : w1.cell? ⟨g, 2, none⟩ = some (.bool r.rt) := by rw [← hw1, ← hg]; simp
  have hk : w1.heap[g + 1]? = some (.cells #[.string ⟨#[]⟩, .int .i64 0, .string ⟨#[]⟩] 59 (0, 0)) := by
    rw [← hw1, ← hg]
    have : (w.alloc (.cells #[.string r.s, .slice r.A r.n r.c, .bool r.rt] 55)).heap.size = w.heap.size + 1 := by simp
    rw [← this]
    exact Array.getElem?_push_size ..
  have HX : Hid (∀ w', Below w1.heap.size w1 w' → (w'.cell? ⟨g, 0, none⟩ = some (.string r.s) ∧ w'.cell? ⟨g, 1, none⟩ = some (.slice r.A r.n r.c) ∧ w'.cell? ⟨g, 2, none⟩ = some (.bool r.rt)) ∧ w'.heap[g + 1]? = some (.cells #[.string ⟨#[]⟩, .int .i64 0, .string ⟨#[]⟩] 59 (0, 0))) := Lib.hid fun w' hb =>
    ⟨⟨(hb.cell (p := ⟨g, 0, none⟩) (by show g < _; omega)).trans x0, (hb.cell (p := ⟨g, 1, none⟩) (by show g < _; omega)).trans x1, (hb.cell (p := ⟨g, 2, none⟩) (by show g < _; omega)).trans x2⟩, (hb.block (g + 1) (by omega)).trans hk⟩
  have hS := fdSeries_any r w1 (hT.below hb1) hn hv
  have HB1 := Lib.hid hb1
  have HG : Hid (w.heap.size ≤ g + 1) := Lib.hid (by omega)
  have hni : (r.n : Int) ≤ 12 := by omega
  unfold rowM
  clear hT hv hb1 hk hs1
  cases hq : serD r.T with
  | nil =>
    rw [hq] at hS
    clear hq
    have hq2 : (0 : Int) < (r.n : Int) ∨ (¬ (0 : Int) < (r.n : Int) ∧ r.rt = true) ∨ (¬ (0 : Int) < (r.n : Int) ∧ r.rt = false) := by
      by_cases q : (0 : Int) < (r.n : Int)
      · exact .inl q
      · cases q2 : r.rt with
        | true => exact .inr (.inl ⟨q, rfl⟩)
        | false => exact .inr (.inr ⟨q, rfl⟩)
    rcases hq2 with q | ⟨q, q2⟩ | ⟨q, q2⟩
    · dsimp only
      rw [show (decide (0 < r.n) || !r.rt) = true from by rw [decide_eq_true (by omega)]; rfl]
      have hM : ∀ w, Calls Tryz.prog 103 #[.bool true] w (RetPost (.agg #[.string ⟨#[110, 111, 110, 101]⟩, .int .i64 0, .string ⟨#[78, 77]⟩]) w) := fun w => fdNoMark_any true w
      show Calls Tryz.prog 74 _ w (RetPost (.agg #[.string ⟨#[110, 111, 110, 101]⟩, .int .i64 0, .string ⟨#[78, 77]⟩]) w)
      go_enter Tryz.func74, Tryz.ntmps74
      go_wp2_with fail
      refine hS.mono ?_
      rintro e w2 ⟨v, rfl, hown, hb2⟩
      obtain ⟨A, c, rfl, hI⟩ := IntsZ.of_own hown
      clear x0 x1 x2
      obtain ⟨⟨x0, x1, x2⟩, _⟩ := HX.out _ hb2
      have HB2 := Lib.hid hb2
      clear hown hI hb2
      go_wp2_with fail
      refine (hM _).mono ?_
      rintro e w3 ⟨rfl, hb3⟩
      obtain ⟨_, hk⟩ := HX.out _ (bstep HB2.out hb3)
      have d0 := Go.Joins.cell_of_block hk 0
      have d1 := Go.Joins.cell_of_block hk 1
      have d2 := Go.Joins.cell_of_block hk 2
      have f0 := Go.Joins.unfrozen_of_block hk 0
      have f1 := Go.Joins.unfrozen_of_block hk 1
      have f2 := Go.Joins.unfrozen_of_block hk 2
      have HK3 := Lib.hid (three_set hk (.string ⟨#[110, 111, 110, 101]⟩) (.int .i64 0) (.string ⟨#[78, 77]⟩))
      have HB3 := Lib.hid (three_below (bstep HB1.out (bstep HB2.out hb3)) HG.out (.string ⟨#[110, 111, 110, 101]⟩) (.int .i64 0) (.string ⟨#[78, 77]⟩))
      clear hb3 hk
      go_wp2
      have z0 := Go.Joins.cell_of_block HK3.out 0
      have z1 := Go.Joins.cell_of_block HK3.out 1
      have z2 := Go.Joins.cell_of_block HK3.out 2
      exact bodyPost_ret (v := .agg #[.string ⟨#[110, 111, 110, 101]⟩, .int .i64 0, .string ⟨#[78, 77]⟩]) (by simp [results, Tryz.results74, go_sem, z0, z1, z2]) rfl ⟨rfl, HB3.out⟩
    · dsimp only
      rw [show (decide (0 < r.n) || !r.rt) = false from by rw [q2, decide_eq_false (by omega)]; rfl]
      rw [q2] at x2 HX hw1 hS ⊢
      have hM : ∀ w, Calls Tryz.prog 103 #[.bool false] w (RetPost (.agg #[.string ⟨#[110, 111, 110, 101]⟩, .int .i64 0, .string ⟨#[68, 78, 83]⟩]) w) := fun w => fdNoMark_any false w
      show Calls Tryz.prog 74 _ w (RetPost (.agg #[.string ⟨#[110, 111, 110, 101]⟩, .int .i64 0, .string ⟨#[68, 78, 83]⟩]) w)
      go_enter Tryz.func74, Tryz.ntmps74
      go_wp2_with fail
      refine hS.mono ?_
      rintro e w2 ⟨v, rfl, hown, hb2⟩
      obtain ⟨A, c, rfl, hI⟩ := IntsZ.of_own hown
      clear x0 x1 x2
      obtain ⟨⟨x0, x1, x2⟩, _⟩ := HX.out _ hb2
      have HB2 := Lib.hid hb2
      clear hown hI hb2
      go_wp2_with fail
      refine (hM _).mono ?_
      rintro e w3 ⟨rfl, hb3⟩
      obtain ⟨_, hk⟩ := HX.out _ (bstep HB2.out hb3)
      have d0 := Go.Joins.cell_of_block hk 0
      have d1 := Go.Joins.cell_of_block hk 1
      have d2 := Go.Joins.cell_of_block hk 2
      have f0 := Go.Joins.unfrozen_of_block hk 0
      have f1 := Go.Joins.unfrozen_of_block hk 1
      have f2 := Go.Joins.unfrozen_of_block hk 2
      have HK3 := Lib.hid (three_set hk (.string ⟨#[110, 111, 110, 101]⟩) (.int .i64 0) (.string ⟨#[68, 78, 83]⟩))
      have HB3 := Lib.hid (three_below (bstep HB1.out (bstep HB2.out hb3)) HG.out (.string ⟨#[110, 111, 110, 101]⟩) (.int .i64 0) (.string ⟨#[68, 78, 83]⟩))
      clear hb3 hk
      go_wp2
      have z0 := Go.Joins.cell_of_block HK3.out 0
      have z1 := Go.Joins.cell_of_block HK3.out 1
      have z2 := Go.Joins.cell_of_block HK3.out 2
      exact bodyPost_ret (v := .agg #[.string ⟨#[110, 111, 110, 101]⟩, .int .i64 0, .string ⟨#[68, 78, 83]⟩]) (by simp [results, Tryz.results74, go_sem, z0, z1, z2]) rfl ⟨rfl, HB3.out⟩
    · dsimp only
      rw [show (decide (0 < r.n) || !r.rt) = true from by rw [q2]; simp]
      rw [q2] at x2 HX hw1 hS ⊢
      have hM : ∀ w, Calls Tryz.prog 103 #[.bool true] w (RetPost (.agg #[.string ⟨#[110, 111, 110, 101]⟩, .int .i64 0, .string ⟨#[78, 77]⟩]) w) := fun w => fdNoMark_any true w
      show Calls Tryz.prog 74 _ w (RetPost (.agg #[.string ⟨#[110, 111, 110, 101]⟩, .int .i64 0, .string ⟨#[78, 77]⟩]) w)
      go_enter Tryz.func74, Tryz.ntmps74
      go_wp2_with fail
      refine hS.mono ?_
      rintro e w2 ⟨v, rfl, hown, hb2⟩
      obtain ⟨A, c, rfl, hI⟩ := IntsZ.of_own hown
      clear x0 x1 x2
      obtain ⟨⟨x0, x1, x2⟩, _⟩ := HX.out _ hb2
      have HB2 := Lib.hid hb2
      clear hown hI hb2
      go_wp2_with fail
      refine (hM _).mono ?_
      rintro e w3 ⟨rfl, hb3⟩
      obtain ⟨_, hk⟩ := HX.out _ (bstep HB2.out hb3)
      have d0 := Go.Joins.cell_of_block hk 0
      have d1 := Go.Joins.cell_of_block hk 1
      have d2 := Go.Joins.cell_of_block hk 2
      have f0 := Go.Joins.unfrozen_of_block hk 0
      have f1 := Go.Joins.unfrozen_of_block hk 1
      have f2 := Go.Joins.unfrozen_of_block hk 2
      have HK3 := Lib.hid (three_set hk (.string ⟨#[110, 111, 110, 101]⟩) (.int .i64 0) (.string ⟨#[78, 77]⟩))
      have HB3 := Lib.hid (three_below (bstep HB1.out (bstep HB2.out hb3)) HG.out (.string ⟨#[110, 111, 110, 101]⟩) (.int .i64 0) (.string ⟨#[78, 77]⟩))
      clear hb3 hk
      go_wp2
      have z0 := Go.Joins.cell_of_block HK3.out 0
      have z1 := Go.Joins.cell_of_block HK3.out 1
      have z2 := Go.Joins.cell_of_block HK3.out 2
      exact bodyPost_ret (v := .agg #[.string ⟨#[110, 111, 110, 101]⟩, .int .i64 0, .string ⟨#[78, 77]⟩]) (by simp [results, Tryz.results74, go_sem, z0, z1, z2]) rfl ⟨rfl, HB3.out⟩
  | cons h l =>
    rw [hq] at hS
    clear hq
    go_enter Tryz.func74, Tryz.ntmps74
    go_wp2_with fail
    refine hS.mono ?_
    rintro e w2 ⟨v, rfl, hown, hb2⟩
    obtain ⟨A, c, rfl, hI⟩ := IntsZ.of_own hown
    obtain ⟨b, off, z, rfl, _, hz, hcz⟩ := hI.cellAt (k := 0) (by simp)
    obtain rfl : h = z := by simpa using hz
    rw [Nat.add_zero] at hcz
    have hln : ((h :: l).length : Int) = (l.length : Int) + 1 := by simp
    have hl0 : (((l.length : Int) + 1) == 0) = false := by simp; omega
    have hl1 : (0 : Int) < (l.length : Int) + 1 := by omega
    obtain ⟨_, hk⟩ := HX.out _ hb2
    have d0 := Go.Joins.cell_of_block hk 0
    have d1 := Go.Joins.cell_of_block hk 1
    have d2 := Go.Joins.cell_of_block hk 2
    have f0 := Go.Joins.unfrozen_of_block hk 0
    have f1 := Go.Joins.unfrozen_of_block hk 1
    have f2 := Go.Joins.unfrozen_of_block hk 2
    have hk3 := three_set hk (.string sLength) (.int .i64 h) (.string ⟨#[]⟩)
    have hb3 : Below w.heap.size w _ := three_below (bstep HB1.out hb2) HG.out (.string sLength) (.int .i64 h) (.string ⟨#[]⟩)
    have HK3 := Lib.hid hk3
    have HB3 := Lib.hid hb3
    clear hown hI hz hb2 hk hk3 hb3
    go_wp2
    have z0 := Go.Joins.cell_of_block HK3.out 0
    have z1 := Go.Joins.cell_of_block HK3.out 1
    have z2 := Go.Joins.cell_of_block HK3.out 2
    have HF := HB3.out
    unfold sLength at z0 z1 z2 HF
    exact bodyPost_ret (v := mkV sLength h ⟨#[]⟩) (by simp [results, Tryz.results74, go_sem, z0, z1, z2, mkV, sLength]) rfl ⟨rfl, HF⟩
end Go.Mk
end
section
set_option linter.unusedVariables false
set_option linter.unusedSimpArgs false
open Go Go.Proofs Go.RowKit
set_option maxRecDepth 100000
namespace Go.Mk
def cmpZ (a b : Int) : Int := if a < b then -1 else if b < a then 1 else 0
def cmpL : List Int → List Int → Int
  | [], [] => 0
  | [], _ :: _ => -1
  | _ :: _, [] => 1
  | a :: l, b :: m => if cmpZ a b = 0 then cmpL l m else cmpZ a b
theorem cmpL_drop {L M : List Int} {k : Nat} {a b : Int} (h1 : L[k]? = some a) (h2 : M[k]? = some b) : cmpL (L.drop k) (M.drop k) = if cmpZ a b = 0 then cmpL (L.drop (k + 1)) (M.drop (k + 1)) else cmpZ a b := by
  obtain ⟨hk, rfl⟩ := List.getElem?_eq_some_iff.1 h1
  obtain ⟨hk2, rfl⟩ := List.getElem?_eq_some_iff.1 h2
  rw [List.drop_eq_getElem_cons hk, List.drop_eq_getElem_cons hk2, cmpL]
set_option maxHeartbeats 1000000 in
theorem cmpInt_any (a b : Int) (w : World) : Calls Tryz.prog 108 #[.int .i64 a, .int .i64 b] w (RetPost (.int .i64 (cmpZ a b)) w) := by
  unfold cmpZ
  by_cases h1 : a < b
  · rw [if_pos h1]
    go_enter Tryz.func108, Tryz.ntmps108
    go_wp2
    go_ret
    exact ⟨rfl, Below.refl _ _⟩
  · rw [if_neg h1]
    by_cases h2 : b < a
    · rw [if_pos h2]
      go_enter Tryz.func108, Tryz.ntmps108
      go_wp2
      go_ret
      exact ⟨rfl, Below.refl _ _⟩
    · rw [if_neg h2]
      go_enter Tryz.func108, Tryz.ntmps108
      go_wp2
      go_ret
      exact ⟨rfl, Below.refl _ _⟩
set_option maxHeartbeats 4000000 in
theorem slCompareI_any (L M : List Int) (n c m d : Nat) (A B : Option Addr) (w : World) (hL : IntsZ w A n L) (hM : IntsZ w B m M) (hn : n ≤ 1000) (hm : m ≤ 1000) :
    Calls Tryz.prog 100 #[.slice A n c, .slice B m d] w (RetPost (.int .i64 (cmpL L M)) w) := by
  have hni : (n : Int) ≤ 1000 := by omega
  have hmi : (m : Int) ≤ 1000 := by omega
  have H := Lib.hid hL
  have H2 := Lib.hid hM
  have Hn := Lib.hid hL.1
  have Hm := Lib.hid hM.1
  obtain ⟨y, hy⟩ : ∃ y, cmpL L M = y := ⟨_, rfl⟩
  rw [hy]
  have HY : Hid (cmpL (L.drop 0) (M.drop 0) = y) := Lib.hid (by rw [← hy]; rfl)
  clear hL hM hy
  go_enter Tryz.func100, Tryz.ntmps100
  go_wp2
  go_loopw [11] (fun i wr => ∃ k : Nat, k ≤ n ∧ k ≤ m ∧ i = .int .i64 k ∧ Hid (cmpL (L.drop k) (M.drop k) = y) ∧ Below w.heap.size w wr) (fun i _ => n - (RowKit.intOf i).toNat)
  case atStart => exact ⟨0, by omega, by omega, rfl, HY, Below.refl _ _⟩
  case round =>
    obtain ⟨k, hk, hk2, rfl, HK, hb⟩ := hrel
    have hk0 : (0 : Int) ≤ (k : Int) := by omega
    have hkt : ((k : Int)).toNat = k := by omega
    by_cases hlt : k < n
    · obtain ⟨b1, o1, x, rfl, _, hx, hcx⟩ := (H.out.below hb).cellAt hlt
      have hki : (k : Int) < (n : Int) := by omega
      by_cases hlm : k < m
      · obtain ⟨b2, o2, z, rfl, _, hz, hcz⟩ := (H2.out.below hb).cellAt hlm
        have hkm : ¬ (m : Int) ≤ (k : Int) := by omega
        have hkm2 : (k : Int) < (m : Int) := by omega
        have hst := HK.out
        rw [cmpL_drop hx hz] at hst
        have hC := fun w => cmpInt_any x z w
        obtain ⟨q, hq⟩ : ∃ q, cmpZ x z = q := ⟨_, rfl⟩
        rw [hq] at hst hC
        have HB := Lib.hid hb
        clear hx hz hq HK hb
        by_cases h0 : q = 0
        · subst h0
          rw [if_pos rfl] at hst
          have Hst : Hid (cmpL (L.drop (k + 1)) (M.drop (k + 1)) = y) := Lib.hid hst
          clear hst
          go_wp2_with fail
          refine (hC _).mono ?_
          rintro e w' ⟨rfl, hb2⟩
          have hb3 := bstep HB.out hb2
          clear hb2
          go_wp2
          exact ⟨⟨k + 1, by omega, by omega, by go_num, Hst, hb3⟩, by simp [RowKit.intOf]; omega⟩
        · rw [if_neg h0] at hst
          subst hst
          have hne : (q != 0) = true := by rw [bne_iff_ne]; exact h0
          go_wp2_with fail
          refine (hC _).mono ?_
          rintro e w' ⟨rfl, hb2⟩
          have hb3 := bstep HB.out hb2
          clear hb2
          go_wp2
          go_ret
          exact ⟨rfl, hb3⟩
      · have hkm : (m : Int) ≤ (k : Int) := by omega
        have hst := HK.out
        obtain ⟨hkl, _⟩ := List.getElem?_eq_some_iff.1 hx
        rw [List.drop_eq_getElem_cons hkl, (show M.drop k = [] from List.drop_eq_nil_of_le (by rw [Hm.out]; omega)), cmpL] at hst
        subst hst
        have HB := Lib.hid hb
        clear hx HK hb
        go_wp2
        go_ret
        exact ⟨rfl, HB.out⟩
    · have hst := HK.out
      have hki : ¬ (k : Int) < (n : Int) := by omega
      rw [(show L.drop k = [] from List.drop_eq_nil_of_le (by rw [Hn.out]; omega))] at hst
      have HB := Lib.hid hb
      clear HK hb
      by_cases hlm : n < m
      · have hnm : (n : Int) < (m : Int) := by omega
        have hkl : k < M.length := by rw [Hm.out]; omega
        rw [List.drop_eq_getElem_cons hkl, cmpL] at hst
        subst hst
        go_wp2
        go_ret
        exact ⟨rfl, HB.out⟩
      · have hnm : ¬ (n : Int) < (m : Int) := by omega
        rw [(show M.drop k = [] from List.drop_eq_nil_of_le (by rw [Hm.out]; omega)), cmpL] at hst
        subst hst
        go_wp2
        go_ret
        exact ⟨rfl, HB.out⟩
end Go.Mk
end
