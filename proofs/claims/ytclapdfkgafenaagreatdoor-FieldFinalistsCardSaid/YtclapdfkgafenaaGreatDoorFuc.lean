/-
  Proved: finalists of package field: the numbers of the rows that have more trials, in their order, in new memory. Conditions: up to 40 rows lie where the slice says, with up to 12 trials each, none above 999999; the trials and the finalists of the competition are from 0 to 1000.
-/
import Derived.Test.YtclapdfkgafenaaGreatDoorFua
import Derived.Test.YtclapdfkgafenaaGreatDoorFub
set_option linter.unusedVariables false
set_option linter.unusedSimpArgs false
open Go Go.Proofs Go.RowKit Go.Sort
set_option maxRecDepth 100000
namespace Go.Mk
def rkE (t : Nat) (L : List RowR) : List Nat := ranksB (rkR (sersOf (L.map (earl t)))) (rkBt (sersOf (L.map (earl t)))) L.length
theorem rksB_le (R : Nat → Bool) (b : Nat → Nat → Bool) (n : Nat) : ∀ x ∈ ranksB R b n, x ≤ n + 1 := by
  intro x hx
  unfold ranksB at hx
  obtain ⟨i, _, rfl⟩ := List.mem_map.1 hx
  unfold rkB
  have := cntB_le b i n
  split <;> omega
theorem selT_succ (R : List Nat) (f k : Nat) : selT R f (k + 1) = selT R f k ++ (if 1 ≤ R.getD k 0 ∧ R.getD k 0 ≤ f then [(k : Int)] else []) := by
  unfold selT toks
  rw [List.range_succ, List.map_append, List.filter_append]
  congr 1
  simp only [List.map_cons, List.map_nil, List.filter_cons, List.filter_nil, Int.toNat_natCast, decide_eq_true_eq]
set_option maxHeartbeats 4000000 in
theorem fdFins_any (L : List RowR) (n cap t f nN cN : Nat) (m : Int) (A AN : Option Addr) (w : World) (hZ : Rows w A n L) (hn : n ≤ 40) (hs : ∀ r ∈ L, r.n ≤ 12 ∧ r.T.length = r.n ∧ ∀ x ∈ r.T, x ≤ 999999) (ht : t ≤ 1000) (hf : f ≤ 1000) :
    Calls Tryz.prog 60 #[.agg #[.slice AN nN cN, .int .i64 (t : Nat), .int .i64 (f : Nat), .int .i64 m], .slice A n cap] w (fun e w' => ∃ v, e = .returned v ∧ OwnZ w' w.heap.size v (finT (rkE t L) f n) ∧ Below w.heap.size w w') := by
  obtain ⟨i0, hi, hz0, hz1, hz2⟩ := info_parts infoInt
  have hni : (n : Int) ≤ 40 := by omega
  obtain ⟨bx, hbx⟩ : ∃ bx, w.heap.size = bx := ⟨_, rfl⟩
  obtain ⟨w1, hw1⟩ : ∃ w1, w.alloc (.cells #[.slice AN nN cN, .int .i64 (t : Nat), .int .i64 (f : Nat), .int .i64 m] 52) = w1 := ⟨_, rfl⟩
  have hb1 : Below w.heap.size w w1 := by rw [← hw1]; exact balloc _ (Below.refl _ _)
  have hx1 : bx < w1.heap.size := by rw [← hw1, ← hbx]; simp
  have c1 : w1.cell? ⟨bx, 1, none⟩ = some (.int .i64 (t : Nat)) := by rw [← hw1, ← hbx]; simp
  have c2 : w1.cell? ⟨bx, 2, none⟩ = some (.int .i64 (f : Nat)) := by rw [← hw1, ← hbx]; simp
  have hZ1 := hZ.below hb1
  have hE := fdEachRR_any L n cap t bx A w1 hZ1 (by omega) (fun r hr => by have := (hs r hr).1; omega) hx1 c1 ht
  have hs2 : ∀ r ∈ L.map (earl t), r.n ≤ 12 ∧ r.T.length = r.n ∧ ∀ x ∈ r.T, x ≤ 999999 := by
    intro r hr
    obtain ⟨q, hq, rfl⟩ := List.mem_map.1 hr
    obtain ⟨h1, h2, h3⟩ := hs q hq
    refine ⟨?_, ?_, fun x hx => h3 x (List.mem_of_mem_take hx)⟩
    · show min t q.n ≤ 12; omega
    · show (q.T.take (min t q.n)).length = min t q.n
      rw [List.length_take, h2]; omega
  have HB1 := Lib.hid hb1
  have HZ1 := Lib.hid hZ1
  have HS2 := Lib.hid hs2
  have HC := Lib.hid (And.intro hx1 c2)
  have hle := rksB_le (rkR (sersOf (L.map (earl t)))) (rkBt (sersOf (L.map (earl t)))) n
  have hlR : (ranksB (rkR (sersOf (L.map (earl t)))) (rkBt (sersOf (L.map (earl t)))) n).length = n := by unfold ranksB; simp
  have eR : rkE t L = ranksB (rkR (sersOf (L.map (earl t)))) (rkBt (sersOf (L.map (earl t)))) n := by unfold rkE; rw [hZ.1]
  rw [eR]
  obtain ⟨R, hR⟩ : ∃ R, ranksB (rkR (sersOf (L.map (earl t)))) (rkBt (sersOf (L.map (earl t)))) n = R := ⟨_, rfl⟩
  rw [hR] at hle hlR ⊢
  clear hZ hb1 hs hs2 hx1 c1 c2 hZ1 eR
  go_enter Tryz.func60, Tryz.ntmps60
  go_wp2_with fail
  refine hE.mono ?_
  rintro e w2 ⟨v, rfl, ho, hb2⟩
  obtain ⟨A2, cc2, rfl, hE2⟩ := Rows.of_earl ho HZ1.out hb2
  have hRk := fdRowRanks_any (L.map (earl t)) n cc2 A2 w2 hE2 (by omega) HS2.out
  have HB2 := Lib.hid (bstep HB1.out hb2)
  have HB12 := Lib.hid hb2
  clear hE ho hE2 hb2
  rw [hR] at hRk
  clear hR
  go_wp2_with fail
  refine hRk.mono ?_
  rintro e w3 ⟨g, rfl, hrow, hg, hb3⟩
  have hb13 := bstep HB2.out hb3
  obtain ⟨w4, hw4⟩ : ∃ w4, w3.alloc (.cells #[.slice (some ⟨g, 0, none⟩) n n] 59) = w4 := ⟨_, rfl⟩
  have hb4 : Below w3.heap.size w3 w4 := by rw [← hw4]; exact balloc _ (Below.refl _ _)
  have y0 : w4.cell? ⟨w3.heap.size, 0, none⟩ = some (.slice (some ⟨g, 0, none⟩) n n) := by rw [← hw4]; simp
  have hs4 : w3.heap.size < w4.heap.size := by rw [← hw4]; simp
  have hgl := hrow.1
  have hrow4 : Row w4 g R := ⟨by omega, fun k v hk => ⟨(hb4.cell (p := ⟨g, k, none⟩) hgl).trans (hrow.2 k v hk).1, (hb4.frozen (p := ⟨g, k, none⟩) hgl).trans (hrow.2 k v hk).2⟩⟩
  have hx3 : bx < w3.heap.size := by have := HB12.out.size; have := HC.out.1; have := hb3.size; omega
  have d2 : w4.cell? ⟨bx, 2, none⟩ = some (.int .i64 (f : Nat)) := (hb4.cell (p := ⟨bx, 2, none⟩) hx3).trans ((hb3.cell (p := ⟨bx, 2, none⟩) (by have := HB12.out.size; have := HC.out.1; show bx < _; omega)).trans ((HB12.out.cell (p := ⟨bx, 2, none⟩) HC.out.1).trans HC.out.2))
  have HB4 := Lib.hid (hb13.trans (Below.mono hb4 hb13.size))
  have HR4 := Lib.hid hrow4
  have HD4 := Lib.hid (And.intro hx3 (And.intro hs4 (And.intro hgl (And.intro y0 d2))))
  have HLE := Lib.hid hle
  have HG := Lib.hid (And.intro (Nat.le_trans HB2.out.size hg) hb13.size)
  have HLR := Lib.hid hlR
  clear hrow hg hb3 hb13 hb4 hgl hrow4 hx3 d2 hle hlR hRk
  go_wp2
  go_loopw [7, 17] (fun v i wr => ∃ k : Nat, k ≤ n ∧ i = .int .i64 k ∧ OwnZ wr w4.heap.size v (selT R f k) ∧ Below w4.heap.size w4 wr) (fun _ i _ => n - (RowKit.intOf i).toNat)
  case atStart => exact ⟨0, by omega, rfl, World.ownsRow_nil _ _ _ _, Below.refl _ _⟩
  case round =>
    obtain ⟨k, hk, rfl, hown, hb⟩ := hrel
    clear y0
    obtain ⟨hx3, hs4', hgl, y0, d2⟩ := HD4.out
    have z0 : wr.cell? ⟨w3.heap.size, 0, none⟩ = some (.slice (some ⟨g, 0, none⟩) n n) := (hb.cell (p := ⟨w3.heap.size, 0, none⟩) hs4').trans y0
    have z2 : wr.cell? ⟨bx, 2, none⟩ = some (.int .i64 (f : Nat)) := (hb.cell (p := ⟨bx, 2, none⟩) (by show bx < _; omega)).trans d2
    by_cases hlt : k < n
    · have hki : (k : Int) < (n : Int) := by omega
      have hk0 : (0 : Int) ≤ (k : Int) := by omega
      have hkt : ((k : Int)).toNat = k := by omega
      have hxk : R[k]? = some (R.getD k 0) := by rw [List.getD_eq_getElem?_getD, List.getElem?_eq_getElem (by rw [HLR.out]; exact hlt)]; rfl
      have ck := (hb.cell (p := ⟨g, k, none⟩) (by show g < _; omega)).trans (HR4.out.2 k _ hxk).1
      have hst := selT_succ R f k
      have hlen := selT_len R f k
      have Hlen := Lib.hid hlen
      have HB := Lib.hid hb
      clear hxk hlen y0 d2
      generalize R.getD k 0 = a at *
      by_cases q1 : 1 ≤ a
      · have q1i : (1 : Int) ≤ (a : Int) := by omega
        by_cases q2 : a ≤ f
        · have q2i : (a : Int) ≤ (f : Int) := by omega
          rw [if_pos ⟨q1, q2⟩] at hst
          have Hst := Lib.hid hst
          clear hst hb
          go_wp2_with (at_builtin; refine wpList_append_own _ rfl _ _ 59 rfl w4.heap.size 3 i0 (.int .i64 0) 1 8 Tryz.underlying59 hi hz0 hz1 hz2 rfl (by decide) _ _ _ rfl (World.ownsRow.alloc hown _) ⟨wr.heap.size, 0, none⟩ 1 1 [.int .i64 (k : Nat)] rfl rfl ?c1 ?c2 ?c3 ?c4 ?c5 ?_)
          case c1 =>
            intro j u hj
            match j, hj with
            | 0, hj => simp at hj; subst hj; simp [Addr.add]
          case c2 => intro u hu; simp at hu; subst hu; rfl
          case c3 => unfold maxLen; have := Hlen.out; omega
          case c4 => have := Hlen.out; omega
          case c5 => have := HB.out.size; simp; omega
          intro v' w2' hown' hgrow _
          have hb2 : Below w4.heap.size w4 w2' := (HB.out.alloc HB.out.size _).grown hgrow (by have := HB.out.size; simp; omega) (fun r hr => (World.ownsRow.lt hown r hr).1)
          have ho2 : OwnZ w2' w4.heap.size v' (selT R f (k + 1)) := by
            rw [Hst.out]
            exact OwnZ.next hown'
          clear hown' hgrow hown z0 z2 ck
          go_wp2
          exact ⟨⟨k + 1, by omega, by go_num, ho2, hb2⟩, by simp [RowKit.intOf]; omega⟩
        · have q2i : ¬ (a : Int) ≤ (f : Int) := by omega
          rw [if_neg (fun q => q2 q.2), List.append_nil] at hst
          have ho2 : Hid (OwnZ wr w4.heap.size _ (selT R f (k + 1))) := Lib.hid (by rw [hst]; exact hown)
          clear hst hown hb
          go_wp2
          exact ⟨⟨k + 1, by omega, by go_num, ho2.out, HB.out⟩, by simp [RowKit.intOf]; omega⟩
      · have q1i : ¬ (1 : Int) ≤ (a : Int) := by omega
        rw [if_neg (fun q => q1 q.1), List.append_nil] at hst
        have ho2 : Hid (OwnZ wr w4.heap.size _ (selT R f (k + 1))) := Lib.hid (by rw [hst]; exact hown)
        clear hst hown hb
        go_wp2
        exact ⟨⟨k + 1, by omega, by go_num, ho2.out, HB.out⟩, by simp [RowKit.intOf]; omega⟩
    · have hkn : k = n := by omega
      rw [hkn] at hown
      have hS := sortFin_any R f n hn HLR.out w4.heap.size _ w3.heap.size g n wr hown ⟨by have := HB4.out.size; have := hb.size; omega, fun j v hj => ⟨(hb.cell (p := ⟨g, j, none⟩) (by show g < _; omega)).trans (HR4.out.2 j v hj).1, (hb.frozen (p := ⟨g, j, none⟩) (by show g < _; omega)).trans (HR4.out.2 j v hj).2⟩⟩ (fun x hx => by have := HLE.out x hx; omega) (by omega) hs4' hb.size z0
      have HB := Lib.hid hb
      unfold cmpV at hS
      clear hown hb z0 z2 y0 d2
      go_wp2_with fail
      refine hS.mono ?_
      rintro e w6 ⟨rfl, ho6, hb6⟩
      have HF := Lib.hid (And.intro (own_lowZ ho6 HB4.out.size) (HB4.out.trans ((HB.out.trans hb6).mono HB4.out.size)))
      clear ho6 hb6 hS
      go_wp2
      go_ret
      exact ⟨_, rfl, HF.out⟩
end Go.Mk
