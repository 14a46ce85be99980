/-
  Proved: Finalists of package field returns the names of the finalists in their order, in new memory, or the first error. Conditions: the names and the rows lie where the slices say; up to 40 rows where there is no error.
-/
import Derived.Test.YtclapdfkgafenaaGreatDoorFuc
set_option linter.unusedVariables false
set_option linter.unusedSimpArgs false
open Go Go.Proofs Go.RowKit Go.Sort
set_option maxRecDepth 100000
namespace Go.Mk
set_option maxHeartbeats 2000000 in
theorem slEqualS_any (L M : List ByteArray) (A1 A2 : Option Addr) (n m c1 c2 : Nat) (w : World) (hn : n ≤ 5000) (hm : m ≤ 5000) (h1 : TextsZ w A1 n L) (h2 : TextsZ w A2 m M) :
  Calls Tryz.prog 58 #[.slice A1 n c1, .slice A2 m c2] w (RetPost (.bool (decide (L = M))) w) := by
 have hn0 : (n : Int) ≤ 5000 := by omega
 have hm0 : (m : Int) ≤ 5000 := by omega
 have H1 := Lib.hid h1
 have H2 := Lib.hid h2
 have HL := Lib.hid h1.1
 have HM := Lib.hid h2.1
 by_cases hnm : n = m
 ·subst hnm
  obtain ⟨y, hy⟩ : ∃ y, decide (L = M) = y := ⟨_, rfl⟩
  rw [hy]
  have HY : Hid (decide (L.drop 0 = M.drop 0) = y) := Lib.hid (by rw [← hy]; rfl)
  clear h1 h2 hn hm hm0 hy
  go_enter Tryz.func58, Tryz.ntmps58
  go_wp2
  go_loopw [13] (fun i wr => ∃ k : Nat, k ≤ n ∧ i = .int .i64 k ∧ Hid (decide (L.drop k = M.drop k) = y) ∧ Below w.heap.size w wr) (fun i _ => n - (RowKit.intOf i).toNat)
  case atStart => exact ⟨0, by omega, rfl, HY, Below.refl _ _⟩
  case round =>
   obtain ⟨k, hk, rfl, HK, hb⟩ := hrel
   by_cases hlt : k < n
   ·obtain ⟨p1, f1, x, rfl, _, q1, c1'⟩ := (H1.out.below hb).at_ hlt
    obtain ⟨p2, f2, x', rfl, _, q2, c2'⟩ := (H2.out.below hb).at_ hlt
    have hki : (k : Int) < (n : Int) := by omega
    have hk0 : (0 : Int) ≤ (k : Int) := by omega
    have hkt : ((k : Int)).toNat = k := by omega
    have hst := HK.out
    obtain ⟨e1, rfl⟩ := List.getElem?_eq_some_iff.1 q1
    obtain ⟨e2, rfl⟩ := List.getElem?_eq_some_iff.1 q2
    rw [List.drop_eq_getElem_cons e1, List.drop_eq_getElem_cons e2] at hst
    clear q1 q2 HK
    generalize L[k] = x at *
    generalize M[k] = x' at *
    by_cases hxx : x = x'
    ·subst hxx
     have Hst : Hid (decide (L.drop (k + 1) = M.drop (k + 1)) = y) := Lib.hid (by rw [← hst]; simp)
     have gb : (x.toList == x.toList) = true := by simp
     clear hst H1 H2
     go_wp2_with fail
     go_quiet (fail)
     go_wp2
     exact ⟨⟨k + 1, by omega, by go_num, Hst, below_drewN hb _⟩, by simp [RowKit.intOf]; omega⟩
    ·have gb : (x.toList == x'.toList) = false := tl_ne hxx
     rw [decide_eq_false (fun q => hxx (List.cons.inj q).1)] at hst
     subst hst
     clear H1 H2
     go_wp2_with fail
     go_quiet (fail)
     go_wp2
     go_ret
     exact ⟨rfl, below_drewN hb _⟩
   ·have h0 := HK.out
    rw [List.drop_eq_nil_of_le (by rw [HL.out]; omega), List.drop_eq_nil_of_le (by rw [HM.out]; omega)] at h0
    have : y = true := by rw [← h0]; simp
    subst this
    clear HK h0
    go_wp2
    go_ret
    exact ⟨rfl, hb⟩
 ·have hnmi : ¬ (n : Int) = (m : Int) := by omega
  have hne : ¬ L = M := fun q => hnm (by rw [← h1.1, ← h2.1, q])
  rw [decide_eq_false hne]
  clear h1 h2 H1 H2
  go_enter Tryz.func58, Tryz.ntmps58
  go_wp2
  go_ret
  exact ⟨rfl, Below.refl _ _⟩
set_option maxHeartbeats 1000000 in
theorem fdFinalistB_any (N : List ByteArray) (n c bx i : Nat) (A : Option Addr) (w : World) (hN : TextsZ w A n N) (hn : n ≤ 1000) (hi : i < n) (hbx : bx < w.heap.size) (hc : w.cell? ⟨bx, 0, none⟩ = some (.slice A n c)) :
  Calls Tryz.prog 61 #[.int .i64 (i : Nat), .pointer (some ⟨bx, 0, none⟩)] w (RetPost (.string (N.getD i ⟨#[]⟩)) w) := by
 obtain ⟨b, off, x, rfl, hbl, hx, cx⟩ := hN.at_ hi
 have e : N.getD i ⟨#[]⟩ = x := by rw [List.getD_eq_getElem?_getD, hx]; rfl
 rw [e]
 have hii : (i : Int) < (n : Int) := by omega
 have hi0 : (0 : Int) ≤ (i : Int) := by omega
 have hit : ((i : Int)).toNat = i := by omega
 clear hN hx e
 go_enter Tryz.func61, Tryz.ntmps61
 go_wp2
 go_ret
 exact ⟨rfl, Below.refl _ _⟩
set_option maxHeartbeats 4000000 in
theorem fdEachIS_any (L : List Int) (N : List ByteArray) (n cap nN cN bx : Nat) (A AN : Option Addr) (w : World) (hZ : IntsZ w A n L) (hn : n ≤ 1000) (hN : TextsZ w AN nN N) (hnN : nN ≤ 1000) (hL : ∀ x ∈ L, 0 ≤ x ∧ x < nN) (hbx : bx < w.heap.size) (hc : w.cell? ⟨bx, 0, none⟩ = some (.slice AN nN cN)) :
  Calls Tryz.prog 59 #[.slice A n cap, .func (.func 61) #[] #[.pointer (some ⟨bx, 0, none⟩)]] w (fun e w' => ∃ v, e = .returned v ∧ OwnNames w' w.heap.size v (L.map fun x => N.getD x.toNat ⟨#[]⟩) ∧ Below w.heap.size w w') := by
 obtain ⟨i0, hi, hz0, hz1, hz2⟩ := info_parts infoStr
 have hni : (n : Int) ≤ 1000 := by omega
 have H := Lib.hid hZ
 have HL := Lib.hid hZ.1
 have HN := Lib.hid (And.intro hN (And.intro hL (And.intro hbx hc)))
 clear hZ hN hL hbx hc
 go_enter Tryz.func59, Tryz.ntmps59
 go_wp2
 go_loopw [5, 10] (fun v i wr => ∃ k : Nat, k ≤ n ∧ i = .int .i64 k ∧ OwnNames wr w.heap.size v ((L.take k).map fun x => N.getD x.toNat ⟨#[]⟩) ∧ Below w.heap.size w wr) (fun _ i _ => n - (intOf i).toNat)
 case atStart => exact ⟨0, by omega, rfl, World.ownsRow_nil _ _ _ _, Below.refl _ _⟩
 case round =>
  obtain ⟨k, hk, rfl, hown, hb⟩ := hrel
  by_cases hlt : k < n
  ·obtain ⟨b', off, r, rfl, hbl, hx, hc0⟩ := (H.out.below hb).cellAt hlt
   have hki : (k : Int) < (n : Int) := by omega
   have hk0 : (0 : Int) ≤ (k : Int) := by omega
   have hkt : ((k : Int)).toNat = k := by omega
   have hlen : ((L.take k).map fun x => N.getD x.toNat ⟨#[]⟩).length = k := by rw [List.length_map, List.length_take, HL.out]; omega
   have hst : ((L.take (k + 1)).map fun x => N.getD x.toNat ⟨#[]⟩) = ((L.take k).map fun x => N.getD x.toNat ⟨#[]⟩) ++ [N.getD r.toNat ⟨#[]⟩] := by rw [List.take_add_one, hx, Option.toList_some, List.map_append]; rfl
   have Hst := Lib.hid hst
   have Hlen := Lib.hid hlen
   obtain ⟨hN, hL, hbx, hc⟩ := HN.out
   obtain ⟨hr0, hr1⟩ := hL r (List.mem_of_getElem? hx)
   obtain ⟨q, rfl⟩ := Int.eq_ofNat_of_zero_le hr0
   have hF := fdFinalistB_any N nN cN bx q AN wr (hN.below hb) hnN (by omega) (Nat.lt_of_lt_of_le hbx hb.size) ((hb.cell (p := ⟨bx, 0, none⟩) hbx).trans hc)
   rw [Int.toNat_natCast] at Hst
   obtain ⟨s, hs⟩ : ∃ s, N.getD q ⟨#[]⟩ = s := ⟨_, rfl⟩
   rw [hs] at Hst hF
   have HB := Lib.hid hb
   have HOX := Lib.hid hown
   clear hst hlen hx hN hL hbx hc hb hs hown
   go_wp2_with fail
   refine hF.mono ?_
   rintro e w5 ⟨rfl, hb5⟩
   have hb15 := bstep HB.out hb5
   have hown5 : OwnNames w5 w.heap.size _ ((L.take k).map fun x => N.getD x.toNat ⟨#[]⟩) := ownN HOX.out hb5
   clear hb5 hF
   go_wp2_with (at_builtin; refine wpList_append_own _ rfl _ _ 46 rfl w.heap.size 9 i0 (.string ⟨#[]⟩) 1 16 Tryz.underlying46 hi hz0 hz1 hz2 rfl (by decide) _ _ _ rfl (World.ownsRow.alloc hown5 _) ⟨w5.heap.size, 0, none⟩ 1 1 [.string s] rfl rfl ?c1 ?c2 ?c3 ?c4 ?c5 ?_)
   case c1 =>
    intro j u hj
    match j, hj with
    | 0, hj => simp at hj; subst hj; simp [Addr.add]
   case c2 => intro u hu; simp at hu; subst hu; rfl
   case c3 => unfold maxLen; have := Hlen.out; omega
   case c4 => have := Hlen.out; omega
   case c5 => have := hb15.size; simp; omega
   intro v' w2 hown' hgrow _
   have hb2 : Below w.heap.size w w2 := (hb15.alloc hb15.size _).grown hgrow (by have := hb15.size; simp; omega) (fun r hr => (World.ownsRow.lt hown5 r hr).1)
   have ho2 : OwnNames w2 w.heap.size v' ((L.take (k + 1)).map fun x => N.getD x.toNat ⟨#[]⟩) := by
    rw [Hst.out]
    refine OwnNames.next ?_
    simpa using hown'
   clear hown' hgrow hown5 hb15 hc0
   go_wp2
   go_roundw
   case rel => exact ⟨k + 1, by omega, by go_num, ho2, hb2⟩
   case measure => simp [intOf]; omega
  ·have hkn : k = n := by omega
   rw [hkn, List.take_of_length_le (by rw [HL.out]; omega)] at hown
   have HO := Lib.hid hown
   clear hown
   go_wp2
   go_ret
   exact ⟨_, rfl, HO.out, hb⟩
set_option maxHeartbeats 1000000 in
theorem fdFinalistA_any (r : RowR) (w : World) : Calls Tryz.prog 55 #[.agg #[.string r.s, .slice r.A r.n r.c, .bool r.rt]] w (RetPost (.string r.s) w) := by
 obtain ⟨g, hg⟩ : ∃ g, w.heap.size = g := ⟨_, rfl⟩
 obtain ⟨w1, hw1⟩ : ∃ w1, w.alloc (.cells #[.string r.s, .slice r.A r.n r.c, .bool r.rt] 61) = w1 := ⟨_, rfl⟩
 have hb1 : Below w.heap.size w w1 := by rw [← hw1]; exact balloc _ (Below.refl _ _)
 have c0 : w1.cell? ⟨g, 0, none⟩ = some (.string r.s) := by rw [← hw1, ← hg]; simp
 go_enter Tryz.func55, Tryz.ntmps55
 go_wp2
 go_ret
 exact ⟨rfl, hb1⟩
set_option maxHeartbeats 4000000 in
theorem fdEachRSF_any (L : List RowR) (n cap : Nat) (A : Option Addr) (w : World) (hZ : Rows w A n L) (hn : n ≤ 1000) :
  Calls Tryz.prog 43 #[.slice A n cap, .func (.func 55) #[] #[]] w (fun e w' => ∃ v, e = .returned v ∧ OwnNames w' w.heap.size v (L.map (·.s)) ∧ Below w.heap.size w w') := by
 obtain ⟨i0, hi, hz0, hz1, hz2⟩ := info_parts infoStr
 have hni : (n : Int) ≤ 1000 := by omega
 have H := Lib.hid hZ
 have HL := Lib.hid hZ.1
 clear hZ
 go_enter Tryz.func43, Tryz.ntmps43
 go_wp2
 go_loopw [5, 10] (fun v i wr => ∃ k : Nat, k ≤ n ∧ i = .int .i64 k ∧ OwnNames wr w.heap.size v ((L.take k).map (·.s)) ∧ Below w.heap.size w wr) (fun _ i _ => n - (intOf i).toNat)
 case atStart => exact ⟨0, by omega, rfl, World.ownsRow_nil _ _ _ _, Below.refl _ _⟩
 case round =>
  obtain ⟨k, hk, rfl, hown, hb⟩ := hrel
  by_cases hlt : k < n
  ·obtain ⟨b', off, r, rfl, hbl, hx, ⟨hc0, hc1, hc2⟩, _, _⟩ := (H.out.below hb).at_ hlt
   have hki : (k : Int) < (n : Int) := by omega
   have hk0 : (0 : Int) ≤ (k : Int) := by omega
   have hkt : ((k : Int)).toNat = k := by omega
   have hlen : ((L.take k).map (·.s)).length = k := by rw [List.length_map, List.length_take, HL.out]; omega
   have hst : (L.take (k + 1)).map (·.s) = (L.take k).map (·.s) ++ [r.s] := by rw [List.take_add_one, hx, Option.toList_some, List.map_append]; rfl
   have Hst := Lib.hid hst
   have Hlen := Lib.hid hlen
   have hN := fun w => fdFinalistA_any r w
   have HOWN := Lib.hid hown
   have HB := Lib.hid hb
   obtain ⟨p, hp⟩ : ∃ p, wr.heap.size = p := ⟨_, rfl⟩
   obtain ⟨wx, hwx⟩ : ∃ wx, wr.alloc (.cells #[.string r.s, .slice r.A r.n r.c, .bool r.rt] 61) = wx := ⟨_, rfl⟩
   have hbx : Below w.heap.size w wx := by rw [← hwx]; exact hb.alloc hb.size _
   have x0 : wx.cell? ⟨p, 0, none⟩ = some (.string r.s) := by rw [← hwx, ← hp]; simp
   have x1 : wx.cell? ⟨p, 1, none⟩ = some (.slice r.A r.n r.c) := by rw [← hwx, ← hp]; simp
   have x2 : wx.cell? ⟨p, 2, none⟩ = some (.bool r.rt) := by rw [← hwx, ← hp]; simp
   have HBX := Lib.hid hbx
   have HOX : Hid (OwnNames wx w.heap.size _ ((L.take k).map (·.s))) := Lib.hid (by rw [← hwx]; exact World.ownsRow.alloc hown _)
   clear hst hlen hx hown hb hbx
   go_wp2_with fail
   refine (hN _).mono ?_
   rintro e w5 ⟨rfl, hb5⟩
   have hb15 := bstep HBX.out hb5
   have hown5 : OwnNames w5 w.heap.size _ ((L.take k).map (·.s)) := ownN HOX.out hb5
   clear hb5
   go_wp2_with (at_builtin; refine wpList_append_own _ rfl _ _ 46 rfl w.heap.size 9 i0 (.string ⟨#[]⟩) 1 16 Tryz.underlying46 hi hz0 hz1 hz2 rfl (by decide) _ _ _ rfl (World.ownsRow.alloc hown5 _) ⟨w5.heap.size, 0, none⟩ 1 1 [.string r.s] rfl rfl ?c1 ?c2 ?c3 ?c4 ?c5 ?_)
   case c1 =>
    intro j u hj
    match j, hj with
    | 0, hj => simp at hj; subst hj; simp [Addr.add]
   case c2 => intro u hu; simp at hu; subst hu; rfl
   case c3 => unfold maxLen; have := Hlen.out; omega
   case c4 => have := Hlen.out; omega
   case c5 => have := hb15.size; simp; omega
   intro v' w2 hown' hgrow _
   have hb2 : Below w.heap.size w w2 := (hb15.alloc hb15.size _).grown hgrow (by have := hb15.size; simp; omega) (fun r hr => (World.ownsRow.lt hown5 r hr).1)
   have ho2 : OwnNames w2 w.heap.size v' ((L.take (k + 1)).map (·.s)) := by
    rw [Hst.out]
    refine OwnNames.next ?_
    simpa using hown'
   clear hown' hgrow hown5 hb15 hc0 hc1 hc2
   go_wp2
   go_roundw
   case rel => exact ⟨k + 1, by omega, by go_num, ho2, hb2⟩
   case measure => simp [intOf]; omega
  ·have hkn : k = n := by omega
   rw [hkn, List.take_of_length_le (by rw [HL.out]; omega)] at hown
   have HO := Lib.hid hown
   clear hown
   go_wp2
   go_ret
   exact ⟨_, rfl, HO.out, hb⟩
theorem es5F (w : World) (a b c d e : Int) (t : TypeId) : Es (w.alloc (.cells #[.int .i64 a, .int .i64 b, .int .i64 c, .int .i64 d, .int .i64 e] t)) w.heap.size [a, b, c, d, e] := by
 intro i v hv
 match i, hv with
 | 0, hv => simp at hv; subst hv; simp
 | 1, hv => simp at hv; subst hv; simp
 | 2, hv => simp at hv; subst hv; simp
 | 3, hv => simp at hv; subst hv; simp
 | 4, hv => simp at hv; subst hv; simp
def finE (N : List ByteArray) (t f m : Int) (L : List RowR) : Int := fstN [conE N t f m, rowsE L, if L.length = N.length then 0 else 2, if L.map (·.s) = N then 0 else 10, if m = 0 then 7 else 0]
theorem fst0 : ∀ {l : List Int}, fstN l = 0 → ∀ x ∈ l, x = 0
 | [], _, x, h => by cases h
 | y :: l, h, x, hx => by
  by_cases hy : y = 0
  ·subst hy
   rcases List.mem_cons.1 hx with rfl | hx
   ·rfl
   ·exact fst0 (l := l) (by simpa [fstN] using h) x hx
  ·exfalso
   simp [fstN, hy] at h
theorem rng0 {x lo hi : Int} (h : rngE x lo hi = 0) : lo ≤ x ∧ x ≤ hi := by
 unfold rngE at h
 split at h
 ·simp at h
 ·omega
theorem finE_ok {N : List ByteArray} {t f m : Int} {L : List RowR} (h : finE N t f m L = 0) : 1 ≤ t ∧ t ≤ 6 ∧ 1 ≤ f ∧ f ≤ 32 ∧ rowsE L = 0 ∧ L.length = N.length ∧ L.map (·.s) = N ∧ m ≠ 0 := by
 unfold finE at h
 have h1 := fst0 h
 simp only [List.mem_cons, List.not_mem_nil, or_false, forall_eq_or_imp, forall_eq] at h1
 obtain ⟨h1, h2, h3, h4, h5⟩ := h1
 have h6 : m ≠ 0 := fun q => by rw [if_pos q] at h5; simp at h5
 have h7 := fst0 h1
 simp only [List.mem_cons, List.not_mem_nil, or_false, forall_eq_or_imp, forall_eq] at h7
 obtain ⟨_, h8, _, h9⟩ := h7
 rw [if_neg h6] at h9
 have := rng0 h8
 have := rng0 h9
 refine ⟨by omega, by omega, by omega, by omega, h2, ?_, ?_, h6⟩
 ·by_cases q : L.length = N.length
  ·exact q
  ·rw [if_neg q] at h3; simp at h3
 ·by_cases q : L.map (·.s) = N
  ·exact q
  ·rw [if_neg q] at h4; simp at h4
theorem ownsRow_low {w : World} {B B' e s n : Nat} {v : Value} {xs : List Value} (h : w.ownsRow B e s v n xs) (hB : B' ≤ B) : w.ownsRow B' e s v n xs := by
 refine ⟨h.1, ?_⟩
 rcases h.2 with q | ⟨g, cap, cur, a, b, c⟩
 ·exact .inl q
 ·exact .inr ⟨g, cap, cur, a, Nat.le_trans hB b, c⟩
def finN (N : List ByteArray) (t f : Int) (L : List RowR) : List ByteArray := (finT (rkE t.toNat L) f.toNat L.length).map fun x => N.getD x.toNat ⟨#[]⟩
set_option maxHeartbeats 8000000 in
theorem fdFinalist_any (N : List ByteArray) (nN cN n cap : Nat) (AN A : Option Addr) (t f m : Int) (L : List RowR) (w : World) (hN : TextsZ w AN nN N) (hnN : nN ≤ 1000) (hcN : nN ≤ cN) (hsN : ∀ x ∈ N, x.size ≤ maxLen) (hZ : Rows w A n L) (hn : n ≤ 1000) (hs : ∀ r ∈ L, r.s.size ≤ maxLen ∧ r.n ≤ 1000 ∧ r.T.length = r.n) :
  Calls Tryz.prog 17 #[.agg #[.slice AN nN cN, .int .i64 t, .int .i64 f, .int .i64 m], .slice A n cap] w (fun e w' => ∃ v, e = .returned (.tuple #[v, .int .i64 (finE N t f m L)]) ∧ OwnNames w' w.heap.size v (if finE N t f m L = 0 then finN N t f L else []) ∧ Below w.heap.size w w') := by
 obtain ⟨w1, hw1⟩ : ∃ w1, w.alloc (.cells #[.slice AN nN cN, .int .i64 t, .int .i64 f, .int .i64 m] 52) = w1 := ⟨_, rfl⟩
 have hb1 : Below w.heap.size w w1 := by rw [← hw1]; exact balloc _ (Below.refl _ _)
 have hs1 : w1.heap.size = w.heap.size + 1 := by rw [← hw1]; simp
 obtain ⟨bx, hbx⟩ : ∃ bx, w.heap.size = bx := ⟨_, rfl⟩
 have k0 : w1.cell? ⟨bx, 0, none⟩ = some (.slice AN nN cN) := by rw [← hw1, ← hbx]; simp
 have k1 : w1.cell? ⟨bx, 1, none⟩ = some (.int .i64 t) := by rw [← hw1, ← hbx]; simp
 have k2 : w1.cell? ⟨bx, 2, none⟩ = some (.int .i64 f) := by rw [← hw1, ← hbx]; simp
 have k3 : w1.cell? ⟨bx, 3, none⟩ = some (.int .i64 m) := by rw [← hw1, ← hbx]; simp
 have hx1 : bx < w1.heap.size := by omega
 have hNm := fdEachRSF_any L n cap A w1 (hZ.below hb1) hn
 have HC1 : Hid (∀ w', Below w1.heap.size w1 w' → Calls Tryz.prog 56 #[.agg #[.slice AN nN cN, .int .i64 t, .int .i64 f, .int .i64 m]] w' (RetPost (.int .i64 (conE N t f m)) w')) := Lib.hid fun w' hb => fdCheckContest_any N nN cN AN t f m w' ((hN.below hb1).below hb) hnN hcN hsN
 have HC2 : Hid (∀ w', Below w1.heap.size w1 w' → Calls Tryz.prog 12 #[.slice A n cap] w' (RetPost (.int .i64 (rowsE L)) w')) := Lib.hid fun w' hb => fdCheckRows_any L n cap A w' ((hZ.below hb1).below hb) hn (fun r hr => ⟨(hs r hr).1, (hs r hr).2.1⟩)
 have hLn : L.length = n := hZ.1
 have hNn : N.length = nN := hN.1
 have HF1 : Hid (∀ w' (t' f' : Nat), Below w1.heap.size w1 w' → finE N t f m L = 0 → (t' : Int) = t → (f' : Int) = f → Calls Tryz.prog 60 #[.agg #[.slice AN nN cN, .int .i64 (t' : Nat), .int .i64 (f' : Nat), .int .i64 m], .slice A n cap] w' (fun e w'' => ∃ v, e = .returned v ∧ OwnZ w'' w'.heap.size v (finT (rkE t' L) f' n) ∧ Below w'.heap.size w' w'')) := Lib.hid fun w' t' f' hb h0 ht hf => by
  obtain ⟨t1, t2, f1, f2, h1, h2, h3, h4⟩ := finE_ok h0
  obtain ⟨h5, h6⟩ := rows_ok h1
  exact fdFins_any L n cap t' f' nN cN m A AN w' ((hZ.below hb1).below hb) (by omega) (fun r hr => ⟨by have := (h6 r hr).1; omega, (hs r hr).2.2, fun x hx => ((h6 r hr).2 x hx).2⟩) (by omega) (by omega)
 have HX : Hid (∀ w', Below w1.heap.size w1 w' → w'.cell? ⟨bx, 0, none⟩ = some (.slice AN nN cN) ∧ w'.cell? ⟨bx, 1, none⟩ = some (.int .i64 t) ∧ w'.cell? ⟨bx, 2, none⟩ = some (.int .i64 f) ∧ w'.cell? ⟨bx, 3, none⟩ = some (.int .i64 m) ∧ Below w1.heap.size w1 w') := Lib.hid fun w' hb =>
  ⟨(hb.cell (p := ⟨bx, 0, none⟩) hx1).trans k0, (hb.cell (p := ⟨bx, 1, none⟩) hx1).trans k1, (hb.cell (p := ⟨bx, 2, none⟩) hx1).trans k2, (hb.cell (p := ⟨bx, 3, none⟩) hx1).trans k3, hb⟩
 have HNW := Lib.hid (And.intro (hN.below hb1) (And.intro hx1 (And.intro hbx hb1)))
 have HLN := Lib.hid (And.intro hLn hNn)
 have HOK : Hid (finE N t f m L = 0 → ∃ t' f' : Nat, (t' : Int) = t ∧ (f' : Int) = f ∧ n = nN) := Lib.hid fun h => by
  obtain ⟨t1, t2, f1, f2, h1, h2, h3, h4⟩ := finE_ok h
  exact ⟨t.toNat, f.toNat, by omega, by omega, by omega⟩
 obtain ⟨y, hy⟩ : ∃ y, finE N t f m L = y := ⟨_, rfl⟩
 rw [hy] at HOK HF1 ⊢
 have HYY := Lib.hid hy
 clear hy
 clear hZ hN hs hsN hb1 k0 k1 k2 k3 hx1 hLn hNn
 go_enter Tryz.func17, Tryz.ntmps17
 go_wp2_with fail
 refine hNm.mono ?_
 rintro e w2 ⟨v, rfl, ho, hb2⟩
 have hnl : (L.map (·.s)).length = n := by rw [List.length_map]; exact HLN.out.1
 obtain ⟨A2, c2, rfl, _, _, hT2⟩ := TextsZ.of_own ho
 rw [hnl] at hT2 ⊢
 have hb12 := hb2
 have HEq : Hid (∀ w', Below w2.heap.size w2 w' → Calls Tryz.prog 58 #[.slice A2 n c2, .slice AN nN cN] w' (RetPost (.bool (decide (L.map (·.s) = N))) w')) := Lib.hid fun w' hb => slEqualS_any (L.map (·.s)) N A2 AN n nN c2 cN w' (by omega) (by omega) (hT2.below hb) ((HNW.out.1.below hb2).below hb)
 have HC1' : Hid (∀ w', Below w2.heap.size w2 w' → Calls Tryz.prog 56 #[.agg #[.slice AN nN cN, .int .i64 t, .int .i64 f, .int .i64 m]] w' (RetPost (.int .i64 (conE N t f m)) w')) := Lib.hid fun w' hb => HC1.out w' (bstep hb12 hb)
 have HC2' : Hid (∀ w', Below w2.heap.size w2 w' → Calls Tryz.prog 12 #[.slice A n cap] w' (RetPost (.int .i64 (rowsE L)) w')) := Lib.hid fun w' hb => HC2.out w' (bstep hb12 hb)
 have HX' : Hid (∀ w', Below w2.heap.size w2 w' → w'.cell? ⟨bx, 0, none⟩ = some (.slice AN nN cN) ∧ w'.cell? ⟨bx, 1, none⟩ = some (.int .i64 t) ∧ w'.cell? ⟨bx, 2, none⟩ = some (.int .i64 f) ∧ w'.cell? ⟨bx, 3, none⟩ = some (.int .i64 m) ∧ Below w2.heap.size w2 w') := Lib.hid fun w' hb => by
  obtain ⟨q0, q1, q2, q3, _⟩ := HX.out w' (bstep hb12 hb)
  exact ⟨q0, q1, q2, q3, hb⟩
 have HXO := HX
 clear HX HC1 HC2
 obtain ⟨HX, HC1, HC2⟩ : _ ∧ _ ∧ _ := ⟨HX', HC1', HC2'⟩
 have HB2 := Lib.hid hb2
 have hW1 := fun w => trWhen_any (((n : Int) != (nN : Int))) 2 w
 have hW2 := fun w => trWhen_any (!(decide (L.map (·.s) = N))) 10 w
 have hW3 := fun w => trWhen_any (m == 0) 7 w
 have hF0 := fun a b c d e g w => trFirst_any [a, b, c, d, e] 5 rfl (by decide) g w
 clear ho hT2 hb2 hb12 hNm hnl HX' HC1' HC2'
 have HE0 : Hid (y = fstN [conE N t f m, rowsE L, if (((n : Int) != (nN : Int))) = true then 2 else 0, if (!(decide (L.map (·.s) = N))) = true then 10 else 0, if (m == 0) = true then 7 else 0]) := Lib.hid (by
  rw [← HYY.out]
  unfold finE
  rw [HLN.out.1, HLN.out.2]
  congr 4
  ·by_cases q : n = nN
   ·subst q; simp
   ·have qi : ¬ (n : Int) = (nN : Int) := by omega
    simp [q, qi]
  ·congr 1
   ·by_cases q : L.map (·.s) = N
    ·simp [q]
    ·simp [q]
   ·congr 1
    by_cases q : m = 0
    ·simp [q]
    ·simp [q])
 obtain ⟨b4, hb4⟩ : ∃ b, decide (L.map (·.s) = N) = b := ⟨_, rfl⟩
 rw [hb4] at HE0 hW2 HEq
 obtain ⟨e1, he1⟩ : ∃ e1, conE N t f m = e1 := ⟨_, rfl⟩
 obtain ⟨e2, he2⟩ : ∃ e2, rowsE L = e2 := ⟨_, rfl⟩
 obtain ⟨e3, he3⟩ : ∃ e3 : Int, (if (((n : Int) != (nN : Int))) = true then 2 else 0) = e3 := ⟨_, rfl⟩
 obtain ⟨e4, he4⟩ : ∃ e4 : Int, (if (!b4) = true then 10 else 0) = e4 := ⟨_, rfl⟩
 obtain ⟨e5, he5⟩ : ∃ e5 : Int, (if (m == 0) = true then 7 else 0) = e5 := ⟨_, rfl⟩
 rw [he1, he2, he3, he4, he5] at HE0
 rw [he1] at HC1
 rw [he2] at HC2
 rw [he3] at hW1
 rw [he4] at hW2
 rw [he5] at hW3
 have hF := hF0 e1 e2 e3 e4 e5
 rw [← HE0.out] at hF
 clear hF0 he1 he2 he3 he4 he5 hb4
 go_wp2_with fail
 refine wp_region_held_drew (S := (fun w' => w'.cell? ⟨bx, 0, none⟩ = some (.slice AN nN cN) ∧ w'.cell? ⟨bx, 1, none⟩ = some (.int .i64 t) ∧ w'.cell? ⟨bx, 2, none⟩ = some (.int .i64 f) ∧ w'.cell? ⟨bx, 3, none⟩ = some (.int .i64 m) ∧ Below w2.heap.size w2 w')) (by kernel_rfl) ?_ (fun hHeld => ?_)
 ·exact HX.out _ (Below.drew (Below.refl _ _))
 generalize World.drew w2 = wd at hHeld ⊢
 refine zT (i := 0) (v := ?_) rfl (Or.inl ⟨by kernel_rfl, ?_⟩) ?_
 rotate_left
 ·rintro w ⟨s0, s1, s2, s3, s4⟩
  go_simp
  try with_reducible rfl
 try simp only [Act.put, zA1, zA2, zA3, zA4, zA5, zA6]
 refine zT (i := 2) (v := ?_) rfl (Or.inl ⟨by kernel_rfl, ?_⟩) ?_
 rotate_left
 ·rintro w ⟨s0, s1, s2, s3, s4⟩
  go_simp
  try with_reducible rfl
 try simp only [Act.put, zA1, zA2, zA3, zA4, zA5, zA6]
 refine zT (i := 4) (v := ?_) rfl (Or.inl ⟨by kernel_rfl, ?_⟩) ?_
 rotate_left
 ·rintro w ⟨s0, s1, s2, s3, s4⟩
  go_simp
  try with_reducible rfl
 try simp only [Act.put, zA1, zA2, zA3, zA4, zA5, zA6]
 refine zT (i := 5) (v := ?_) rfl (Or.inl ⟨by kernel_rfl, ?_⟩) ?_
 rotate_left
 ·rintro w ⟨s0, s1, s2, s3, s4⟩
  go_simp
  try with_reducible rfl
 try simp only [Act.put, zA1, zA2, zA3, zA4, zA5, zA6]
 refine zT (i := 6) (v := ?_) rfl (Or.inl ⟨by kernel_rfl, ?_⟩) ?_
 rotate_left
 ·rintro w ⟨s0, s1, s2, s3, s4⟩
  go_simp
  try with_reducible rfl
 try simp only [Act.put, zA1, zA2, zA3, zA4, zA5, zA6]
 refine zT (i := 7) (v := ?_) rfl (Or.inl ⟨by kernel_rfl, ?_⟩) ?_
 rotate_left
 ·rintro w ⟨s0, s1, s2, s3, s4⟩
  go_simp
  try with_reducible rfl
 try simp only [Act.put, zA1, zA2, zA3, zA4, zA5, zA6]
 refine zT (i := 8) (v := ?_) rfl (Or.inl ⟨by kernel_rfl, ?_⟩) ?_
 rotate_left
 ·rintro w ⟨s0, s1, s2, s3, s4⟩
  go_simp
  try with_reducible rfl
 try simp only [Act.put, zA1, zA2, zA3, zA4, zA5, zA6]
 refine zT (i := 9) (v := ?_) rfl (Or.inl ⟨by kernel_rfl, ?_⟩) ?_
 rotate_left
 ·rintro w ⟨s0, s1, s2, s3, s4⟩
  go_simp
  try with_reducible rfl
 try simp only [Act.put, zA1, zA2, zA3, zA4, zA5, zA6]
 refine zT (i := 11) (v := ?_) rfl (Or.inl ⟨by kernel_rfl, ?_⟩) ?_
 rotate_left
 ·rintro w ⟨s0, s1, s2, s3, s4⟩
  go_simp
  try with_reducible rfl
 try simp only [Act.put, zA1, zA2, zA3, zA4, zA5, zA6]
 refine zT (i := 12) (v := ?_) rfl (Or.inl ⟨by kernel_rfl, ?_⟩) ?_
 rotate_left
 ·rintro w ⟨s0, s1, s2, s3, s4⟩
  go_simp
  try with_reducible rfl
 try simp only [Act.put, zA1, zA2, zA3, zA4, zA5, zA6]
 refine zT (i := 13) (v := ?_) rfl (Or.inl ⟨by kernel_rfl, ?_⟩) ?_
 rotate_left
 ·rintro w ⟨s0, s1, s2, s3, s4⟩
  go_simp
  try with_reducible rfl
 try simp only [Act.put, zA1, zA2, zA3, zA4, zA5, zA6]
 refine zT (i := 17) (v := ?_) rfl (Or.inl ⟨by kernel_rfl, ?_⟩) ?_
 rotate_left
 ·rintro w ⟨s0, s1, s2, s3, s4⟩
  go_simp
  try with_reducible rfl
 try simp only [Act.put, zA1, zA2, zA3, zA4, zA5, zA6]
 refine zT (i := 18) (v := ?_) rfl (Or.inl ⟨by kernel_rfl, ?_⟩) ?_
 rotate_left
 ·rintro w ⟨s0, s1, s2, s3, s4⟩
  go_simp
  try with_reducible rfl
 try simp only [Act.put, zA1, zA2, zA3, zA4, zA5, zA6]
 refine zT (i := 19) (v := ?_) rfl (Or.inl ⟨by kernel_rfl, ?_⟩) ?_
 rotate_left
 ·rintro w ⟨s0, s1, s2, s3, s4⟩
  go_simp
  try with_reducible rfl
 try simp only [Act.put, zA1, zA2, zA3, zA4, zA5, zA6]
 refine wpAnyH_ready (rs := [1]) (by kernel_rfl) (by simp) ?_
 refine AllReadyH.cons (o := _) rfl (fun K hKK => ?_) AllReadyH.nil
 go_simp
 go_at_call 56
 with_reducible refine (HC1.out _ hHeld.2.2.2.2).mono ?_
 rintro e' w' ⟨rfl, hbz⟩
 go_wp2_with fail
 refine hKK.out _ _ ?_ (fun hHeld => ?_)
 ·exact HX.out _ (bstep hHeld.2.2.2.2 hbz)
 clear hKK K
 try simp only [Act.put, zA1, zA2, zA3, zA4, zA5, zA6]
 clear hbz
 refine wpAnyH_ready (rs := [3]) (by kernel_rfl) (by simp) ?_
 refine AllReadyH.cons (o := _) rfl (fun K hKK => ?_) AllReadyH.nil
 go_simp
 go_at_call 12
 with_reducible refine (HC2.out _ hHeld.2.2.2.2).mono ?_
 rintro e' w' ⟨rfl, hbz⟩
 go_wp2_with fail
 refine hKK.out _ _ ?_ (fun hHeld => ?_)
 ·exact HX.out _ (bstep hHeld.2.2.2.2 hbz)
 clear hKK K
 try simp only [Act.put, zA1, zA2, zA3, zA4, zA5, zA6]
 clear hbz
 refine wpAnyH_ready (rs := [10]) (by kernel_rfl) (by simp) ?_
 refine AllReadyH.cons (o := _) rfl (fun K hKK => ?_) AllReadyH.nil
 go_simp
 go_at_call 57
 with_reducible refine (hW1 _).mono ?_
 rintro e' w' ⟨rfl, rfl⟩
 go_wp2_with fail
 refine hKK.out _ _ ?_ (fun hHeld => ?_)
 ·exact hHeld
 clear hKK K
 try simp only [Act.put, zA1, zA2, zA3, zA4, zA5, zA6]
 refine wpAnyH_ready (rs := [14]) (by kernel_rfl) (by simp) ?_
 refine AllReadyH.cons (o := _) rfl (fun K hKK => ?_) AllReadyH.nil
 go_simp
 go_at_call 58
 with_reducible refine (HEq.out _ hHeld.2.2.2.2).mono ?_
 rintro e' w' ⟨rfl, hbz⟩
 go_wp2_with fail
 refine hKK.out _ _ ?_ (fun hHeld => ?_)
 ·exact HX.out _ (bstep hHeld.2.2.2.2 hbz)
 clear hKK K
 try simp only [Act.put, zA1, zA2, zA3, zA4, zA5, zA6]
 clear hbz
 refine zT (i := 15) (v := ?_) rfl (Or.inl ⟨by kernel_rfl, ?_⟩) ?_
 rotate_left
 ·rintro w ⟨s0, s1, s2, s3, s4⟩
  go_simp
  try with_reducible rfl
 try simp only [Act.put, zA1, zA2, zA3, zA4, zA5, zA6]
 refine wpAnyH_ready (rs := [16]) (by kernel_rfl) (by simp) ?_
 refine AllReadyH.cons (o := _) rfl (fun K hKK => ?_) AllReadyH.nil
 go_simp
 go_at_call 57
 with_reducible refine (hW2 _).mono ?_
 rintro e' w' ⟨rfl, rfl⟩
 go_wp2_with fail
 refine hKK.out _ _ ?_ (fun hHeld => ?_)
 ·exact hHeld
 clear hKK K
 try simp only [Act.put, zA1, zA2, zA3, zA4, zA5, zA6]
 refine wpAnyH_ready (rs := [20]) (by kernel_rfl) (by simp) ?_
 refine AllReadyH.cons (o := _) rfl (fun K hKK => ?_) AllReadyH.nil
 go_simp
 go_at_call 57
 with_reducible refine (hW3 _).mono ?_
 rintro e' w' ⟨rfl, rfl⟩
 go_wp2_with fail
 refine hKK.out _ _ ?_ (fun hHeld => ?_)
 ·exact hHeld
 clear hKK K
 try simp only [Act.put, zA1, zA2, zA3, zA4, zA5, zA6]
 refine wpAnyH_ready (rs := [21]) (by kernel_rfl) (by simp) ?_
 refine AllReadyH.cons (o := _) rfl (fun K hKK => ?_) AllReadyH.nil
 go_simp
 refine hKK.out _ _ ?_ (fun hHeld => ?_)
 ·exact HX.out _ (hHeld.2.2.2.2.alloc hHeld.2.2.2.2.size _)
 clear hKK K
 try simp only [Act.put, zA1, zA2, zA3, zA4, zA5, zA6]
 refine wpAnyH_ready (rs := [22]) (by kernel_rfl) (by simp) ?_
 refine AllReadyH.cons (o := _) rfl (fun K hKK => ?_) AllReadyH.nil
 go_simp
 go_at_call 47
 with_reducible refine (hF _ _ (es5F _ e1 e2 e3 e4 e5 26)).mono ?_
 rintro e' w' ⟨rfl, rfl⟩
 go_wp2_with fail
 refine hKK.out _ _ ?_ (fun hHeld => ?_)
 ·exact hHeld
 clear hKK K
 try simp only [Act.put, zA1, zA2, zA3, zA4, zA5, zA6]
 refine zT (i := 23) (v := ?_) rfl (Or.inl ⟨by kernel_rfl, ?_⟩) ?_
 rotate_left
 ·rintro w ⟨s0, s1, s2, s3, s4⟩
  go_simp
  try with_reducible rfl
 try simp only [Act.put, zA1, zA2, zA3, zA4, zA5, zA6]
 refine wpAnyH_done (by kernel_rfl) ?_ _
 have hb4 := hHeld.2.2.2.2
 obtain ⟨z0, z1, z2, z3, _⟩ := HX.out _ hb4
 generalize w'.alloc _ = w4 at *
 have HB4 := Lib.hid hb4
 clear hHeld hb4
 by_cases h0 : y = 0
 ·obtain ⟨t', f', ht, hf, hnn⟩ := HOK.out h0
  have hFi := HF1.out w4 t' f' (bstep HB2.out HB4.out) h0 ht hf
  subst ht hf h0
  have HNN := Lib.hid hnn
  clear hnn
  go_wp2_with fail
  refine hFi.mono ?_
  rintro e w5 ⟨v5, rfl, ho5, hb5⟩
  obtain ⟨A5, c5, rfl, hI5⟩ := IntsZ.of_own ho5
  have hb25 := bstep HB4.out hb5
  have hpl := (finT_perm (rkE t' L) f' n).length_eq
  have hpl2 := selT_len (rkE t' L) f' n
  have hIS := fdEachIS_any (finT (rkE t' L) f' n) N (finT (rkE t' L) f' n).length c5 nN cN bx A5 AN w5 hI5 (by omega) ((HNW.out.1.below HB2.out).below hb25) hnN (fun x hx => by
   have := selT_mem ((finT_perm (rkE t' L) f' n).mem_iff.1 hx)
   have := HNN.out
   omega) (by have := HB2.out.size; have := hb25.size; have := HNW.out.2.1; omega) (HX.out w5 hb25).1
  have HB5 := Lib.hid (bstep HNW.out.2.2.2 (bstep HB2.out hb25))
  clear hFi ho5 hI5 hb5 hb25 hpl hpl2
  go_wp2_with fail
  refine hIS.mono ?_
  rintro e w6 ⟨v6, rfl, ho6, hb6⟩
  have HF := Lib.hid (And.intro (ownsRow_low ho6 HB5.out.size) (bstep HB5.out hb6))
  clear ho6 hb6 hIS
  go_wp2
  go_ret2
  try rw [← hbx]
  refine ⟨_, rfl, ?_, HF.out.2⟩
  have e1 : finN N (t' : Int) (f' : Int) L = (finT (rkE t' L) f' n).map fun x => N.getD x.toNat ⟨#[]⟩ := by
   unfold finN
   rw [Int.toNat_natCast, Int.toNat_natCast, HLN.out.1]
  try rw [if_pos rfl]
  rw [e1]
  exact HF.out.1
 ·have HB5 := Lib.hid (bstep HNW.out.2.2.2 (bstep HB2.out HB4.out))
  go_wp2
  go_ret2
  try rw [← hbx]
  refine ⟨_, rfl, ?_, HB5.out⟩
  try rw [if_neg h0]
  exact World.ownsRow_nil _ _ _ _
end Go.Mk
