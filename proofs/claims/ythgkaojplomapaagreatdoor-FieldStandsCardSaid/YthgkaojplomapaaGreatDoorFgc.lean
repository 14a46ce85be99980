/-
  Proved: tally.compare and isFirst of package field as plain
  Proved: each of cards by tallyOf, slices.MaxFunc of tallies and bestTally as plain
-/
import Derived.Test.YthgkaojplomapaaGreatDoorFgb
import Derived.Test.YthgkaojplomapaaGreatDoorFrk
set_option maxHeartbeats 32000000
set_option linter.unusedVariables false
set_option linter.unusedSimpArgs false
open Go Go.Proofs Go.RowKit
set_option maxRecDepth 100000
section
namespace Go.Mk
theorem ints3 {w : World} {g : Nat} {t : Tal} (k : w.heap[g]? = some (.cells #[.int .i64 t.a, .int .i64 t.b, .int .i64 t.c] 103 (0, 0))) : IntsZ w (some ⟨g, 0, none⟩) 3 t.l := by
  refine ⟨rfl, fun _ => ⟨g, 0, rfl, (Array.getElem?_eq_some_iff.1 k).1, fun i z hz => ?_⟩⟩
  obtain ⟨⟨c0, c1, c2⟩, _⟩ := three_blk k
  match i, hz with
  | 0, hz => obtain rfl : t.a = z := by simpa [Tal.l] using hz
             exact c0
  | 1, hz => obtain rfl : t.b = z := by simpa [Tal.l] using hz
             exact c1
  | 2, hz => obtain rfl : t.c = z := by simpa [Tal.l] using hz
             exact c2
  | k + 3, hz => simp [Tal.l] at hz
theorem fdTallyCmp_any (t u : Tal) (w : World) : Calls Tryz.prog 43 #[t.val, u.val] w (RetPost (.int .i64 (cmpL t.l u.l)) w) := by
 obtain ⟨g, hg⟩ : ∃ g, w.heap.size = g := ⟨_, rfl⟩
 obtain ⟨w1, hw1⟩ : ∃ w1, (w.alloc (.cells #[.int .i64 t.a, .int .i64 t.b, .int .i64 t.c] 103)).alloc (.cells #[.int .i64 u.a, .int .i64 u.b, .int .i64 u.c] 103) = w1 := ⟨_, rfl⟩
 have hk : w1.heap[g]? = some (.cells #[.int .i64 t.a, .int .i64 t.b, .int .i64 t.c] 103 (0, 0)) ∧ w1.heap[g + 1]? = some (.cells #[.int .i64 u.a, .int .i64 u.b, .int .i64 u.c] 103 (0, 0)) ∧ Below w.heap.size w w1 := by
  obtain ⟨wa, hwa⟩ : ∃ wa, w.alloc (.cells #[.int .i64 t.a, .int .i64 t.b, .int .i64 t.c] 103) = wa := ⟨_, rfl⟩
  rw [hwa] at hw1
  have sa : wa.heap.size = g + 1 := by rw [← hwa, ← hg]; simp
  have ka : wa.heap[g]? = some (.cells #[.int .i64 t.a, .int .i64 t.b, .int .i64 t.c] 103 (0, 0)) := by rw [← hwa, ← hg]; exact World.alloc_heap_new w _
  have kb : w1.heap[g + 1]? = some (.cells #[.int .i64 u.a, .int .i64 u.b, .int .i64 u.c] 103 (0, 0)) := by rw [← hw1, ← sa]; exact World.alloc_heap_new wa _
  have bA : Below w.heap.size w wa := by rw [← hwa]; exact balloc _ (Below.refl _ _)
  have bB : Below wa.heap.size wa w1 := by rw [← hw1]; exact balloc _ (Below.refl _ _)
  exact ⟨(bB.block g (by omega)).trans ka, kb, bstep bA bB⟩
 have HC : Hid (∀ w', Below w1.heap.size w1 w' → Calls Tryz.prog 100 #[.slice (some ⟨g, 0, none⟩) 3 3, .slice (some ⟨g + 1, 0, none⟩) 3 3] w' (RetPost (.int .i64 (cmpL t.l u.l)) w')) := Lib.hid fun w' hb => slCompareI_any t.l u.l 3 3 3 3 _ _ w' ((ints3 hk.1).below hb) ((ints3 hk.2.1).below hb) (by decide) (by decide)
 have HB := Lib.hid hk.2.2
 clear hk
 obtain ⟨ta, tb, tc⟩ := t
 obtain ⟨ua, ub, uc⟩ := u
 generalize cmpL _ _ = y at *
 unfold Tal.val
 dsimp only at *
 go_enter Tryz.func43, Tryz.ntmps43
 go_wp2_with fail
 refine wp_region_held_drew (S := fun w' => Below w1.heap.size w1 w') (by kernel_rfl) ?_ (fun hHeld => ?_)
 ·exact Below.drew (Below.refl _ _)
 refine zV 0 (h := zV 1 (h := ?_))
 try simp only [zP, zQ, zA2, zA3]
 refine zN 2 fun K hKK => ?_
 go_simp
 go_at_call 100
 refine (HC.out _ hHeld).mono ?_
 rintro e w5 ⟨rfl, hb5⟩
 have hX := bstep hHeld hb5
 clear hHeld hb5
 go_wp2_with fail
 refine hKK.out _ _ ?_ (fun hHeld => ?_)
 ·exact hX
 clear hKK K
 try simp only [zP, zQ, zA2, zA3]
 refine zV 3 (h := ?_)
 try simp only [zP, zQ, zA2, zA3]
 refine wpAnyH_done (by kernel_rfl) ?_ _
 go_wp2
 go_ret
 exact ⟨rfl, bstep HB.out hX⟩
theorem undTal : Tryz.prog.underlying 103 = some (.array 3 3) := by kernel_rfl
theorem cellsIntT : Tryz.prog.cellsOf 3 = 1 := by kernel_rfl
theorem l_eq (t u : Tal) : t.l = u.l ↔ t.a = u.a ∧ t.b = u.b ∧ t.c = u.c := by
 unfold Tal.l
 simp
theorem eqTal (t u : Tal) (w : World) : (Op.equalIn 10000 103 t.val u.val).run Tryz.prog w = .ok (decide (t.l = u.l)) w := by
 ·skip
  obtain ⟨i0, hi, hz0, hz1, hz2⟩ := info_parts infoInt
  unfold Tal.val
  show (Op.equalIn (9999 + 1) 103 _ _).run Tryz.prog w = _
  rw [run_equalIn_array w 9999 _ _ undTal hi, cellsIntT]
  have p0 : (part 3 #[.int .i64 t.a, .int .i64 t.b, .int .i64 t.c] (0 * 1)).run Tryz.prog w = .ok (.int .i64 t.a) w := run_part_plain w (by kernel_rfl) rfl
  have p1 : (part 3 #[.int .i64 t.a, .int .i64 t.b, .int .i64 t.c] (1 * 1)).run Tryz.prog w = .ok (.int .i64 t.b) w := run_part_plain w (by kernel_rfl) rfl
  have p2 : (part 3 #[.int .i64 t.a, .int .i64 t.b, .int .i64 t.c] (2 * 1)).run Tryz.prog w = .ok (.int .i64 t.c) w := run_part_plain w (by kernel_rfl) rfl
  have q0 : (part 3 #[.int .i64 u.a, .int .i64 u.b, .int .i64 u.c] (0 * 1)).run Tryz.prog w = .ok (.int .i64 u.a) w := run_part_plain w (by kernel_rfl) rfl
  have q1 : (part 3 #[.int .i64 u.a, .int .i64 u.b, .int .i64 u.c] (1 * 1)).run Tryz.prog w = .ok (.int .i64 u.b) w := run_part_plain w (by kernel_rfl) rfl
  have q2 : (part 3 #[.int .i64 u.a, .int .i64 u.b, .int .i64 u.c] (2 * 1)).run Tryz.prog w = .ok (.int .i64 u.c) w := run_part_plain w (by kernel_rfl) rfl
  have e0 : (Op.equalIn 9999 3 (.int .i64 t.a) (.int .i64 u.a)).run Tryz.prog w = .ok (t.a == u.a) w := run_equalIn_int w 9998 3 .i64 .i64 _ _ Tryz.underlying3
  have e1 : (Op.equalIn 9999 3 (.int .i64 t.b) (.int .i64 u.b)).run Tryz.prog w = .ok (t.b == u.b) w := run_equalIn_int w 9998 3 .i64 .i64 _ _ Tryz.underlying3
  have e2 : (Op.equalIn 9999 3 (.int .i64 t.c) (.int .i64 u.c)).run Tryz.prog w = .ok (t.c == u.c) w := run_equalIn_int w 9998 3 .i64 .i64 _ _ Tryz.underlying3
  have hl2 : decide (t.l = u.l) = ((t.a == u.a) && ((t.b == u.b) && (t.c == u.c))) := by
   rw [Bool.eq_iff_iff]
   simp [l_eq]
  rw [hl2]
  generalize (t.a == u.a) = y0 at e0 ⊢
  generalize (t.b == u.b) = y1 at e1 ⊢
  generalize (t.c == u.c) = y2 at e2 ⊢
  clear hl2
  cases y0 <;> cases y1 <;> cases y2 <;>
   simp [Op.eqItems, List.range, List.range.loop, Sem.run_bind, p0, p1, p2, q0, q1, q2, e0, e1, e2, Result.andThen_ok, Sem.run_pure]
theorem guardTal (x y : Operand) (fs gs : Array Value) (w : World) : (eqGuard .eql 103 x y (.agg fs) (.agg gs)).run Tryz.prog w = .ok () w := by kernel_rfl
theorem fdIsFirst_any (r : CardR) (u : Tal) (w : World) (hZ : CardZ w r) (hn : r.nh ≤ 1000) (hs : ∀ x ∈ r.H, x.size ≤ 5000) :
    Calls Tryz.prog 44 #[r.val, u.val] w (RetPost (.bool (decide (0 < (talL (bls r.H)).a) && decide ((talL (bls r.H)).l = u.l))) w) := by
  obtain ⟨g, hg⟩ : ∃ g, w.heap.size = g := ⟨_, rfl⟩
  obtain ⟨w1, hw1⟩ : ∃ w1, (w.alloc (.cells #[.string r.s, .slice r.AH r.nh r.ch, .slice r.AO r.no r.co, .bool r.rt] 94)).alloc (.cells #[.int .i64 u.a, .int .i64 u.b, .int .i64 u.c] 103) = w1 := ⟨_, rfl⟩
  have hb1 : Below w.heap.size w w1 := by rw [← hw1]; exact balloc _ (balloc _ (Below.refl _ _))
  have x0 : w1.cell? ⟨g, 0, none⟩ = some (.string r.s) := by rw [← hw1, ← hg]; simp
  have x1 : w1.cell? ⟨g, 1, none⟩ = some (.slice r.AH r.nh r.ch) := by rw [← hw1, ← hg]; simp
  have x2 : w1.cell? ⟨g, 2, none⟩ = some (.slice r.AO r.no r.co) := by rw [← hw1, ← hg]; simp
  have x3 : w1.cell? ⟨g, 3, none⟩ = some (.bool r.rt) := by rw [← hw1, ← hg]; simp
  have u0 : w1.cell? ⟨g + 1, 0, none⟩ = some (.int .i64 u.a) := by rw [← hw1, ← hg]; simp
  have u1 : w1.cell? ⟨g + 1, 1, none⟩ = some (.int .i64 u.b) := by rw [← hw1, ← hg]; simp
  have u2 : w1.cell? ⟨g + 1, 2, none⟩ = some (.int .i64 u.c) := by rw [← hw1, ← hg]; simp
  have hs1 : g + 1 < w1.heap.size := by rw [← hw1, ← hg]; simp
  have hC := fdTally_any r w1 (hZ.below hb1) hn hs
  obtain ⟨t, ht⟩ : ∃ t, talL (bls r.H) = t := ⟨_, rfl⟩
  rw [ht] at hC ⊢
  have HB1 := Lib.hid hb1
  have HU := Lib.hid (And.intro hs1 (And.intro u0 (And.intro u1 u2)))
  clear hZ hs hb1 hs1 u0 u1 u2 ht
  obtain ⟨s, AH, nh, ch, HH, AO, no, co, O, rt⟩ := r
  have HE := Lib.hid (fun w => eqTal t u w)
  obtain ⟨bb, hbb⟩ : ∃ bb, decide (t.l = u.l) = bb := ⟨_, rfl⟩
  rw [hbb] at HE ⊢
  clear hbb
  obtain ⟨ta, tb, tc⟩ := t
  obtain ⟨ua, ub, uc⟩ := u
  unfold CardR.val Tal.val at *
  dsimp only at *
  have hc : (0 < ta ∧ (decide (0 < ta) && bb) = bb) ∨ (¬ 0 < ta ∧ (decide (0 < ta) && bb) = false) := by
    by_cases h0 : 0 < ta
    · exact .inl ⟨h0, by simp [h0]⟩
    · exact .inr ⟨h0, by simp [h0]⟩
  rcases hc with ⟨h0, hr⟩ | ⟨h0, hr⟩
  all_goals
   rw [hr]
   clear hr
   go_enter Tryz.func44, Tryz.ntmps44
   go_wp2_with fail
   refine hC.mono ?_
   rintro e w2 ⟨rfl, hb2⟩
   obtain ⟨h1, h2, h3, h4⟩ := HU.out
   obtain ⟨q, hq⟩ : ∃ q, w2.heap.size = q := ⟨_, rfl⟩
   obtain ⟨w3, hw3⟩ : ∃ w3, w2.alloc (.cells #[.int .i64 ta, .int .i64 tb, .int .i64 tc] 103) = w3 := ⟨_, rfl⟩
   have hb3 : Below w1.heap.size w1 w3 := by rw [← hw3]; exact hb2.alloc hb2.size _
   have v0 : w3.cell? ⟨q, 0, none⟩ = some (.int .i64 ta) := by rw [← hw3, ← hq]; simp
   have v1 : w3.cell? ⟨q, 1, none⟩ = some (.int .i64 tb) := by rw [← hw3, ← hq]; simp
   have v2 : w3.cell? ⟨q, 2, none⟩ = some (.int .i64 tc) := by rw [← hw3, ← hq]; simp
   have y0 := (hb3.cell (p := ⟨g + 1, 0, none⟩) h1).trans h2
   have y1 := (hb3.cell (p := ⟨g + 1, 1, none⟩) h1).trans h3
   have y2 := (hb3.cell (p := ⟨g + 1, 2, none⟩) h1).trans h4
   have HF := Lib.hid (bstep HB1.out hb3)
   have he1 := HE.out w3
   have he2 := fun x y => guardTal x y #[.int .i64 ta, .int .i64 tb, .int .i64 tc] #[.int .i64 ua, .int .i64 ub, .int .i64 uc] w3
   clear h1 h2 h3 h4 hb2 hb3 x0 x1 x2 x3 hC HU HB1 hw1 hg
   go_wp2
   go_ret
   exact ⟨rfl, HF.out⟩
end Go.Mk
end
section
namespace Go.Mk
def OwnTals (w : World) (B : Nat) (v : Value) (L : List Tal) : Prop := w.ownsRow B 103 3 v L.length (L.flatMap Tal.cells)
def TalsZ (w : World) (A : Option Addr) (n : Nat) (L : List Tal) : Prop :=
 L.length = n ∧ (0 < n → ∃ b off, A = some ⟨b, off, none⟩ ∧ b < w.heap.size ∧ ∀ (j : Nat) (t : Tal), L[j]? = some t → w.cell? ⟨b, off + j * 3, none⟩ = some (.int .i64 t.a) ∧ w.cell? ⟨b, off + j * 3 + 1, none⟩ = some (.int .i64 t.b) ∧ w.cell? ⟨b, off + j * 3 + 2, none⟩ = some (.int .i64 t.c))
theorem TalsZ.below {w w' : World} {A : Option Addr} {n : Nat} {L : List Tal} (h : TalsZ w A n L) (hb : Below w.heap.size w w') : TalsZ w' A n L := by
 refine ⟨h.1, fun h0 => ?_⟩
 obtain ⟨b, off, e, hlt, hc⟩ := h.2 h0
 refine ⟨b, off, e, Nat.lt_of_lt_of_le hlt hb.size, fun j p hp => ?_⟩
 obtain ⟨h1, h2, h3⟩ := hc j p hp
 exact ⟨(hb.cell (p := ⟨b, _, none⟩) hlt).trans h1, (hb.cell (p := ⟨b, _, none⟩) hlt).trans h2, (hb.cell (p := ⟨b, _, none⟩) hlt).trans h3⟩
theorem TalsZ.at_ {w : World} {A : Option Addr} {n : Nat} {L : List Tal} (h : TalsZ w A n L) {k : Nat} (hk : k < n) : ∃ b off t, A = some ⟨b, off, none⟩ ∧ b < w.heap.size ∧ L[k]? = some t ∧ w.cell? ⟨b, off + k * 3, none⟩ = some (.int .i64 t.a) ∧ w.cell? ⟨b, off + k * 3 + 1, none⟩ = some (.int .i64 t.b) ∧ w.cell? ⟨b, off + k * 3 + 2, none⟩ = some (.int .i64 t.c) := by
 obtain ⟨b, off, e, hlt, hc⟩ := h.2 (by omega)
 have hl : k < L.length := by rw [h.1]; exact hk
 exact ⟨b, off, L[k], e, hlt, List.getElem?_eq_getElem hl, hc k _ (List.getElem?_eq_getElem hl)⟩
theorem tal_at : ∀ (L : List Tal) (i : Nat) (t : Tal) (c : Nat), L[i]? = some t → c < 3 → (L.flatMap Tal.cells)[i * 3 + c]? = t.cells[c]?
 | [], i, p, c, h, _ => by simp at h
 | x :: L, 0, p, c, h, hc => by
  obtain rfl : x = p := by simpa using h
  rw [List.flatMap_cons, List.getElem?_append_left (by simp [Tal.cells]; omega)]
  simp
 | x :: L, i + 1, p, c, h, hc => by
  rw [List.flatMap_cons, List.getElem?_append_right (by simp [Tal.cells]; omega), show (i + 1) * 3 + c - x.cells.length = i * 3 + c by simp [Tal.cells]; omega]
  exact tal_at L i p c (by simpa using h) hc
theorem TalsZ.of_own {w : World} {B : Nat} {v : Value} {L : List Tal} (h : OwnTals w B v L) : ∃ A c, v = .slice A L.length c ∧ TalsZ w A L.length L := by
 rcases h.2 with ⟨a, b⟩ | ⟨g, cap, cur, a, b, c, d, e1, f, hx⟩
 ·exact ⟨none, 0, by rw [a, b], rfl, fun hn => absurd hn (by omega)⟩
 ·refine ⟨_, cap, a, rfl, fun _ => ⟨g, 0, rfl, (Array.getElem?_eq_some_iff.1 c).1, fun j p hp => ?_⟩⟩
  have hj := (List.getElem?_eq_some_iff.1 hp).1
  unfold OwnTals at h
  rw [a] at h
  refine ⟨?_, ?_, ?_⟩ <;> rw [Nat.zero_add]
  ·rw [World.ownsRow.cellAt h (j * 3) (by omega)]; exact (tal_at _ j _ 0 hp (by decide)).trans rfl
  ·rw [World.ownsRow.cellAt h (j * 3 + 1) (by omega)]; exact (tal_at _ j _ 1 hp (by decide)).trans rfl
  ·rw [World.ownsRow.cellAt h (j * 3 + 2) (by omega)]; exact (tal_at _ j _ 2 hp (by decide)).trans rfl
theorem OwnTals.next {w1 : World} {B : Nat} {v' : Value} {L : List Tal} {p : Tal} (h : w1.ownsRow B 103 3 v' (L.length + 1) (L.flatMap Tal.cells ++ p.cells)) : OwnTals w1 B v' (L ++ [p]) := by
 unfold OwnTals
 rw [List.length_append, List.length_singleton, List.flatMap_append, List.flatMap_singleton]
 exact h
theorem infoTal : (Tryz.prog.info? 103).map (fun i => (i.zero, i.size, i.bytes)) = some (some (.agg #[.int .i64 0, .int .i64 0, .int .i64 0]), 3, 24) := by kernel_rfl
def talR (r : CardR) : Tal := talL (bls r.H)
theorem fdEachCT_any (L : List CardR) (n cap : Nat) (A : Option Addr) (w : World) (hZ : Cards w A n L) (hn : n ≤ 1000) (hs : ∀ r ∈ L, r.nh ≤ 1000 ∧ ∀ x ∈ r.H, x.size ≤ 5000) :
  Calls Tryz.prog 98 #[.slice A n cap, .func (.func 42) #[] #[]] w (fun e w' => ∃ v, e = .returned v ∧ OwnTals w' w.heap.size v (L.map talR) ∧ Below w.heap.size w w') := by
 obtain ⟨i0, hi, hz0, hz1, hz2⟩ := info_parts infoTal
 have hni : (n : Int) ≤ 1000 := by omega
 have H := Lib.hid hZ
 have HL := Lib.hid hZ.1
 have HS := Lib.hid hs
 clear hZ hs
 go_enter Tryz.func98, Tryz.ntmps98
 go_wp2
 go_loopw [5, 10] (fun v i wr => ∃ k : Nat, k ≤ n ∧ i = .int .i64 k ∧ OwnTals wr w.heap.size v ((L.take k).map talR) ∧ Below w.heap.size w wr) (fun _ i _ => n - (intOf i).toNat)
 case atStart => exact ⟨0, by omega, rfl, World.ownsRow_nil _ _ _ _, Below.refl _ _⟩
 case round =>
  obtain ⟨k, hk, rfl, hown, hb⟩ := hrel
  by_cases hlt : k < n
  ·obtain ⟨b', off, r, rfl, hbl, hx, ⟨hc0, hc1, hc2, hc3⟩, hCZ⟩ := (H.out.below hb).at_ hlt
   have hki : (k : Int) < (n : Int) := by omega
   have hk0 : (0 : Int) ≤ (k : Int) := by omega
   have hkt : ((k : Int)).toNat = k := by omega
   have hlen : ((L.take k).map talR).length = k := by rw [List.length_map, List.length_take, HL.out]; omega
   have hst : (L.take (k + 1)).map talR = (L.take k).map talR ++ [talR r] := by rw [List.take_add_one, hx, Option.toList_some, List.map_append]; rfl
   obtain ⟨hr1, hr2⟩ := HS.out r (List.mem_of_getElem? hx)
   have Hst := Lib.hid hst
   have Hlen := Lib.hid hlen
   have HOWN := Lib.hid hown
   have HB := Lib.hid hb
   obtain ⟨p, hp⟩ : ∃ p, wr.heap.size = p := ⟨_, rfl⟩
   obtain ⟨wx, hwx⟩ : ∃ wx, wr.alloc (.cells #[.string r.s, .slice r.AH r.nh r.ch, .slice r.AO r.no r.co, .bool r.rt] 94) = wx := ⟨_, rfl⟩
   have hbx : Below w.heap.size w wx := by rw [← hwx]; exact hb.alloc hb.size _
   have hbwx : Below wr.heap.size wr wx := by rw [← hwx]; exact balloc _ (Below.refl _ _)
   have hN := fdTally_any r wx (hCZ.below hbwx) hr1 hr2
   have x0 : wx.cell? ⟨p, 0, none⟩ = some (.string r.s) := by rw [← hwx, ← hp]; simp
   have x1 : wx.cell? ⟨p, 1, none⟩ = some (.slice r.AH r.nh r.ch) := by rw [← hwx, ← hp]; simp
   have x2 : wx.cell? ⟨p, 2, none⟩ = some (.slice r.AO r.no r.co) := by rw [← hwx, ← hp]; simp
   have x3 : wx.cell? ⟨p, 3, none⟩ = some (.bool r.rt) := by rw [← hwx, ← hp]; simp
   have HBX := Lib.hid hbx
   have HOX : Hid (OwnTals wx w.heap.size _ ((L.take k).map talR)) := Lib.hid (by rw [← hwx]; exact World.ownsRow.alloc hown _)
   rw [show talL (bls r.H) = talR r from rfl] at hN
   generalize talR r = t at *
   clear hst hlen hx hown hb hbx hbwx hCZ hr1 hr2
   obtain ⟨s, AH, nh, ch, HH, AO, no, co, O, rt⟩ := r
   obtain ⟨ta, tb, tc⟩ := t
   unfold CardR.val Tal.val at hN
   dsimp only at *
   go_wp2_with fail
   refine hN.mono ?_
   rintro e w5 ⟨rfl, hb5⟩
   have hb15 := bstep HBX.out hb5
   have hown5 : OwnTals w5 w.heap.size _ ((L.take k).map talR) := ownN HOX.out hb5
   clear hb5 hN
   go_wp2_with (at_builtin; refine wpList_append_own _ rfl _ _ 172 rfl w.heap.size 103 i0 (.agg #[.int .i64 0, .int .i64 0, .int .i64 0]) 3 24 Tryz.underlying172 hi hz0 hz1 hz2 rfl (by decide) _ _ _ rfl (World.ownsRow.alloc hown5 _) ⟨w5.heap.size, 0, none⟩ 1 1 (Tal.cells ⟨ta, tb, tc⟩) rfl rfl ?c1 ?c2 ?c3 ?c4 ?c5 ?_)
   case c1 =>
    intro j u hj
    match j, hj with
    | 0, hj => simp [Tal.cells] at hj; subst hj; simp [Addr.add]
    | 1, hj => simp [Tal.cells] at hj; subst hj; simp [Addr.add]
    | 2, hj => simp [Tal.cells] at hj; subst hj; simp [Addr.add]
   case c2 => intro u hu; simp [Tal.cells] at hu; rcases hu with rfl | rfl | rfl <;> rfl
   case c3 => unfold maxLen; have := Hlen.out; omega
   case c4 => have := Hlen.out; omega
   case c5 => have := hb15.size; simp; omega
   intro v' w2 hown' hgrow _
   have hb2 : Below w.heap.size w w2 := (hb15.alloc hb15.size _).grown hgrow (by have := hb15.size; simp; omega) (fun r hr => (World.ownsRow.lt hown5 r hr).1)
   have ho2 : OwnTals w2 w.heap.size v' ((L.take (k + 1)).map talR) := by
    rw [Hst.out]
    refine OwnTals.next ?_
    simp only [List.length_map, List.length_take, List.map_take] at hown' ⊢
    exact hown'
   clear hown' hgrow hown5 hb15 hc0 hc1 hc2 hc3
   go_wp2
   go_roundw
   case rel => exact ⟨k + 1, by omega, by go_num, ho2, hb2⟩
   case measure => simp [intOf]; omega
  ·have hkn : k = n := by omega
   rw [hkn, List.take_of_length_le (by rw [HL.out]; omega)] at hown
   have HO := Lib.hid hown
   clear hown
   go_wp2
   go_ret
   exact ⟨_, rfl, HO.out, hb⟩
def maxT (m : Tal) (L : List Tal) : Tal := L.foldl (fun m x => if 0 < cmpL x.l m.l then x else m) m
theorem maxT_drop {L : List Tal} {k : Nat} {x : Tal} (h : L[k]? = some x) (m : Tal) : maxT m (L.drop k) = maxT (if 0 < cmpL x.l m.l then x else m) (L.drop (k + 1)) := by
 obtain ⟨hk, rfl⟩ := List.getElem?_eq_some_iff.1 h
 rw [List.drop_eq_getElem_cons hk]; rfl
def MaxI (w : World) (g : Nat) (m : Tal) (wr : World) : Prop :=
 wr.heap[g]? = some (.cells #[.int .i64 0, .int .i64 0, .int .i64 0] 103 (0, 0)) ∧ wr.heap[g + 1]? = some (.cells #[.int .i64 m.a, .int .i64 m.b, .int .i64 m.c] 103 (0, 0)) ∧ Below w.heap.size w wr
theorem MaxI.next {w wr wx : World} {g : Nat} {t : Tal} (h : MaxI w g t wr) (hb : Below wr.heap.size wr wx) : MaxI w g t wx := by
 obtain ⟨h2, h3, h4⟩ := h
 have l1 := (Array.getElem?_eq_some_iff.1 h3).1
 exact ⟨(hb.block g (by omega)).trans h2, (hb.block (g + 1) (by omega)).trans h3, bstep h4 hb⟩
theorem MaxI.set {w wr : World} {g : Nat} {t : Tal} (h : MaxI w g t wr) (hg : w.heap.size ≤ g) (u : Tal) :
  MaxI w g u (((wr.setCell ⟨g + 1, 0, none⟩ (.int .i64 u.a)).setCell ⟨g + 1, 1, none⟩ (.int .i64 u.b)).setCell ⟨g + 1, 2, none⟩ (.int .i64 u.c)) := by
 obtain ⟨h2, h3, h4⟩ := h
 exact ⟨(other_blk wr (by omega) _ _ _).trans h2, three_set h3 _ _ _, three_below h4 (by omega) _ _ _⟩
theorem slMaxFT_any (L : List Tal) (n cap : Nat) (A : Option Addr) (w : World) (hZ : TalsZ w A n L) (hn : n ≤ 1000) (h0 : 0 < n) (m0 : Tal) (hm0 : L[0]? = some m0) :
  Calls Tryz.prog 97 #[.slice A n cap, .func (.func 43) #[] #[]] w (RetPost (maxT m0 (L.drop 1)).val w) := by
 have hni : (n : Int) ≤ 1000 := by omega
 have hn1 : ¬ (n : Int) < 1 := by omega
 have hn0 : (0 : Int) < (n : Int) := by omega
 obtain ⟨b', off, rfl, hbl, hcs⟩ := hZ.2 h0
 obtain ⟨c0, c1, c2⟩ := hcs 0 m0 hm0
 simp only [Nat.zero_mul, Nat.add_zero] at c0 c1 c2
 obtain ⟨g, hg⟩ : ∃ g, w.heap.size = g := ⟨_, rfl⟩
 obtain ⟨wa, hwa⟩ : ∃ wa, w.alloc (.cells #[.int .i64 0, .int .i64 0, .int .i64 0] 103) = wa := ⟨_, rfl⟩
 obtain ⟨w1, hw1⟩ : ∃ w1, wa.alloc (.cells #[.int .i64 m0.a, .int .i64 m0.b, .int .i64 m0.c] 103) = w1 := ⟨_, rfl⟩
 have hI : MaxI w g m0 w1 := by
  have sa : wa.heap.size = g + 1 := by rw [← hwa, ← hg]; simp
  have ka : wa.heap[g]? = some (.cells #[.int .i64 0, .int .i64 0, .int .i64 0] 103 (0, 0)) := by rw [← hwa, ← hg]; exact World.alloc_heap_new w _
  have kb : w1.heap[g + 1]? = some (.cells #[.int .i64 m0.a, .int .i64 m0.b, .int .i64 m0.c] 103 (0, 0)) := by rw [← hw1, ← sa]; exact World.alloc_heap_new wa _
  have bA : Below w.heap.size w wa := by rw [← hwa]; exact balloc _ (Below.refl _ _)
  have bB : Below wa.heap.size wa w1 := by rw [← hw1]; exact balloc _ (Below.refl _ _)
  exact ⟨(bB.block g (by omega)).trans ka, kb, bstep bA bB⟩
 have bA : Below w.heap.size w wa := by rw [← hwa]; exact balloc _ (Below.refl _ _)
 have a0 := (bA.cell (p := ⟨b', _, none⟩) hbl).trans c0
 have a1 := (bA.cell (p := ⟨b', _, none⟩) hbl).trans c1
 have a2 := (bA.cell (p := ⟨b', _, none⟩) hbl).trans c2
 have H := Lib.hid hZ
 have HL := Lib.hid hZ.1
 obtain ⟨T, hT⟩ : ∃ T, maxT m0 (L.drop 1) = T := ⟨_, rfl⟩
 rw [hT]
 have HT := Lib.hid hT
 have HI := Lib.hid hI
 have HG := Lib.hid hg
 clear hZ hcs hT hI bA hbl hm0 c0 c1 c2
 have sa : wa.heap.size = g + 1 := by rw [← hwa, ← hg]; simp
 have sa : wa.heap.size = g + 1 := by rw [← hwa, ← hg]; simp
 go_enter Tryz.func97, Tryz.ntmps97
 go_wp2
 clear a0 a1 a2
 go_loopw [6] (fun i wr => ∃ (k : Nat) (m : Tal), 1 ≤ k ∧ k ≤ n ∧ i = .int .i64 k ∧ Hid (maxT m (L.drop k) = T) ∧ MaxI w g m wr) (fun i _ => n - (RowKit.intOf i).toNat)
 case atStart => exact ⟨1, m0, Nat.le_refl _, h0, rfl, HT, HI.out⟩
 case round =>
  obtain ⟨k, m, hk1, hk, rfl, HK, hJ⟩ := hrel
  have hgw : w.heap.size ≤ g := by have := HG.out; omega
  by_cases hlt : k < n
  ·obtain ⟨bq, oq, x, e0, hbl, hx, d0, d1, d2⟩ := (H.out.below hJ.2.2).at_ hlt
   obtain ⟨rfl, rfl⟩ : b' = bq ∧ off = oq := by simpa using e0
   have hki : (k : Int) < (n : Int) := by omega
   have hk0 : (0 : Int) ≤ (k : Int) := by omega
   have hkt : ((k : Int)).toNat = k := by omega
   have hst := HK.out
   rw [maxT_drop hx] at hst
   have hC := fun w' => fdTallyCmp_any x m w'
   obtain ⟨q, hq⟩ : ∃ q, cmpL x.l m.l = q := ⟨_, rfl⟩
   rw [hq] at hC hst
   have HC := Lib.hid hC
   have hg1 := (Array.getElem?_eq_some_iff.1 hJ.2.1).1
   obtain ⟨⟨c0, c1, c2⟩, f0, f1, f2⟩ := three_blk hJ.2.1
   have HJ := Lib.hid hJ
   obtain ⟨xa, xb, xc⟩ := x
   obtain ⟨ma, mb, mc⟩ := m
   unfold Tal.val at HC
   dsimp only at *
   have HX : Hid (∀ w', Below wr.heap.size wr w' → w'.cell? ⟨b', off + k * 3, none⟩ = some (.int .i64 xa) ∧ w'.cell? ⟨b', off + k * 3 + 1, none⟩ = some (.int .i64 xb) ∧ w'.cell? ⟨b', off + k * 3 + 2, none⟩ = some (.int .i64 xc) ∧ w'.cell? ⟨g + 1, 0, none⟩ = some (.int .i64 ma) ∧ w'.cell? ⟨g + 1, 1, none⟩ = some (.int .i64 mb) ∧ w'.cell? ⟨g + 1, 2, none⟩ = some (.int .i64 mc) ∧ Below wr.heap.size wr w') := Lib.hid fun w' hb =>
    ⟨(hb.cell (p := ⟨b', _, none⟩) hbl).trans d0, (hb.cell (p := ⟨b', _, none⟩) hbl).trans d1, (hb.cell (p := ⟨b', _, none⟩) hbl).trans d2, (hb.cell (p := ⟨g + 1, 0, none⟩) hg1).trans c0, (hb.cell (p := ⟨g + 1, 1, none⟩) hg1).trans c1, (hb.cell (p := ⟨g + 1, 2, none⟩) hg1).trans c2, hb⟩
   have Hst := Lib.hid hst
   clear hx hq hst hC HK hJ d0 d1 d2 c0 c1 c2 f0 f1 f2 hbl hg1 sa e0
   go_wp2
   refine wp_region_held_drew (S := fun w' => w'.cell? ⟨b', off + k * 3, none⟩ = some (.int .i64 xa) ∧ w'.cell? ⟨b', off + k * 3 + 1, none⟩ = some (.int .i64 xb) ∧ w'.cell? ⟨b', off + k * 3 + 2, none⟩ = some (.int .i64 xc) ∧ w'.cell? ⟨g + 1, 0, none⟩ = some (.int .i64 ma) ∧ w'.cell? ⟨g + 1, 1, none⟩ = some (.int .i64 mb) ∧ w'.cell? ⟨g + 1, 2, none⟩ = some (.int .i64 mc) ∧ Below wr.heap.size wr w') (by kernel_rfl) ?_ (fun hHeld => ?_)
   ·exact HX.out _ (Below.drew (Below.refl _ _))
   refine zV 0 (h := zV 1 (h := zV 2 (h := zV 3 (h := zV 4 (h := zV 5 (h := ?_))))))
   try simp only [zP, zQ, zA2, zA3]
   refine zN 6 fun K hKK => ?_
   go_simp
   go_at_call 43
   refine (HC.out _).mono ?_
   rintro e w5 ⟨rfl, hb5⟩
   have hX := bstep hHeld.2.2.2.2.2.2 hb5
   clear hHeld hb5
   go_wp2_with fail
   refine hKK.out _ _ ?_ (fun hHeld => ?_)
   ·exact HX.out _ hX
   clear hKK K
   try simp only [zP, zQ, zA2, zA3]
   refine zV 7 (h := ?_)
   try simp only [zP, zQ, zA2, zA3]
   refine wpAnyH_done (by kernel_rfl) ?_ _
   have hJ5 := HJ.out.next hX
   obtain ⟨⟨c0, c1, c2⟩, f0, f1, f2⟩ := three_blk hJ5.2.1
   obtain ⟨d0, d1, d2, _⟩ := HX.out _ hX
   have HJ5 := Lib.hid hJ5
   clear hHeld hJ5 hX
   by_cases hq : 0 < q
   ·have hs := Hst.out
    rw [if_pos hq] at hs
    have HS := Lib.hid hs
    have HJ6 := Lib.hid (HJ5.out.set hgw ⟨xa, xb, xc⟩)
    clear hs
    go_wp2
    exact ⟨⟨k + 1, ⟨xa, xb, xc⟩, by omega, by omega, by go_num, HS, HJ6.out⟩, by simp [RowKit.intOf]; omega⟩
   ·have hs := Hst.out
    rw [if_neg hq] at hs
    have HS := Lib.hid hs
    clear hs
    go_wp2
    exact ⟨⟨k + 1, ⟨ma, mb, mc⟩, by omega, by omega, by go_num, HS, HJ5.out⟩, by simp [RowKit.intOf]; omega⟩
  ·have hst := HK.out
   rw [List.drop_eq_nil_of_le (by rw [HL.out]; omega)] at hst
   obtain rfl : m = T := hst
   obtain ⟨⟨d0, d1, d2⟩, _⟩ := three_blk hJ.2.1
   obtain ⟨⟨e0, e1, e2⟩, f0, f1, f2⟩ := three_blk hJ.1
   have HR := Lib.hid (three_set hJ.1 (.int .i64 m.a) (.int .i64 m.b) (.int .i64 m.c))
   have HB := Lib.hid (three_below hJ.2.2 hgw (.int .i64 m.a) (.int .i64 m.b) (.int .i64 m.c))
   clear hJ HK sa
   unfold Tal.val
   go_wp2
   have z0 := Go.Joins.cell_of_block HR.out 0
   have z1 := Go.Joins.cell_of_block HR.out 1
   have z2 := Go.Joins.cell_of_block HR.out 2
   exact bodyPost_ret (v := .agg #[.int .i64 m.a, .int .i64 m.b, .int .i64 m.c]) (by simp [results, Tryz.results97, go_sem, z0, z1, z2]) rfl ⟨rfl, HB.out⟩
def bestT (L : List CardR) : Tal := match L.map talR with
 | [] => ⟨0, 0, 0⟩
 | t :: l => maxT t l
theorem fdBestTally_any (L : List CardR) (n cap : Nat) (A : Option Addr) (w : World) (hZ : Cards w A n L) (hn : n ≤ 1000) (h0 : 0 < n) (hs : ∀ r ∈ L, r.nh ≤ 1000 ∧ ∀ x ∈ r.H, x.size ≤ 5000) :
  Calls Tryz.prog 40 #[.slice A n cap] w (RetPost (bestT L).val w) := by
 obtain ⟨g, hg⟩ : ∃ g, w.heap.size = g := ⟨_, rfl⟩
 obtain ⟨w1, hw1⟩ : ∃ w1, w.alloc (.cells #[.int .i64 0, .int .i64 0, .int .i64 0] 103) = w1 := ⟨_, rfl⟩
 have hb1 : Below w.heap.size w w1 := by rw [← hw1]; exact balloc _ (Below.refl _ _)
 have ka : w1.heap[g]? = some (.cells #[.int .i64 0, .int .i64 0, .int .i64 0] 103 (0, 0)) := by rw [← hw1, ← hg]; exact World.alloc_heap_new w _
 have hE := fdEachCT_any L n cap A w1 (hZ.below hb1) hn hs
 have hlen : (L.map talR).length = n := by rw [List.length_map]; exact hZ.1
 have HM : Hid (∀ (v : Value) (B : Nat) (w' : World), OwnTals w' B v (L.map talR) → ∃ A' c', v = .slice A' n c' ∧ Calls Tryz.prog 97 #[.slice A' n c', .func (.func 43) #[] #[]] w' (RetPost (bestT L).val w')) := Lib.hid fun v B w' ho => by
  obtain ⟨A', c', rfl, hT⟩ := TalsZ.of_own ho
  rw [hlen] at hT ⊢
  refine ⟨A', c', rfl, ?_⟩
  unfold bestT
  cases hm : L.map talR with
  | nil => rw [hm] at hlen; simp at hlen; omega
  | cons t l =>
   rw [hm] at hT
   exact slMaxFT_any (t :: l) n c' A' w' hT hn h0 t rfl
 have HB1 := Lib.hid hb1
 have HK := Lib.hid ka
 have HG := Lib.hid hg
 obtain ⟨T, hT⟩ : ∃ T, bestT L = T := ⟨_, rfl⟩
 rw [hT] at HM ⊢
 clear hZ hn hs hb1 ka hlen hT h0
 unfold Tal.val at *
 go_enter Tryz.func40, Tryz.ntmps40
 go_wp2_with fail
 refine hE.mono ?_
 rintro e w2 ⟨v, rfl, ho, hb2⟩
 obtain ⟨A', c', rfl, hM⟩ := HM.out _ _ _ ho
 have HB2 := Lib.hid hb2
 clear ho hb2 hE
 go_wp2_with fail
 refine hM.mono ?_
 rintro e w3 ⟨rfl, hb3⟩
 have hb13 := bstep HB2.out hb3
 have hg1 : g < w1.heap.size := (Array.getElem?_eq_some_iff.1 HK.out).1
 have hk3 := (hb13.block g hg1).trans HK.out
 obtain ⟨⟨e0, e1, e2⟩, f0, f1, f2⟩ := three_blk hk3
 have HR := Lib.hid (three_set hk3 (.int .i64 T.a) (.int .i64 T.b) (.int .i64 T.c))
 have HF := Lib.hid (three_below (bstep HB1.out hb13) (show w.heap.size ≤ g by omega) (.int .i64 T.a) (.int .i64 T.b) (.int .i64 T.c))
 clear hk3 hb13 hb3 hg1
 go_wp2
 have z0 := Go.Joins.cell_of_block HR.out 0
 have z1 := Go.Joins.cell_of_block HR.out 1
 have z2 := Go.Joins.cell_of_block HR.out 2
 exact bodyPost_ret (v := .agg #[.int .i64 T.a, .int .i64 T.b, .int .i64 T.c]) (by simp [results, Tryz.results40, go_sem, z0, z1, z2]) rfl ⟨rfl, HF.out⟩
end Go.Mk
end
