/-
  Proved: the rows of the first trials: field.each with the first function of field.finalists gives for each row its name and its first trials, in new memory; the trials lie where they lay. Conditions: the rows lie where the slice says.
-/
import Derived.Test.YtclapdfkgafenaaGreatDoorFrk
set_option linter.unusedVariables false
set_option linter.unusedSimpArgs false
open Go Go.Proofs Go.RowKit
set_option maxRecDepth 100000
namespace Go.Mk
def earl (t : Nat) (r : RowR) : RowR := { s := r.s, A := r.A, n := min t r.n, c := r.c, T := r.T.take (min t r.n), rt := false }
theorem cell3_old {w : World} {p g o : Nat} {a b c v : Value} (h : g ≠ p) (s : w.cell? ⟨g, o, none⟩ = some v) : (((w.setCell ⟨p, 0, none⟩ a).setCell ⟨p, 1, none⟩ b).setCell ⟨p, 2, none⟩ c).cell? ⟨g, o, none⟩ = some v := by
  have e : ∀ k : Nat, (⟨p, k, none⟩ : Addr) ≠ ⟨g, o, none⟩ := fun k q => h (congrArg Addr.block q).symm
  rw [World.cell?_setCell_other _ _ _ _ (e 2), World.cell?_setCell_other _ _ _ _ (e 1), World.cell?_setCell_other _ _ _ _ (e 0)]
  exact s
theorem cell3_new {w : World} {p : Nat} {a b c u0 u1 u2 : Value} (s0 : w.cell? ⟨p, 0, none⟩ = some u0) (s1 : w.cell? ⟨p, 1, none⟩ = some u1) (s2 : w.cell? ⟨p, 2, none⟩ = some u2) :
    (((w.setCell ⟨p, 0, none⟩ a).setCell ⟨p, 1, none⟩ b).setCell ⟨p, 2, none⟩ c).cell? ⟨p, 0, none⟩ = some a ∧ (((w.setCell ⟨p, 0, none⟩ a).setCell ⟨p, 1, none⟩ b).setCell ⟨p, 2, none⟩ c).cell? ⟨p, 1, none⟩ = some b ∧ (((w.setCell ⟨p, 0, none⟩ a).setCell ⟨p, 1, none⟩ b).setCell ⟨p, 2, none⟩ c).cell? ⟨p, 2, none⟩ = some c := by
  have t1 : (w.setCell ⟨p, 0, none⟩ a).cell? ⟨p, 1, none⟩ = some u1 := by rw [World.cell?_setCell_other _ _ _ _ (by simp)]; exact s1
  have t2 : ((w.setCell ⟨p, 0, none⟩ a).setCell ⟨p, 1, none⟩ b).cell? ⟨p, 2, none⟩ = some u2 := by rw [World.cell?_setCell_other _ _ _ _ (by simp), World.cell?_setCell_other _ _ _ _ (by simp)]; exact s2
  refine ⟨?_, ?_, World.cell?_setCell_same _ _ _ t2⟩
  · rw [World.cell?_setCell_other _ _ _ _ (by simp), World.cell?_setCell_other _ _ _ _ (by simp)]; exact World.cell?_setCell_same _ _ _ s0
  · rw [World.cell?_setCell_other _ _ _ _ (by simp)]; exact World.cell?_setCell_same _ _ _ t1
set_option maxHeartbeats 4000000 in
theorem fdFinsA_any (r : RowR) (t bx : Nat) (w : World) (hbx : bx < w.heap.size) (hc : w.cell? ⟨bx, 1, none⟩ = some (.int .i64 t)) (ht : t ≤ 1000) (hn : r.n ≤ 1000) (hcap : r.n ≤ r.c) :
    Calls Tryz.prog 113 #[.agg #[.string r.s, .slice r.A r.n r.c, .bool r.rt], .pointer (some ⟨bx, 0, none⟩)] w (RetPost (.agg #[.string r.s, .slice r.A (min t r.n) r.c, .bool false]) w) := by
  obtain ⟨nm, rA, rn, rc, rT, rt⟩ := r
  dsimp only at *
  obtain ⟨g, hg⟩ : ∃ g, w.heap.size = g := ⟨_, rfl⟩
  obtain ⟨w1, hw1⟩ : ∃ w1, w.alloc (.cells #[.string nm, .slice rA rn rc, .bool rt] 61) = w1 := ⟨_, rfl⟩
  have hb1 : Below w.heap.size w w1 := by rw [← hw1]; exact balloc _ (Below.refl _ _)
  have d0 : w1.cell? ⟨g, 0, none⟩ = some (.string nm) := by rw [← hw1, ← hg]; simp
  have d1 : w1.cell? ⟨g, 1, none⟩ = some (.slice rA rn rc) := by rw [← hw1, ← hg]; simp
  have db : w1.cell? ⟨bx, 1, none⟩ = some (.int .i64 t) := (hb1.cell (p := ⟨bx, 1, none⟩) hbx).trans hc
  have hgl : g < w1.heap.size := by rw [← hw1, ← hg]; simp
  obtain ⟨p, hp⟩ : ∃ p, w1.heap.size = p := ⟨_, rfl⟩
  obtain ⟨w2, hw2⟩ : ∃ w2, w1.alloc (.cells #[.string ⟨#[]⟩, .slice none 0 0, .bool false] 61) = w2 := ⟨_, rfl⟩
  have hb2 : Below w1.heap.size w1 w2 := by rw [← hw2]; exact balloc _ (Below.refl _ _)
  have c0 : w2.cell? ⟨g, 0, none⟩ = some (.string nm) := (hb2.cell (p := ⟨g, 0, none⟩) hgl).trans d0
  have c1 : w2.cell? ⟨g, 1, none⟩ = some (.slice rA rn rc) := (hb2.cell (p := ⟨g, 1, none⟩) hgl).trans d1
  have cb : w2.cell? ⟨bx, 1, none⟩ = some (.int .i64 t) := (hb2.cell (p := ⟨bx, 1, none⟩) (Nat.lt_of_lt_of_le hbx hb1.size)).trans db
  have e0 : w2.cell? ⟨p, 0, none⟩ = some (.string ⟨#[]⟩) := by rw [← hw2, ← hp]; simp
  have e1 : w2.cell? ⟨p, 1, none⟩ = some (.slice none 0 0) := by rw [← hw2, ← hp]; simp
  have e2 : w2.cell? ⟨p, 2, none⟩ = some (.bool false) := by rw [← hw2, ← hp]; simp
  have f0 : w2.frozen? ⟨p, 0, none⟩ = false := by rw [← hw2, ← hp]; simp
  have f1 : w2.frozen? ⟨p, 1, none⟩ = false := by rw [← hw2, ← hp]; simp
  have f2 : w2.frozen? ⟨p, 2, none⟩ = false := by rw [← hw2, ← hp]; simp
  have hbp : w.heap.size ≤ p := by rw [← hp]; exact hb1.size
  have HBP := Lib.hid hbp
  have hgp : g ≠ p := by omega
  have hxp : bx ≠ p := by omega
  have hb12 : Below w.heap.size w w2 := bstep hb1 hb2
  obtain ⟨m, hm⟩ : ∃ m, min t rn = m := ⟨_, rfl⟩
  have hmr : m ≤ rc := by omega
  have hmi : (m : Int) ≤ (rc : Int) := by omega
  have hm0 : (0 : Int) ≤ (m : Int) := by omega
  have hmt : ((m : Int)).toNat = m := by omega
  have hmin : (if rn < t then (rn : Int) else (t : Int)) = (m : Int) := by split <;> omega
  have hsl : (if rc = 0 then rA else Option.map (fun x => Addr.add x 0) rA) = rA := by
    split
    · rfl
    · cases rA <;> rfl
  rw [hm]
  have HX : Hid (∀ w' : World, Below w2.heap.size w2 w' → w'.cell? ⟨g, 0, none⟩ = some (.string nm) ∧ w'.cell? ⟨g, 1, none⟩ = some (.slice rA rn rc) ∧ w'.cell? ⟨bx, 1, none⟩ = some (.int .i64 t) ∧ (∃ u0 u1 u2, w'.cell? ⟨p, 0, none⟩ = some u0 ∧ w'.cell? ⟨p, 1, none⟩ = some u1 ∧ w'.cell? ⟨p, 2, none⟩ = some u2) ∧ w'.frozen? ⟨p, 0, none⟩ = false ∧ w'.frozen? ⟨p, 1, none⟩ = false ∧ w'.frozen? ⟨p, 2, none⟩ = false ∧ Below w.heap.size w w') := Lib.hid (fun w' hb => by
    have hg2 : g < w2.heap.size := Nat.lt_of_lt_of_le hgl hb2.size
    have hp2 : p < w2.heap.size := by rw [← hw2, ← hp]; simp
    have hx2 : bx < w2.heap.size := Nat.lt_of_lt_of_le hbx (Nat.le_trans hb1.size hb2.size)
    refine ⟨(hb.cell (p := ⟨g, 0, none⟩) hg2).trans c0, (hb.cell (p := ⟨g, 1, none⟩) hg2).trans c1, (hb.cell (p := ⟨bx, 1, none⟩) hx2).trans cb, ⟨_, _, _, (hb.cell (p := ⟨p, 0, none⟩) hp2).trans e0, (hb.cell (p := ⟨p, 1, none⟩) hp2).trans e1, (hb.cell (p := ⟨p, 2, none⟩) hp2).trans e2⟩, ?_, ?_, ?_, bstep hb12 hb⟩
    · exact (hb.frozen (p := ⟨p, 0, none⟩) hp2).trans f0
    · exact (hb.frozen (p := ⟨p, 1, none⟩) hp2).trans f1
    · exact (hb.frozen (p := ⟨p, 2, none⟩) hp2).trans f2)
  clear hc db d0 d1 hb1 hb2 c0 c1 cb e0 e1 e2 f0 f1 f2 hb12 hbp
  go_enter Tryz.func113, Tryz.ntmps113
  go_wp2
  refine wp_region_held_drew (S := fun w' => w'.cell? ⟨g, 0, none⟩ = some (.string nm) ∧ w'.cell? ⟨g, 1, none⟩ = some (.slice rA rn rc) ∧ w'.cell? ⟨bx, 1, none⟩ = some (.int .i64 t) ∧ (∃ u0 u1 u2, w'.cell? ⟨p, 0, none⟩ = some u0 ∧ w'.cell? ⟨p, 1, none⟩ = some u1 ∧ w'.cell? ⟨p, 2, none⟩ = some u2) ∧ w'.frozen? ⟨p, 0, none⟩ = false ∧ w'.frozen? ⟨p, 1, none⟩ = false ∧ w'.frozen? ⟨p, 2, none⟩ = false ∧ Below w.heap.size w w') (by kernel_rfl) ?_ (fun hHeld => ?_)
  · exact HX.out _ (Below.drew (Below.refl _ _))
  refine wpAnyH_take (i := 0) (oi := _) (v := ?_) rfl (by kernel_rfl) (by kernel_rfl) (by kernel_rfl) (fun _ _ _ h => h) (Or.inl ⟨by rfl, ?_⟩) (by assumption) ?_
  rotate_left
  · rintro w ⟨s0, s1, s2, ⟨u0, u1, u2, s3, s4, s5⟩, s6, s7, s8, s9⟩
    go_simp
    try with_reducible rfl
  try simp only [Act.put, zA1, zA2, zA3, zA4, zA5, zA6]
  refine wpAnyH_take (i := 1) (oi := _) (v := ?_) rfl (by kernel_rfl) (by kernel_rfl) (by kernel_rfl) (fun _ _ _ h => h) (Or.inl ⟨by rfl, ?_⟩) (by assumption) ?_
  rotate_left
  · rintro w ⟨s0, s1, s2, ⟨u0, u1, u2, s3, s4, s5⟩, s6, s7, s8, s9⟩
    go_simp
    try with_reducible rfl
  try simp only [Act.put, zA1, zA2, zA3, zA4, zA5, zA6]
  refine wpAnyH_take (i := 2) (oi := _) (v := ?_) rfl (by kernel_rfl) (by kernel_rfl) (by kernel_rfl) (fun _ _ _ h => h) (Or.inl ⟨by rfl, ?_⟩) (by assumption) ?_
  rotate_left
  · rintro w ⟨s0, s1, s2, ⟨u0, u1, u2, s3, s4, s5⟩, s6, s7, s8, s9⟩
    go_simp
    try with_reducible rfl
  try simp only [Act.put, zA1, zA2, zA3, zA4, zA5, zA6]
  refine wpAnyH_take (i := 3) (oi := _) (v := ?_) rfl (by kernel_rfl) (by kernel_rfl) (by kernel_rfl) (fun _ _ _ h => h) (Or.inl ⟨by rfl, ?_⟩) (by assumption) ?_
  rotate_left
  · rintro w ⟨s0, s1, s2, ⟨u0, u1, u2, s3, s4, s5⟩, s6, s7, s8, s9⟩
    go_simp
    try with_reducible rfl
  try simp only [Act.put, zA1, zA2, zA3, zA4, zA5, zA6]
  refine wpAnyH_take (i := 4) (oi := _) (v := ?_) rfl (by kernel_rfl) (by kernel_rfl) (by kernel_rfl) (fun _ _ _ h => h) (Or.inl ⟨by rfl, ?_⟩) (by assumption) ?_
  rotate_left
  · rintro w ⟨s0, s1, s2, ⟨u0, u1, u2, s3, s4, s5⟩, s6, s7, s8, s9⟩
    go_simp
    try with_reducible rfl
  try simp only [Act.put, zA1, zA2, zA3, zA4, zA5, zA6]
  refine wpAnyH_take (i := 5) (oi := _) (v := ?_) rfl (by kernel_rfl) (by kernel_rfl) (by kernel_rfl) (fun _ _ _ h => h) (Or.inl ⟨by rfl, ?_⟩) (by assumption) ?_
  rotate_left
  · rintro w ⟨s0, s1, s2, ⟨u0, u1, u2, s3, s4, s5⟩, s6, s7, s8, s9⟩
    go_simp
    try with_reducible rfl
  try simp only [Act.put, zA1, zA2, zA3, zA4, zA5, zA6]
  refine wpAnyH_take (i := 6) (oi := _) (v := ?_) rfl (by kernel_rfl) (by kernel_rfl) (by kernel_rfl) (fun _ _ _ h => h) (Or.inl ⟨by rfl, ?_⟩) (by assumption) ?_
  rotate_left
  · rintro w ⟨s0, s1, s2, ⟨u0, u1, u2, s3, s4, s5⟩, s6, s7, s8, s9⟩
    go_simp
    try with_reducible rfl
  try simp only [Act.put, zA1, zA2, zA3, zA4, zA5, zA6]
  refine wpAnyH_take (i := 7) (oi := _) (v := ?_) rfl (by kernel_rfl) (by kernel_rfl) (by kernel_rfl) (fun _ _ _ h => h) (Or.inl ⟨by rfl, ?_⟩) (by assumption) ?_
  rotate_left
  · rintro w ⟨s0, s1, s2, ⟨u0, u1, u2, s3, s4, s5⟩, s6, s7, s8, s9⟩
    go_simp
    try with_reducible rfl
  try simp only [Act.put, zA1, zA2, zA3, zA4, zA5, zA6]
  refine wpAnyH_take (i := 8) (oi := _) (v := ?_) rfl (by kernel_rfl) (by kernel_rfl) (by kernel_rfl) (fun _ _ _ h => h) (Or.inl ⟨by rfl, ?_⟩) (by assumption) ?_
  rotate_left
  · rintro w ⟨s0, s1, s2, ⟨u0, u1, u2, s3, s4, s5⟩, s6, s7, s8, s9⟩
    go_simp
    try with_reducible rfl
  try simp only [Act.put, zA1, zA2, zA3, zA4, zA5, zA6]
  refine wpAnyH_take (i := 9) (oi := _) (v := ?_) rfl (by kernel_rfl) (by kernel_rfl) (by kernel_rfl) (fun _ _ _ h => h) (Or.inl ⟨by rfl, ?_⟩) (by assumption) ?_
  rotate_left
  · rintro w ⟨s0, s1, s2, ⟨u0, u1, u2, s3, s4, s5⟩, s6, s7, s8, s9⟩
    go_simp
    try simp only [hmin]
    try with_reducible rfl
  try simp only [Act.put, zA1, zA2, zA3, zA4, zA5, zA6]
  refine wpAnyH_take (i := 10) (oi := _) (v := ?_) rfl (by kernel_rfl) (by kernel_rfl) (by kernel_rfl) (fun _ _ _ h => h) (Or.inl ⟨by rfl, ?_⟩) (by assumption) ?_
  rotate_left
  · rintro w ⟨s0, s1, s2, ⟨u0, u1, u2, s3, s4, s5⟩, s6, s7, s8, s9⟩
    go_simp
    try simp only [hsl, hm0, hmi, hmt, and_self, if_true]
    try with_reducible rfl
  try simp only [Act.put, zA1, zA2, zA3, zA4, zA5, zA6]
  refine wpAnyH_take (i := 11) (oi := _) (v := ?_) rfl (by kernel_rfl) (by kernel_rfl) (by kernel_rfl) (fun _ _ _ h => h) (Or.inl ⟨by rfl, ?_⟩) (by assumption) ?_
  rotate_left
  · rintro w ⟨s0, s1, s2, ⟨u0, u1, u2, s3, s4, s5⟩, s6, s7, s8, s9⟩
    go_simp
    try with_reducible rfl
  try simp only [Act.put, zA1, zA2, zA3, zA4, zA5, zA6]
  obtain ⟨s0, s1, s2, ⟨u0, u1, u2, s3, s4, s5⟩, s6, s7, s8, s9⟩ := hHeld
  generalize w2.drew = wd at *
  obtain ⟨wf, hwf⟩ : ∃ wf, (((wd.setCell ⟨p, 0, none⟩ (.string nm)).setCell ⟨p, 1, none⟩ (.slice rA m rc)).setCell ⟨p, 2, none⟩ (.bool false)) = wf := ⟨_, rfl⟩
  obtain ⟨y0, y1, y2⟩ := cell3_new (a := .string nm) (b := .slice rA m rc) (c := .bool false) s3 s4 s5
  have z0 := cell3_old (a := .string nm) (b := .slice rA m rc) (c := .bool false) hgp s0
  have z1 := cell3_old (a := .string nm) (b := .slice rA m rc) (c := .bool false) hgp s1
  have z2 := cell3_old (a := .string nm) (b := .slice rA m rc) (c := .bool false) hxp s2
  have zb : Below w.heap.size w (((wd.setCell ⟨p, 0, none⟩ (.string nm)).setCell ⟨p, 1, none⟩ (.slice rA m rc)).setCell ⟨p, 2, none⟩ (.bool false)) := ((s9.setCell HBP.out _).setCell HBP.out _).setCell HBP.out _
  have zf : ∀ o, wd.frozen? ⟨p, o, none⟩ = false → (((wd.setCell ⟨p, 0, none⟩ (.string nm)).setCell ⟨p, 1, none⟩ (.slice rA m rc)).setCell ⟨p, 2, none⟩ (.bool false)).frozen? ⟨p, o, none⟩ = false := fun o h => by simpa using h
  rw [hwf] at y0 y1 y2 z0 z1 z2 zb zf
  refine wpAnyH_ready (rs := [12]) (by kernel_rfl) (by simp) ?_
  refine AllReadyH.cons (o := _) rfl (fun K hKK => ?_) AllReadyH.nil
  go_simp
  try rw [hwf]
  refine hKK.out _ _ ?_ (fun hHeld => ?_)
  · exact ⟨z0, z1, z2, ⟨_, _, _, y0, y1, y2⟩, zf 0 s6, zf 1 s7, zf 2 s8, zb⟩
  clear hKK K
  try simp only [Act.put, zA1, zA2, zA3, zA4, zA5, zA6]
  have ZB := Lib.hid zb
  clear hwf zf z0 z1 z2 zb s0 s1 s2 s3 s4 s5 s6 s7 s8 s9 hHeld
  refine wpAnyH_done (by kernel_rfl) ?_ _
  go_wp2
  exact bodyPost_ret (v := .agg #[.string nm, .slice rA m rc, .bool false]) (by simp [results, Tryz.results113, go_sem, y0, y1, y2]) rfl ⟨rfl, ZB.out⟩
def OwnEarl (w : World) (B : Nat) (v : Value) (L : List RowR) : Prop := w.ownsRow B 61 3 v L.length (L.flatMap rowC)
theorem OwnEarl.next {w1 : World} {B : Nat} {v' : Value} {L : List RowR} {p : RowR} (h : w1.ownsRow B 61 3 v' (L.length + 1) (L.flatMap rowC ++ rowC p)) : OwnEarl w1 B v' (L ++ [p]) := by
  unfold OwnEarl
  rw [List.length_append, List.flatMap_append]
  simpa using h
set_option maxHeartbeats 4000000 in
theorem fdEachRR_any (L : List RowR) (n cap t bx : Nat) (A : Option Addr) (w : World) (hZ : Rows w A n L) (hn : n ≤ 1000) (hs : ∀ r ∈ L, r.n ≤ 1000) (hbx : bx < w.heap.size) (hc : w.cell? ⟨bx, 1, none⟩ = some (.int .i64 t)) (ht : t ≤ 1000) :
    Calls Tryz.prog 112 #[.slice A n cap, .func (.func 113) #[] #[.pointer (some ⟨bx, 0, none⟩)]] w (fun e w' => ∃ v, e = .returned v ∧ OwnEarl w' w.heap.size v (L.map (earl t)) ∧ Below w.heap.size w w') := by
  obtain ⟨i0, hi, hz0, hz1, hz2⟩ := info_parts infoRow
  have hni : (n : Int) ≤ 1000 := by omega
  have H := Lib.hid hZ
  have HL := Lib.hid hZ.1
  have HS := Lib.hid hs
  have HC := Lib.hid (And.intro hbx hc)
  clear hZ hs hbx hc
  go_enter Tryz.func112, Tryz.ntmps112
  go_wp2
  go_loopw [5, 10] (fun v i wr => ∃ k : Nat, k ≤ n ∧ i = .int .i64 k ∧ OwnEarl wr w.heap.size v ((L.take k).map (earl t)) ∧ Below w.heap.size w wr) (fun _ i _ => n - (intOf i).toNat)
  case atStart => exact ⟨0, by omega, rfl, World.ownsRow_nil _ _ _ _, Below.refl _ _⟩
  case round =>
    obtain ⟨k, hk, rfl, hown, hb⟩ := hrel
    by_cases hlt : k < n
    · obtain ⟨b', off, r, rfl, hbl, hx, ⟨hc0, hc1, hc2⟩, _, hcap⟩ := (H.out.below hb).at_ hlt
      have hki : (k : Int) < (n : Int) := by omega
      have hk0 : (0 : Int) ≤ (k : Int) := by omega
      have hkt : ((k : Int)).toNat = k := by omega
      have hlen : ((L.take k).map (earl t)).length = k := by rw [List.length_map, List.length_take, HL.out]; omega
      have hst : (L.take (k + 1)).map (earl t) = (L.take k).map (earl t) ++ [earl t r] := by rw [List.take_add_one, hx, Option.toList_some, List.map_append]; rfl
      have Hst := Lib.hid hst
      have Hlen := Lib.hid hlen
      obtain ⟨p, hp⟩ : ∃ p, wr.heap.size = p := ⟨_, rfl⟩
      obtain ⟨wx, hwx⟩ : ∃ wx, wr.alloc (.cells #[.string r.s, .slice r.A r.n r.c, .bool r.rt] 61) = wx := ⟨_, rfl⟩
      have hbx : Below w.heap.size w wx := by rw [← hwx]; exact hb.alloc hb.size _
      have hN := fdFinsA_any r t bx wx (Nat.lt_of_lt_of_le HC.out.1 hbx.size) ((hbx.cell (p := ⟨bx, 1, none⟩) HC.out.1).trans HC.out.2) ht (HS.out r (List.mem_of_getElem? hx)) hcap
      have x0 : wx.cell? ⟨p, 0, none⟩ = some (.string r.s) := by rw [← hwx, ← hp]; simp
      have x1 : wx.cell? ⟨p, 1, none⟩ = some (.slice r.A r.n r.c) := by rw [← hwx, ← hp]; simp
      have x2 : wx.cell? ⟨p, 2, none⟩ = some (.bool r.rt) := by rw [← hwx, ← hp]; simp
      have HBX := Lib.hid hbx
      have HOX : Hid (OwnEarl wx w.heap.size _ ((L.take k).map (earl t))) := Lib.hid (by rw [← hwx]; exact World.ownsRow.alloc hown _)
      clear hst hlen hx hown hb hbx hcap
      go_wp2_with fail
      refine hN.mono ?_
      rintro e w5 ⟨rfl, hb5⟩
      have hb15 := bstep HBX.out hb5
      have hown5 := ownN HOX.out hb5
      clear hb5 hN
      go_wp2_with (at_builtin; refine wpList_append_own _ rfl _ _ 29 rfl w.heap.size 61 i0 (.agg #[.string ⟨#[]⟩, .slice none 0 0, .bool false]) 3 48 Tryz.underlying29 hi hz0 hz1 hz2 rfl (by decide) _ _ _ rfl (World.ownsRow.alloc hown5 _) ⟨w5.heap.size, 0, none⟩ 1 1 (rowC (earl t r)) rfl rfl ?c1 ?c2 ?c3 ?c4 ?c5 ?_)
      case c1 =>
        intro j u hj
        match j, hj with
        | 0, hj => simp [rowC, earl] at hj; subst hj; simp [Addr.add]
        | 1, hj => simp [rowC, earl] at hj; subst hj; simp [Addr.add]
        | 2, hj => simp [rowC, earl] at hj; subst hj; simp [Addr.add]
      case c2 => intro u hu; simp [rowC] at hu; rcases hu with rfl | rfl | rfl <;> rfl
      case c3 => unfold maxLen; have := Hlen.out; omega
      case c4 => have := Hlen.out; omega
      case c5 => have := hb15.size; simp; omega
      intro v' w2 hown' hgrow _
      have hb2 : Below w.heap.size w w2 := (hb15.alloc hb15.size _).grown hgrow (by have := hb15.size; simp; omega) (fun r hr => (World.ownsRow.lt hown5 r hr).1)
      have ho2 : OwnEarl w2 w.heap.size v' ((L.take (k + 1)).map (earl t)) := by
        rw [Hst.out]
        refine OwnEarl.next ?_
        simpa using hown'
      clear hown' hgrow hown5 hb15 hc0 hc1 hc2
      go_wp2
      go_roundw
      case rel => exact ⟨k + 1, by omega, by go_num, ho2, hb2⟩
      case measure => simp [intOf]; omega
    · have hkn : k = n := by omega
      rw [hkn, List.take_of_length_le (by rw [HL.out]; omega)] at hown
      have HO := Lib.hid hown
      clear hown
      go_wp2
      go_ret
      exact ⟨_, rfl, HO.out, hb⟩
theorem Rows.of_earl {w w1 : World} {A : Option Addr} {n t B : Nat} {v : Value} {L : List RowR} (h : OwnEarl w1 B v (L.map (earl t))) (hZ : Rows w A n L) (hb : Below w.heap.size w w1) : ∃ A' c, v = .slice A' n c ∧ Rows w1 A' n (L.map (earl t)) := by
  have hl : (L.map (earl t)).length = n := by rw [List.length_map]; exact hZ.1
  rcases h.2 with ⟨a, b⟩ | ⟨g, cap, cur, a, b, c, d, e1, f, hx⟩
  · rw [hl] at b
    exact ⟨none, 0, by rw [a, b], hl, fun hn => absurd hn (by omega)⟩
  · have h1 := h
    unfold OwnEarl at h1
    rw [a] at h1
    rw [hl] at a
    refine ⟨_, cap, a, hl, fun _ => ⟨g, 0, rfl, (Array.getElem?_eq_some_iff.1 c).1, fun j p hp => ?_⟩⟩
    have hj := (List.getElem?_eq_some_iff.1 hp).1
    rw [List.length_map] at hj
    have hr : (L.map (earl t))[j]? = some (earl t L[j]) := by rw [List.getElem?_map, List.getElem?_eq_getElem hj]; rfl
    rw [hr] at hp
    obtain rfl := Option.some.inj hp
    obtain ⟨b', off, r, _, _, hxr, _, hT, hcp⟩ := hZ.at_ (k := j) (by rw [← hZ.1]; exact hj)
    rw [List.getElem?_eq_getElem hj] at hxr
    have er := Option.some.inj hxr
    rw [er] at hr ⊢
    refine ⟨?_, ?_, ?_, ?_, ?_⟩
    · rw [Nat.zero_add, World.ownsRow.cellAt h1 (j * 3) (by rw [List.length_map]; omega)]; exact (rowC_at _ j _ 0 hr (by decide)).trans rfl
    · rw [Nat.zero_add, World.ownsRow.cellAt h1 (j * 3 + 1) (by rw [List.length_map]; omega)]; exact (rowC_at _ j _ 1 hr (by decide)).trans rfl
    · rw [Nat.zero_add, World.ownsRow.cellAt h1 (j * 3 + 2) (by rw [List.length_map]; omega)]; exact (rowC_at _ j _ 2 hr (by decide)).trans rfl
    · have hT1 := hT.below hb
      refine ⟨by show (r.T.take (min t r.n)).length = min t r.n; rw [List.length_take, hT.1]; omega, fun h0 => ?_⟩
      have h0' : 0 < r.n := by have h00 : 0 < min t r.n := h0; omega
      obtain ⟨g2, o2, e2, hlt, hcc⟩ := hT1.2 h0'
      refine ⟨g2, o2, e2, hlt, fun k x hk => hcc k x ?_⟩
      unfold earl at hk
      dsimp only at hk
      rw [List.getElem?_take] at hk
      split at hk
      · exact hk
      · cases hk
    · show min t r.n ≤ r.c; omega
end Go.Mk
