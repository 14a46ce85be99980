/-
  Proved: slices.insertionSortCmpFunc of integers sorts a range in place, where the comparison answers as a strict order does. Conditions: the integers lie in a row of the caller's own; the comparison leaves what was there.
-/
import Derived.Test.YtccgahkoekcefaaGreatDoorQa
import Derived.Test.YtccgahkoekcefaaGreatDoorZa
import Derived.BigRegion
import Derived.BigQuiet
set_option linter.unusedVariables false
set_option linter.unusedSimpArgs false
open Go Go.Proofs Go.RowKit Go.Sort
set_option maxRecDepth 100000
namespace Go.Mk
def RowZ (w : World) (B g n cap : Nat) (L : List Int) : Prop := L.length = n ∧ w.ownsRow B 3 1 (.slice (some ⟨g, 0, none⟩) n cap) n (L.map fun z => Value.int .i64 z)
theorem RowZ.cell {w : World} {B g n cap : Nat} {L : List Int} (h : RowZ w B g n cap L) {i : Nat} (hi : i < n) : w.cell? ⟨g, i, none⟩ = some (.int .i64 (ga L i)) := by
 rw [World.ownsRow.cellAt h.2 i (by omega), List.getElem?_map, ga_at (by rw [h.1]; exact hi)]; rfl
theorem RowZ.froz {w : World} {B g n cap : Nat} {L : List Int} (h : RowZ w B g n cap L) (i : Nat) : w.frozen? ⟨g, i, none⟩ = false := World.ownsRow.frozenAt h.2 i
theorem RowZ.below {w w' : World} {B g n cap : Nat} {L : List Int} (h : RowZ w B g n cap L) (hb : Below w.heap.size w w') : RowZ w' B g n cap L := ⟨h.1, ownN h.2 hb⟩
theorem RowZ.set {w : World} {B g n cap : Nat} {L : List Int} (h : RowZ w B g n cap L) (i : Nat) (x : Int) : RowZ (w.setCell ⟨g, i, none⟩ (.int .i64 x)) B g n cap (L.set i x) := by
 refine ⟨by rw [List.length_set]; exact h.1, ?_⟩
 have := (World.ownsRow.stored h.2 i (.int .i64 x)).1
 rw [List.map_set]
 exact this
theorem RowZ.lt {w : World} {B g n cap : Nat} {L : List Int} (h : RowZ w B g n cap L) : B ≤ g ∧ g < w.heap.size := World.ownsRow.lt h.2 g rfl
theorem RowZ.swap1 {w : World} {B g n cap : Nat} {L : List Int} (h : RowZ w B g n cap L) {i j : Nat} (hij : i < j) : RowZ ((w.setCell ⟨g, j, none⟩ (.int .i64 (ga L i))).setCell ⟨g, i, none⟩ (.int .i64 (ga L j))) B g n cap (swp L i j) := by
 have := (h.set j (ga L i)).set i (ga L j)
 unfold swp
 rw [List.set_comm _ _ (by omega : i ≠ j)]
 exact this
theorem RowZ.swap2 {w : World} {B g n cap : Nat} {L : List Int} (h : RowZ w B g n cap L) (i j : Nat) : RowZ ((w.setCell ⟨g, i, none⟩ (.int .i64 (ga L j))).setCell ⟨g, j, none⟩ (.int .i64 (ga L i))) B g n cap (swp L i j) := (h.set i (ga L j)).set j (ga L i)
theorem Ins.test {lt : Int → Int → Prop} {cm : Int → Int → Int} {a i j : Nat} {L M0 M : List Int} (h : Ins lt a i j M0 M) (hp : PermIn a i L M0) (hn : L.Nodup) (haj : a < j) (hji : j ≤ i) (hl : i < L.length)
  (hT : ∀ p q, a ≤ p → p < q → q ≤ i → (cm (ga L q) (ga L p) < 0 ↔ lt (ga L q) (ga L p))) : (cm (ga M j) (ga M (j - 1)) < 0 ↔ lt (ga M j) (ga M (j - 1))) ∧ ga M j ∈ L ∧ ga M (j - 1) ∈ L := by
 have hn0 : M0.Nodup := hp.perm.nodup_iff.2 hn
 have hnM : M.Nodup := h.perm.perm.nodup_iff.2 hn0
 have l0 := hp.len
 have l1 := h.perm.len
 obtain ⟨k, k1, k2, k3, k4⟩ := h.perm.from_ hn0 (i := j - 1) (by omega) (by omega) (by omega)
 have hk : k ≠ i := fun e => by
  rw [e, ← h.v] at k4
  have e2 : M[j - 1]? = M[j]? := by rw [ga_at (by omega), ga_at (by omega), k4]
  have := (List.getElem?_inj (show j - 1 < M.length by omega) hnM).1 e2
  omega
 obtain ⟨k', m1, m2, m3, m4⟩ := hp.from_ hn (i := k) k1 (by omega) (by omega)
 have hv : ga M j = ga L i := by rw [h.v, hp.out i (by omega)]
 rw [hv, k4, m4]
 exact ⟨hT k' i m1 m2 (Nat.le_refl _), List.mem_of_getElem? (ga_at hl), List.mem_of_getElem? (ga_at m3)⟩
theorem cell?_setCell_someQ {w : World} {p q : Addr} {x v : Value} (h : w.cell? q = some v) : ∃ v', (w.setCell p x).cell? q = some v' := by
 by_cases e : q = p
 ·subst e
  exact ⟨x, World.cell?_setCell_same w _ _ h⟩
 ·exact ⟨v, by rw [World.cell?_setCell_other w _ _ _ (fun q => e q.symm)]; exact h⟩
theorem wrapQ (x : Int) (h : -1000 ≤ x ∧ x ≤ 1000000) : IntKind.i64.wrap x = x := by
 simp [IntKind.wrap, IntKind.bits, IntKind.signed]
 omega
def cmpV (bx : Nat) : Value := .func (.func 55) #[] #[.pointer (some ⟨bx, 0, none⟩)]
def CmpOK (w : World) (g bx : Nat) (cm : Int → Int → Int) (L : List Int) : Prop :=
 ∀ w' : World, w.grownBy w' (some g) → ∀ x y : Int, x ∈ L → y ∈ L → Calls Tryz.prog 55 #[.int .i64 x, .int .i64 y, .pointer (some ⟨bx, 0, none⟩)] w' (RetPost (.int .i64 (cm x y)) w')
def SortPost (w : World) (B g n cap : Nat) (lt : Int → Int → Prop) (L : List Int) (a b : Nat) (e : Ending) (w' : World) : Prop :=
 ∃ M, e = .returned (.tuple #[]) ∧ PermIn a b L M ∧ Srt lt M a b ∧ RowZ w' B g n cap M ∧ w.grownBy w' (some g)
theorem gb_below {w a b : World} {g : Nat} (h : w.grownBy a (some g)) (hb : Below a.heap.size a b) : w.grownBy b (some g) := h.trans (grown_below hb _)
set_option maxHeartbeats 4000000 in
theorem insertCmp_any {lt : Int → Int → Prop} (ho : Ord lt) (cm : Int → Int → Int) (L : List Int) (B g n cap bx a b : Nat) (w : World) (hr : RowZ w B g n cap L) (hn : L.Nodup) (hb : b ≤ n) (hn1 : n ≤ 100000) (ha : a ≤ 100000) (hC : CmpOK w g bx cm L)
  (hT : ∀ p q, a ≤ p → p < q → q < b → (cm (ga L q) (ga L p) < 0 ↔ lt (ga L q) (ga L p))) :
  Calls Tryz.prog 108 #[.slice (some ⟨g, 0, none⟩) n cap, .int .i64 (a : Nat), .int .i64 (b : Nat), cmpV bx] w (SortPost w B g n cap lt L a b) := by
 have hni : (n : Int) ≤ 100000 := by omega
 have hai : (a : Int) ≤ 100000 := by omega
 have hbi : (b : Int) ≤ (n : Int) := by omega
 have HC := Lib.hid hC
 have HT := Lib.hid hT
 have HL := Lib.hid hr.1
 have HN := Lib.hid hn
 have HR := Lib.hid hr
 unfold cmpV SortPost
 clear hC hT hn hr
 go_enter Tryz.func108, Tryz.ntmps108
 go_wp2
 go_loopw [8] (fun i wr => ∃ (k : Nat) (M : List Int), i = .int .i64 k ∧ a + 1 ≤ k ∧ k ≤ 100001 ∧ Hid ((k = a + 1 ∧ M = L) ∨ (k ≤ b ∧ PermIn a k L M ∧ Srt lt M a k)) ∧ RowZ wr B g n cap M ∧ w.grownBy wr (some g)) (fun i _ => 100002 - (RowKit.intOf i).toNat)
 case atStart => exact ⟨a + 1, L, by go_num, by omega, by omega, Lib.hid (.inl ⟨rfl, rfl⟩), HR.out, World.grownBy.refl _ _⟩
 case round =>
  obtain ⟨k, M, rfl, hk1, hk2, HI, hrow, hg⟩ := hrel
  by_cases hlt : k < b
  ·have hki : (k : Int) < (b : Int) := by omega
   have hpk : PermIn a k L M ∧ Srt lt M a k := by
    rcases HI.out with ⟨rfl, rfl⟩ | ⟨_, h1, h2⟩
    ·exact ⟨PermIn.refl _ _ _, fun i j h1 h2 h3 => by omega⟩
    ·exact ⟨h1, h2⟩
   have HPK := Lib.hid hpk
   obtain ⟨wy, rfl⟩ : ∃ wy : World, wy = wr := ⟨_, rfl⟩
   have HR2 := Lib.hid hrow
   have HG := Lib.hid hg
   clear hpk HI hrow hg
   go_wp2
   go_loopw [9] (fun i wr => ∃ (j : Nat) (M' : List Int), i = .int .i64 j ∧ a ≤ j ∧ j ≤ k ∧ Hid (Ins lt a k j M M') ∧ RowZ wr B g n cap M' ∧ w.grownBy wr (some g)) (fun i _ => (RowKit.intOf i).toNat)
   case atStart => exact ⟨k, M, rfl, by omega, by omega, Lib.hid (Ins.start HPK.out.2), HR2.out, HG.out⟩
   case round =>
    obtain ⟨j, M', rfl, hj1, hj2, HI, hrow, hg⟩ := hrel
    have hln : L.length = n := HL.out
    have hlM : M.length = n := HPK.out.1.len.trans hln
    by_cases haj : a < j
    ·have hai2 : (a : Int) < (j : Int) := by omega
     have c1 := hrow.cell (i := j) (by omega)
     have c2 := hrow.cell (i := j - 1) (by omega)
     have hj0 : (0 : Int) ≤ (j : Int) := by omega
     have hjn : (j : Int) < (n : Int) := by omega
     have hjt : ((j : Int)).toNat = j := by omega
     have hk0 : (0 : Int) ≤ (j : Int) - 1 := by omega
     have hk1 : (j : Int) - 1 < (n : Int) := by omega
     have hkt : ((j : Int) - 1).toNat = j - 1 := by omega
     have hj1i : (1 : Int) ≤ (j : Int) := by omega
     have hw1 : IntKind.i64.wrap ((j : Int) - 1) = (j : Int) - 1 := wrapQ _ (by omega)
     obtain ⟨t1, t2, t3⟩ := Ins.test (cm := cm) HI.out HPK.out.1 HN.out haj hj2 (by omega) (fun p q h1 h2 h3 => HT.out p q h1 h2 (by omega))
     have hK : ∀ w', Below wr.heap.size wr w' → Calls Tryz.prog 55 #[.int .i64 (ga M' j), .int .i64 (ga M' (j - 1)), .pointer (some ⟨bx, 0, none⟩)] w' (RetPost (.int .i64 (cm (ga M' j) (ga M' (j - 1)))) w') := fun w' hb' => HC.out w' (gb_below hg hb') _ _ t2 t3
     obtain ⟨x, hx⟩ : ∃ x, ga M' j = x := ⟨_, rfl⟩
     obtain ⟨y, hy⟩ : ∃ y, ga M' (j - 1) = y := ⟨_, rfl⟩
     rw [hx] at c1
     rw [hy] at c2
     rw [hx, hy] at hK t1
     have HX := Lib.hid (And.intro hx hy)
     have HRW := Lib.hid hrow
     have HGG := Lib.hid hg
     clear hx hy t2 t3 hrow hg
     obtain ⟨s, hs⟩ : ∃ s, cm x y = s := ⟨_, rfl⟩
     rw [hs] at hK t1
     clear hs
     by_cases hlt0 : s < 0
     ·have hl := t1.1 hlt0
      have HST := Lib.hid (Ins.step HI.out haj hj2 (by omega) (by rw [HX.out.1, HX.out.2]; exact hl))
      clear hl t1
      go_wp2_with fail
      refine wp_region_held_drew (S := fun w' => w'.cell? ⟨g, j, none⟩ = some (.int .i64 x) ∧ w'.cell? ⟨g, j - 1, none⟩ = some (.int .i64 y)) (by kernel_rfl) ?_ (fun hHeld => ?_)
      ·exact ⟨c1, c2⟩
      refine wpAnyH_take (i := 0) (oi := _) (v := ?_) rfl (by kernel_rfl) (by kernel_rfl) (by kernel_rfl) (fun _ _ _ h => h) (Or.inl ⟨by kernel_rfl, ?_⟩) (by assumption) ?_
      rotate_left
      ·rintro w ⟨s1, s2⟩
       go_simp
       try with_reducible rfl
      try simp only [Act.put, zA1, zA2, zA3]
      refine wpAnyH_take (i := 1) (oi := _) (v := ?_) rfl (by kernel_rfl) (by kernel_rfl) (by kernel_rfl) (fun _ _ _ h => h) (Or.inl ⟨by kernel_rfl, ?_⟩) (by assumption) ?_
      rotate_left
      ·rintro w ⟨s1, s2⟩
       go_simp
       try with_reducible rfl
      try simp only [Act.put, zA1, zA2, zA3]
      refine wpAnyH_take (i := 2) (oi := _) (v := ?_) rfl (by kernel_rfl) (by kernel_rfl) (by kernel_rfl) (fun _ _ _ h => h) (Or.inl ⟨by kernel_rfl, ?_⟩) (by assumption) ?_
      rotate_left
      ·rintro w ⟨s1, s2⟩
       go_simp
       try with_reducible rfl
      try simp only [Act.put, zA1, zA2, zA3]
      refine wpAnyH_take (i := 3) (oi := _) (v := ?_) rfl (by kernel_rfl) (by kernel_rfl) (by kernel_rfl) (fun _ _ _ h => h) (Or.inl ⟨by kernel_rfl, ?_⟩) (by assumption) ?_
      rotate_left
      ·rintro w ⟨s1, s2⟩
       go_simp
       try with_reducible rfl
      try simp only [Act.put, zA1, zA2, zA3]
      refine wpAnyH_take (i := 4) (oi := _) (v := ?_) rfl (by kernel_rfl) (by kernel_rfl) (by kernel_rfl) (fun _ _ _ h => h) (Or.inl ⟨by kernel_rfl, ?_⟩) (by assumption) ?_
      rotate_left
      ·rintro w ⟨s1, s2⟩
       go_simp
       try with_reducible rfl
      try simp only [Act.put, zA1, zA2, zA3]
      refine wpAnyH_take (i := 5) (oi := _) (v := ?_) rfl (by kernel_rfl) (by kernel_rfl) (by kernel_rfl) (fun _ _ _ h => h) (Or.inl ⟨by kernel_rfl, ?_⟩) (by assumption) ?_
      rotate_left
      ·rintro w ⟨s1, s2⟩
       go_simp
       try with_reducible rfl
      try simp only [Act.put, zA1, zA2, zA3]
      refine wpAnyH_take (i := 6) (oi := _) (v := ?_) rfl (by kernel_rfl) (by kernel_rfl) (by kernel_rfl) (fun _ _ _ h => h) (Or.inl ⟨by kernel_rfl, ?_⟩) (by assumption) ?_
      rotate_left
      ·rintro w ⟨s1, s2⟩
       go_simp
       try with_reducible rfl
      try simp only [Act.put, zA1, zA2, zA3]
      refine wpAnyH_take (i := 7) (oi := _) (v := ?_) rfl (by kernel_rfl) (by kernel_rfl) (by kernel_rfl) (fun _ _ _ h => h) (Or.inl ⟨by kernel_rfl, ?_⟩) (by assumption) ?_
      rotate_left
      ·rintro w ⟨s1, s2⟩
       go_simp
       try with_reducible rfl
      try simp only [Act.put, zA1, zA2, zA3]
      refine wpAnyH_take (i := 8) (oi := _) (v := ?_) rfl (by kernel_rfl) (by kernel_rfl) (by kernel_rfl) (fun _ _ _ h => h) (Or.inl ⟨by kernel_rfl, ?_⟩) (by assumption) ?_
      rotate_left
      ·rintro w ⟨s1, s2⟩
       go_simp
       try with_reducible rfl
      try simp only [Act.put, zA1, zA2, zA3]
      refine wpAnyH_take (i := 9) (oi := _) (v := ?_) rfl (by kernel_rfl) (by kernel_rfl) (by kernel_rfl) (fun _ _ _ h => h) (Or.inl ⟨by kernel_rfl, ?_⟩) (by assumption) ?_
      rotate_left
      ·rintro w ⟨s1, s2⟩
       go_simp
       try with_reducible rfl
      try simp only [Act.put, zA1, zA2, zA3]
      refine wpAnyH_take (i := 10) (oi := _) (v := ?_) rfl (by kernel_rfl) (by kernel_rfl) (by kernel_rfl) (fun _ _ _ h => h) (Or.inl ⟨by kernel_rfl, ?_⟩) (by assumption) ?_
      rotate_left
      ·rintro w ⟨s1, s2⟩
       go_simp
       try with_reducible rfl
      try simp only [Act.put, zA1, zA2, zA3]
      refine wpAnyH_take (i := 11) (oi := _) (v := ?_) rfl (by kernel_rfl) (by kernel_rfl) (by kernel_rfl) (fun _ _ _ h => h) (Or.inl ⟨by kernel_rfl, ?_⟩) (by assumption) ?_
      rotate_left
      ·rintro w ⟨s1, s2⟩
       go_simp
       try simp only [hw1, hkt, if_pos hj1i]
       try with_reducible rfl
      try simp only [Act.put, zA1, zA2, zA3]
      refine wpAnyH_take (i := 12) (oi := _) (v := ?_) rfl (by kernel_rfl) (by kernel_rfl) (by kernel_rfl) (fun _ _ _ h => h) (Or.inl ⟨by kernel_rfl, ?_⟩) (by assumption) ?_
      rotate_left
      ·rintro w ⟨s1, s2⟩
       go_simp
       try simp only [hw1, hkt, if_pos hj1i]
       try with_reducible rfl
      try simp only [Act.put, zA1, zA2, zA3]
      refine wpAnyH_take (i := 13) (oi := _) (v := ?_) rfl (by kernel_rfl) (by kernel_rfl) (by kernel_rfl) (fun _ _ _ h => h) (Or.inl ⟨by kernel_rfl, ?_⟩) (by assumption) ?_
      rotate_left
      ·rintro w ⟨s1, s2⟩
       go_simp
       try simp only [hw1, hkt, if_pos hj1i]
       try with_reducible rfl
      try simp only [Act.put, zA1, zA2, zA3]
      refine wpAnyH_ready (rs := [14]) (by kernel_rfl) (by simp) ?_
      refine AllReadyH.cons (o := _) rfl (fun K hKK => ?_) AllReadyH.nil
      go_simp
      go_at_call 55
      refine (hK _ (Below.refl _ _).drew).mono ?_
      rintro e w5 ⟨rfl, hb5⟩
      have hr5 := (HRW.out.below (Below.refl _ _).drew).below hb5
      have d1 := hr5.cell (i := j) (by omega)
      have d2 := hr5.cell (i := j - 1) (by omega)
      rw [HX.out.1] at d1
      rw [HX.out.2] at d2
      have hg5 := gb_below HGG.out (bstep (Below.refl _ _).drew hb5)
      go_wp2_with fail
      refine hKK.out _ _ ?_ (fun hHeld => ?_)
      ·exact ⟨d1, d2⟩
      clear hKK K
      try simp only [Act.put, zA1, zA2, zA3]
      refine wpAnyH_ready (rs := [15]) (by kernel_rfl) (by simp) ?_
      refine AllReadyH.cons (o := _) rfl (fun K hKK => ?_) AllReadyH.nil
      go_simp
      refine hKK.out _ _ ?_ (fun hHeld => ?_)
      ·exact hHeld
      clear hKK K
      try simp only [Act.put, zA1, zA2, zA3]
      refine wpAnyH_ready (rs := [16]) (by kernel_rfl) (by simp) ?_
      refine AllReadyH.cons (o := _) rfl (fun K hKK => ?_) AllReadyH.nil
      go_simp
      refine hKK.out _ _ ?_ (fun hHeld => ?_)
      ·exact hHeld
      clear hKK K
      try simp only [Act.put, zA1, zA2, zA3]
      refine wpAnyH_done (by kernel_rfl) ?_ _
      have z1 := hr5.froz j
      have z2 := hr5.froz (j - 1)
      have HR5 := Lib.hid hr5
      have HG5 := Lib.hid hg5
      clear c1 c2 hK hb5 hr5 hg5 hHeld
      obtain ⟨v', d2'⟩ := cell?_setCell_someQ (p := ⟨g, j, none⟩) (x := .int .i64 y) d2
      go_wp2
      go_region
      go_wp2
      go_roundw
      case rel =>
       have h1 := HR5.out.swap1 (i := j - 1) (j := j) (by omega)
       rw [HX.out.1, HX.out.2] at h1
       exact ⟨j - 1, _, by go_num, by omega, by omega, HST, h1.below (Below.refl _ _).drew, gb_below ((HG5.out.trans (grown_set _ g j _)).trans (grown_set _ g (j - 1) _)) (Below.refl _ _).drew⟩
      case measure => simp [RowKit.intOf]; omega
     ·have hl : ¬ lt x y := fun q => hlt0 (t1.2 q)
      have hdone := Ins.done ho HI.out (HPK.out.1.perm.nodup_iff.2 HN.out) hj1 hj2 (by omega) (fun _ => by rw [HX.out.1, HX.out.2]; exact hl)
      have HD := Lib.hid (And.intro ((HPK.out.1.wide (Nat.le_refl _) (Nat.le_succ k)).trans HI.out.perm) hdone)
      clear hl t1 hdone
      go_wp2_with fail
      refine wp_region_held_drew (S := fun w' => w'.cell? ⟨g, j, none⟩ = some (.int .i64 x) ∧ w'.cell? ⟨g, j - 1, none⟩ = some (.int .i64 y)) (by kernel_rfl) ?_ (fun hHeld => ?_)
      ·exact ⟨c1, c2⟩
      refine wpAnyH_take (i := 0) (oi := _) (v := ?_) rfl (by kernel_rfl) (by kernel_rfl) (by kernel_rfl) (fun _ _ _ h => h) (Or.inl ⟨by kernel_rfl, ?_⟩) (by assumption) ?_
      rotate_left
      ·rintro w ⟨s1, s2⟩
       go_simp
       try with_reducible rfl
      try simp only [Act.put, zA1, zA2, zA3]
      refine wpAnyH_take (i := 1) (oi := _) (v := ?_) rfl (by kernel_rfl) (by kernel_rfl) (by kernel_rfl) (fun _ _ _ h => h) (Or.inl ⟨by kernel_rfl, ?_⟩) (by assumption) ?_
      rotate_left
      ·rintro w ⟨s1, s2⟩
       go_simp
       try with_reducible rfl
      try simp only [Act.put, zA1, zA2, zA3]
      refine wpAnyH_take (i := 2) (oi := _) (v := ?_) rfl (by kernel_rfl) (by kernel_rfl) (by kernel_rfl) (fun _ _ _ h => h) (Or.inl ⟨by kernel_rfl, ?_⟩) (by assumption) ?_
      rotate_left
      ·rintro w ⟨s1, s2⟩
       go_simp
       try with_reducible rfl
      try simp only [Act.put, zA1, zA2, zA3]
      refine wpAnyH_take (i := 3) (oi := _) (v := ?_) rfl (by kernel_rfl) (by kernel_rfl) (by kernel_rfl) (fun _ _ _ h => h) (Or.inl ⟨by kernel_rfl, ?_⟩) (by assumption) ?_
      rotate_left
      ·rintro w ⟨s1, s2⟩
       go_simp
       try with_reducible rfl
      try simp only [Act.put, zA1, zA2, zA3]
      refine wpAnyH_take (i := 4) (oi := _) (v := ?_) rfl (by kernel_rfl) (by kernel_rfl) (by kernel_rfl) (fun _ _ _ h => h) (Or.inl ⟨by kernel_rfl, ?_⟩) (by assumption) ?_
      rotate_left
      ·rintro w ⟨s1, s2⟩
       go_simp
       try with_reducible rfl
      try simp only [Act.put, zA1, zA2, zA3]
      refine wpAnyH_take (i := 5) (oi := _) (v := ?_) rfl (by kernel_rfl) (by kernel_rfl) (by kernel_rfl) (fun _ _ _ h => h) (Or.inl ⟨by kernel_rfl, ?_⟩) (by assumption) ?_
      rotate_left
      ·rintro w ⟨s1, s2⟩
       go_simp
       try with_reducible rfl
      try simp only [Act.put, zA1, zA2, zA3]
      refine wpAnyH_take (i := 6) (oi := _) (v := ?_) rfl (by kernel_rfl) (by kernel_rfl) (by kernel_rfl) (fun _ _ _ h => h) (Or.inl ⟨by kernel_rfl, ?_⟩) (by assumption) ?_
      rotate_left
      ·rintro w ⟨s1, s2⟩
       go_simp
       try with_reducible rfl
      try simp only [Act.put, zA1, zA2, zA3]
      refine wpAnyH_take (i := 7) (oi := _) (v := ?_) rfl (by kernel_rfl) (by kernel_rfl) (by kernel_rfl) (fun _ _ _ h => h) (Or.inl ⟨by kernel_rfl, ?_⟩) (by assumption) ?_
      rotate_left
      ·rintro w ⟨s1, s2⟩
       go_simp
       try with_reducible rfl
      try simp only [Act.put, zA1, zA2, zA3]
      refine wpAnyH_take (i := 8) (oi := _) (v := ?_) rfl (by kernel_rfl) (by kernel_rfl) (by kernel_rfl) (fun _ _ _ h => h) (Or.inl ⟨by kernel_rfl, ?_⟩) (by assumption) ?_
      rotate_left
      ·rintro w ⟨s1, s2⟩
       go_simp
       try with_reducible rfl
      try simp only [Act.put, zA1, zA2, zA3]
      refine wpAnyH_take (i := 9) (oi := _) (v := ?_) rfl (by kernel_rfl) (by kernel_rfl) (by kernel_rfl) (fun _ _ _ h => h) (Or.inl ⟨by kernel_rfl, ?_⟩) (by assumption) ?_
      rotate_left
      ·rintro w ⟨s1, s2⟩
       go_simp
       try with_reducible rfl
      try simp only [Act.put, zA1, zA2, zA3]
      refine wpAnyH_take (i := 10) (oi := _) (v := ?_) rfl (by kernel_rfl) (by kernel_rfl) (by kernel_rfl) (fun _ _ _ h => h) (Or.inl ⟨by kernel_rfl, ?_⟩) (by assumption) ?_
      rotate_left
      ·rintro w ⟨s1, s2⟩
       go_simp
       try with_reducible rfl
      try simp only [Act.put, zA1, zA2, zA3]
      refine wpAnyH_take (i := 11) (oi := _) (v := ?_) rfl (by kernel_rfl) (by kernel_rfl) (by kernel_rfl) (fun _ _ _ h => h) (Or.inl ⟨by kernel_rfl, ?_⟩) (by assumption) ?_
      rotate_left
      ·rintro w ⟨s1, s2⟩
       go_simp
       try simp only [hw1, hkt, if_pos hj1i]
       try with_reducible rfl
      try simp only [Act.put, zA1, zA2, zA3]
      refine wpAnyH_take (i := 12) (oi := _) (v := ?_) rfl (by kernel_rfl) (by kernel_rfl) (by kernel_rfl) (fun _ _ _ h => h) (Or.inl ⟨by kernel_rfl, ?_⟩) (by assumption) ?_
      rotate_left
      ·rintro w ⟨s1, s2⟩
       go_simp
       try simp only [hw1, hkt, if_pos hj1i]
       try with_reducible rfl
      try simp only [Act.put, zA1, zA2, zA3]
      refine wpAnyH_take (i := 13) (oi := _) (v := ?_) rfl (by kernel_rfl) (by kernel_rfl) (by kernel_rfl) (fun _ _ _ h => h) (Or.inl ⟨by kernel_rfl, ?_⟩) (by assumption) ?_
      rotate_left
      ·rintro w ⟨s1, s2⟩
       go_simp
       try simp only [hw1, hkt, if_pos hj1i]
       try with_reducible rfl
      try simp only [Act.put, zA1, zA2, zA3]
      refine wpAnyH_ready (rs := [14]) (by kernel_rfl) (by simp) ?_
      refine AllReadyH.cons (o := _) rfl (fun K hKK => ?_) AllReadyH.nil
      go_simp
      go_at_call 55
      refine (hK _ (Below.refl _ _).drew).mono ?_
      rintro e w5 ⟨rfl, hb5⟩
      have hr5 := (HRW.out.below (Below.refl _ _).drew).below hb5
      have d1 := hr5.cell (i := j) (by omega)
      have d2 := hr5.cell (i := j - 1) (by omega)
      rw [HX.out.1] at d1
      rw [HX.out.2] at d2
      have hg5 := gb_below HGG.out (bstep (Below.refl _ _).drew hb5)
      go_wp2_with fail
      refine hKK.out _ _ ?_ (fun hHeld => ?_)
      ·exact ⟨d1, d2⟩
      clear hKK K
      try simp only [Act.put, zA1, zA2, zA3]
      refine wpAnyH_ready (rs := [15]) (by kernel_rfl) (by simp) ?_
      refine AllReadyH.cons (o := _) rfl (fun K hKK => ?_) AllReadyH.nil
      go_simp
      refine hKK.out _ _ ?_ (fun hHeld => ?_)
      ·exact hHeld
      clear hKK K
      try simp only [Act.put, zA1, zA2, zA3]
      refine wpAnyH_ready (rs := [16]) (by kernel_rfl) (by simp) ?_
      refine AllReadyH.cons (o := _) rfl (fun K hKK => ?_) AllReadyH.nil
      go_simp
      refine hKK.out _ _ ?_ (fun hHeld => ?_)
      ·exact hHeld
      clear hKK K
      try simp only [Act.put, zA1, zA2, zA3]
      refine wpAnyH_done (by kernel_rfl) ?_ _
      have HR5 := Lib.hid hr5
      have HG5 := Lib.hid hg5
      clear c1 c2 hK hb5 hr5 hg5 hHeld
      go_wp2
      go_roundw
      case rel => exact ⟨k + 1, M', by go_num, by omega, by omega, Lib.hid (.inr ⟨by omega, HD.out.1, HD.out.2⟩), HR5.out, HG5.out⟩
      case measure => simp [RowKit.intOf]; omega
    ·have hna : ¬ (a : Int) < (j : Int) := by omega
     have hdone := Ins.done ho HI.out (HPK.out.1.perm.nodup_iff.2 HN.out) hj1 hj2 (by omega) (fun q => absurd q haj)
     have HD := Lib.hid (And.intro ((HPK.out.1.wide (Nat.le_refl _) (Nat.le_succ k)).trans HI.out.perm) hdone)
     have HRW := Lib.hid hrow
     have HGG := Lib.hid hg
     clear hdone hrow hg
     go_wp2_with fail
     go_quiet (fail)
     go_wp2
     go_roundw
     case rel => exact ⟨k + 1, M', by go_num, by omega, by omega, Lib.hid (.inr ⟨by omega, HD.out.1, HD.out.2⟩), HRW.out.below (below_drewN (Below.refl _ _) _), gb_below HGG.out (below_drewN (Below.refl _ _) _)⟩
     case measure => simp [RowKit.intOf]; omega
  ·have hki : ¬ (k : Int) < (b : Int) := by omega
   have hfin : PermIn a b L M ∧ Srt lt M a b := by
    rcases HI.out with ⟨h1, rfl⟩ | ⟨h1, h2, h3⟩
    ·exact ⟨PermIn.refl _ _ _, fun i j h1 h2 h3 => by omega⟩
    ·have : k = b := by omega
     subst this
     exact ⟨h2, h3⟩
   have HF := Lib.hid hfin
   have HRW := Lib.hid hrow
   have HGG := Lib.hid hg
   clear hfin HI hrow hg
   go_wp2
   go_end0
   exact ⟨rfl, M, HF.out.1, HF.out.2, HRW.out, HGG.out⟩
end Go.Mk
