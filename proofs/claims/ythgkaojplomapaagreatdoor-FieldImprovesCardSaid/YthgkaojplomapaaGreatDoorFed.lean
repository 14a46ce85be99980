/-
  Proved: slices.insertionSortCmpFunc of integers, by the closure of field.series, leaves them in descending order, in place. Conditions: the integers lie in a row of the caller's own; the comparison leaves what was there.
-/
import Derived.Test.YthgkaojplomapaaGreatDoorFea
import Derived.BigRegion
import Derived.BigQuiet
set_option linter.unusedVariables false
set_option linter.unusedSimpArgs false
open Go Go.Proofs Go.RowKit
set_option maxRecDepth 100000
namespace Go.Mk
def ga (L : List Int) (i : Nat) : Int := L.getD i 0
theorem ga_set {L : List Int} {i : Nat} (x : Int) (h : i < L.length) (k : Nat) : ga (L.set i x) k = if k = i then x else ga L k := by
  unfold ga
  rw [List.getD_eq_getElem?_getD, List.getD_eq_getElem?_getD]
  by_cases e : k = i
  · subst e; rw [if_pos rfl, List.getElem?_set_self h]; rfl
  · rw [if_neg e, List.getElem?_set_ne (fun q => e q.symm)]
theorem ga_at {L : List Int} {i : Nat} (h : i < L.length) : L[i]? = some (ga L i) := by
  unfold ga
  rw [List.getD_eq_getElem?_getD, List.getElem?_eq_getElem h]; rfl
def swp (L : List Int) (i j : Nat) : List Int := (L.set i (ga L j)).set j (ga L i)
theorem swp_len (L : List Int) (i j : Nat) : (swp L i j).length = L.length := by unfold swp; rw [List.length_set, List.length_set]
theorem ga_swp {L : List Int} {i j : Nat} (hi : i < L.length) (hj : j < L.length) (k : Nat) : ga (swp L i j) k = if k = j then ga L i else if k = i then ga L j else ga L k := by
  unfold swp
  rw [ga_set _ (by rw [List.length_set]; exact hj), ga_set _ hi]
theorem cons_set_perm : ∀ (L : List Int) (j : Nat) (x y : Int), L[j]? = some y → (y :: L.set j x).Perm (x :: L)
  | [], j, x, y, h => by simp at h
  | z :: L, 0, x, y, h => by
    simp at h
    subst h
    exact List.Perm.swap x z L
  | z :: L, j + 1, x, y, h => by
    rw [zA3]
    exact ((List.Perm.swap z y _).trans (List.Perm.cons z (cons_set_perm L j x y (by simpa using h)))).trans (List.Perm.swap x z L)
theorem set_set_perm : ∀ (L : List Int) (i j : Nat) (x y : Int), i < j → L[i]? = some x → L[j]? = some y → ((L.set i y).set j x).Perm L
  | [], i, j, x, y, _, h, _ => by simp at h
  | z :: L, 0, j, x, y, hij, h1, h2 => by
    obtain ⟨j', rfl⟩ : ∃ j', j = j' + 1 := ⟨j - 1, by omega⟩
    simp at h1
    subst h1
    rw [zA2, zA3]
    exact cons_set_perm L j' z y (by simpa using h2)
  | z :: L, i + 1, j, x, y, hij, h1, h2 => by
    obtain ⟨j', rfl⟩ : ∃ j', j = j' + 1 := ⟨j - 1, by omega⟩
    rw [zA3, zA3]
    exact List.Perm.cons z (set_set_perm L i j' x y (by omega) (by simpa using h1) (by simpa using h2))
theorem swp_perm {L : List Int} {i j : Nat} (hij : i < j) (hj : j < L.length) : (swp L i j).Perm L :=
  set_set_perm L i j _ _ hij (ga_at (by omega)) (ga_at hj)
def RowZ (w : World) (B g n cap : Nat) (L : List Int) : Prop := L.length = n ∧ w.ownsRow B 3 1 (.slice (some ⟨g, 0, none⟩) n cap) n (L.map fun z => Value.int .i64 z)
theorem RowZ.cell {w : World} {B g n cap : Nat} {L : List Int} (h : RowZ w B g n cap L) {i : Nat} (hi : i < n) : w.cell? ⟨g, i, none⟩ = some (.int .i64 (ga L i)) := by
  rw [World.ownsRow.cellAt h.2 i (by omega), List.getElem?_map, ga_at (by rw [h.1]; exact hi)]; rfl
theorem RowZ.froz {w : World} {B g n cap : Nat} {L : List Int} (h : RowZ w B g n cap L) (i : Nat) : w.frozen? ⟨g, i, none⟩ = false := World.ownsRow.frozenAt h.2 i
theorem RowZ.below {w w' : World} {B g n cap : Nat} {L : List Int} (h : RowZ w B g n cap L) (hb : Below w.heap.size w w') : RowZ w' B g n cap L := ⟨h.1, ownN h.2 hb⟩
theorem RowZ.set {w : World} {B g n cap : Nat} {L : List Int} (h : RowZ w B g n cap L) (i : Nat) (x : Int) : RowZ (w.setCell ⟨g, i, none⟩ (.int .i64 x)) B g n cap (L.set i x) := by
  refine ⟨by rw [List.length_set]; exact h.1, ?_⟩
  have := (World.ownsRow.stored h.2 i (.int .i64 x)).1
  rw [List.map_set]
  exact this
theorem RowZ.lt {w : World} {B g n cap : Nat} {L : List Int} (h : RowZ w B g n cap L) : B ≤ g ∧ g < w.heap.size := World.ownsRow.lt h.2 g rfl
theorem RowZ.swap1 {w : World} {B g n cap : Nat} {L : List Int} (h : RowZ w B g n cap L) {i j : Nat} (hij : i < j) : RowZ ((w.setCell ⟨g, j, none⟩ (.int .i64 (ga L i))).setCell ⟨g, i, none⟩ (.int .i64 (ga L j))) B g n cap (swp L i j) := by
  have := (h.set j (ga L i)).set i (ga L j)
  unfold swp
  rw [List.set_comm _ _ (by omega : i ≠ j)]
  exact this
theorem cell?_setCell_someQ {w : World} {p q : Addr} {x v : Value} (h : w.cell? q = some v) : ∃ v', (w.setCell p x).cell? q = some v' := by
  by_cases e : q = p
  · subst e
    exact ⟨x, World.cell?_setCell_same w _ _ h⟩
  · exact ⟨v, by rw [World.cell?_setCell_other w _ _ _ (fun q => e q.symm)]; exact h⟩
theorem wrapQ (x : Int) (h : -1000 ≤ x ∧ x ≤ 1000000) : IntKind.i64.wrap x = x := by
  simp [IntKind.wrap, IntKind.bits, IntKind.signed]
  omega
theorem grown_below {a c : World} (h : Below a.heap.size a c) (B : Option Nat) : a.grownBy c B := ⟨h.os, h.tape, h.output, h.size, fun i hi _ => h.block i hi⟩
theorem grown_set (w : World) (g j : Nat) (u : Value) : w.grownBy (w.setCell ⟨g, j, none⟩ u) (some g) :=
  ⟨rfl, rfl, rfl, by simp, fun k _ hk => heap_setCell_other w ⟨g, j, none⟩ k u (fun e => hk (by simp [e]))⟩
theorem gb_below {w a b : World} {g : Nat} (h : w.grownBy a (some g)) (hb : Below a.heap.size a b) : w.grownBy b (some g) := h.trans (grown_below hb _)
def SrtD (M : List Int) (a k : Nat) : Prop := ∀ p q, a ≤ p → p < q → q < k → ga M q ≤ ga M p
def InsD (a k j : Nat) (M : List Int) : Prop := (∀ p q, a ≤ p → p < q → q ≤ k → p ≠ j → q ≠ j → ga M q ≤ ga M p) ∧ ∀ q, j < q → q ≤ k → ga M q ≤ ga M j
theorem InsD.start {a k : Nat} {M : List Int} (h : SrtD M a k) : InsD a k k M := ⟨fun p q h1 h2 h3 h4 h5 => h p q h1 h2 (by omega), fun q h1 h2 => by omega⟩
theorem InsD.step {a k j : Nat} {M : List Int} (h : InsD a k j M) (haj : a < j) (hjk : j ≤ k) (hk : k < M.length) (hl : ga M (j - 1) < ga M j) : InsD a k (j - 1) (swp M (j - 1) j) := by
  have e := ga_swp (L := M) (i := j - 1) (j := j) (by omega) (by omega)
  refine ⟨fun p q h1 h2 h3 h4 h5 => ?_, fun q h1 h2 => ?_⟩
  · rw [e, e, if_neg h4, if_neg h5]
    by_cases hp : p = j
    · rw [if_pos hp, if_neg (by omega)]
      exact h.1 (j - 1) q (by omega) (by omega) h3 (by omega) (by omega)
    · rw [if_neg hp]
      by_cases hq : q = j
      · rw [if_pos hq]
        exact h.1 p (j - 1) h1 (by omega) (by omega) hp (by omega)
      · rw [if_neg hq]
        exact h.1 p q h1 h2 h3 hp hq
  · rw [e, e, if_neg (by omega : j - 1 ≠ j), if_pos rfl, if_neg (by omega : q ≠ j - 1)]
    by_cases hq : q = j
    · rw [if_pos hq]; omega
    · rw [if_neg hq]; exact h.2 q (by omega) h2
theorem InsD.done {a k j : Nat} {M : List Int} (h : InsD a k j M) (haj : a ≤ j) (hjk : j ≤ k) (ht : a < j → ga M j ≤ ga M (j - 1)) : SrtD M a (k + 1) := by
  intro p q h1 h2 h3
  by_cases hp : p = j
  · rw [hp] at h2 ⊢; exact h.2 q h2 (by omega)
  · by_cases hq : q = j
    · rw [hq] at h2 ⊢
      have h4 := ht (by omega)
      by_cases hpj : p = j - 1
      · rw [hpj]; exact h4
      · have := h.1 p (j - 1) h1 (by omega) (by omega) hp (by omega)
        omega
    · exact h.1 p q h1 h2 (by omega) hp hq
def DescV : Value := .func (.func 182) #[] #[]
def CmpD (w : World) (g : Nat) (L : List Int) : Prop :=
  ∀ w' : World, w.grownBy w' (some g) → ∀ x y : Int, x ∈ L → y ∈ L → Calls Tryz.prog 182 #[.int .i64 x, .int .i64 y] w' (RetPost (.int .i64 (y - x)) w')
def SortD (w : World) (B g n cap : Nat) (L : List Int) (a b : Nat) (e : Ending) (w' : World) : Prop :=
  ∃ M, e = .returned (.tuple #[]) ∧ M.Perm L ∧ SrtD M a b ∧ RowZ w' B g n cap M ∧ w.grownBy w' (some g)
set_option maxHeartbeats 4000000 in
theorem insertD_any (L : List Int) (B g n cap a b : Nat) (w : World) (hr : RowZ w B g n cap L) (hb : b ≤ n) (hn1 : n ≤ 100000) (ha : a ≤ 100000) (hC : CmpD w g L) :
    Calls Tryz.prog 223 #[.slice (some ⟨g, 0, none⟩) n cap, .int .i64 (a : Nat), .int .i64 (b : Nat), DescV] w (SortD w B g n cap L a b) := by
  have hni : (n : Int) ≤ 100000 := by omega
  have hai : (a : Int) ≤ 100000 := by omega
  have hbi : (b : Int) ≤ (n : Int) := by omega
  have HC := Lib.hid hC
  have HL := Lib.hid hr.1
  have HR := Lib.hid hr
  unfold DescV SortD
  clear hC hr
  go_enter Tryz.func223, Tryz.ntmps223
  go_wp2
  go_loopw [8] (fun i wr => ∃ (k : Nat) (M : List Int), i = .int .i64 k ∧ a + 1 ≤ k ∧ k ≤ 100001 ∧ Hid (M.Perm L ∧ SrtD M a k) ∧ RowZ wr B g n cap M ∧ w.grownBy wr (some g)) (fun i _ => 100002 - (RowKit.intOf i).toNat)
  case atStart => exact ⟨a + 1, L, by go_num, by omega, by omega, Lib.hid ⟨List.Perm.refl _, fun p q h1 h2 h3 => by omega⟩, HR.out, World.grownBy.refl _ _⟩
  case round =>
    obtain ⟨k, M, rfl, hk1, hk2, HI, hrow, hg⟩ := hrel
    by_cases hlt : k < b
    · have hki : (k : Int) < (b : Int) := by omega
      have hpk := HI.out
      have HPK := Lib.hid hpk
      obtain ⟨wy, rfl⟩ : ∃ wy : World, wy = wr := ⟨_, rfl⟩
      have HR2 := Lib.hid hrow
      have HG := Lib.hid hg
      clear hpk HI hrow hg
      go_wp2
      go_loopw [9] (fun i wr => ∃ (j : Nat) (M' : List Int), i = .int .i64 j ∧ a ≤ j ∧ j ≤ k ∧ Hid (M'.Perm L ∧ InsD a k j M') ∧ RowZ wr B g n cap M' ∧ w.grownBy wr (some g)) (fun i _ => (RowKit.intOf i).toNat)
      case atStart => exact ⟨k, M, rfl, by omega, by omega, Lib.hid ⟨HPK.out.1, InsD.start HPK.out.2⟩, HR2.out, HG.out⟩
      case round =>
        obtain ⟨j, M', rfl, hj1, hj2, HI, hrow, hg⟩ := hrel
        have hln : L.length = n := HL.out
        have hlM : M'.length = n := HI.out.1.length_eq.trans hln
        by_cases haj : a < j
        · have hai2 : (a : Int) < (j : Int) := by omega
          have c1 := hrow.cell (i := j) (by omega)
          have c2 := hrow.cell (i := j - 1) (by omega)
          have hj0 : (0 : Int) ≤ (j : Int) := by omega
          have hjn : (j : Int) < (n : Int) := by omega
          have hjt : ((j : Int)).toNat = j := by omega
          have hk0 : (0 : Int) ≤ (j : Int) - 1 := by omega
          have hk1 : (j : Int) - 1 < (n : Int) := by omega
          have hkt : ((j : Int) - 1).toNat = j - 1 := by omega
          have hj1i : (1 : Int) ≤ (j : Int) := by omega
          have hw1 : IntKind.i64.wrap ((j : Int) - 1) = (j : Int) - 1 := wrapQ _ (by omega)
          have t2 : ga M' j ∈ L := HI.out.1.mem_iff.1 (List.mem_of_getElem? (ga_at (by omega)))
          have t3 : ga M' (j - 1) ∈ L := HI.out.1.mem_iff.1 (List.mem_of_getElem? (ga_at (by omega)))
          have hK : ∀ w', Below wr.heap.size wr w' → Calls Tryz.prog 182 #[.int .i64 (ga M' j), .int .i64 (ga M' (j - 1))] w' (RetPost (.int .i64 (ga M' (j - 1) - ga M' j)) w') := fun w' hb' => HC.out w' (gb_below hg hb') _ _ t2 t3
          obtain ⟨x, hx⟩ : ∃ x, ga M' j = x := ⟨_, rfl⟩
          obtain ⟨y, hy⟩ : ∃ y, ga M' (j - 1) = y := ⟨_, rfl⟩
          rw [hx] at c1
          rw [hy] at c2
          rw [hx, hy] at hK
          have HX := Lib.hid (And.intro hx hy)
          have HRW := Lib.hid hrow
          have HGG := Lib.hid hg
          clear hx hy t2 t3 hrow hg
          obtain ⟨s, hs⟩ : ∃ s, y - x = s := ⟨_, rfl⟩
          rw [hs] at hK
          have HS := Lib.hid hs
          clear hs
          by_cases hlt0 : s < 0
          · have hl : y < x := by have := HS.out; omega
            have HST := Lib.hid (And.intro ((swp_perm (i := j - 1) (j := j) (by omega) (by omega)).trans HI.out.1) (InsD.step HI.out.2 haj hj2 (by omega) (by rw [HX.out.1, HX.out.2]; exact hl)))
            clear hl
            go_wp2_with fail
            refine wp_region_held_drew (S := fun w' => w'.cell? ⟨g, j, none⟩ = some (.int .i64 x) ∧ w'.cell? ⟨g, j - 1, none⟩ = some (.int .i64 y)) (by kernel_rfl) ?_ (fun hHeld => ?_)
            · exact ⟨c1, c2⟩
            refine zT (i := 0) (v := ?_) rfl (Or.inl ⟨by kernel_rfl, ?_⟩) ?_
            rotate_left
            · rintro w ⟨s1, s2⟩
              go_simp
              try with_reducible rfl
            try simp only [Act.put, zA1, zA2, zA3]
            refine zT (i := 1) (v := ?_) rfl (Or.inl ⟨by kernel_rfl, ?_⟩) ?_
            rotate_left
            · rintro w ⟨s1, s2⟩
              go_simp
              try with_reducible rfl
            try simp only [Act.put, zA1, zA2, zA3]
            refine zT (i := 2) (v := ?_) rfl (Or.inl ⟨by kernel_rfl, ?_⟩) ?_
            rotate_left
            · rintro w ⟨s1, s2⟩
              go_simp
              try with_reducible rfl
            try simp only [Act.put, zA1, zA2, zA3]
            refine zT (i := 3) (v := ?_) rfl (Or.inl ⟨by kernel_rfl, ?_⟩) ?_
            rotate_left
            · rintro w ⟨s1, s2⟩
              go_simp
              try with_reducible rfl
            try simp only [Act.put, zA1, zA2, zA3]
            refine zT (i := 4) (v := ?_) rfl (Or.inl ⟨by kernel_rfl, ?_⟩) ?_
            rotate_left
            · rintro w ⟨s1, s2⟩
              go_simp
              try with_reducible rfl
            try simp only [Act.put, zA1, zA2, zA3]
            refine zT (i := 5) (v := ?_) rfl (Or.inl ⟨by kernel_rfl, ?_⟩) ?_
            rotate_left
            · rintro w ⟨s1, s2⟩
              go_simp
              try with_reducible rfl
            try simp only [Act.put, zA1, zA2, zA3]
            refine zT (i := 6) (v := ?_) rfl (Or.inl ⟨by kernel_rfl, ?_⟩) ?_
            rotate_left
            · rintro w ⟨s1, s2⟩
              go_simp
              try with_reducible rfl
            try simp only [Act.put, zA1, zA2, zA3]
            refine zT (i := 7) (v := ?_) rfl (Or.inl ⟨by kernel_rfl, ?_⟩) ?_
            rotate_left
            · rintro w ⟨s1, s2⟩
              go_simp
              try with_reducible rfl
            try simp only [Act.put, zA1, zA2, zA3]
            refine zT (i := 8) (v := ?_) rfl (Or.inl ⟨by kernel_rfl, ?_⟩) ?_
            rotate_left
            · rintro w ⟨s1, s2⟩
              go_simp
              try with_reducible rfl
            try simp only [Act.put, zA1, zA2, zA3]
            refine zT (i := 9) (v := ?_) rfl (Or.inl ⟨by kernel_rfl, ?_⟩) ?_
            rotate_left
            · rintro w ⟨s1, s2⟩
              go_simp
              try with_reducible rfl
            try simp only [Act.put, zA1, zA2, zA3]
            refine zT (i := 10) (v := ?_) rfl (Or.inl ⟨by kernel_rfl, ?_⟩) ?_
            rotate_left
            · rintro w ⟨s1, s2⟩
              go_simp
              try with_reducible rfl
            try simp only [Act.put, zA1, zA2, zA3]
            refine zT (i := 11) (v := ?_) rfl (Or.inl ⟨by kernel_rfl, ?_⟩) ?_
            rotate_left
            · rintro w ⟨s1, s2⟩
              go_simp
              try simp only [hw1, hkt, if_pos hj1i]
              try with_reducible rfl
            try simp only [Act.put, zA1, zA2, zA3]
            refine zT (i := 12) (v := ?_) rfl (Or.inl ⟨by kernel_rfl, ?_⟩) ?_
            rotate_left
            · rintro w ⟨s1, s2⟩
              go_simp
              try simp only [hw1, hkt, if_pos hj1i]
              try with_reducible rfl
            try simp only [Act.put, zA1, zA2, zA3]
            refine zT (i := 13) (v := ?_) rfl (Or.inl ⟨by kernel_rfl, ?_⟩) ?_
            rotate_left
            · rintro w ⟨s1, s2⟩
              go_simp
              try simp only [hw1, hkt, if_pos hj1i]
              try with_reducible rfl
            try simp only [Act.put, zA1, zA2, zA3]
            refine wpAnyH_ready (rs := [14]) (by kernel_rfl) (by simp) ?_
            refine AllReadyH.cons (o := _) rfl (fun K hKK => ?_) AllReadyH.nil
            go_simp
            go_at_call 182
            refine (hK _ (Below.refl _ _).drew).mono ?_
            rintro e w5 ⟨rfl, hb5⟩
            have hr5 := (HRW.out.below (Below.refl _ _).drew).below hb5
            have d1 := hr5.cell (i := j) (by omega)
            have d2 := hr5.cell (i := j - 1) (by omega)
            rw [HX.out.1] at d1
            rw [HX.out.2] at d2
            have hg5 := gb_below HGG.out (bstep (Below.refl _ _).drew hb5)
            go_wp2_with fail
            refine hKK.out _ _ ?_ (fun hHeld => ?_)
            · exact ⟨d1, d2⟩
            clear hKK K
            try simp only [Act.put, zA1, zA2, zA3]
            refine wpAnyH_ready (rs := [15]) (by kernel_rfl) (by simp) ?_
            refine AllReadyH.cons (o := _) rfl (fun K hKK => ?_) AllReadyH.nil
            go_simp
            refine hKK.out _ _ ?_ (fun hHeld => ?_)
            · exact hHeld
            clear hKK K
            try simp only [Act.put, zA1, zA2, zA3]
            refine wpAnyH_ready (rs := [16]) (by kernel_rfl) (by simp) ?_
            refine AllReadyH.cons (o := _) rfl (fun K hKK => ?_) AllReadyH.nil
            go_simp
            refine hKK.out _ _ ?_ (fun hHeld => ?_)
            · exact hHeld
            clear hKK K
            try simp only [Act.put, zA1, zA2, zA3]
            refine wpAnyH_done (by kernel_rfl) ?_ _
            have z1 := hr5.froz j
            have z2 := hr5.froz (j - 1)
            have HR5 := Lib.hid hr5
            have HG5 := Lib.hid hg5
            clear c1 c2 hK hb5 hr5 hg5 hHeld
            obtain ⟨v', d2'⟩ := cell?_setCell_someQ (p := ⟨g, j, none⟩) (x := .int .i64 y) d2
            go_wp2
            go_region
            go_wp2
            go_roundw
            case rel =>
              have h1 := HR5.out.swap1 (i := j - 1) (j := j) (by omega)
              rw [HX.out.1, HX.out.2] at h1
              exact ⟨j - 1, _, by go_num, by omega, by omega, HST, h1.below (Below.refl _ _).drew, gb_below ((HG5.out.trans (grown_set _ g j _)).trans (grown_set _ g (j - 1) _)) (Below.refl _ _).drew⟩
            case measure => simp [RowKit.intOf]; omega
          · have hl : x ≤ y := by have := HS.out; omega
            have hdone := InsD.done HI.out.2 hj1 hj2 (fun _ => by rw [HX.out.1, HX.out.2]; exact hl)
            have HD := Lib.hid (And.intro HI.out.1 hdone)
            clear hl hdone
            go_wp2_with fail
            refine wp_region_held_drew (S := fun w' => w'.cell? ⟨g, j, none⟩ = some (.int .i64 x) ∧ w'.cell? ⟨g, j - 1, none⟩ = some (.int .i64 y)) (by kernel_rfl) ?_ (fun hHeld => ?_)
            · exact ⟨c1, c2⟩
            refine zT (i := 0) (v := ?_) rfl (Or.inl ⟨by kernel_rfl, ?_⟩) ?_
            rotate_left
            · rintro w ⟨s1, s2⟩
              go_simp
              try with_reducible rfl
            try simp only [Act.put, zA1, zA2, zA3]
            refine zT (i := 1) (v := ?_) rfl (Or.inl ⟨by kernel_rfl, ?_⟩) ?_
            rotate_left
            · rintro w ⟨s1, s2⟩
              go_simp
              try with_reducible rfl
            try simp only [Act.put, zA1, zA2, zA3]
            refine zT (i := 2) (v := ?_) rfl (Or.inl ⟨by kernel_rfl, ?_⟩) ?_
            rotate_left
            · rintro w ⟨s1, s2⟩
              go_simp
              try with_reducible rfl
            try simp only [Act.put, zA1, zA2, zA3]
            refine zT (i := 3) (v := ?_) rfl (Or.inl ⟨by kernel_rfl, ?_⟩) ?_
            rotate_left
            · rintro w ⟨s1, s2⟩
              go_simp
              try with_reducible rfl
            try simp only [Act.put, zA1, zA2, zA3]
            refine zT (i := 4) (v := ?_) rfl (Or.inl ⟨by kernel_rfl, ?_⟩) ?_
            rotate_left
            · rintro w ⟨s1, s2⟩
              go_simp
              try with_reducible rfl
            try simp only [Act.put, zA1, zA2, zA3]
            refine zT (i := 5) (v := ?_) rfl (Or.inl ⟨by kernel_rfl, ?_⟩) ?_
            rotate_left
            · rintro w ⟨s1, s2⟩
              go_simp
              try with_reducible rfl
            try simp only [Act.put, zA1, zA2, zA3]
            refine zT (i := 6) (v := ?_) rfl (Or.inl ⟨by kernel_rfl, ?_⟩) ?_
            rotate_left
            · rintro w ⟨s1, s2⟩
              go_simp
              try with_reducible rfl
            try simp only [Act.put, zA1, zA2, zA3]
            refine zT (i := 7) (v := ?_) rfl (Or.inl ⟨by kernel_rfl, ?_⟩) ?_
            rotate_left
            · rintro w ⟨s1, s2⟩
              go_simp
              try with_reducible rfl
            try simp only [Act.put, zA1, zA2, zA3]
            refine zT (i := 8) (v := ?_) rfl (Or.inl ⟨by kernel_rfl, ?_⟩) ?_
            rotate_left
            · rintro w ⟨s1, s2⟩
              go_simp
              try with_reducible rfl
            try simp only [Act.put, zA1, zA2, zA3]
            refine zT (i := 9) (v := ?_) rfl (Or.inl ⟨by kernel_rfl, ?_⟩) ?_
            rotate_left
            · rintro w ⟨s1, s2⟩
              go_simp
              try with_reducible rfl
            try simp only [Act.put, zA1, zA2, zA3]
            refine zT (i := 10) (v := ?_) rfl (Or.inl ⟨by kernel_rfl, ?_⟩) ?_
            rotate_left
            · rintro w ⟨s1, s2⟩
              go_simp
              try with_reducible rfl
            try simp only [Act.put, zA1, zA2, zA3]
            refine zT (i := 11) (v := ?_) rfl (Or.inl ⟨by kernel_rfl, ?_⟩) ?_
            rotate_left
            · rintro w ⟨s1, s2⟩
              go_simp
              try simp only [hw1, hkt, if_pos hj1i]
              try with_reducible rfl
            try simp only [Act.put, zA1, zA2, zA3]
            refine zT (i := 12) (v := ?_) rfl (Or.inl ⟨by kernel_rfl, ?_⟩) ?_
            rotate_left
            · rintro w ⟨s1, s2⟩
              go_simp
              try simp only [hw1, hkt, if_pos hj1i]
              try with_reducible rfl
            try simp only [Act.put, zA1, zA2, zA3]
            refine zT (i := 13) (v := ?_) rfl (Or.inl ⟨by kernel_rfl, ?_⟩) ?_
            rotate_left
            · rintro w ⟨s1, s2⟩
              go_simp
              try simp only [hw1, hkt, if_pos hj1i]
              try with_reducible rfl
            try simp only [Act.put, zA1, zA2, zA3]
            refine wpAnyH_ready (rs := [14]) (by kernel_rfl) (by simp) ?_
            refine AllReadyH.cons (o := _) rfl (fun K hKK => ?_) AllReadyH.nil
            go_simp
            go_at_call 182
            refine (hK _ (Below.refl _ _).drew).mono ?_
            rintro e w5 ⟨rfl, hb5⟩
            have hr5 := (HRW.out.below (Below.refl _ _).drew).below hb5
            have d1 := hr5.cell (i := j) (by omega)
            have d2 := hr5.cell (i := j - 1) (by omega)
            rw [HX.out.1] at d1
            rw [HX.out.2] at d2
            have hg5 := gb_below HGG.out (bstep (Below.refl _ _).drew hb5)
            go_wp2_with fail
            refine hKK.out _ _ ?_ (fun hHeld => ?_)
            · exact ⟨d1, d2⟩
            clear hKK K
            try simp only [Act.put, zA1, zA2, zA3]
            refine wpAnyH_ready (rs := [15]) (by kernel_rfl) (by simp) ?_
            refine AllReadyH.cons (o := _) rfl (fun K hKK => ?_) AllReadyH.nil
            go_simp
            refine hKK.out _ _ ?_ (fun hHeld => ?_)
            · exact hHeld
            clear hKK K
            try simp only [Act.put, zA1, zA2, zA3]
            refine wpAnyH_ready (rs := [16]) (by kernel_rfl) (by simp) ?_
            refine AllReadyH.cons (o := _) rfl (fun K hKK => ?_) AllReadyH.nil
            go_simp
            refine hKK.out _ _ ?_ (fun hHeld => ?_)
            · exact hHeld
            clear hKK K
            try simp only [Act.put, zA1, zA2, zA3]
            refine wpAnyH_done (by kernel_rfl) ?_ _
            have HR5 := Lib.hid hr5
            have HG5 := Lib.hid hg5
            clear c1 c2 hK hb5 hr5 hg5 hHeld
            go_wp2
            go_roundw
            case rel => exact ⟨k + 1, M', by go_num, by omega, by omega, Lib.hid ⟨HD.out.1, HD.out.2⟩, HR5.out, HG5.out⟩
            case measure => simp [RowKit.intOf]; omega
        · have hna : ¬ (a : Int) < (j : Int) := by omega
          have hdone := InsD.done HI.out.2 hj1 hj2 (fun q => absurd q haj)
          have HD := Lib.hid (And.intro HI.out.1 hdone)
          have HRW := Lib.hid hrow
          have HGG := Lib.hid hg
          clear hdone hrow hg
          go_wp2_with fail
          go_quiet (fail)
          go_wp2
          go_roundw
          case rel => exact ⟨k + 1, M', by go_num, by omega, by omega, Lib.hid ⟨HD.out.1, HD.out.2⟩, HRW.out.below (below_drewN (Below.refl _ _) _), gb_below HGG.out (below_drewN (Below.refl _ _) _)⟩
          case measure => simp [RowKit.intOf]; omega
    · have hki : ¬ (k : Int) < (b : Int) := by omega
      have hfin : M.Perm L ∧ SrtD M a b := ⟨HI.out.1, fun p q h1 h2 h3 => HI.out.2 p q h1 h2 (by omega)⟩
      have HF := Lib.hid hfin
      have HRW := Lib.hid hrow
      have HGG := Lib.hid hg
      clear hfin HI hrow hg
      go_wp2
      go_end0
      exact ⟨rfl, M, HF.out.1, HF.out.2, HRW.out, HGG.out⟩
end Go.Mk
