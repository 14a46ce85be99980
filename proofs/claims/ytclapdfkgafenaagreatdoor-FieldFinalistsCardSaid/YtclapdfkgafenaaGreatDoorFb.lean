/-
  Proved: CheckContest and CheckVertical of package field return plain functions of the names and numbers. Conditions: the texts and the integers lie where the slices say; there are at most 1,000 of both, each text no longer than an int says.
  Proved: rows of package field in memory; the errors of their trials (trialError, firstOf, listError), and the names of rows (each). Conditions: the rows and their trials lie where the slices say, at most 1,000 of both.
-/
import Derived.Test.YtclapdfkgafenaaGreatDoorFa
section
set_option linter.unusedVariables false
set_option linter.unusedSimpArgs false
open Go Go.Proofs Go.RowKit
set_option maxRecDepth 100000
namespace Go.Mk
theorem IntsZ.cellAt {w : World} {A : Option Addr} {n : Nat} {L : List Int} (h : IntsZ w A n L) {k : Nat} (hk : k < n) : ∃ b off x, A = some ⟨b, off, none⟩ ∧ b < w.heap.size ∧ L[k]? = some x ∧ w.cell? ⟨b, off + k, none⟩ = some (.int .i64 x) := by
  obtain ⟨b, off, e, hlt, hc⟩ := h.2 (by omega)
  have hl : k < L.length := by rw [h.1]; exact hk
  exact ⟨b, off, L[k], e, hlt, List.getElem?_eq_getElem hl, hc k L[k] (List.getElem?_eq_getElem hl)⟩
theorem es4F (w : World) (a b c d : Int) (t : TypeId) : Es (w.alloc (.cells #[.int .i64 a, .int .i64 b, .int .i64 c, .int .i64 d] t)) w.heap.size [a, b, c, d] := by
  intro i v hv
  match i, hv with
  | 0, hv => simp at hv; subst hv; simp
  | 1, hv => simp at hv; subst hv; simp
  | 2, hv => simp at hv; subst hv; simp
  | 3, hv => simp at hv; subst hv; simp
def tenE (n hi : Int) : Int := fstN [rngE n 10 hi, if n % 10 = 0 then 0 else 3]
def hgtE (p : Option Int) (h : Int) : Int := fstN [tenE h 999999, match p with | some q => if h ≤ q then 11 else 0 | none => 0]
def hgtsE : Option Int → List Int → Int
  | _, [] => 0
  | p, h :: l => if hgtE p h = 0 then hgtsE (some h) l else hgtE p h
def prevI (L : List Int) : Nat → Option Int
  | 0 => none
  | k + 1 => L[k]?
def conE (L : List ByteArray) (t f m : Int) : Int := fstN [athE L, rngE t 1 6, rngE m 0 (IntKind.i64.wrap (6 - t)), if m = 0 then (if f = 0 then 0 else 3) else rngE f 1 32]
def verE (L : List ByteArray) (G : List Int) (s : Int) : Int := fstN [athE L, if G.length = 0 then 12 else 0, if 24 < G.length then 5 else hgtsE none G, tenE s 1000]
set_option maxHeartbeats 4000000 in
theorem fdAthletes_any (L : List ByteArray) (n cap : Nat) (A : Option Addr) (w : World) (hZ : TextsZ w A n L) (hn : n ≤ 1000) (hcap : n ≤ cap) (hs : ∀ x ∈ L, x.size ≤ maxLen) :
    Calls Tryz.prog 110 #[.slice A n cap] w (RetPost (.int .i64 (athE L)) w) := by
  obtain ⟨w1, hw1⟩ : ∃ w1, w.alloc (.cells #[.slice A n cap] 46) = w1 := ⟨_, rfl⟩
  have hb1 : Below w.heap.size w w1 := by rw [← hw1]; exact balloc _ (Below.refl _ _)
  have hs1 : w1.heap.size = w.heap.size + 1 := by rw [← hw1]; simp
  have c0 : w1.cell? ⟨w.heap.size, 0, none⟩ = some (.slice A n cap) := by rw [← hw1]; simp
  have HX : Hid (∀ w', Below w1.heap.size w1 w' → w'.cell? ⟨w.heap.size, 0, none⟩ = some (.slice A n cap) ∧ Below w1.heap.size w1 w') := Lib.hid fun w' hb => ⟨(hb.cell (p := ⟨w.heap.size, 0, none⟩) (by show w.heap.size < _; omega)).trans c0, hb⟩
  have HLi : Hid (∀ w', Below w1.heap.size w1 w' → Calls Tryz.prog 167 #[.slice A n cap, .int .i64 32, .func (.func 168) #[] #[.pointer (some ⟨w.heap.size, 0, none⟩)]] w' (RetPost (.int .i64 (if 32 < n then 5 else nmsE [] L)) w')) := Lib.hid fun w' hb => fdListS_any L n cap w.heap.size cap A w' (HX.out _ hb).1 (by have := hb.size; omega) ((hZ.below hb1).below hb) hn hcap hs
  have hW := fun w => trWhen_any ((n : Int) == 0) 12 w
  have hF0 := fun x y g w => trFirst_any [x, y] 2 rfl (by decide) g w
  have hni : (n : Int) ≤ 1000 := by omega
  have HY : Hid (fstN [if ((n : Int) == 0) = true then 12 else 0, if 32 < n then 5 else nmsE [] L] = athE L) := Lib.hid (by unfold athE; rw [hZ.1]; congr 2; simp)
  generalize athE L = y at *
  obtain ⟨e2, he2⟩ : ∃ e2 : Int, (if 32 < n then 5 else nmsE [] L) = e2 := ⟨_, rfl⟩
  obtain ⟨e1, he1⟩ : ∃ e1 : Int, (if ((n : Int) == 0) = true then 12 else 0) = e1 := ⟨_, rfl⟩
  rw [he2] at HLi HY
  rw [he1] at HY hW
  have hF := hF0 e1 e2
  rw [HY.out] at hF
  have HB1 := Lib.hid hb1
  clear hF0 hZ hs he1 he2 HY c0 hb1
  go_enter Tryz.func110, Tryz.ntmps110
  go_wp2_with fail
  clear hw1
  refine wp_region_held_drew (S := (fun w' => w'.cell? ⟨w.heap.size, 0, none⟩ = some (.slice A n cap) ∧ Below w1.heap.size w1 w')) (by kernel_rfl) ?_ (fun hHeld => ?_)
  · exact HX.out _ (Below.drew (Below.refl _ _))
  refine zT (i := 0) (v := ?_) rfl (Or.inl ⟨by kernel_rfl, ?_⟩) ?_
  rotate_left
  · rintro w ⟨s1, s2⟩
    go_simp
    try with_reducible rfl
  try simp only [Act.put, zA1, zA2, zA3, zA4, zA5, zA6]
  refine zT (i := 1) (v := ?_) rfl (Or.inl ⟨by kernel_rfl, ?_⟩) ?_
  rotate_left
  · rintro w ⟨s1, s2⟩
    go_simp
    try with_reducible rfl
  try simp only [Act.put, zA1, zA2, zA3, zA4, zA5, zA6]
  refine zT (i := 2) (v := ?_) rfl (Or.inl ⟨by kernel_rfl, ?_⟩) ?_
  rotate_left
  · rintro w ⟨s1, s2⟩
    go_simp
    try with_reducible rfl
  try simp only [Act.put, zA1, zA2, zA3, zA4, zA5, zA6]
  refine zT (i := 4) (v := ?_) rfl (Or.inl ⟨by kernel_rfl, ?_⟩) ?_
  rotate_left
  · rintro w ⟨s1, s2⟩
    go_simp
    try with_reducible rfl
  try simp only [Act.put, zA1, zA2, zA3, zA4, zA5, zA6]
  refine zT (i := 5) (v := ?_) rfl (Or.inl ⟨by kernel_rfl, ?_⟩) ?_
  rotate_left
  · rintro w ⟨s1, s2⟩
    go_simp
    try with_reducible rfl
  try simp only [Act.put, zA1, zA2, zA3, zA4, zA5, zA6]
  refine wpAnyH_ready (rs := [3]) (by kernel_rfl) (by simp) ?_
  refine AllReadyH.cons (o := _) rfl (fun K hKK => ?_) AllReadyH.nil
  go_simp
  go_at_call 57
  with_reducible refine (hW _).mono ?_
  rintro e' w' ⟨rfl, rfl⟩
  go_wp2_with fail
  refine hKK.out _ _ ?_ (fun hHeld => ?_)
  · exact hHeld
  clear hKK K
  try simp only [Act.put, zA1, zA2, zA3, zA4, zA5, zA6]
  refine wpAnyH_ready (rs := [6]) (by kernel_rfl) (by simp) ?_
  refine AllReadyH.cons (o := _) rfl (fun K hKK => ?_) AllReadyH.nil
  go_simp
  go_at_call 167
  with_reducible refine (HLi.out _ hHeld.2).mono ?_
  rintro e' w' ⟨rfl, hbz⟩
  go_wp2_with fail
  refine hKK.out _ _ ?_ (fun hHeld => ?_)
  · exact HX.out _ (bstep hHeld.2 hbz)
  clear hKK K
  try simp only [Act.put, zA1, zA2, zA3, zA4, zA5, zA6]
  clear hbz
  refine wpAnyH_ready (rs := [7]) (by kernel_rfl) (by simp) ?_
  refine AllReadyH.cons (o := _) rfl (fun K hKK => ?_) AllReadyH.nil
  go_simp
  refine hKK.out _ _ ?_ (fun hHeld => ?_)
  · exact HX.out _ (balloc _ hHeld.2)
  clear hKK K
  try simp only [Act.put, zA1, zA2, zA3, zA4, zA5, zA6]
  refine wpAnyH_ready (rs := [8]) (by kernel_rfl) (by simp) ?_
  refine AllReadyH.cons (o := _) rfl (fun K hKK => ?_) AllReadyH.nil
  go_simp
  go_at_call 47
  refine (hF _ _ ?_).mono ?_
  · exact es2 _ _ _ _
  rintro e' w' ⟨rfl, rfl⟩
  go_wp2_with fail
  refine hKK.out _ _ ?_ (fun hHeld => ?_)
  · exact hHeld
  clear hKK K
  try simp only [Act.put, zA1, zA2, zA3, zA4, zA5, zA6]
  refine zT (i := 9) (v := ?_) rfl (Or.inl ⟨by kernel_rfl, ?_⟩) ?_
  rotate_left
  · rintro w ⟨s1, s2⟩
    go_simp
    try with_reducible rfl
  try simp only [Act.put, zA1, zA2, zA3, zA4, zA5, zA6]
  refine wpAnyH_done (by kernel_rfl) ?_ _
  have hb3 := bstep HB1.out hHeld.2
  clear hHeld
  go_wp2
  go_ret
  exact ⟨rfl, hb3⟩
def VerF (g : Nat) : Value := .func (.func 177) #[] #[.pointer (some ⟨g, 0, none⟩)]
set_option maxHeartbeats 2000000 in
theorem fdFinalists_any (A : Option Addr) (n cap : Nat) (t f m : Int) (w : World) :
    Calls Tryz.prog 111 #[.agg #[.slice A n cap, .int .i64 t, .int .i64 f, .int .i64 m]] w (RetPost (.int .i64 (if m = 0 then (if f = 0 then 0 else 3) else rngE f 1 32)) w) := by
  have hb0 : Below w.heap.size w (w.alloc (.cells #[.slice A n cap, .int .i64 t, .int .i64 f, .int .i64 m] 52)) := balloc _ (Below.refl _ _)
  have hR := fun w => trRange_any f 1 32 w
  by_cases h : m = 0
  · have hW := fun w => trWhen_any (f != 0) 3 w
    have HY : Hid ((if (f != 0) = true then (3 : Int) else 0) = if f = 0 then 0 else 3) := Lib.hid (by by_cases q : f = 0 <;> simp [q])
    rw [HY.out] at hW
    rw [if_pos h]
    generalize (if f = 0 then (0 : Int) else 3) = y at *
    subst h
    clear hR HY
    go_enter Tryz.func111, Tryz.ntmps111
    go_wp2_with fail
    refine (hW _).mono ?_
    rintro e w1 ⟨rfl, rfl⟩
    go_wp2
    go_ret
    exact ⟨rfl, hb0⟩
  · have hmb : (m == 0) = false := by rw [beq_eq_false_iff_ne]; exact h
    rw [if_neg h]
    generalize rngE f 1 32 = y at *
    go_enter Tryz.func111, Tryz.ntmps111
    go_wp2_with fail
    refine (hR _).mono ?_
    rintro e w1 ⟨rfl, rfl⟩
    go_wp2
    go_ret
    exact ⟨rfl, hb0⟩
set_option maxHeartbeats 8000000 in
theorem fdCheckContest_any (L : List ByteArray) (n cap : Nat) (A : Option Addr) (t f m : Int) (w : World) (hZ : TextsZ w A n L) (hn : n ≤ 1000) (hcap : n ≤ cap) (hs : ∀ x ∈ L, x.size ≤ maxLen) :
    Calls Tryz.prog 56 #[.agg #[.slice A n cap, .int .i64 t, .int .i64 f, .int .i64 m]] w (RetPost (.int .i64 (conE L t f m)) w) := by
  obtain ⟨w1, hw1⟩ : ∃ w1, w.alloc (.cells #[.slice A n cap, .int .i64 t, .int .i64 f, .int .i64 m] 52) = w1 := ⟨_, rfl⟩
  have hb1 : Below w.heap.size w w1 := by rw [← hw1]; exact balloc _ (Below.refl _ _)
  have hs1 : w1.heap.size = w.heap.size + 1 := by rw [← hw1]; simp
  have c0 : w1.cell? ⟨w.heap.size, 0, none⟩ = some (.slice A n cap) := by rw [← hw1]; simp
  have c1 : w1.cell? ⟨w.heap.size, 1, none⟩ = some (.int .i64 t) := by rw [← hw1]; simp
  have c2 : w1.cell? ⟨w.heap.size, 2, none⟩ = some (.int .i64 f) := by rw [← hw1]; simp
  have c3 : w1.cell? ⟨w.heap.size, 3, none⟩ = some (.int .i64 m) := by rw [← hw1]; simp
  have HX : Hid (∀ w', Below w1.heap.size w1 w' → w'.cell? ⟨w.heap.size, 0, none⟩ = some (.slice A n cap) ∧ w'.cell? ⟨w.heap.size, 1, none⟩ = some (.int .i64 t) ∧ w'.cell? ⟨w.heap.size, 2, none⟩ = some (.int .i64 f) ∧ w'.cell? ⟨w.heap.size, 3, none⟩ = some (.int .i64 m) ∧ Below w1.heap.size w1 w') := Lib.hid fun w' hb => ⟨(hb.cell (p := ⟨w.heap.size, 0, none⟩) (by show w.heap.size < _; omega)).trans c0, (hb.cell (p := ⟨w.heap.size, 1, none⟩) (by show w.heap.size < _; omega)).trans c1, (hb.cell (p := ⟨w.heap.size, 2, none⟩) (by show w.heap.size < _; omega)).trans c2, (hb.cell (p := ⟨w.heap.size, 3, none⟩) (by show w.heap.size < _; omega)).trans c3, hb⟩
  have HA : Hid (∀ w', Below w1.heap.size w1 w' → Calls Tryz.prog 110 #[.slice A n cap] w' (RetPost (.int .i64 (athE L)) w')) := Lib.hid fun w' hb => fdAthletes_any L n cap A w' ((hZ.below hb1).below hb) hn hcap hs
  have hR1 := fun w => trRange_any t 1 6 w
  have hR2 := fun w => trRange_any m 0 (IntKind.i64.wrap (6 - t)) w
  have hFi := fun w => fdFinalists_any A n cap t f m w
  have hF0 := fun a b c d g w => trFirst_any [a, b, c, d] 4 rfl (by decide) g w
  have HY : Hid (fstN [athE L, rngE t 1 6, rngE m 0 (IntKind.i64.wrap (6 - t)), if m = 0 then (if f = 0 then 0 else 3) else rngE f 1 32] = conE L t f m) := Lib.hid rfl
  generalize conE L t f m = y at *
  generalize athE L = e1 at *
  generalize rngE t 1 6 = e2 at *
  obtain ⟨e3, he3⟩ : ∃ e3, rngE m 0 (IntKind.i64.wrap (6 - t)) = e3 := ⟨_, rfl⟩
  rw [he3] at HY hR2
  generalize (if m = 0 then (if f = 0 then (0 : Int) else 3) else rngE f 1 32) = e4 at *
  have hF := hF0 e1 e2 e3 e4
  rw [HY.out] at hF
  have HB1 := Lib.hid hb1
  clear hF0 hZ hs he3 HY c0 c1 c2 c3 hb1
  go_enter Tryz.func56, Tryz.ntmps56
  go_wp2_with fail
  clear hw1
  refine wp_region_held_drew (S := (fun w' => w'.cell? ⟨w.heap.size, 0, none⟩ = some (.slice A n cap) ∧ w'.cell? ⟨w.heap.size, 1, none⟩ = some (.int .i64 t) ∧ w'.cell? ⟨w.heap.size, 2, none⟩ = some (.int .i64 f) ∧ w'.cell? ⟨w.heap.size, 3, none⟩ = some (.int .i64 m) ∧ Below w1.heap.size w1 w')) (by kernel_rfl) ?_ (fun hHeld => ?_)
  · exact HX.out _ (Below.drew (Below.refl _ _))
  refine zT (i := 0) (v := ?_) rfl (Or.inl ⟨by kernel_rfl, ?_⟩) ?_
  rotate_left
  · rintro w ⟨s1, s2, s3, s4, s5⟩
    go_simp
    try with_reducible rfl
  try simp only [Act.put, zA1, zA2, zA3, zA4, zA5, zA6]
  refine zT (i := 1) (v := ?_) rfl (Or.inl ⟨by kernel_rfl, ?_⟩) ?_
  rotate_left
  · rintro w ⟨s1, s2, s3, s4, s5⟩
    go_simp
    try with_reducible rfl
  try simp only [Act.put, zA1, zA2, zA3, zA4, zA5, zA6]
  refine zT (i := 3) (v := ?_) rfl (Or.inl ⟨by kernel_rfl, ?_⟩) ?_
  rotate_left
  · rintro w ⟨s1, s2, s3, s4, s5⟩
    go_simp
    try with_reducible rfl
  try simp only [Act.put, zA1, zA2, zA3, zA4, zA5, zA6]
  refine zT (i := 4) (v := ?_) rfl (Or.inl ⟨by kernel_rfl, ?_⟩) ?_
  rotate_left
  · rintro w ⟨s1, s2, s3, s4, s5⟩
    go_simp
    try with_reducible rfl
  try simp only [Act.put, zA1, zA2, zA3, zA4, zA5, zA6]
  refine zT (i := 6) (v := ?_) rfl (Or.inl ⟨by kernel_rfl, ?_⟩) ?_
  rotate_left
  · rintro w ⟨s1, s2, s3, s4, s5⟩
    go_simp
    try with_reducible rfl
  try simp only [Act.put, zA1, zA2, zA3, zA4, zA5, zA6]
  refine zT (i := 7) (v := ?_) rfl (Or.inl ⟨by kernel_rfl, ?_⟩) ?_
  rotate_left
  · rintro w ⟨s1, s2, s3, s4, s5⟩
    go_simp
    try with_reducible rfl
  try simp only [Act.put, zA1, zA2, zA3, zA4, zA5, zA6]
  refine zT (i := 8) (v := ?_) rfl (Or.inl ⟨by kernel_rfl, ?_⟩) ?_
  rotate_left
  · rintro w ⟨s1, s2, s3, s4, s5⟩
    go_simp
    try with_reducible rfl
  try simp only [Act.put, zA1, zA2, zA3, zA4, zA5, zA6]
  refine zT (i := 9) (v := ?_) rfl (Or.inl ⟨by kernel_rfl, ?_⟩) ?_
  rotate_left
  · rintro w ⟨s1, s2, s3, s4, s5⟩
    go_simp
    try with_reducible rfl
  try simp only [Act.put, zA1, zA2, zA3, zA4, zA5, zA6]
  refine zT (i := 10) (v := ?_) rfl (Or.inl ⟨by kernel_rfl, ?_⟩) ?_
  rotate_left
  · rintro w ⟨s1, s2, s3, s4, s5⟩
    go_simp
    try with_reducible rfl
  try simp only [Act.put, zA1, zA2, zA3, zA4, zA5, zA6]
  refine zT (i := 12) (v := ?_) rfl (Or.inl ⟨by kernel_rfl, ?_⟩) ?_
  rotate_left
  · rintro w ⟨s1, s2, s3, s4, s5⟩
    go_simp
    try with_reducible rfl
  try simp only [Act.put, zA1, zA2, zA3, zA4, zA5, zA6]
  refine wpAnyH_ready (rs := [2]) (by kernel_rfl) (by simp) ?_
  refine AllReadyH.cons (o := _) rfl (fun K hKK => ?_) AllReadyH.nil
  go_simp
  go_at_call 110
  with_reducible refine (HA.out _ hHeld.2.2.2.2).mono ?_
  rintro e' w' ⟨rfl, hbz⟩
  go_wp2_with fail
  refine hKK.out _ _ ?_ (fun hHeld => ?_)
  · exact HX.out _ (bstep hHeld.2.2.2.2 hbz)
  clear hKK K
  try simp only [Act.put, zA1, zA2, zA3, zA4, zA5, zA6]
  clear hbz
  refine wpAnyH_ready (rs := [5]) (by kernel_rfl) (by simp) ?_
  refine AllReadyH.cons (o := _) rfl (fun K hKK => ?_) AllReadyH.nil
  go_simp
  go_at_call 83
  with_reducible refine (hR1 _).mono ?_
  rintro e' w' ⟨rfl, rfl⟩
  go_wp2_with fail
  refine hKK.out _ _ ?_ (fun hHeld => ?_)
  · exact hHeld
  clear hKK K
  try simp only [Act.put, zA1, zA2, zA3, zA4, zA5, zA6]
  refine wpAnyH_ready (rs := [11]) (by kernel_rfl) (by simp) ?_
  refine AllReadyH.cons (o := _) rfl (fun K hKK => ?_) AllReadyH.nil
  go_simp
  go_at_call 83
  with_reducible refine (hR2 _).mono ?_
  rintro e' w' ⟨rfl, rfl⟩
  go_wp2_with fail
  refine hKK.out _ _ ?_ (fun hHeld => ?_)
  · exact hHeld
  clear hKK K
  try simp only [Act.put, zA1, zA2, zA3, zA4, zA5, zA6]
  refine wpAnyH_ready (rs := [13]) (by kernel_rfl) (by simp) ?_
  refine AllReadyH.cons (o := _) rfl (fun K hKK => ?_) AllReadyH.nil
  go_simp
  go_at_call 111
  with_reducible refine (hFi _).mono ?_
  rintro e' w' ⟨rfl, hbz⟩
  go_wp2_with fail
  refine hKK.out _ _ ?_ (fun hHeld => ?_)
  · exact HX.out _ (bstep hHeld.2.2.2.2 hbz)
  clear hKK K
  try simp only [Act.put, zA1, zA2, zA3, zA4, zA5, zA6]
  clear hbz
  refine wpAnyH_ready (rs := [14]) (by kernel_rfl) (by simp) ?_
  refine AllReadyH.cons (o := _) rfl (fun K hKK => ?_) AllReadyH.nil
  go_simp
  refine hKK.out _ _ ?_ (fun hHeld => ?_)
  · exact HX.out _ (balloc _ hHeld.2.2.2.2)
  clear hKK K
  try simp only [Act.put, zA1, zA2, zA3, zA4, zA5, zA6]
  refine wpAnyH_ready (rs := [15]) (by kernel_rfl) (by simp) ?_
  refine AllReadyH.cons (o := _) rfl (fun K hKK => ?_) AllReadyH.nil
  go_simp
  go_at_call 47
  refine (hF _ _ ?_).mono ?_
  · exact es4F _ _ _ _ _ _
  rintro e' w' ⟨rfl, rfl⟩
  go_wp2_with fail
  refine hKK.out _ _ ?_ (fun hHeld => ?_)
  · exact hHeld
  clear hKK K
  try simp only [Act.put, zA1, zA2, zA3, zA4, zA5, zA6]
  refine zT (i := 16) (v := ?_) rfl (Or.inl ⟨by kernel_rfl, ?_⟩) ?_
  rotate_left
  · rintro w ⟨s1, s2, s3, s4, s5⟩
    go_simp
    try with_reducible rfl
  try simp only [Act.put, zA1, zA2, zA3, zA4, zA5, zA6]
  refine wpAnyH_done (by kernel_rfl) ?_ _
  have hb3 := bstep HB1.out hHeld.2.2.2.2
  clear hHeld
  go_wp2
  go_ret
  exact ⟨rfl, hb3⟩
end Go.Mk
end
section
set_option linter.unusedVariables false
set_option linter.unusedSimpArgs false
open Go Go.Proofs Go.RowKit
set_option maxRecDepth 100000
namespace Go.Mk
structure RowR where
  s : ByteArray
  A : Option Addr
  n : Nat
  c : Nat
  T : List Int
  rt : Bool
def Rows (w : World) (A : Option Addr) (n : Nat) (L : List RowR) : Prop :=
  L.length = n ∧ (0 < n → ∃ b off, A = some ⟨b, off, none⟩ ∧ b < w.heap.size ∧ ∀ (j : Nat) (r : RowR), L[j]? = some r →
    w.cell? ⟨b, off + j * 3, none⟩ = some (.string r.s) ∧ w.cell? ⟨b, off + j * 3 + 1, none⟩ = some (.slice r.A r.n r.c) ∧ w.cell? ⟨b, off + j * 3 + 2, none⟩ = some (.bool r.rt) ∧ IntsZ w r.A r.n r.T ∧ r.n ≤ r.c)
theorem Rows.below {w w' : World} {A : Option Addr} {n : Nat} {L : List RowR} (h : Rows w A n L) (hb : Below w.heap.size w w') : Rows w' A n L := by
  refine ⟨h.1, fun h0 => ?_⟩
  obtain ⟨b, off, e, hlt, hc⟩ := h.2 h0
  refine ⟨b, off, e, Nat.lt_of_lt_of_le hlt hb.size, fun j r hr => ?_⟩
  obtain ⟨h1, h2, h3, h4, h5⟩ := hc j r hr
  exact ⟨(hb.cell (p := ⟨b, _, none⟩) hlt).trans h1, (hb.cell (p := ⟨b, _, none⟩) hlt).trans h2, (hb.cell (p := ⟨b, _, none⟩) hlt).trans h3, h4.below hb, h5⟩
theorem Rows.at_ {w : World} {A : Option Addr} {n : Nat} {L : List RowR} (h : Rows w A n L) {k : Nat} (hk : k < n) : ∃ b off r, A = some ⟨b, off, none⟩ ∧ b < w.heap.size ∧ L[k]? = some r ∧
    (w.cell? ⟨b, off + k * 3, none⟩ = some (.string r.s) ∧ w.cell? ⟨b, off + k * 3 + 1, none⟩ = some (.slice r.A r.n r.c) ∧ w.cell? ⟨b, off + k * 3 + 2, none⟩ = some (.bool r.rt)) ∧ IntsZ w r.A r.n r.T ∧ r.n ≤ r.c := by
  obtain ⟨b, off, e, hlt, hc⟩ := h.2 (by omega)
  have hl : k < L.length := by rw [h.1]; exact hk
  obtain ⟨h1, h2, h3, h4, h5⟩ := hc k L[k] (List.getElem?_eq_getElem hl)
  exact ⟨b, off, L[k], e, hlt, List.getElem?_eq_getElem hl, ⟨h1, h2, h3⟩, h4, h5⟩
def trsE : List Int → Int
  | [] => 0
  | t :: l => if rngE t (-2) 999999 = 0 then trsE l else rngE t (-2) 999999
theorem trsE_drop {L : List Int} {k : Nat} {t : Int} (e : L[k]? = some t) : trsE (L.drop k) = if rngE t (-2) 999999 = 0 then trsE (L.drop (k + 1)) else rngE t (-2) 999999 := by
  obtain ⟨hk, rfl⟩ := List.getElem?_eq_some_iff.1 e
  rw [List.drop_eq_getElem_cons hk, trsE]
set_option maxHeartbeats 1000000 in
theorem fdTrialE_any (k t : Int) (w : World) : Calls Tryz.prog 50 #[.int .i64 k, .int .i64 t] w (RetSame (.int .i64 (rngE t (-2) 999999)) w) := by
  have hR := fun w => trRange_any t (-2) 999999 w
  generalize rngE t (-2) 999999 = y at *
  go_enter Tryz.func50, Tryz.ntmps50
  go_wp2_with fail
  refine (hR _).mono ?_
  rintro e w1 ⟨rfl, rfl⟩
  go_wp2
  go_ret
  exact ⟨rfl, rfl⟩
set_option maxHeartbeats 4000000 in
theorem fdFirstT_any (L : List Int) (n cap : Nat) (A : Option Addr) (w : World) (hZ : IntsZ w A n L) (hn : n ≤ 1000) :
    Calls Tryz.prog 108 #[.slice A n cap, .func (.func 50) #[] #[]] w (RetSame (.int .i64 (trsE L)) w) := by
  have hni : (n : Int) ≤ 1000 := by omega
  have H := Lib.hid hZ
  have Hn := Lib.hid hZ.1
  obtain ⟨y, hy⟩ : ∃ y, trsE L = y := ⟨_, rfl⟩
  rw [hy]
  have HY : Hid (trsE (L.drop 0) = y) := by rw [← hy]; rfl
  clear hZ hy
  go_enter Tryz.func108, Tryz.ntmps108
  go_wp2
  go_loop [10] (fun i => ∃ k : Nat, k ≤ n ∧ i = .int .i64 k ∧ Hid (trsE (L.drop k) = y)) (fun i => n - (intOf i).toNat)
  case atStart => exact ⟨0, by omega, rfl, HY⟩
  case round =>
    obtain ⟨k, hk, rfl, HK⟩ := hrel
    by_cases hlt : k < n
    · obtain ⟨b, off, x, rfl, hbl, hx, hcx⟩ := H.out.cellAt hlt
      have hst := HK.out
      rw [trsE_drop hx] at hst
      have hki : (k : Int) < (n : Int) := by omega
      have hk0 : (0 : Int) ≤ (k : Int) := by omega
      have hkt : ((k : Int)).toNat = k := by omega
      have hC := fun w => fdTrialE_any k x w
      obtain ⟨z, hz⟩ : ∃ z, rngE x (-2) 999999 = z := ⟨_, rfl⟩
      rw [hz] at hst hC
      clear hz hx HK
      by_cases h0 : z = 0
      · subst h0
        rw [if_pos rfl] at hst
        have Hst : Hid (trsE (L.drop (k + 1)) = y) := Lib.hid hst
        clear hst
        go_wp2_with fail
        refine (hC _).mono ?_
        rintro e w' ⟨rfl, rfl⟩
        go_wp2
        exact ⟨⟨k + 1, by omega, by go_num, Hst⟩, by simp [intOf]; omega⟩
      · rw [if_neg h0] at hst
        subst hst
        have hne : (z != 0) = true := by simp [h0]
        clear h0
        go_wp2_with fail
        refine (hC _).mono ?_
        rintro e w' ⟨rfl, rfl⟩
        go_wp2
        go_ret
        exact ⟨rfl, rfl⟩
    · have h0 := HK.out
      rw [List.drop_eq_nil_of_le (by rw [Hn.out]; omega), trsE] at h0
      subst h0
      go_wp2
      go_ret
      exact ⟨rfl, rfl⟩
def trialsE (r : RowR) : Int := if 6 < r.n then 5 else trsE r.T
set_option maxHeartbeats 1000000 in
theorem fdListT_any (r : RowR) (w : World) (hZ : IntsZ w r.A r.n r.T) (hn : r.n ≤ 1000) :
    Calls Tryz.prog 49 #[.slice r.A r.n r.c, .int .i64 6, .func (.func 50) #[] #[]] w (RetSame (.int .i64 (trialsE r)) w) := by
  have hF := fun w' h => fdFirstT_any r.T r.n r.c r.A w' h hn
  have HF := Lib.hid (hF w hZ)
  have hni : (r.n : Int) ≤ 1000 := by omega
  unfold trialsE
  by_cases h6 : 6 < r.n
  · rw [if_pos h6]
    have h : (6 : Int) < (r.n : Int) := by omega
    clear hF hZ
    go_enter Tryz.func49, Tryz.ntmps49
    go_wp2
    go_ret
    exact ⟨rfl, rfl⟩
  · rw [if_neg h6]
    have h : ¬ (6 : Int) < (r.n : Int) := by omega
    clear hF hZ
    generalize trsE r.T = y at *
    go_enter Tryz.func49, Tryz.ntmps49
    go_wp2_with fail
    refine HF.out.mono ?_
    rintro e w' ⟨rfl, rfl⟩
    go_wp2
    go_ret
    exact ⟨rfl, rfl⟩
set_option maxHeartbeats 1000000 in
theorem fdRowsN_any (r : RowR) (w : World) : Calls Tryz.prog 44 #[.agg #[.string r.s, .slice r.A r.n r.c, .bool r.rt]] w (RetPost (.string r.s) w) := by
  obtain ⟨g, hg⟩ : ∃ g, w.heap.size = g := ⟨_, rfl⟩
  obtain ⟨w1, hw1⟩ : ∃ w1, w.alloc (.cells #[.string r.s, .slice r.A r.n r.c, .bool r.rt] 61) = w1 := ⟨_, rfl⟩
  have hb1 : Below w.heap.size w w1 := by rw [← hw1]; exact balloc _ (Below.refl _ _)
  have c0 : w1.cell? ⟨g, 0, none⟩ = some (.string r.s) := by rw [← hw1, ← hg]; simp
  go_enter Tryz.func44, Tryz.ntmps44
  go_wp2
  go_ret
  exact ⟨rfl, hb1⟩
set_option maxHeartbeats 4000000 in
theorem fdEachRS_any (L : List RowR) (n cap : Nat) (A : Option Addr) (w : World) (hZ : Rows w A n L) (hn : n ≤ 1000) :
    Calls Tryz.prog 43 #[.slice A n cap, .func (.func 44) #[] #[]] w (fun e w' => ∃ v, e = .returned v ∧ OwnNames w' w.heap.size v (L.map (·.s)) ∧ Below w.heap.size w w') := by
  obtain ⟨i0, hi, hz0, hz1, hz2⟩ := info_parts infoStr
  have hni : (n : Int) ≤ 1000 := by omega
  have H := Lib.hid hZ
  have HL := Lib.hid hZ.1
  clear hZ
  go_enter Tryz.func43, Tryz.ntmps43
  go_wp2
  go_loopw [5, 10] (fun v i wr => ∃ k : Nat, k ≤ n ∧ i = .int .i64 k ∧ OwnNames wr w.heap.size v ((L.take k).map (·.s)) ∧ Below w.heap.size w wr) (fun _ i _ => n - (intOf i).toNat)
  case atStart => exact ⟨0, by omega, rfl, World.ownsRow_nil _ _ _ _, Below.refl _ _⟩
  case round =>
    obtain ⟨k, hk, rfl, hown, hb⟩ := hrel
    by_cases hlt : k < n
    · obtain ⟨b', off, r, rfl, hbl, hx, ⟨hc0, hc1, hc2⟩, _, _⟩ := (H.out.below hb).at_ hlt
      have hki : (k : Int) < (n : Int) := by omega
      have hk0 : (0 : Int) ≤ (k : Int) := by omega
      have hkt : ((k : Int)).toNat = k := by omega
      have hlen : ((L.take k).map (·.s)).length = k := by rw [List.length_map, List.length_take, HL.out]; omega
      have hst : (L.take (k + 1)).map (·.s) = (L.take k).map (·.s) ++ [r.s] := by rw [List.take_add_one, hx, Option.toList_some, List.map_append]; rfl
      have Hst := Lib.hid hst
      have Hlen := Lib.hid hlen
      have hN := fun w => fdRowsN_any r w
      have HOWN := Lib.hid hown
      have HB := Lib.hid hb
      obtain ⟨p, hp⟩ : ∃ p, wr.heap.size = p := ⟨_, rfl⟩
      obtain ⟨wx, hwx⟩ : ∃ wx, wr.alloc (.cells #[.string r.s, .slice r.A r.n r.c, .bool r.rt] 61) = wx := ⟨_, rfl⟩
      have hbx : Below w.heap.size w wx := by rw [← hwx]; exact hb.alloc hb.size _
      have x0 : wx.cell? ⟨p, 0, none⟩ = some (.string r.s) := by rw [← hwx, ← hp]; simp
      have x1 : wx.cell? ⟨p, 1, none⟩ = some (.slice r.A r.n r.c) := by rw [← hwx, ← hp]; simp
      have x2 : wx.cell? ⟨p, 2, none⟩ = some (.bool r.rt) := by rw [← hwx, ← hp]; simp
      have HBX := Lib.hid hbx
      have HOX : Hid (OwnNames wx w.heap.size _ ((L.take k).map (·.s))) := Lib.hid (by rw [← hwx]; exact World.ownsRow.alloc hown _)
      clear hst hlen hx hown hb hbx
      go_wp2_with fail
      refine (hN _).mono ?_
      rintro e w5 ⟨rfl, hb5⟩
      have hb15 := bstep HBX.out hb5
      have hown5 : OwnNames w5 w.heap.size _ ((L.take k).map (·.s)) := ownN HOX.out hb5
      clear hb5
      go_wp2_with (at_builtin; refine wpList_append_own _ rfl _ _ 46 rfl w.heap.size 9 i0 (.string ⟨#[]⟩) 1 16 Tryz.underlying46 hi hz0 hz1 hz2 rfl (by decide) _ _ _ rfl (World.ownsRow.alloc hown5 _) ⟨w5.heap.size, 0, none⟩ 1 1 [.string r.s] rfl rfl ?c1 ?c2 ?c3 ?c4 ?c5 ?_)
      case c1 =>
        intro j u hj
        match j, hj with
        | 0, hj => simp at hj; subst hj; simp [Addr.add]
      case c2 => intro u hu; simp at hu; subst hu; rfl
      case c3 => unfold maxLen; have := Hlen.out; omega
      case c4 => have := Hlen.out; omega
      case c5 => have := hb15.size; simp; omega
      intro v' w2 hown' hgrow _
      have hb2 : Below w.heap.size w w2 := (hb15.alloc hb15.size _).grown hgrow (by have := hb15.size; simp; omega) (fun r hr => (World.ownsRow.lt hown5 r hr).1)
      have ho2 : OwnNames w2 w.heap.size v' ((L.take (k + 1)).map (·.s)) := by
        rw [Hst.out]
        refine OwnNames.next ?_
        simpa using hown'
      clear hown' hgrow hown5 hb15 hc0 hc1 hc2
      go_wp2
      go_roundw
      case rel => exact ⟨k + 1, by omega, by go_num, ho2, hb2⟩
      case measure => simp [intOf]; omega
    · have hkn : k = n := by omega
      rw [hkn, List.take_of_length_le (by rw [HL.out]; omega)] at hown
      have HO := Lib.hid hown
      clear hown
      go_wp2
      go_ret
      exact ⟨_, rfl, HO.out, hb⟩
end Go.Mk
end
