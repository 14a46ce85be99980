/-
  Proved: the order of the finalists: slices.SortStableFunc of numbers of rows by the second function of field.finalists puts the greater rank first, and the numbers of equal ranks as they stood. Conditions: the ranks lie in a row of their own; up to 40 numbers.
-/
import Derived.Test.YtclapdfkgafenaaGreatDoorFqd
import Derived.Test.YtclapdfkgafenaaGreatDoorFpl
set_option linter.unusedVariables false
set_option linter.unusedSimpArgs false
open Go Go.Proofs Go.RowKit Go.Sort
set_option maxRecDepth 100000
namespace Go.Mk
def cmpR (R : List Nat) (x y : Int) : Int := (R.getD y.toNat 0 : Int) - (R.getD x.toNat 0 : Int)
set_option maxHeartbeats 4000000 in
theorem fdFinsB_any (R : List Nat) (g n c bx i j : Nat) (w : World) (hn : n ≤ 100) (hl : R.length = n) (hi : i < n) (hj : j < n) (hR : Row w g R) (hm : ∀ x ∈ R, x ≤ 1000) (hbx : bx < w.heap.size) (hc : w.cell? ⟨bx, 0, none⟩ = some (.slice (some ⟨g, 0, none⟩) n c)) :
    Calls Tryz.prog 115 #[.int .i64 (i : Nat), .int .i64 (j : Nat), .pointer (some ⟨bx, 0, none⟩)] w (RetPost (.int .i64 (cmpR R i j)) w) := by
  have hri : R[i]? = some (R.getD i 0) := by rw [List.getD_eq_getElem?_getD, List.getElem?_eq_getElem (by omega)]; rfl
  have hrj : R[j]? = some (R.getD j 0) := by rw [List.getD_eq_getElem?_getD, List.getElem?_eq_getElem (by omega)]; rfl
  have mi := hm _ (List.mem_of_getElem? hri)
  have mj := hm _ (List.mem_of_getElem? hrj)
  have ci := (hR.2 i _ hri).1
  have cj := (hR.2 j _ hrj).1
  have hgl := hR.1
  have e : cmpR R i j = (R.getD j 0 : Int) - (R.getD i 0 : Int) := by unfold cmpR; simp
  rw [e]
  clear hri hrj hR hm e
  generalize R.getD i 0 = a at *
  generalize R.getD j 0 = b at *
  have hii : (i : Int) < (n : Int) := by omega
  have hi0 : (0 : Int) ≤ (i : Int) := by omega
  have hit : ((i : Int)).toNat = i := by omega
  have hji : (j : Int) < (n : Int) := by omega
  have hj0 : (0 : Int) ≤ (j : Int) := by omega
  have hjt : ((j : Int)).toNat = j := by omega
  have hwr : IntKind.i64.wrap ((b : Int) - (a : Int)) = (b : Int) - (a : Int) := wrapQ _ (by omega)
  have HX : Hid (∀ w' : World, Below w.heap.size w w' → w'.cell? ⟨bx, 0, none⟩ = some (.slice (some ⟨g, 0, none⟩) n c) ∧ w'.cell? ⟨g, i, none⟩ = some (.int .i64 (a : Nat)) ∧ w'.cell? ⟨g, j, none⟩ = some (.int .i64 (b : Nat)) ∧ Below w.heap.size w w') := Lib.hid (fun w' hb =>
    ⟨(hb.cell (p := ⟨bx, 0, none⟩) hbx).trans hc, (hb.cell (p := ⟨g, i, none⟩) hgl).trans ci, (hb.cell (p := ⟨g, j, none⟩) hgl).trans cj, hb⟩)
  clear hc ci cj
  go_enter Tryz.func115, Tryz.ntmps115
  go_wp2
  refine wp_region_held_drew (S := fun w' => w'.cell? ⟨bx, 0, none⟩ = some (.slice (some ⟨g, 0, none⟩) n c) ∧ w'.cell? ⟨g, i, none⟩ = some (.int .i64 (a : Nat)) ∧ w'.cell? ⟨g, j, none⟩ = some (.int .i64 (b : Nat)) ∧ Below w.heap.size w w') (by kernel_rfl) ?_ (fun hHeld => ?_)
  · exact HX.out _ (Below.drew (Below.refl _ _))
  refine wpAnyH_take (i := 0) (oi := _) (v := ?_) rfl (by kernel_rfl) (by kernel_rfl) (by kernel_rfl) (fun _ _ _ h => h) (Or.inl ⟨by rfl, ?_⟩) (by assumption) ?_
  rotate_left
  · rintro w ⟨s0, s1, s2, s3⟩
    go_simp
    try with_reducible rfl
  try simp only [Act.put, zA1, zA2, zA3, zA4, zA5, zA6]
  refine wpAnyH_take (i := 1) (oi := _) (v := ?_) rfl (by kernel_rfl) (by kernel_rfl) (by kernel_rfl) (fun _ _ _ h => h) (Or.inl ⟨by rfl, ?_⟩) (by assumption) ?_
  rotate_left
  · rintro w ⟨s0, s1, s2, s3⟩
    go_simp
    try with_reducible rfl
  try simp only [Act.put, zA1, zA2, zA3, zA4, zA5, zA6]
  refine wpAnyH_take (i := 2) (oi := _) (v := ?_) rfl (by kernel_rfl) (by kernel_rfl) (by kernel_rfl) (fun _ _ _ h => h) (Or.inl ⟨by rfl, ?_⟩) (by assumption) ?_
  rotate_left
  · rintro w ⟨s0, s1, s2, s3⟩
    go_simp
    try with_reducible rfl
  try simp only [Act.put, zA1, zA2, zA3, zA4, zA5, zA6]
  refine wpAnyH_take (i := 3) (oi := _) (v := ?_) rfl (by kernel_rfl) (by kernel_rfl) (by kernel_rfl) (fun _ _ _ h => h) (Or.inl ⟨by rfl, ?_⟩) (by assumption) ?_
  rotate_left
  · rintro w ⟨s0, s1, s2, s3⟩
    go_simp
    try with_reducible rfl
  try simp only [Act.put, zA1, zA2, zA3, zA4, zA5, zA6]
  refine wpAnyH_take (i := 4) (oi := _) (v := ?_) rfl (by kernel_rfl) (by kernel_rfl) (by kernel_rfl) (fun _ _ _ h => h) (Or.inl ⟨by rfl, ?_⟩) (by assumption) ?_
  rotate_left
  · rintro w ⟨s0, s1, s2, s3⟩
    go_simp
    try with_reducible rfl
  try simp only [Act.put, zA1, zA2, zA3, zA4, zA5, zA6]
  refine wpAnyH_take (i := 5) (oi := _) (v := ?_) rfl (by kernel_rfl) (by kernel_rfl) (by kernel_rfl) (fun _ _ _ h => h) (Or.inl ⟨by rfl, ?_⟩) (by assumption) ?_
  rotate_left
  · rintro w ⟨s0, s1, s2, s3⟩
    go_simp
    try with_reducible rfl
  try simp only [Act.put, zA1, zA2, zA3, zA4, zA5, zA6]
  refine wpAnyH_take (i := 6) (oi := _) (v := ?_) rfl (by kernel_rfl) (by kernel_rfl) (by kernel_rfl) (fun _ _ _ h => h) (Or.inl ⟨by rfl, ?_⟩) (by assumption) ?_
  rotate_left
  · rintro w ⟨s0, s1, s2, s3⟩
    go_simp
    try with_reducible rfl
  try simp only [Act.put, zA1, zA2, zA3, zA4, zA5, zA6]
  refine wpAnyH_take (i := 7) (oi := _) (v := ?_) rfl (by kernel_rfl) (by kernel_rfl) (by kernel_rfl) (fun _ _ _ h => h) (Or.inl ⟨by rfl, ?_⟩) (by assumption) ?_
  rotate_left
  · rintro w ⟨s0, s1, s2, s3⟩
    go_simp
    try with_reducible rfl
  try simp only [Act.put, zA1, zA2, zA3, zA4, zA5, zA6]
  refine wpAnyH_take (i := 8) (oi := _) (v := ?_) rfl (by kernel_rfl) (by kernel_rfl) (by kernel_rfl) (fun _ _ _ h => h) (Or.inl ⟨by rfl, ?_⟩) (by assumption) ?_
  rotate_left
  · rintro w ⟨s0, s1, s2, s3⟩
    go_simp
    try simp only [hwr]
    try with_reducible rfl
  try simp only [Act.put, zA1, zA2, zA3, zA4, zA5, zA6]
  refine wpAnyH_take (i := 9) (oi := _) (v := ?_) rfl (by kernel_rfl) (by kernel_rfl) (by kernel_rfl) (fun _ _ _ h => h) (Or.inl ⟨by rfl, ?_⟩) (by assumption) ?_
  rotate_left
  · rintro w ⟨s0, s1, s2, s3⟩
    go_simp
    try with_reducible rfl
  try simp only [Act.put, zA1, zA2, zA3, zA4, zA5, zA6]
  refine wpAnyH_done (by kernel_rfl) ?_ _
  have hX := hHeld.2.2.2
  go_wp2
  go_ret
  exact ⟨rfl, hX⟩
theorem cmpR_ok (R : List Nat) (g n c bx gs : Nat) (w : World) (L : List Int) (hn : n ≤ 100) (hl : R.length = n) (hL : ∀ x ∈ L, 0 ≤ x ∧ x < n) (hR : Row w g R) (hm : ∀ x ∈ R, x ≤ 1000) (hbx : bx < w.heap.size) (hc : w.cell? ⟨bx, 0, none⟩ = some (.slice (some ⟨g, 0, none⟩) n c)) (h1 : bx ≠ gs) (h2 : g ≠ gs) : CmpOK w gs bx (cmpR R) L := by
  intro w' hg x y hx hy
  obtain ⟨i, rfl⟩ := Int.eq_ofNat_of_zero_le (hL x hx).1
  obtain ⟨j, rfl⟩ := Int.eq_ofNat_of_zero_le (hL y hy).1
  have hi := (hL _ hx).2
  have hj := (hL _ hy).2
  have hgl := hR.1
  have hs := hg.size
  refine fdFinsB_any R g n c bx i j w' hn hl (by omega) (by omega) ⟨by omega, fun k v hk => ?_⟩ hm (by omega) ((World.cell?_of_block (a := ⟨bx, 0, none⟩) (hg.block bx hbx (by simp; exact fun q => h1 q))).trans hc)
  have hb := hg.block g hgl (by simp; exact fun q => h2 q)
  exact ⟨(World.cell?_of_block (a := ⟨g, k, none⟩) hb).trans (hR.2 k v hk).1, (World.frozen?_of_block (a := ⟨g, k, none⟩) hb).trans (hR.2 k v hk).2⟩
set_option maxHeartbeats 1000000 in
theorem insertCmp_nil2 (b2 : Nat) (w : World) : Calls Tryz.prog 207 #[.slice none 0 0, .int .i64 0, .int .i64 0, cmpV b2] w (fun e w' => e = .returned (.tuple #[]) ∧ w' = w) := by
  unfold cmpV
  go_enter Tryz.func207, Tryz.ntmps207
  go_wp2
  go_loopw [8] (fun i wr => i = .int .i64 1 ∧ wr = w) (fun _ _ => 0)
  case atStart => exact ⟨rfl, rfl⟩
  case round =>
    obtain ⟨rfl, rfl⟩ := hrel
    go_wp2
    go_end0
    exact ⟨rfl, rfl⟩
set_option maxHeartbeats 1000000 in
theorem stableCmp_nil (b2 : Nat) (w : World) : Calls Tryz.prog 169 #[.slice none 0 0, .int .i64 0, cmpV b2] w (fun e w' => e = .returned (.tuple #[]) ∧ w' = w) := by
  have hI := insertCmp_nil2 b2
  unfold cmpV at *
  go_enter Tryz.func169, Tryz.ntmps169
  go_wp2
  go_loopw [7, 8] (fun a b wr => a = .int .i64 0 ∧ b = .int .i64 20 ∧ wr = w) (fun _ _ _ => 0)
  case atStart => exact ⟨rfl, rfl, rfl⟩
  case round =>
    obtain ⟨rfl, rfl, rfl⟩ := hrel
    go_wp2_with fail
    refine (hI _).mono ?_
    rintro e w5 ⟨rfl, rfl⟩
    go_wp2
    go_loopw [6, 7, 8] (fun s a b wz => s = .int .i64 20 ∧ (∃ x y, a = .int .i64 x ∧ b = .int .i64 y) ∧ wz = w5) (fun _ _ _ _ => 0)
    case atStart => exact ⟨rfl, ⟨_, _, rfl, rfl⟩, rfl⟩
    case round =>
      obtain ⟨rfl, ⟨x, y, rfl, rfl⟩, rfl⟩ := hrel
      go_wp2
      go_end0
      exact ⟨rfl, rfl⟩
set_option maxHeartbeats 1000000 in
theorem sortStable_nil (b2 : Nat) (w : World) : Calls Tryz.prog 114 #[.slice none 0 0, cmpV b2] w (fun e w' => e = .returned (.tuple #[]) ∧ w' = w) := by
  have hI := stableCmp_nil b2
  unfold cmpV at *
  go_enter Tryz.func114, Tryz.ntmps114
  go_wp2_with fail
  refine (hI _).mono ?_
  rintro e w5 ⟨rfl, rfl⟩
  go_wp2
  go_end0
  exact ⟨rfl, rfl⟩
theorem byKey_perm2 (key : Int → Int) (n m : Nat) : (byKey key n m).Perm ((toks n).filter fun x => decide (1 ≤ key x ∧ key x ≤ m)) := by
  refine (List.perm_ext_iff_of_nodup ?_ ?_).2 fun x => ?_
  · exact (byKey_pw key n m).imp (fun {a b} h e => by
      subst e
      unfold ltK at h
      omega)
  · exact (toks_nodup n).filter _
  · unfold byKey
    rw [List.mem_flatMap, List.mem_filter, decide_eq_true_eq]
    constructor
    · rintro ⟨r, hr, hx⟩
      rw [List.mem_filter, decide_eq_true_eq] at hx
      rw [List.mem_range] at hr
      exact ⟨hx.1, by omega, by omega⟩
    · rintro ⟨h1, h2, h3⟩
      refine ⟨(key x - 1).toNat, ?_, ?_⟩
      · rw [List.mem_range]; omega
      · rw [List.mem_filter, decide_eq_true_eq]
        exact ⟨h1, by omega⟩
def selT (R : List Nat) (f n : Nat) : List Int := (toks n).filter fun x => decide (1 ≤ R.getD x.toNat 0 ∧ R.getD x.toNat 0 ≤ f)
def finT (R : List Nat) (f n : Nat) : List Int := byKey (fun x => (f : Int) + 1 - (R.getD x.toNat 0 : Int)) n f
theorem finT_perm (R : List Nat) (f n : Nat) : (finT R f n).Perm (selT R f n) := by
  refine (byKey_perm2 _ n f).trans (List.Perm.of_eq ?_)
  unfold selT
  refine List.filter_congr fun x _ => ?_
  rw [decide_eq_decide]
  omega
theorem finT_of {R : List Nat} {f n : Nat} {M : List Int} (hp : M.Perm (selT R f n)) (hs : Srt (ltK fun x => (f : Int) + 1 - (R.getD x.toNat 0 : Int)) M 0 M.length) : M = finT R f n :=
  pw_unique (ltK_ord _) (hp.trans (finT_perm R f n).symm) (pw_of_srt hs) (byKey_pw _ n f)
theorem selT_pw (R : List Nat) (f n : Nat) : (selT R f n).Pairwise fun x y => x < y := (toks_pw n).filter _
theorem selT_len (R : List Nat) (f n : Nat) : (selT R f n).length ≤ n := Nat.le_trans (List.length_filter_le _ _) (by rw [toks_len]; exact Nat.le_refl _)
theorem selT_mem {R : List Nat} {f n : Nat} {x : Int} (h : x ∈ selT R f n) : 0 ≤ x ∧ x < n := toks_mem.1 (List.mem_filter.1 h).1
theorem sortFin_any (R : List Nat) (f n : Nat) (h40 : n ≤ 40) (hl : R.length = n) (B : Nat) (v : Value) (b2 g c : Nat) (w : World) (hv : OwnZ w B v (selT R f n)) (hR : Row w g R) (hm : ∀ x ∈ R, x ≤ 1000) (hg : g < B) (hb2 : b2 < B) (hBw : B ≤ w.heap.size)
    (hc : w.cell? ⟨b2, 0, none⟩ = some (.slice (some ⟨g, 0, none⟩) n c)) :
    Calls Tryz.prog 114 #[v, cmpV b2] w (fun e w' => e = .returned (.tuple #[]) ∧ OwnZ w' B v (finT R f n) ∧ Below B w w') := by
  have hpl := (finT_perm R f n).length_eq
  rcases hv.2 with ⟨rfl, h0⟩ | ⟨gs, cap, cur, rfl, hBg, hrest⟩
  · have h1 : finT R f n = selT R f n := by
      have h2 : selT R f n = [] := List.length_eq_zero_iff.1 h0
      have h3 : finT R f n = [] := List.length_eq_zero_iff.1 (by rw [hpl]; exact h0)
      rw [h2, h3]
    refine (sortStable_nil b2 w).mono ?_
    rintro e w' ⟨rfl, rfl⟩
    exact ⟨rfl, by rw [h1]; exact hv, Below.refl _ _⟩
  · obtain ⟨L, hL⟩ : ∃ L, selT R f n = L := ⟨_, rfl⟩
    have hpw := selT_pw R f n
    have hln := selT_len R f n
    rw [hL] at hpw hln hv hpl
    have hRow : RowZ w B gs L.length cap L := ⟨rfl, hv⟩
    have hmem : ∀ x ∈ L, 0 ≤ x ∧ x < n := fun x hx => selT_mem (by rw [hL]; exact hx)
    have hC := cmpR_ok R g n c b2 gs w L (by omega) hl hmem hR hm (by omega) hc (by omega) (by omega)
    have hK := sortStable_any (ltK_ord (fun x => (f : Int) + 1 - (R.getD x.toNat 0 : Int))) (cmpR R) L B gs L.length cap b2 w hRow (hpw.imp (fun h => by omega)) (by omega) hC
      (fun p q h1 h2 => by
        have hlt : ga L p < ga L q := by
          have := List.pairwise_iff_getElem.1 hpw p q (by omega) h2 h1
          unfold ga
          rw [List.getD_eq_getElem?_getD, List.getD_eq_getElem?_getD, List.getElem?_eq_getElem h2, List.getElem?_eq_getElem (by omega : p < L.length)]
          exact this
        unfold ltK cmpR
        dsimp only
        omega)
    rw [hL]
    refine hK.mono ?_
    rintro e w' ⟨M, rfl, hp, hs, hrow, hg⟩
    have hM : M = finT R f n := finT_of (by rw [hL]; exact hp.perm) (by rw [hp.len]; exact hs)
    refine ⟨rfl, ?_, ?_⟩
    · unfold OwnZ
      rw [← hM, hp.len]
      exact hrow.2
    · exact (Below.refl B w).grown hg hBw (fun r e => by cases e; exact hBg)
end Go.Mk
