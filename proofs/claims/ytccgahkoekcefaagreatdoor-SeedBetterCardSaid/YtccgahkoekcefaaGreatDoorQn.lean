/-
  Proved: seed.Order returns the order of the entrants as a plain function says. Conditions: the entrants lie where the slice says, at most 40 where there is no error; the texts are no longer than an int says; the heap holds the program's variables.
  Proved: mark.Draw leaves the drawn order in a row of its own; seed.Order returns the order of the entrants as a plain function says, or the first error. Conditions: the entrants lie where the slice says, at most 40 where there is no error; the texts are no longer than an int says; the heap holds the program's variables.
-/
import Derived.Test.YtccgahkoekcefaaGreatDoorQj
import Derived.Test.YtccgahkoekcefaaGreatDoorQm
import Derived.Test.YtccgahkoekcefaaGreatDoorDw
section
set_option linter.unusedVariables false
set_option linter.unusedSimpArgs false
open Go Go.Proofs Go.RowKit Go.Sort
set_option maxRecDepth 100000
namespace Go.Mk
@[reducible] def OrdB (W : World) (bx b off n cap x y : Nat) (E F : Ent) (w' : World) : Prop :=
  w'.cell? ⟨bx, 0, none⟩ = some (.slice (some ⟨b, off, none⟩) n cap) ∧ w'.cell? ⟨b, off + x * 5 + 2, none⟩ = some (.string E.kind) ∧ w'.cell? ⟨b, off + x * 5 + 3, none⟩ = some (.int .i64 E.value) ∧ w'.cell? ⟨b, off + x * 5 + 4, none⟩ = some (.string E.reason) ∧
    w'.cell? ⟨b, off + y * 5 + 2, none⟩ = some (.string F.kind) ∧ w'.cell? ⟨b, off + y * 5 + 3, none⟩ = some (.int .i64 F.value) ∧ w'.cell? ⟨b, off + y * 5 + 4, none⟩ = some (.string F.reason) ∧ bx < w'.heap.size ∧ b < w'.heap.size ∧ Below W.heap.size W w'
theorem OrdB.next {W w w' : World} {bx b off n cap x y : Nat} {E F : Ent} (h : OrdB W bx b off n cap x y E F w) (hb : Below w.heap.size w w') : OrdB W bx b off n cap x y E F w' := by
  obtain ⟨a0, a1, a2, a3, a4, a5, a6, hx, hbl, hW⟩ := h
  exact ⟨(hb.cell (p := ⟨bx, _, none⟩) hx).trans a0, (hb.cell (p := ⟨b, _, none⟩) hbl).trans a1, (hb.cell (p := ⟨b, _, none⟩) hbl).trans a2, (hb.cell (p := ⟨b, _, none⟩) hbl).trans a3,
    (hb.cell (p := ⟨b, _, none⟩) hbl).trans a4, (hb.cell (p := ⟨b, _, none⟩) hbl).trans a5, (hb.cell (p := ⟨b, _, none⟩) hbl).trans a6, Nat.lt_of_lt_of_le hx hb.size, Nat.lt_of_lt_of_le hbl hb.size, bstep hW hb⟩
set_option maxHeartbeats 2000000 in
theorem order1_any (L : List Ent) (n cap bx B x y : Nat) (A : Option Addr) (w : World) (hZ : Ents w B A n L) (hbx : w.cell? ⟨bx, 0, none⟩ = some (.slice A n cap)) (hbs : bx < w.heap.size) (hn : n ≤ 1000) (hx : x < n) (hy : y < n) (hg : 13 ≤ w.heap.size) :
    Calls Tryz.prog 55 #[.int .i64 (x : Nat), .int .i64 (y : Nat), .pointer (some ⟨bx, 0, none⟩)] w (RetPost (.int .i64 (cmE L x y)) w) := by
  obtain ⟨b, off, E, rfl, hbl, hE, _, _, e2, e3, e4⟩ := hZ.at_ hx
  obtain ⟨b', off', F, hA', _, hF, _, _, f2, f3, f4⟩ := hZ.at_ hy
  cases hA'
  have hb' : b < w.heap.size := Nat.lt_of_lt_of_le hbl hZ.2.1
  have HC : Hid (∀ w', w.heap.size ≤ w'.heap.size → Calls Tryz.prog 56 #[.agg #[.string E.kind, .int .i64 E.value, .string E.reason], .agg #[.string F.kind, .int .i64 F.value, .string F.reason]] w' (RetPost (.tuple #[.int .i64 (cmE L x y), .int .i64 (cmpM E.kind E.value E.reason F.kind F.value F.reason).2]) w')) := by
    refine Lib.hid fun w' h' => ?_
    unfold cmE
    rw [entAt_of hE, entAt_of hF]
    exact Compare_any _ _ _ _ _ _ w' (Nat.le_trans hg h')
  have HS : Hid (OrdB w bx b off n cap x y E F w.drew) := Lib.hid ⟨hbx, e2, e3, e4, f2, f3, f4, hbs, hb', (Below.refl _ _).drew⟩
  obtain ⟨c, hc⟩ : ∃ c, cmE L x y = c := ⟨_, rfl⟩
  rw [hc] at HC ⊢
  obtain ⟨c2, hc2⟩ : ∃ c2, (cmpM E.kind E.value E.reason F.kind F.value F.reason).2 = c2 := ⟨_, rfl⟩
  rw [hc2] at HC
  obtain ⟨nm1, cl1, k1, v1, r1⟩ := E
  obtain ⟨nm2, cl2, k2, v2, r2⟩ := F
  simp only at HC HS
  have hx0 : (0 : Int) ≤ (x : Int) := by omega
  have hx1 : (x : Int) < (n : Int) := by omega
  have hx2 : ((x : Int)).toNat = x := by omega
  have hy0 : (0 : Int) ≤ (y : Int) := by omega
  have hy1 : (y : Int) < (n : Int) := by omega
  have hy2 : ((y : Int)).toNat = y := by omega
  have hni : (n : Int) ≤ 1000 := by omega
  clear hZ hbx hbs hE hF e2 e3 e4 f2 f3 f4 hc hc2 hbl hb' hg
  go_enter Tryz.func55, Tryz.ntmps55
  go_wp2_with fail
  refine wp_region_held_drew (S := OrdB w bx b off n cap x y ⟨nm1, cl1, k1, v1, r1⟩ ⟨nm2, cl2, k2, v2, r2⟩) (by kernel_rfl) ?_ (fun hHeld => ?_)
  · exact HS.out
  refine wpAnyH_take (i := 0) (oi := _) (v := ?_) rfl (by kernel_rfl) (by kernel_rfl) (by kernel_rfl) (fun _ _ _ h => h) (Or.inl ⟨by rfl, ?_⟩) (by assumption) ?_
  rotate_left
  · rintro w ⟨s0, s1, s2, s3, s4, s5, s6, s7, s8, s9⟩
    go_simp
    try with_reducible rfl
  try simp only [Act.put, zA1, zA2, zA3]
  refine wpAnyH_take (i := 1) (oi := _) (v := ?_) rfl (by kernel_rfl) (by kernel_rfl) (by kernel_rfl) (fun _ _ _ h => h) (Or.inl ⟨by rfl, ?_⟩) (by assumption) ?_
  rotate_left
  · rintro w ⟨s0, s1, s2, s3, s4, s5, s6, s7, s8, s9⟩
    go_simp
    try with_reducible rfl
  try simp only [Act.put, zA1, zA2, zA3]
  refine wpAnyH_take (i := 2) (oi := _) (v := ?_) rfl (by kernel_rfl) (by kernel_rfl) (by kernel_rfl) (fun _ _ _ h => h) (Or.inl ⟨by rfl, ?_⟩) (by assumption) ?_
  rotate_left
  · rintro w ⟨s0, s1, s2, s3, s4, s5, s6, s7, s8, s9⟩
    go_simp
    try with_reducible rfl
  try simp only [Act.put, zA1, zA2, zA3]
  refine wpAnyH_take (i := 3) (oi := _) (v := ?_) rfl (by kernel_rfl) (by kernel_rfl) (by kernel_rfl) (fun _ _ _ h => h) (Or.inl ⟨by rfl, ?_⟩) (by assumption) ?_
  rotate_left
  · rintro w ⟨s0, s1, s2, s3, s4, s5, s6, s7, s8, s9⟩
    go_simp
    try with_reducible rfl
  try simp only [Act.put, zA1, zA2, zA3]
  refine wpAnyH_take (i := 4) (oi := _) (v := ?_) rfl (by kernel_rfl) (by kernel_rfl) (by kernel_rfl) (fun _ _ _ h => h) (Or.inl ⟨by rfl, ?_⟩) (by assumption) ?_
  rotate_left
  · rintro w ⟨s0, s1, s2, s3, s4, s5, s6, s7, s8, s9⟩
    go_simp
    try with_reducible rfl
  try simp only [Act.put, zA1, zA2, zA3]
  refine wpAnyH_take (i := 5) (oi := _) (v := ?_) rfl (by kernel_rfl) (by kernel_rfl) (by kernel_rfl) (fun _ _ _ h => h) (Or.inl ⟨by rfl, ?_⟩) (by assumption) ?_
  rotate_left
  · rintro w ⟨s0, s1, s2, s3, s4, s5, s6, s7, s8, s9⟩
    go_simp
    try with_reducible rfl
  try simp only [Act.put, zA1, zA2, zA3]
  refine wpAnyH_take (i := 6) (oi := _) (v := ?_) rfl (by kernel_rfl) (by kernel_rfl) (by kernel_rfl) (fun _ _ _ h => h) (Or.inl ⟨by rfl, ?_⟩) (by assumption) ?_
  rotate_left
  · rintro w ⟨s0, s1, s2, s3, s4, s5, s6, s7, s8, s9⟩
    go_simp
    try with_reducible rfl
  try simp only [Act.put, zA1, zA2, zA3]
  refine wpAnyH_take (i := 7) (oi := _) (v := ?_) rfl (by kernel_rfl) (by kernel_rfl) (by kernel_rfl) (fun _ _ _ h => h) (Or.inl ⟨by rfl, ?_⟩) (by assumption) ?_
  rotate_left
  · rintro w ⟨s0, s1, s2, s3, s4, s5, s6, s7, s8, s9⟩
    go_simp
    try with_reducible rfl
  try simp only [Act.put, zA1, zA2, zA3]
  refine wpAnyH_take (i := 8) (oi := _) (v := ?_) rfl (by kernel_rfl) (by kernel_rfl) (by kernel_rfl) (fun _ _ _ h => h) (Or.inl ⟨by rfl, ?_⟩) (by assumption) ?_
  rotate_left
  · rintro w ⟨s0, s1, s2, s3, s4, s5, s6, s7, s8, s9⟩
    go_simp
    try with_reducible rfl
  try simp only [Act.put, zA1, zA2, zA3]
  refine wpAnyH_take (i := 9) (oi := _) (v := ?_) rfl (by kernel_rfl) (by kernel_rfl) (by kernel_rfl) (fun _ _ _ h => h) (Or.inl ⟨by rfl, ?_⟩) (by assumption) ?_
  rotate_left
  · rintro w ⟨s0, s1, s2, s3, s4, s5, s6, s7, s8, s9⟩
    go_simp
    try with_reducible rfl
  try simp only [Act.put, zA1, zA2, zA3]
  refine wpAnyH_ready (rs := [10]) (by kernel_rfl) (by simp) ?_
  refine AllReadyH.cons (o := _) rfl (fun K hKK => ?_) AllReadyH.nil
  go_simp
  go_at_call 56
  refine (HC.out _ hHeld.2.2.2.2.2.2.2.2.2.size).mono ?_
  rintro e w5 ⟨rfl, hb5⟩
  have hX := hHeld.next hb5
  clear hHeld hb5
  go_wp2_with fail
  refine hKK.out _ _ ?_ (fun hHeld => ?_)
  · exact hX
  clear hKK K
  try simp only [Act.put, zA1, zA2, zA3]
  refine wpAnyH_take (i := 11) (oi := _) (v := ?_) rfl (by kernel_rfl) (by kernel_rfl) (by kernel_rfl) (fun _ _ _ h => h) (Or.inl ⟨by rfl, ?_⟩) (by assumption) ?_
  rotate_left
  · rintro w ⟨s0, s1, s2, s3, s4, s5, s6, s7, s8, s9⟩
    go_simp
    try with_reducible rfl
  try simp only [Act.put, zA1, zA2, zA3]
  refine wpAnyH_take (i := 12) (oi := _) (v := ?_) rfl (by kernel_rfl) (by kernel_rfl) (by kernel_rfl) (fun _ _ _ h => h) (Or.inl ⟨by rfl, ?_⟩) (by assumption) ?_
  rotate_left
  · rintro w ⟨s0, s1, s2, s3, s4, s5, s6, s7, s8, s9⟩
    go_simp
    try with_reducible rfl
  try simp only [Act.put, zA1, zA2, zA3]
  refine wpAnyH_take (i := 13) (oi := _) (v := ?_) rfl (by kernel_rfl) (by kernel_rfl) (by kernel_rfl) (fun _ _ _ h => h) (Or.inl ⟨by rfl, ?_⟩) (by assumption) ?_
  rotate_left
  · rintro w ⟨s0, s1, s2, s3, s4, s5, s6, s7, s8, s9⟩
    go_simp
    try with_reducible rfl
  try simp only [Act.put, zA1, zA2, zA3]
  refine wpAnyH_take (i := 14) (oi := _) (v := ?_) rfl (by kernel_rfl) (by kernel_rfl) (by kernel_rfl) (fun _ _ _ h => h) (Or.inl ⟨by rfl, ?_⟩) (by assumption) ?_
  rotate_left
  · rintro w ⟨s0, s1, s2, s3, s4, s5, s6, s7, s8, s9⟩
    go_simp
    try with_reducible rfl
  try simp only [Act.put, zA1, zA2, zA3]
  refine wpAnyH_take (i := 15) (oi := _) (v := ?_) rfl (by kernel_rfl) (by kernel_rfl) (by kernel_rfl) (fun _ _ _ h => h) (Or.inl ⟨by rfl, ?_⟩) (by assumption) ?_
  rotate_left
  · rintro w ⟨s0, s1, s2, s3, s4, s5, s6, s7, s8, s9⟩
    go_simp
    try with_reducible rfl
  try simp only [Act.put, zA1, zA2, zA3]
  refine wpAnyH_done (by kernel_rfl) ?_ _
  have hX := hHeld.2.2.2.2.2.2.2.2.2
  clear HS
  go_wp2
  go_ret
  exact ⟨rfl, hX⟩
end Go.Mk
end
section
set_option linter.unusedVariables false
set_option linter.unusedSimpArgs false
open Go Go.Proofs Go.RowKit Go.Sort
set_option maxRecDepth 100000
namespace Go.Mk
theorem RowZ.start (w : World) (B n : Nat) (hB : B ≤ w.heap.size) (hn : n ≤ 1000) : RowZ (w.alloc (.cells (madeCells #[.int .i64 0] n) 3)) B w.heap.size n n (List.replicate n 0) := by
  refine ⟨by simp, by simp, .inr ⟨w.heap.size, n, madeCells #[.int .i64 0] n, rfl, hB, heap_alloc_new w _, Nat.le_refl _, by unfold maxLen; omega, by simp [size_madeCells], ?_⟩⟩
  rw [Nat.mul_one, List.take_of_length_le (by simp [madeCells])]
  simp only [madeCells, List.map_replicate]
  apply List.ext_getElem?
  intro i
  simp [Nat.mod_one, List.getElem?_replicate]
  by_cases h : i < n <;> simp [h]
def DrawnZ (key n : Nat) (w : World) (e : Ending) (w' : World) : Prop :=
  ∃ g, e = .returned (.tuple #[.slice (some ⟨g, 0, none⟩) n n, .int .i64 0]) ∧ RowZ w' g g n n (drawnZ key n) ∧ g = w.heap.size ∧ Below w.heap.size w w'
set_option maxHeartbeats 400000 in
set_option maxRecDepth 100000 in
theorem drawZ_any (key n : Nat) (w : World) (h1 : 1 ≤ key) (h2 : key ≤ 2147483646) (h3 : n ≤ 256) :
    Calls Tryz.prog 53 #[.int .i64 key, .int .i64 n] w (DrawnZ key n w) := by
  have hn100 : n ≤ 1000 := by omega
  have hb : 1 ≤ (key : Int) ∧ (key : Int) ≤ 2147483646 ∧ 0 ≤ (n : Int) ∧ (n : Int) ≤ 256 := by omega
  obtain ⟨i0, hi, hz0, hz1, hz2⟩ := info_parts infoInt
  have hmk : ∀ w : World, (Instr.makeSlice 30 (.int .i64 (n : Int)) (.int .i64 (n : Int))).run Tryz.prog w = .ok (.slice (some ⟨w.heap.size, 0, none⟩) n n) (w.alloc (.cells (madeCells #[.int .i64 0] n) 3)) := by
    intro w
    have := run_make (P := Tryz.prog) w 30 3 i0 (.int .i64 0) Tryz.underlying30 hi hz0 .i64 .i64 n n (by omega) (by omega) (by rw [hz2]; omega) (by omega)
    rw [hz1] at this
    simpa [Value.cells] using this
  clear hi hz0 hz1 hz2
  clear h1 h2
  obtain ⟨hk1, hk2, hn0, hn3⟩ : 1 ≤ (key : Int) ∧ (key : Int) ≤ 2147483646 ∧ 0 ≤ (n : Int) ∧ (n : Int) ≤ 256 := hb
  go_enter Tryz.func53, Tryz.ntmps53
  go_wp2
  have hrow : Row (w.alloc (.cells (madeCells #[.int .i64 0] n) 3)) w.heap.size (List.replicate n 0) := Row.newI w n
  have hbel : Below w.heap.size w (w.alloc (.cells (madeCells #[.int .i64 0] n) 3)) := (Below.refl _ _).alloc (Nat.le_refl _) _
  have hzw := RowZ.start w w.heap.size n (Nat.le_refl _) hn100
  obtain ⟨g, hg⟩ : ∃ g, g = w.heap.size := ⟨_, rfl⟩
  rw [← hg] at hrow hbel hzw ⊢
  generalize w.alloc (.cells (madeCells #[.int .i64 0] n) 3) = w1 at hrow hbel hzw ⊢
  have Hg := Lib.hid hg
  clear hmk hg h3
  go_loopw [29] (fun i wr => ∃ k : Nat, k ≤ n ∧ i = .int .i64 k ∧ Row wr g (List.range k ++ List.replicate (n - k) 0) ∧ Below g w wr ∧ Hid (RowZ wr g g n n ((List.range k ++ List.replicate (n - k) 0).map fun x : Nat => (x : Int)))) (fun i _ => n - (intOf i).toNat)
  case atStart => exact ⟨0, by omega, rfl, by simpa using hrow, hbel, Lib.hid (by simpa using hzw)⟩
  case round =>
    obtain ⟨k, hk, rfl, hr, hb, hz⟩ := hrel
    by_cases hlt : k < n
    · obtain ⟨hc, hf⟩ := hr.at_ (j := k) (by simp; omega)
      have hz2 := hz.out.set k (k : Int)
      rw [← List.map_set (f := fun x : Nat => (x : Int)) (a := k), fill_set n k hlt] at hz2
      have HZ2 := Lib.hid hz2
      clear hz hz2 hzw
      go_wp2
      go_roundw
      case rel => exact ⟨k + 1, by omega, by go_num, by rw [← fill_set n k hlt]; exact hr.set_ (by simp; omega) k, hb.setCell (Nat.le_refl _) _, HZ2⟩
      case measure => simp [intOf]; omega
    · have hkn : k = n := by omega
      have hz3 : Hid (RowZ wr g g n n ((List.range n).map fun x : Nat => (x : Int))) := by
        have := hz.out
        rw [hkn] at this
        exact Lib.hid (by simpa using this)
      clear hz hzw
      go_wp2
      have hrow2 : Row wr g (List.range n) := by rw [hkn] at hr; simpa using hr
      have hbn : Below g w wr := hb
      obtain ⟨w2, hw2⟩ : ∃ w2, w2 = wr := ⟨_, rfl⟩
      rw [← hw2] at hrow2 hbn hz3 ⊢
      clear hr hb hkn hlt hrow hbel hk hw2
      go_loopw [8, 9] (fun x i wr => ∃ (iz : Int) (y : Nat) (l : List Nat), i = .int .i64 iz ∧ x = .int .i64 (y : Int) ∧ -1 ≤ iz ∧ iz < n ∧ y < 2147483647 ∧ l.length = n ∧ Row wr g l ∧ Below g w wr ∧ Hid (RowZ wr g g n n (l.map fun x : Nat => (x : Int))) ∧ Hid (Sh.draws iz.toNat y l = Sh.order key n)) (fun _ i _ => (intOf i).toNat)
      case atStart => exact ⟨(n : Int) - 1, key, List.range n, rfl, rfl, by omega, by omega, by omega, by simp, hrow2, hbn, hz3, by
        rw [show ((n : Int) - 1).toNat = n - 1 from by omega]; exact Lib.hid rfl⟩
      case round =>
        obtain ⟨iz, y, l, rfl, rfl, hi1, hi2, hy, hl, hr, hb, hz, hD⟩ := hrel
        by_cases h1 : 1 ≤ iz
        · obtain ⟨i, rfl⟩ : ∃ i : Nat, iz = (i : Int) + 1 := ⟨(iz - 1).toNat, by omega⟩
          have HD2 : Hid (Sh.draws (i + 1) y l = Sh.order key n) := by
            rw [show ((i : Int) + 1).toNat = i + 1 from by omega] at hD
            exact hD
          clear hD
          obtain ⟨j, hj, hj2⟩ : ∃ j : Nat, 69621 * (y : Int) % 2147483647 % ((i : Int) + 1 + 1) = (j : Int) ∧ j = Sh.nx y % (i + 2) := ⟨Sh.nx y % (i + 2), by rw [show (i : Int) + 1 + 1 = ((i + 2 : Nat) : Int) from by omega]; unfold Sh.nx; simp [Int.natCast_emod], rfl⟩
          have hjlt : j < i + 2 := by rw [hj2]; exact Nat.mod_lt _ (by omega)
          obtain ⟨ci, fi⟩ := hr.at_ (j := i + 1) (by omega)
          obtain ⟨cj, fj⟩ := hr.at_ (j := j) (by omega)
          obtain ⟨a, ha⟩ : ∃ a, l.getD (i + 1) 0 = a := ⟨_, rfl⟩
          obtain ⟨b, hb'⟩ : ∃ b, l.getD j 0 = b := ⟨_, rfl⟩
          rw [ha] at ci
          rw [hb'] at cj
          obtain ⟨v', cj'⟩ := cell?_setCell_some (p := ⟨g, i + 1, none⟩) (x := .int .i64 (b : Int)) cj
          have hjn : j < n := by omega
          have hRow : Row (((wr.setCell ⟨g, i + 1, none⟩ (.int .i64 (b : Int))).setCell ⟨g, j, none⟩ (.int .i64 (a : Int))).drew) g (Sh.swp l (i + 1) j) := by
            have h := ((hr.set_ (i := i + 1) (by omega) b).set_ (i := j) (by simp; omega) a).drew
            unfold Sh.swp
            rw [ha, hb']
            exact h
          have hz4 := ((hz.out.set (i + 1) (b : Int)).set j (a : Int))
          have HZ4 : Hid (RowZ (((wr.setCell ⟨g, i + 1, none⟩ (.int .i64 (b : Int))).setCell ⟨g, j, none⟩ (.int .i64 (a : Int))).drew) g g n n ((Sh.swp l (i + 1) j).map fun x : Nat => (x : Int))) := by
            unfold Sh.swp
            rw [ha, hb', List.map_set, List.map_set]
            exact Lib.hid ⟨hz4.1, hz4.2⟩
          clear hz hz4
          have Hj := Lib.hid hj
          have Hj2 := Lib.hid hj2
          have Ha := Lib.hid ha
          have Hb := Lib.hid hb'
          have hl' := Lib.hid hl
          clear hl hj hj2 ha hb'
          go_wp2
          have hj3 := Hj.out
          rw [hj3]
          clear hj3
          go_region
          go_wp2
          go_roundw
          case rel => exact ⟨(i : Int), Sh.nx y, Sh.swp l (i + 1) j, by go_num, by unfold Sh.nx; simp [Int.natCast_emod], by omega, by omega, Sh.nx_lt y, by rw [Sh.swp_length]; exact hl'.out, hRow, ((hb.setCell (Nat.le_refl _) _).setCell (Nat.le_refl _) _).drew, HZ4, by
            rw [← HD2.out, show ((i : Int)).toNat = i from by omega, Sh.draws, ← Hj2.out]; exact Lib.hid rfl⟩
          case measure => simp [intOf]
        · go_wp2
          go_ret2
          have hi0 : iz.toNat = 0 := by omega
          rw [hi0] at hD
          have hl2 : l = Sh.order key n := hD.out
          exact ⟨g, rfl, by unfold drawnZ; rw [← hl2]; exact hz.out, Hg.out, by rw [← Hg.out]; exact hb⟩

def drwE (key : Int) (n : Nat) : Int := if key < 1 ∨ 2147483646 < key ∨ 256 < n then 3 else 0
theorem seedCheckEntrants_all (L : List Ent) (n cap : Nat) (A : Option Addr) (B : Nat) (w : World) (hZ : Ents w B A n L) (hn : n ≤ 1000) (hs : ∀ x ∈ L, x.ok) (hg : 13 ≤ w.heap.size) :
    Calls Tryz.prog 12 #[.slice A n cap] w (RetPost (.int .i64 (chkEnts L)) w) := by
  by_cases h : n ≤ 160
  · exact seedCheckEntrants_any L n cap A B w hZ h hs hg
  · rw [show chkEnts L = 5 by unfold chkEnts; rw [if_pos (by rw [hZ.1]; omega)]]
    exact seedCheckEntrants_many n cap A w (by omega) (by omega)
theorem box_cell (w : World) (v : Value) (t : TypeId) : (w.alloc (.cells #[v] t)).cell? ⟨w.heap.size, 0, none⟩ = some v := by simp
set_option maxHeartbeats 1000000 in
theorem seedOrder_bad1 (L : List Ent) (n cap : Nat) (A : Option Addr) (B : Nat) (key : Int) (w : World) (hZ : Ents w B A n L) (hn : n ≤ 1000) (hs : ∀ x ∈ L, x.ok) (hg : 13 ≤ w.heap.size) (hd : drwE key n ≠ 0) :
    Calls Tryz.prog 13 #[.slice A n cap, .int .i64 key] w (RetPost (.tuple #[.slice none 0 0, .int .i64 (fstN [chkEnts L, 3])]) w) := by
  have hni : (n : Int) ≤ 1000 := by omega
  have hD := draw_bad key (n : Int)
  have hq : key < 1 ∨ 2147483646 < key ∨ (n : Int) < 0 ∨ 256 < (n : Int) := by
    unfold drwE at hd
    split at hd
    · rename_i q; omega
    · exact absurd rfl hd
  have HC : Hid (∀ w', Below w.heap.size w w' → Calls Tryz.prog 12 #[.slice A n cap] w' (RetPost (.int .i64 (chkEnts L)) w')) := Lib.hid fun w' hb => seedCheckEntrants_all L n cap A B w' (hZ.below hb hZ.2.1) hn hs (Nat.le_trans hg hb.size)
  have HD : Hid (∀ w', Calls Tryz.prog 53 #[.int .i64 key, .int .i64 (n : Nat)] w' (RetPost (.tuple #[.slice none 0 0, .int .i64 3]) w')) := Lib.hid fun w' => hD w' hq
  have HF : Hid (∀ g w, Es w g [chkEnts L, 3] → Calls Tryz.prog 49 #[.slice (some ⟨g, 0, none⟩) 2 2] w (RetSame (.int .i64 (fstN [chkEnts L, 3])) w)) := Lib.hid fun g w => seedFirst_any [chkEnts L, 3] 2 rfl (by decide) g w
  have hne : (fstN [chkEnts L, 3] != 0) = true := by
    rw [bne_iff_ne]
    simp only [fstN]
    by_cases e : chkEnts L = 0 <;> simp [e]
  generalize fstN [chkEnts L, 3] = z at *
  generalize chkEnts L = x at *
  have HB : Hid (Below w.heap.size w (w.alloc (.cells #[.slice A n cap] 22))) := Lib.hid ((Below.refl _ _).alloc (Nat.le_refl _) _)
  have hbx := box_cell w (.slice A n cap) 22
  clear hD hd hq hZ hs hg
  go_enter Tryz.func13, Tryz.ntmps13
  go_wp2_with fail
  refine (HD.out _).mono ?_
  rintro e w1 ⟨rfl, hb1⟩
  have hbx1 : w1.cell? ⟨w.heap.size, 0, none⟩ = some (.slice A n cap) := (hb1.cell (p := ⟨w.heap.size, 0, none⟩) (by simp)).trans hbx
  have hB1 := bstep HB.out hb1
  clear hb1 hbx HB
  go_wp2_with fail
  refine (HC.out _ hB1).mono ?_
  rintro e w2 ⟨rfl, hb2⟩
  have hB2 := bstep hB1 hb2
  clear hb2 hB1 hbx1
  go_wp2_with fail
  refine (HF.out _ _ (es2 _ _ _ _)).mono ?_
  rintro e w3 ⟨rfl, rfl⟩
  have hB3 := balloc (.cells #[.int .i64 x, .int .i64 3] 28) hB2
  generalize w2.alloc (.cells #[.int .i64 x, .int .i64 3] 28) = w3 at *
  go_wp2
  go_ret2
  exact ⟨rfl, hB3⟩
set_option maxHeartbeats 1000000 in
theorem seedOrder_bad2 (L : List Ent) (n cap : Nat) (A : Option Addr) (B : Nat) (key : Nat) (w : World) (hZ : Ents w B A n L) (hn : n ≤ 256) (hs : ∀ x ∈ L, x.ok) (hg : 13 ≤ w.heap.size) (h1 : 1 ≤ key) (h2 : key ≤ 2147483646) (hx : chkEnts L ≠ 0) :
    Calls Tryz.prog 13 #[.slice A n cap, .int .i64 (key : Nat)] w (RetPost (.tuple #[.slice none 0 0, .int .i64 (chkEnts L)]) w) := by
  have hni : (n : Int) ≤ 256 := by omega
  have HC : Hid (∀ w', Below w.heap.size w w' → Calls Tryz.prog 12 #[.slice A n cap] w' (RetPost (.int .i64 (chkEnts L)) w')) := Lib.hid fun w' hb => seedCheckEntrants_all L n cap A B w' (hZ.below hb hZ.2.1) (by omega) hs (Nat.le_trans hg hb.size)
  have HD : Hid (∀ w', Calls Tryz.prog 53 #[.int .i64 (key : Nat), .int .i64 (n : Nat)] w' (DrawnZ key n w')) := Lib.hid fun w' => drawZ_any key n w' h1 h2 hn
  have HF : Hid (∀ g w, Es w g [chkEnts L, 0] → Calls Tryz.prog 49 #[.slice (some ⟨g, 0, none⟩) 2 2] w (RetSame (.int .i64 (fstN [chkEnts L, 0])) w)) := Lib.hid fun g w => seedFirst_any [chkEnts L, 0] 2 rfl (by decide) g w
  rw [show fstN [chkEnts L, 0] = chkEnts L by simp [fstN, hx]] at HF
  have hne : (chkEnts L != 0) = true := by rw [bne_iff_ne]; exact hx
  generalize chkEnts L = x at *
  have HB : Hid (Below w.heap.size w (w.alloc (.cells #[.slice A n cap] 22))) := Lib.hid ((Below.refl _ _).alloc (Nat.le_refl _) _)
  have hbx := box_cell w (.slice A n cap) 22
  clear hZ hs hg hx
  go_enter Tryz.func13, Tryz.ntmps13
  go_wp2_with fail
  refine (HD.out _).mono ?_
  rintro e w1 ⟨g, rfl, _, _, hb1⟩
  have hbx1 : w1.cell? ⟨w.heap.size, 0, none⟩ = some (.slice A n cap) := (hb1.cell (p := ⟨w.heap.size, 0, none⟩) (by simp)).trans hbx
  have hB1 := bstep HB.out hb1
  clear hb1 hbx HB
  go_wp2_with fail
  refine (HC.out _ hB1).mono ?_
  rintro e w2 ⟨rfl, hb2⟩
  have hB2 := bstep hB1 hb2
  clear hb2 hB1 hbx1
  go_wp2_with fail
  refine (HF.out _ _ (es2 _ _ _ _)).mono ?_
  rintro e w3 ⟨rfl, rfl⟩
  have hB3 := balloc (.cells #[.int .i64 x, .int .i64 0] 28) hB2
  generalize w2.alloc (.cells #[.int .i64 x, .int .i64 0] 28) = w3 at *
  go_wp2
  go_ret2
  exact ⟨rfl, hB3⟩
def OrdPost (L : List Ent) (key n : Nat) (w : World) (e : Ending) (w' : World) : Prop :=
  ∃ g, e = .returned (.tuple #[.slice (some ⟨g, 0, none⟩) n n, .int .i64 0]) ∧ RowZ w' w.heap.size g n n (ordZ L key) ∧ Below w.heap.size w w'
theorem RowZ.mono {w : World} {B B' g n cap : Nat} {L : List Int} (h : RowZ w B g n cap L) (hB : B' ≤ g) : RowZ w B' g n cap L := by
  refine ⟨h.1, h.2.1, ?_⟩
  rcases h.2.2 with ⟨q, _⟩ | ⟨g', cap', cur, a, b, c, d⟩
  · cases q
  · cases a
    exact .inr ⟨g, cap, cur, rfl, hB, c, d⟩
theorem below_of_gb {W a c : World} {g : Nat} (h : Below W.heap.size W a) (hg : a.grownBy c (some g)) (hW : W.heap.size ≤ g) : Below W.heap.size W c :=
  h.grown hg h.size (fun r hr => by cases hr; exact hW)
set_option maxHeartbeats 2000000 in
theorem seedOrder_ok (L : List Ent) (n cap : Nat) (A : Option Addr) (B : Nat) (key : Nat) (w : World) (hZ : Ents w B A n L) (hn : n ≤ 40) (hs : ∀ x ∈ L, x.ok) (hg : 13 ≤ w.heap.size) (h1 : 1 ≤ key) (h2 : key ≤ 2147483646) (hx : chkEnts L = 0) :
    Calls Tryz.prog 13 #[.slice A n cap, .int .i64 (key : Nat)] w (OrdPost L key n w) := by
  have hni : (n : Int) ≤ 40 := by omega
  have hl := hZ.1
  have HC : Hid (∀ w', Below w.heap.size w w' → Calls Tryz.prog 12 #[.slice A n cap] w' (RetPost (.int .i64 0) w')) := Lib.hid fun w' hb => by
    have := seedCheckEntrants_all L n cap A B w' (hZ.below hb hZ.2.1) (by omega) hs (Nat.le_trans hg hb.size)
    rwa [hx] at this
  have HD : Hid (∀ w', Calls Tryz.prog 53 #[.int .i64 (key : Nat), .int .i64 (n : Nat)] w' (DrawnZ key n w')) := Lib.hid fun w' => drawZ_any key n w' h1 h2 (by omega)
  have HF : Hid (∀ g w, Es w g [0, 0] → Calls Tryz.prog 49 #[.slice (some ⟨g, 0, none⟩) 2 2] w (RetSame (.int .i64 0) w)) := Lib.hid fun g w => seedFirst_any [0, 0] 2 rfl (by decide) g w
  have HS : Hid (∀ (g : Nat) (w' : World), w.heap.size < g → Below w.heap.size w w' → RowZ w' w.heap.size g n n (drawnZ key n) → w'.cell? ⟨w.heap.size, 0, none⟩ = some (.slice A n cap) →
      Calls Tryz.prog 54 #[.slice (some ⟨g, 0, none⟩) n n, cmpV w.heap.size] w' (SortPost w' w.heap.size g n n (ltE L (drawnZ key n)) (drawnZ key n) 0 n)) := Lib.hid fun g w' hgg hb hr hc => by
    have hwl := (RowZ.lt hr).2
    refine sortStable_any (ltE_ord _ _) (cmE L) _ _ _ _ _ _ w' hr (drawnZ_nodup _ _) hn (fun w5 hg5 x y hx5 hy5 => ?_) (by
      have := draw_tst hx key
      rw [hl] at this
      exact this)
    obtain ⟨x1, x2⟩ := drawnZ_mem _ _ hx5
    obtain ⟨y1, y2⟩ := drawnZ_mem _ _ hy5
    obtain ⟨x, rfl⟩ : ∃ k : Nat, x = k := ⟨x.toNat, by omega⟩
    obtain ⟨y, rfl⟩ : ∃ k : Nat, y = k := ⟨y.toNat, by omega⟩
    have hb5 := below_of_gb hb hg5 (by omega)
    have hlt : w.heap.size < w'.heap.size := by omega
    exact order1_any L n cap w.heap.size B x y A w5 (hZ.below hb5 hZ.2.1) ((hg5.cell_far ⟨w.heap.size, 0, none⟩ hlt (fun q => by have q2 := Option.some.inj q; simp only at q2; omega)).trans hc) (Nat.lt_of_lt_of_le hlt hg5.size) (by omega) (by omega) (by omega) (Nat.le_trans hg hb5.size)
  have HO : Hid (∀ M, PermIn 0 n (drawnZ key n) M → Srt (ltE L (drawnZ key n)) M 0 n → M = ordZ L key) := Lib.hid fun M p s => by
    have := ordZ_of hx key (M := M)
    rw [hl] at this
    exact this p s
  have HB : Hid (Below w.heap.size w (w.alloc (.cells #[.slice A n cap] 22))) := Lib.hid ((Below.refl _ _).alloc (Nat.le_refl _) _)
  have hbx := box_cell w (.slice A n cap) 22
  unfold SortPost cmpV at HS
  clear hZ hs hg hx hl
  go_enter Tryz.func13, Tryz.ntmps13
  go_wp2_with fail
  refine (HD.out _).mono ?_
  rintro e w1 ⟨g, rfl, hr1, hg1, hb1⟩
  have hbx1 : w1.cell? ⟨w.heap.size, 0, none⟩ = some (.slice A n cap) := (hb1.cell (p := ⟨w.heap.size, 0, none⟩) (by simp)).trans hbx
  have hgl : w.heap.size < g := by rw [hg1]; simp
  have hr1 := hr1.mono (B' := w.heap.size) (by omega)
  have hB1 := bstep HB.out hb1
  have HGL := Lib.hid hgl
  clear hb1 hbx HB hg1 hgl
  go_wp2_with fail
  refine (HC.out _ hB1).mono ?_
  rintro e w2 ⟨rfl, hb2⟩
  have hB2 := bstep hB1 hb2
  have hbx2 := (hb2.cell (p := ⟨w.heap.size, 0, none⟩) (Nat.lt_of_lt_of_le HGL.out (Nat.le_of_lt (RowZ.lt hr1).2))).trans hbx1
  have hr2 := hr1.below hb2
  clear hb2 hB1 hbx1 hr1
  go_wp2_with fail
  refine (HF.out _ _ (es2 _ _ _ _)).mono ?_
  rintro e w3 ⟨rfl, rfl⟩
  have hB3 := balloc (.cells #[.int .i64 0, .int .i64 0] 28) hB2
  have hq3 : Below w2.heap.size w2 (w2.alloc (.cells #[.int .i64 0, .int .i64 0] 28)) := balloc _ (Below.refl _ _)
  have hr3 := hr2.below hq3
  have hbx3 := (hq3.cell (p := ⟨w.heap.size, 0, none⟩) (Nat.lt_of_lt_of_le HGL.out (Nat.le_of_lt (RowZ.lt hr2).2))).trans hbx2
  generalize w2.alloc (.cells #[.int .i64 0, .int .i64 0] 28) = w3 at *
  have hK := HS.out g w3 HGL.out hB3 hr3 hbx3
  have HB3 := Lib.hid hB3
  clear hB2 hq3 hr2 hbx2 hr3 hbx3 hB3
  go_wp2_with fail
  with_reducible refine hK.mono ?_
  rintro e w5 ⟨M, rfl, p5, s5, r5, g5⟩
  have hB5 := below_of_gb HB3.out g5 (Nat.le_of_lt HGL.out)
  have hM := HO.out M p5 s5
  subst hM
  have HR := Lib.hid (And.intro r5 hB5)
  clear p5 s5 r5 g5 hB5 hK
  go_wp2
  go_ret2
  exact ⟨g, rfl, HR.out.1, HR.out.2⟩
end Go.Mk
end
