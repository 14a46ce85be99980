/-
  Proved: mark.Ranks returns a new slice of ranks, or the first error. Conditions: the list lies where the slice says; the heap holds the program's variables.
-/
import Derived.Test.YtapglbjojpkblaaGreatDoorMn
set_option linter.unusedVariables false
set_option linter.unusedSimpArgs false
open Go Go.Proofs Go.RowKit
set_option maxRecDepth 100000
namespace Go.Mk

/-- The kind lies in a block. -/
def KBoxless (w : World) (p : Nat) (lo hi : Int) (f2 f4 f5 f6 : Nat) : Prop := w.cell? ⟨p, 0, none⟩ = some (.int .i64 lo) ∧ w.cell? ⟨p, 1, none⟩ = some (.int .i64 hi) ∧ w.cell? ⟨p, 2, none⟩ = some (.func (.func f2) #[] #[]) ∧ w.cell? ⟨p, 3, none⟩ = some (.func (.func 77) #[] #[]) ∧ w.cell? ⟨p, 4, none⟩ = some (.func (.func f4) #[] #[]) ∧ w.cell? ⟨p, 5, none⟩ = some (.func (.func f5) #[] #[]) ∧ w.cell? ⟨p, 6, none⟩ = some (.func (.func f6) #[] #[])
theorem KBoxless.below {w w' : World} {K p : Nat} {lo hi : Int} {f2 f4 f5 f6 : Nat} (h : KBoxless w p lo hi f2 f4 f5 f6) (hb : Below K w w') (hp : p < K) : KBoxless w' p lo hi f2 f4 f5 f6 := by
  obtain ⟨h0, h1, h2, h3, h4, h5, h6⟩ := h
  exact ⟨(hb.cell (p := ⟨p, 0, none⟩) hp).trans h0, (hb.cell (p := ⟨p, 1, none⟩) hp).trans h1, (hb.cell (p := ⟨p, 2, none⟩) hp).trans h2, (hb.cell (p := ⟨p, 3, none⟩) hp).trans h3, (hb.cell (p := ⟨p, 4, none⟩) hp).trans h4, (hb.cell (p := ⟨p, 5, none⟩) hp).trans h5, (hb.cell (p := ⟨p, 6, none⟩) hp).trans h6⟩
set_option maxHeartbeats 4000000 in
theorem Ranks_less (L : List (ByteArray × Int × ByteArray)) (n cap : Nat) (A : Option Addr) (B : Nat) (w : World) (hM : Marks w B A n L) (hg : 15 ≤ w.heap.size) (hsm : n ≤ 256) (c : ByteArray) (he : comK sNone L = (c, 0))
    (lo hi : Int) (f2 f4 f5 f6 : Nat) (hE : Entry c (.agg #[.int .i64 lo, .int .i64 hi, .func (.func f2) #[] #[], .func (.func 77) #[] #[], .func (.func f4) #[] #[], .func (.func f5) #[] #[], .func (.func f6) #[] #[]]) true) :
    Calls Tryz.prog 10 #[.slice A n cap] w (Ranked true L n w) := by
  have hn0 : (n : Int) ≤ 256 := by omega
  have hcK : ∀ w' K, Below w.heap.size w w' → Kinds w' K → Calls Tryz.prog 37 #[.map (some K), .slice A n cap] w' (RetPost (.tuple #[.string c, .int .i64 0]) w') := fun w' K hb hK => by
    have := commonKind_any L n cap A B K w' (hM.below hb hM.2.1) (by omega) hK
    rwa [he] at this
  have HM : Hid (∀ w', Below w.heap.size w w' → Marks w' B A n L) := fun w' hb => hM.below hb hM.2.1
  have hlen := hM.1
  have Hlen := Lib.hid hlen
  have hBw := hM.2.1
  obtain ⟨i0, hi0, hz0, hz1, hz2⟩ := info_parts infoInt
  have hmk : ∀ w : World, (Instr.makeSlice 26 (.int .i64 (n : Int)) (.int .i64 (n : Int))).run Tryz.prog w = .ok (.slice (some ⟨w.heap.size, 0, none⟩) n n) (w.alloc (.cells (madeCells #[.int .i64 0] n) 3)) := by
    intro w
    have := run_make (P := Tryz.prog) w 26 3 i0 (.int .i64 0) Tryz.underlying26 hi0 hz0 .i64 .i64 n n (by omega) (by omega) (by rw [hz2]; omega) (by omega)
    rw [hz1] at this
    simpa [Value.cells] using this
  clear hi0 hz0 hz1 hz2 hM he hsm hlen
  go_enter Tryz.func10, Tryz.ntmps10
  go_wp2_with fail
  refine (kinds_any _ hg).mono ?_
  rintro e w1 ⟨K, rfl, hB, hK, hb1⟩
  have hcc := hcK _ _ hb1 hK
  clear hcK
  go_wp2_with fail
  refine hcc.mono ?_
  rintro e w2 ⟨rfl, hb2⟩
  have hb3 := hb1.trans (hb2.mono hb1.size)
  have hK2 := hK.grow hb2
  clear hb1 hb2 hcc hK hB
  go_wp2_with (at_lookup; refine wpList_look _ rfl _ _ false rfl K c _ _ rfl rfl hK2 hE ?_)
  have hrow : Row ((w2.alloc (.cells #[.int .i64 lo, .int .i64 hi, .func (.func f2) #[] #[], .func (.func 77) #[] #[], .func (.func f4) #[] #[], .func (.func f5) #[] #[], .func (.func f6) #[] #[]] 79)).alloc (.cells (madeCells #[.int .i64 0] n) 3)) (w2.heap.size + 1) (List.replicate n 0) := by
    have := Row.new' (w2.alloc (.cells #[.int .i64 lo, .int .i64 hi, .func (.func f2) #[] #[], .func (.func 77) #[] #[], .func (.func f4) #[] #[], .func (.func f5) #[] #[], .func (.func f6) #[] #[]] 79)) n
    simpa using this
  have hkb : KBoxless ((w2.alloc (.cells #[.int .i64 lo, .int .i64 hi, .func (.func f2) #[] #[], .func (.func 77) #[] #[], .func (.func f4) #[] #[], .func (.func f5) #[] #[], .func (.func f6) #[] #[]] 79)).alloc (.cells (madeCells #[.int .i64 0] n) 3)) w2.heap.size lo hi f2 f4 f5 f6 := by
    refine KBoxless.below (w := w2.alloc (.cells #[.int .i64 lo, .int .i64 hi, .func (.func f2) #[] #[], .func (.func 77) #[] #[], .func (.func f4) #[] #[], .func (.func f5) #[] #[], .func (.func f6) #[] #[]] 79)) ?_ ((Below.refl (w2.heap.size + 1) _).alloc (by simp) _) (by omega)
    refine ⟨?_, ?_, ?_, ?_, ?_, ?_, ?_⟩ <;> simp
  have hbw : Below w.heap.size w ((w2.alloc (.cells #[.int .i64 lo, .int .i64 hi, .func (.func f2) #[] #[], .func (.func 77) #[] #[], .func (.func f4) #[] #[], .func (.func f5) #[] #[], .func (.func f6) #[] #[]] 79)).alloc (.cells (madeCells #[.int .i64 0] n) 3)) := (hb3.alloc hb3.size _).alloc (by have := hb3.size; simp; omega) _
  have hsz : ((w2.alloc (.cells #[.int .i64 lo, .int .i64 hi, .func (.func f2) #[] #[], .func (.func 77) #[] #[], .func (.func f4) #[] #[], .func (.func f5) #[] #[], .func (.func f6) #[] #[]] 79)).alloc (.cells (madeCells #[.int .i64 0] n) 3)).heap.size = w2.heap.size + 2 := by simp
  have hw2 : w.heap.size ≤ w2.heap.size := hb3.size
  clear hb3 hK2 hmk
  generalize ((w2.alloc (.cells #[.int .i64 lo, .int .i64 hi, .func (.func f2) #[] #[], .func (.func 77) #[] #[], .func (.func f4) #[] #[], .func (.func f5) #[] #[], .func (.func f6) #[] #[]] 79)).alloc (.cells (madeCells #[.int .i64 0] n) 3)) = w3 at hrow hkb hbw hsz ⊢
  have HKB : Hid (KBoxless w3 w2.heap.size lo hi f2 f4 f5 f6) := hkb
  have hsz' : w2.heap.size + 1 < w3.heap.size := by omega
  clear hkb hsz
  go_loopw [32] (fun i wr => ∃ k : Nat, k ≤ n ∧ i = .int .i64 k ∧ Row wr (w2.heap.size + 1) ((L.take k).map (rankM true L) ++ List.replicate (n - k) 0) ∧ Below (w2.heap.size + 1) w3 wr) (fun i _ => n - (intOf i).toNat)
  case atStart => exact ⟨0, by omega, rfl, by simpa using hrow, Below.refl _ _⟩
  case round =>
    obtain ⟨k, hk, rfl, hr, hb⟩ := hrel
    have hbA : Below w.heap.size w wr := hbw.trans (hb.mono (by omega))
    by_cases hlt : k < n
    · obtain ⟨b, off, s, v, r, rfl, hbl, hL, c0, c1, c2⟩ := (HM.out _ hbA).at_ hlt
      obtain ⟨k0, k1, k2, k3, k4, k5, k6⟩ := HKB.out.below hb (by omega)
      have hset := rank_set (rankM true L) L n k _ Hlen.out hL
      have hnon := rank_none (rankM true L) L n k _ Hlen.out hL
      have Hset := Lib.hid hset
      have Hnon := Lib.hid hnon
      clear hset hnon hL
      have hzr := hb.size
      have hz1 : w2.heap.size + 1 < wr.heap.size := by omega
      have hz2 : w2.heap.size < wr.heap.size := by omega
      have hbn : Below (w2.heap.size + 1) w3 (wr.alloc (.cells #[.string s, .int .i64 v, .string r] 32)) := hb.alloc (by omega) _
      have hrn : Row (wr.alloc (.cells #[.string s, .int .i64 v, .string r] 32)) (w2.heap.size + 1) ((L.take k).map (rankM true L) ++ List.replicate (n - k) 0) := hr.alloc _
      cases g1 : (s.toList == [110, 111, 110, 101]) with
      | true =>
        have hf : rankM true L (s, v, r) = 0 := by unfold rankM; rw [if_pos g1]
        have HS := Lib.hid (Hnon.out hf)
        clear hf hr hb
        go_wp2
        exact ⟨⟨k + 1, by omega, by go_num, by rw [← HS.out]; exact hrn, hbn⟩, by simp [intOf]; omega⟩
      | false =>
        have hMr := HM.out _ (hbA.alloc hbA.size (.cells #[.string s, .int .i64 v, .string r] 32))
        have hcb := countBetter_less L n cap _ B lo hi f2 f4 f5 f6 s r v _ hMr (by omega)
        have hf : rankM true L (s, v, r) = 1 + cntB true v L := by unfold rankM; rw [if_neg (by simp [g1])]
        have hle : cntB true v L ≤ n := by
          have := cntB_le true v L n
          rwa [List.take_of_length_le (by rw [Hlen.out]; omega)] at this
        obtain ⟨q, hq⟩ : ∃ q, cntB true v L = q := ⟨_, rfl⟩
        rw [hq] at hcb hf hle
        have hS := Hset.out
        rw [hf] at hS
        have HS := Lib.hid hS
        have hll : k < ((L.take k).map (rankM true L) ++ List.replicate (n - k) 0).length := by simp; rw [Hlen.out]; omega
        clear hq hf hS hMr Hset Hnon hr hb
        go_wp2_with fail
        refine hcb.mono ?_
        rintro e w4 ⟨rfl, hb4⟩
        have hr4 := hrn.below hb4 hrn.1 hb4.size
        obtain ⟨j0, j1⟩ := hr4.at_ hll
        have hb5 := hbn.trans (hb4.mono (by have := hbn.size; omega))
        have hfin : Row (w4.setCell ⟨w2.heap.size + 1, k, none⟩ (.int .i64 (1 + (q : Int)))) (w2.heap.size + 1) ((L.take (k + 1)).map (rankM true L) ++ List.replicate (n - (k + 1)) 0) := by
          have := hr4.set_ hll (1 + q)
          rw [HS.out] at this
          rwa [show ((1 + q : Nat) : Int) = 1 + (q : Int) by omega] at this
        have hbfin : Below (w2.heap.size + 1) w3 (w4.setCell ⟨w2.heap.size + 1, k, none⟩ (.int .i64 (1 + (q : Int)))) := hb5.setCell (Nat.le_refl _) _
        obtain ⟨y, hy⟩ : ∃ y, ((L.take k).map (rankM true L) ++ List.replicate (n - k) 0).getD k 0 = y := ⟨_, rfl⟩
        rw [hy] at j0
        have hkn2 : (k : Int) < (n : Int) := by omega
        clear hb4 hr4 hrn hcb hbn hb5 HS hy hll
        go_wp2
        exact ⟨⟨k + 1, by omega, by go_num, hfin, hbfin⟩, by simp [intOf]; omega⟩
    · have hkn : k = n := by omega
      go_wp2
      go_ret2
      exact ⟨w2.heap.size + 1, rfl, by rw [hkn] at hr; rw [List.take_of_length_le (by rw [Hlen.out]; omega)] at hr; simpa using hr, by omega, hbA⟩

/-- The kind lies in a block. -/
def KBoxgreater (w : World) (p : Nat) (lo hi : Int) (f2 f4 f5 f6 : Nat) : Prop := w.cell? ⟨p, 0, none⟩ = some (.int .i64 lo) ∧ w.cell? ⟨p, 1, none⟩ = some (.int .i64 hi) ∧ w.cell? ⟨p, 2, none⟩ = some (.func (.func f2) #[] #[]) ∧ w.cell? ⟨p, 3, none⟩ = some (.func (.func 81) #[] #[]) ∧ w.cell? ⟨p, 4, none⟩ = some (.func (.func f4) #[] #[]) ∧ w.cell? ⟨p, 5, none⟩ = some (.func (.func f5) #[] #[]) ∧ w.cell? ⟨p, 6, none⟩ = some (.func (.func f6) #[] #[])
theorem KBoxgreater.below {w w' : World} {K p : Nat} {lo hi : Int} {f2 f4 f5 f6 : Nat} (h : KBoxgreater w p lo hi f2 f4 f5 f6) (hb : Below K w w') (hp : p < K) : KBoxgreater w' p lo hi f2 f4 f5 f6 := by
  obtain ⟨h0, h1, h2, h3, h4, h5, h6⟩ := h
  exact ⟨(hb.cell (p := ⟨p, 0, none⟩) hp).trans h0, (hb.cell (p := ⟨p, 1, none⟩) hp).trans h1, (hb.cell (p := ⟨p, 2, none⟩) hp).trans h2, (hb.cell (p := ⟨p, 3, none⟩) hp).trans h3, (hb.cell (p := ⟨p, 4, none⟩) hp).trans h4, (hb.cell (p := ⟨p, 5, none⟩) hp).trans h5, (hb.cell (p := ⟨p, 6, none⟩) hp).trans h6⟩
set_option maxHeartbeats 4000000 in
theorem Ranks_greater (L : List (ByteArray × Int × ByteArray)) (n cap : Nat) (A : Option Addr) (B : Nat) (w : World) (hM : Marks w B A n L) (hg : 15 ≤ w.heap.size) (hsm : n ≤ 256) (c : ByteArray) (he : comK sNone L = (c, 0))
    (lo hi : Int) (f2 f4 f5 f6 : Nat) (hE : Entry c (.agg #[.int .i64 lo, .int .i64 hi, .func (.func f2) #[] #[], .func (.func 81) #[] #[], .func (.func f4) #[] #[], .func (.func f5) #[] #[], .func (.func f6) #[] #[]]) true) :
    Calls Tryz.prog 10 #[.slice A n cap] w (Ranked false L n w) := by
  have hn0 : (n : Int) ≤ 256 := by omega
  have hcK : ∀ w' K, Below w.heap.size w w' → Kinds w' K → Calls Tryz.prog 37 #[.map (some K), .slice A n cap] w' (RetPost (.tuple #[.string c, .int .i64 0]) w') := fun w' K hb hK => by
    have := commonKind_any L n cap A B K w' (hM.below hb hM.2.1) (by omega) hK
    rwa [he] at this
  have HM : Hid (∀ w', Below w.heap.size w w' → Marks w' B A n L) := fun w' hb => hM.below hb hM.2.1
  have hlen := hM.1
  have Hlen := Lib.hid hlen
  have hBw := hM.2.1
  obtain ⟨i0, hi0, hz0, hz1, hz2⟩ := info_parts infoInt
  have hmk : ∀ w : World, (Instr.makeSlice 26 (.int .i64 (n : Int)) (.int .i64 (n : Int))).run Tryz.prog w = .ok (.slice (some ⟨w.heap.size, 0, none⟩) n n) (w.alloc (.cells (madeCells #[.int .i64 0] n) 3)) := by
    intro w
    have := run_make (P := Tryz.prog) w 26 3 i0 (.int .i64 0) Tryz.underlying26 hi0 hz0 .i64 .i64 n n (by omega) (by omega) (by rw [hz2]; omega) (by omega)
    rw [hz1] at this
    simpa [Value.cells] using this
  clear hi0 hz0 hz1 hz2 hM he hsm hlen
  go_enter Tryz.func10, Tryz.ntmps10
  go_wp2_with fail
  refine (kinds_any _ hg).mono ?_
  rintro e w1 ⟨K, rfl, hB, hK, hb1⟩
  have hcc := hcK _ _ hb1 hK
  clear hcK
  go_wp2_with fail
  refine hcc.mono ?_
  rintro e w2 ⟨rfl, hb2⟩
  have hb3 := hb1.trans (hb2.mono hb1.size)
  have hK2 := hK.grow hb2
  clear hb1 hb2 hcc hK hB
  go_wp2_with (at_lookup; refine wpList_look _ rfl _ _ false rfl K c _ _ rfl rfl hK2 hE ?_)
  have hrow : Row ((w2.alloc (.cells #[.int .i64 lo, .int .i64 hi, .func (.func f2) #[] #[], .func (.func 81) #[] #[], .func (.func f4) #[] #[], .func (.func f5) #[] #[], .func (.func f6) #[] #[]] 79)).alloc (.cells (madeCells #[.int .i64 0] n) 3)) (w2.heap.size + 1) (List.replicate n 0) := by
    have := Row.new' (w2.alloc (.cells #[.int .i64 lo, .int .i64 hi, .func (.func f2) #[] #[], .func (.func 81) #[] #[], .func (.func f4) #[] #[], .func (.func f5) #[] #[], .func (.func f6) #[] #[]] 79)) n
    simpa using this
  have hkb : KBoxgreater ((w2.alloc (.cells #[.int .i64 lo, .int .i64 hi, .func (.func f2) #[] #[], .func (.func 81) #[] #[], .func (.func f4) #[] #[], .func (.func f5) #[] #[], .func (.func f6) #[] #[]] 79)).alloc (.cells (madeCells #[.int .i64 0] n) 3)) w2.heap.size lo hi f2 f4 f5 f6 := by
    refine KBoxgreater.below (w := w2.alloc (.cells #[.int .i64 lo, .int .i64 hi, .func (.func f2) #[] #[], .func (.func 81) #[] #[], .func (.func f4) #[] #[], .func (.func f5) #[] #[], .func (.func f6) #[] #[]] 79)) ?_ ((Below.refl (w2.heap.size + 1) _).alloc (by simp) _) (by omega)
    refine ⟨?_, ?_, ?_, ?_, ?_, ?_, ?_⟩ <;> simp
  have hbw : Below w.heap.size w ((w2.alloc (.cells #[.int .i64 lo, .int .i64 hi, .func (.func f2) #[] #[], .func (.func 81) #[] #[], .func (.func f4) #[] #[], .func (.func f5) #[] #[], .func (.func f6) #[] #[]] 79)).alloc (.cells (madeCells #[.int .i64 0] n) 3)) := (hb3.alloc hb3.size _).alloc (by have := hb3.size; simp; omega) _
  have hsz : ((w2.alloc (.cells #[.int .i64 lo, .int .i64 hi, .func (.func f2) #[] #[], .func (.func 81) #[] #[], .func (.func f4) #[] #[], .func (.func f5) #[] #[], .func (.func f6) #[] #[]] 79)).alloc (.cells (madeCells #[.int .i64 0] n) 3)).heap.size = w2.heap.size + 2 := by simp
  have hw2 : w.heap.size ≤ w2.heap.size := hb3.size
  clear hb3 hK2 hmk
  generalize ((w2.alloc (.cells #[.int .i64 lo, .int .i64 hi, .func (.func f2) #[] #[], .func (.func 81) #[] #[], .func (.func f4) #[] #[], .func (.func f5) #[] #[], .func (.func f6) #[] #[]] 79)).alloc (.cells (madeCells #[.int .i64 0] n) 3)) = w3 at hrow hkb hbw hsz ⊢
  have HKB : Hid (KBoxgreater w3 w2.heap.size lo hi f2 f4 f5 f6) := hkb
  have hsz' : w2.heap.size + 1 < w3.heap.size := by omega
  clear hkb hsz
  go_loopw [32] (fun i wr => ∃ k : Nat, k ≤ n ∧ i = .int .i64 k ∧ Row wr (w2.heap.size + 1) ((L.take k).map (rankM false L) ++ List.replicate (n - k) 0) ∧ Below (w2.heap.size + 1) w3 wr) (fun i _ => n - (intOf i).toNat)
  case atStart => exact ⟨0, by omega, rfl, by simpa using hrow, Below.refl _ _⟩
  case round =>
    obtain ⟨k, hk, rfl, hr, hb⟩ := hrel
    have hbA : Below w.heap.size w wr := hbw.trans (hb.mono (by omega))
    by_cases hlt : k < n
    · obtain ⟨b, off, s, v, r, rfl, hbl, hL, c0, c1, c2⟩ := (HM.out _ hbA).at_ hlt
      obtain ⟨k0, k1, k2, k3, k4, k5, k6⟩ := HKB.out.below hb (by omega)
      have hset := rank_set (rankM false L) L n k _ Hlen.out hL
      have hnon := rank_none (rankM false L) L n k _ Hlen.out hL
      have Hset := Lib.hid hset
      have Hnon := Lib.hid hnon
      clear hset hnon hL
      have hzr := hb.size
      have hz1 : w2.heap.size + 1 < wr.heap.size := by omega
      have hz2 : w2.heap.size < wr.heap.size := by omega
      have hbn : Below (w2.heap.size + 1) w3 (wr.alloc (.cells #[.string s, .int .i64 v, .string r] 32)) := hb.alloc (by omega) _
      have hrn : Row (wr.alloc (.cells #[.string s, .int .i64 v, .string r] 32)) (w2.heap.size + 1) ((L.take k).map (rankM false L) ++ List.replicate (n - k) 0) := hr.alloc _
      cases g1 : (s.toList == [110, 111, 110, 101]) with
      | true =>
        have hf : rankM false L (s, v, r) = 0 := by unfold rankM; rw [if_pos g1]
        have HS := Lib.hid (Hnon.out hf)
        clear hf hr hb
        go_wp2
        exact ⟨⟨k + 1, by omega, by go_num, by rw [← HS.out]; exact hrn, hbn⟩, by simp [intOf]; omega⟩
      | false =>
        have hMr := HM.out _ (hbA.alloc hbA.size (.cells #[.string s, .int .i64 v, .string r] 32))
        have hcb := countBetter_greater L n cap _ B lo hi f2 f4 f5 f6 s r v _ hMr (by omega)
        have hf : rankM false L (s, v, r) = 1 + cntB false v L := by unfold rankM; rw [if_neg (by simp [g1])]
        have hle : cntB false v L ≤ n := by
          have := cntB_le false v L n
          rwa [List.take_of_length_le (by rw [Hlen.out]; omega)] at this
        obtain ⟨q, hq⟩ : ∃ q, cntB false v L = q := ⟨_, rfl⟩
        rw [hq] at hcb hf hle
        have hS := Hset.out
        rw [hf] at hS
        have HS := Lib.hid hS
        have hll : k < ((L.take k).map (rankM false L) ++ List.replicate (n - k) 0).length := by simp; rw [Hlen.out]; omega
        clear hq hf hS hMr Hset Hnon hr hb
        go_wp2_with fail
        refine hcb.mono ?_
        rintro e w4 ⟨rfl, hb4⟩
        have hr4 := hrn.below hb4 hrn.1 hb4.size
        obtain ⟨j0, j1⟩ := hr4.at_ hll
        have hb5 := hbn.trans (hb4.mono (by have := hbn.size; omega))
        have hfin : Row (w4.setCell ⟨w2.heap.size + 1, k, none⟩ (.int .i64 (1 + (q : Int)))) (w2.heap.size + 1) ((L.take (k + 1)).map (rankM false L) ++ List.replicate (n - (k + 1)) 0) := by
          have := hr4.set_ hll (1 + q)
          rw [HS.out] at this
          rwa [show ((1 + q : Nat) : Int) = 1 + (q : Int) by omega] at this
        have hbfin : Below (w2.heap.size + 1) w3 (w4.setCell ⟨w2.heap.size + 1, k, none⟩ (.int .i64 (1 + (q : Int)))) := hb5.setCell (Nat.le_refl _) _
        obtain ⟨y, hy⟩ : ∃ y, ((L.take k).map (rankM false L) ++ List.replicate (n - k) 0).getD k 0 = y := ⟨_, rfl⟩
        rw [hy] at j0
        have hkn2 : (k : Int) < (n : Int) := by omega
        clear hb4 hr4 hrn hcb hbn hb5 HS hy hll
        go_wp2
        exact ⟨⟨k + 1, by omega, by go_num, hfin, hbfin⟩, by simp [intOf]; omega⟩
    · have hkn : k = n := by omega
      go_wp2
      go_ret2
      exact ⟨w2.heap.size + 1, rfl, by rw [hkn] at hr; rw [List.take_of_length_le (by rw [Hlen.out]; omega)] at hr; simpa using hr, by omega, hbA⟩
end Go.Mk
