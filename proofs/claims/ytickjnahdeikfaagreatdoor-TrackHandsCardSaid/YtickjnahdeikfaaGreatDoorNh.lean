/-
  Proved: strconv.FormatUint at base 10 returns the digits of a word. Conditions: the heap holds the program's table of powers of ten.
  Proved: strings.TrimLeft strikes the zeros ahead of a text; slices.Reverse leaves one text as it is. Conditions: the text behind the zeros begins with another sign.
-/
import Derived.Test.YtickjnahdeikfaaGreatDoorNx
import Derived.Test.YtickjnahdeikfaaGreatDoorYa
import Derived.Shelf.Strconv.Itoa1
import Derived.Shelf.Strconv.Itoa2
import Derived.Lib.ItoaMem
import Derived.Lib.AppendIntMem
section
set_option linter.unusedVariables false
set_option linter.unusedSimpArgs false
open Go Go.Proofs Go.RowKit Go.Shelf Go.Sort
set_option maxRecDepth 100000
namespace Go.Mk
theorem gTen' : Tryz.prog.globalNamed "internal/strconv.uint64pow10" = some 3 := by kernel_rfl
/-- The library's table of powers of ten lies in the heap. -/
structure Gt (w : World) : Prop where
  size : 13 < w.heap.size
  ten : Lib.TabIs Tryz.prog w "internal/strconv.uint64pow10" .u64 Lib.pow10Tab
theorem Gt.below {w w' : World} {B : Nat} (h : Gt w) (hb : Below B w w') (hB : w.heap.size ≤ B) : Gt w' :=
  ⟨Nat.lt_of_lt_of_le h.size hb.size, Joins.tab_stays gTen' h.ten hb hB⟩
/-- A text of digits. -/
def deci (u : Nat) : ByteArray := ⟨(Lib.decDigits u).toArray⟩
set_option maxHeartbeats 6400000 in
theorem iFormatUint_any (u : Nat) (hu64 : u < 18446744073709551616) (w : World) (hG : Gt w) : Calls Tryz.prog 188 #[.int .u64 u, .int .i64 10] w (RetPost (.string (deci u)) w) := by
  have htab := hG.ten
  clear hG
  by_cases hs : u < 100
  · have hS := fun w => Any.internal_strconv_small Tryz.small u hs w
    have hs' : (u : Int) < 100 := by omega
    go_enter Tryz.func188, Tryz.ntmps188
    go_wp2_with fail
    refine (hS _).mono ?_
    rintro e w' ⟨rfl, rfl⟩
    go_wp2
    go_ret
    exact ⟨rfl, Below.refl _ _⟩
  · have hs' : ¬ (u : Int) < 100 := by omega
    have hu1 : 1 ≤ u := by omega
    have hnd20 : Lib.nDigits u ≤ 20 := by have := Lib.numDigits_eq u hu1 hu64; split at this <;> omega
    have hb3 : Lib.nDigits u ≤ 24 := by omega
    have hal : Tryz.prog.arrayLen 265 = 24 := by simp [Program.arrayLen, Tryz.underlying265]
    have hsl1 : ∀ W, (Instr.sliceAt 265 (.pointer (some ⟨w.heap.size, 0, none⟩)) none (some (.int .i64 (Lib.nDigits u : Int))) none).run Tryz.prog W = .ok (.slice (some ⟨w.heap.size, 0, none⟩) (Lib.nDigits u) 24) W := fun W => by
      rw [run_sliceAt_array_h W 265 ⟨w.heap.size, 0, none⟩ (by simp [Program.arrayLen, Program.elem, Tryz.underlying265]) .i64 (Lib.nDigits u : Int) (by omega) (by rw [hal]; omega)]
      go_simp
    have hH0 : Holds (fun (b : UInt8) => Value.int .u8 (b.toNat : Int)) (w.alloc (.cells Lib.zeros24 265)) w.heap.size 0 (Array.replicate (Lib.nDigits u) (0 : UInt8)) := fun j hj => by
      have hj' : j < Lib.nDigits u := by simpa using hj
      refine ⟨?_, World.frozen?_alloc_new _ _ _ _⟩
      rw [World.cell?_alloc_new, Lib.zeros24_at _ (by omega), getElem!_pos _ j hj]
      simp
    have hfmt := Any.internal_strconv_formatBase10 Tryz.base10 w.heap.size 0 24 u (Array.replicate (Lib.nDigits u) 0) (w.alloc (.cells Lib.zeros24 265)) hH0 (by rw [Array.size_replicate]; exact Lib.lt_pow_nDigits u) hu64 (by rw [Array.size_replicate]; omega)
    rw [Array.size_replicate] at hfmt
    have HH0 := Lib.hid hH0
    have hnum := Any.internal_strconv_numDigits Tryz.numDig u hu1 hu64 _ (Lib.tabIs_alloc htab (.cells Lib.zeros24 265))
    clear hH0 hal
    go_enter Tryz.func188, Tryz.ntmps188
    go_wp2_with fail
    refine hnum.mono ?_
    rintro e w' ⟨rfl, rfl⟩
    go_wp2_with fail
    refine hfmt.mono ?_
    rintro e w' ⟨rfl, k, v', dk, rfl, hF⟩
    have hcv : (convert 236 9 (.slice (some ⟨w.heap.size, 0, none⟩) (Lib.nDigits u) 24)).run Tryz.prog ((putRow (fun (b : UInt8) => Value.int .u8 (b.toNat : Int)) (w.alloc (.cells Lib.zeros24 265)) w.heap.size 0 dk).drewN k) = .ok (.string ⟨(Lib.decDigits u).toArray⟩) ((putRow (fun (b : UInt8) => Value.int .u8 (b.toNat : Int)) (w.alloc (.cells Lib.zeros24 265)) w.heap.size 0 dk).drewN k) := by
      have h := run_convert_bytes_back (P := Tryz.prog) ((putRow (fun (b : UInt8) => Value.int .u8 (b.toNat : Int)) (w.alloc (.cells Lib.zeros24 265)) w.heap.size 0 dk).drewN k) 236 9 5 ⟨w.heap.size, 0, none⟩ 24 (Lib.decDigits u) Tryz.underlying236 Tryz.underlying5 Tryz.underlying9 (fun j hj => by
        rw [Lib.row_is_numeral hF j hj, Lib.add_plain, World.cell?_drewN]
        exact cell?_putRow (fun (b : UInt8) => Value.int .u8 (b.toNat : Int)) _ w.heap.size 0 _ dk HH0.out (by rw [hF.size, Array.size_replicate]) j (by rw [hF.size]; rw [Lib.decDigits_length] at hj; exact hj))
      rw [Lib.decDigits_length] at h
      exact h
    go_wp2
    go_ret
    refine ⟨rfl, ?_⟩
    rw [alloc_eq_grow]
    obtain ⟨os', _, e⟩ := putRow_grow_new (fun (b : UInt8) => Value.int .u8 (b.toNat : Int)) w #[.cells Lib.zeros24 265] w.heap.size 0 dk (Nat.le_refl _)
    rw [e]
    exact Lib.below_grow _ _ (Nat.le_refl _) k os'
set_option maxHeartbeats 1000000 in
theorem FormatUint_any (u : Nat) (hu64 : u < 18446744073709551616) (w : World) (hG : Gt w) : Calls Tryz.prog 169 #[.int .u64 u, .int .i64 10] w (RetPost (.string (deci u)) w) := by
  have h := iFormatUint_any u hu64 w hG
  go_enter Tryz.func169, Tryz.ntmps169
  go_wp2_with fail
  refine h.mono ?_
  rintro e w' ⟨rfl, hb⟩
  go_wp2
  go_ret
  exact ⟨rfl, hb⟩
end Go.Mk
end
section
set_option linter.unusedVariables false
set_option linter.unusedSimpArgs false
open Go Go.Proofs Go.RowKit
set_option maxRecDepth 100000
namespace Go.Mk
/-- A text of so many zeros and another one. -/
def zT (k : Nat) (T : List UInt8) : ByteArray := ⟨(List.replicate k 48 ++ T).toArray⟩
theorem zT_size (k : Nat) (T : List UInt8) : (zT k T).size = k + T.length := by
  show (List.replicate k (48 : UInt8) ++ T).toArray.size = _
  simp
theorem zT_cut (k : Nat) (T : List UInt8) : (zT (k + 1) T).extract 1 (zT (k + 1) T).size = zT k T := by
  have e : ∀ (a b : ByteArray), a.data.toList = b.data.toList → a = b := by
    intro a b h; cases a; cases b; congr 1; exact Array.toList_inj.1 h
  apply e
  rw [zT_size]
  simp only [zT, ByteArray.data_extract, List.replicate_succ, Array.toList_extract, List.extract_eq_take_drop, List.cons_append, List.drop_succ_cons, List.drop_zero]
  exact List.take_of_length_le (by simp)
theorem zT_get0 (c : UInt8) (l : List UInt8) (h : 0 < (zT 0 (c :: l)).size) : (zT 0 (c :: l))[0]'h = c := rfl
theorem zT_getS (m : Nat) (l : List UInt8) (h : 0 < (zT (m + 1) l).size) : (zT (m + 1) l)[0]'h = 48 := rfl
theorem naTlByte_any (k : Nat) (T : List UInt8) (hT : T.length ≤ 100) (hk : k ≤ 100) (h0 : ∃ c l, T = c :: l ∧ c ≠ 48) (w : World) :
    Calls Tryz.prog 171 #[.string (zT k T), .int .u8 48] w (RetSame (.string (zT 0 T)) w) := by
  have Hk := Lib.hid hk
  have HT := Lib.hid hT
  have H0 := Lib.hid h0
  have hz := Lib.hid (fun j => zT_size j T)
  clear hk hT h0
  go_enter Tryz.func171, Tryz.ntmps171
  go_wp2
  go_loop [0] (fun s => ∃ j : Nat, j ≤ k ∧ s = .string (zT j T)) (fun s => match s with | .string b => b.size | _ => 0)
  case atStart => exact ⟨k, Nat.le_refl _, rfl⟩
  case round =>
    obtain ⟨j, hj, rfl⟩ := hrel
    have hs := hz.out j
    have hTl := HT.out
    have hkl := Hk.out
    by_cases hj0 : j = 0
    · subst hj0
      obtain ⟨c, l, rfl, hc⟩ := H0.out
      have hp : (0 : Int) < ((zT 0 (c :: l)).size : Int) := by rw [zT_size]; simp
      have hcn : ((c.toNat : Int) == 48) = false := by
        rw [beq_eq_false_iff_ne]
        intro q
        apply hc
        have : c.toNat = 48 := by omega
        exact UInt8.toNat_inj.1 this
      obtain ⟨X, hX⟩ : ∃ X, zT 0 (c :: l) = X := ⟨_, rfl⟩
      have hx : ∀ h : 0 < X.size, X[0]'h = c := by subst hX; intro h; rfl
      rw [hX] at hs hp ⊢
      clear hc
      go_wp2
      go_ret
      exact ⟨rfl, rfl⟩
    · obtain ⟨m, rfl⟩ : ∃ m, j = m + 1 := ⟨j - 1, by omega⟩
      have hp : (0 : Int) < ((zT (m + 1) T).size : Int) := by rw [zT_size]; omega
      have hc := zT_cut m T
      obtain ⟨X, hX⟩ : ∃ X, zT (m + 1) T = X := ⟨_, rfl⟩
      have hx : ∀ h : 0 < X.size, X[0]'h = 48 := by subst hX; intro h; rfl
      rw [hX] at hs hp hc ⊢
      rw [hs] at hc
      have hszn : (zT m T).size = m + T.length := zT_size m T
      go_wp2
      exact ⟨⟨m, by omega, rfl⟩, by show (zT m T).size < X.size; omega⟩
set_option maxHeartbeats 1000000 in
theorem naTrimLeft_any (k : Nat) (T : List UInt8) (hT : T.length ≤ 100) (hk : k ≤ 100) (h0 : ∃ c l, T = c :: l ∧ c ≠ 48) (w : World) :
    Calls Tryz.prog 149 #[.string (zT k T), .string ⟨#[48]⟩] w (RetSame (.string (zT 0 T)) w) := by
  have hB := fun w => naTlByte_any k T hT hk h0 w
  have hs := zT_size k T
  have hl : 1 ≤ T.length := by obtain ⟨c, l, rfl, _⟩ := h0; simp
  obtain ⟨X, hX⟩ : ∃ X, zT k T = X := ⟨_, rfl⟩
  rw [hX] at hs hB ⊢
  have he : X.toList.isEmpty = false := by
    rw [List.isEmpty_eq_false_iff]
    intro q
    have h2 : X.data.toList = [] := by rw [← ByteArray.toList_eq X]; exact q
    have h3 : X.size = 0 := by show X.data.size = 0; rw [← Array.length_toList, h2]; rfl
    omega
  clear hT hk h0 hX
  go_enter Tryz.func149, Tryz.ntmps149
  go_wp2_with fail
  refine (hB _).mono ?_
  rintro e w' ⟨rfl, rfl⟩
  go_wp2
  go_ret
  exact ⟨rfl, rfl⟩
set_option maxHeartbeats 1000000 in
theorem naReverse_any (g off c : Nat) (w : World) : Calls Tryz.prog 148 #[.slice (some ⟨g, off, none⟩) 1 c] w (fun e w' => e = .returned (.tuple #[]) ∧ Below w.heap.size w w') := by
  go_enter Tryz.func148, Tryz.ntmps148
  go_wp2
  go_loop [2, 3] (fun i j => i = .int .i64 0 ∧ j = .int .i64 0) (fun _ _ => 0)
  case atStart => exact ⟨rfl, rfl⟩
  case round =>
    obtain ⟨rfl, rfl⟩ := hrel
    go_wp2
    go_end0
    exact ⟨rfl, Below.refl _ _⟩
end Go.Mk
end
