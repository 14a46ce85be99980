/-
  Proved: strings.ContainsAny at a blank, a colon and a bar, and allWords of package field, as plain functions of the texts. Conditions: the texts lie where the slice says; there are at most 5,000 of at most 5,000 bytes.
-/
import Derived.Test.YthpcmhcokblglaaGreatDoorFch
import Derived.Test.YthpcmhcokblglaaGreatDoorFcb
set_option linter.unusedVariables false
set_option linter.unusedSimpArgs false
open Go Go.Proofs Go.RowKit Go.Shelf
set_option maxRecDepth 100000
namespace Go.Mk
/-- Has a text a blank, a colon or a bar? -/
def hasSep (l : List UInt8) : Bool := l.any fun c => [32, 58, 124].contains c
theorem containsAny_sep (l : List UInt8) : Lib.containsAny l [32, 58, 124] = hasSep l := by
  have key : ∀ l : List UInt8, decide (0 ≤ Lib.indexAny l [32, 58, 124]) = hasSep l := by
    intro l
    by_cases h : hasSep l = true
    · rw [h]
      unfold hasSep at h
      rw [List.any_eq_true] at h
      rw [decide_eq_true_eq]
      refine Classical.byContradiction fun q => ?_
      have hge := Lib.indexAny_ge [32, 58, 124] l
      have hm1 : Lib.indexAny l [32, 58, 124] = -1 := by omega
      clear q hge
      induction l with
      | nil => obtain ⟨x, hx, _⟩ := h; cases hx
      | cons a l ih =>
        obtain ⟨x, hx, hc⟩ := h
        by_cases ha : [32, 58, 124].contains a = true
        · have := Lib.indexAny_hit (s := a :: l) (chars := [32, 58, 124]) (i := 0) (x := a) (Lib.NoAny.zero _ _) rfl ha
          rw [this] at hm1
          cases hm1
        · have ha' : [32, 58, 124].contains a = false := by simpa using ha
          rw [Lib.indexAny, ha'] at hm1
          refine ih ⟨x, ?_, hc⟩ ?_
          · rcases List.mem_cons.1 hx with rfl | hx
            · exact absurd hc ha
            · exact hx
          · have hge := Lib.indexAny_ge [32, 58, 124] l
            revert hm1
            simp
            omega
    · have h' : hasSep l = false := by simpa using h
      rw [h']
      unfold hasSep at h'
      rw [List.any_eq_false] at h'
      rw [Lib.indexAny_none (fun j b hj hb => by
        have := h' b (List.mem_of_getElem? hb)
        simpa using this)]
      rfl
  exact key l
theorem hasSep_cons (c : UInt8) (l : List UInt8) : hasSep (c :: l) = ([32, 58, 124].contains c || hasSep l) := rfl
theorem sep_high {c : UInt8} (h : 128 ≤ c.toNat) : [32, 58, 124].contains c = false := by
  rw [Bool.eq_false_iff]
  intro q
  have := List.contains_iff_mem.1 q
  simp at this
  rcases this with rfl | rfl | rfl
  · exact absurd h (by decide)
  · exact absurd h (by decide)
  · exact absurd h (by decide)
theorem hasSep_skip (s : ByteArray) (k : Nat) : ∀ m, k + m ≤ s.size → (∀ j (hj : j < s.size), k ≤ j → j < k + m → 128 ≤ (s[j]'hj).toNat) → hasSep (s.data.toList.drop k) = hasSep (s.data.toList.drop (k + m))
  | 0, _, _ => rfl
  | m + 1, hk, h => by
    rw [hasSep_skip s k m (by omega) (fun j hj h1 h2 => h j hj h1 (by omega)), dropAt s (k + m) (by omega), hasSep_cons, sep_high (h (k + m) (by omega) (by omega) (by omega)), Bool.false_or]
    rfl
/-- The world with an iterator at a place of its text. -/
def putIter (W : World) (r : Nat) (s : ByteArray) (p : Nat) : World := { W with heap := W.heap.setIfInBounds r (.stringIter s p) }
theorem putIter_at {W : World} {r : Nat} {s s0 : ByteArray} {p q : Nat} (h : W.heap[r]? = some (.stringIter s0 q)) : (putIter W r s p).heap[r]? = some (.stringIter s p) := by
  have hr := (Array.getElem?_eq_some_iff.1 h).1
  show (W.heap.setIfInBounds r _)[r]? = _
  rw [Array.getElem?_setIfInBounds_self_of_lt hr]
theorem putIter_below {w W : World} {r : Nat} {s : ByteArray} {p : Nat} (hb : Below w.heap.size w W) (hr : w.heap.size ≤ r) : Below w.heap.size w (putIter W r s p) := by
  refine ⟨hb.os, hb.tape, hb.output, ?_, fun g hg => ?_⟩
  · show _ ≤ (W.heap.setIfInBounds r _).size
    rw [Array.size_setIfInBounds]
    exact hb.size
  · rw [← hb.block g hg]
    show (W.heap.setIfInBounds r _)[g]? = _
    rw [Array.getElem?_setIfInBounds_ne (by omega)]
theorem run_next_at (W : World) (r : Nat) (s : ByteArray) (pos : Nat) (ty : TypeId) (h : pos < s.size) (ho : W.heap[r]? = some (.stringIter s pos)) :
    (Instr.next (.pointer (some ⟨r, 0, none⟩)) true ty).run Tryz.prog W = .ok (.tuple #[.bool true, .int .i64 pos, .int .i32 (Utf8.decode s pos).1]) (putIter W r s (pos + (Utf8.decode s pos).2)) := by
  simp only [Instr.next, getObj, setObj, Sem.run_bind, Sem.run, ho, Result.andThen, h, if_true]
  simp [goInt, putIter]
theorem run_next_out (W : World) (r : Nat) (s : ByteArray) (pos : Nat) (ty : TypeId) (h : ¬ pos < s.size) (ho : W.heap[r]? = some (.stringIter s pos)) :
    (Instr.next (.pointer (some ⟨r, 0, none⟩)) true ty).run Tryz.prog W = .ok (.tuple #[.bool false]) W := by
  simp [Instr.next, getObj, Sem.run, ho, h]
theorem info116 : (Tryz.prog.info? (Tryz.containsAny_ren.t 116)).map (fun i => (i.zero, i.size)) = some (some (.agg (Array.replicate 256 (.bool false))), 256) := by kernel_rfl
set_option maxHeartbeats 8000000 in
theorem stIndexAny_any (s : ByteArray) (hz : s.size ≤ 5000) (w : World) :
    Calls Tryz.prog 230 #[.string s, .string ⟨#[32, 58, 124]⟩] w (fun e w' => ∃ z : Int, e = .returned (.int .i64 z) ∧ decide (0 ≤ z) = hasSep s.data.toList ∧ Below w.heap.size w w') := by
  by_cases h8 : 8 < s.size
  · refine (Any.strings_IndexAny_long { Tryz.containsAny with } (zero_of_info info116).1 (zero_of_info info116).2 s ⟨#[32, 58, 124]⟩ w (by decide) h8 (by omega) (by decide) ?_).mono ?_
    · intro j b hb
      have := List.mem_of_getElem? hb
      revert this
      revert b
      intro b _ hm
      simp at hm
      rcases hm with rfl | rfl | rfl <;> decide
    · rintro e w' ⟨rfl, rfl⟩
      exact ⟨_, rfl, containsAny_sep _, ((Below.refl _ _).alloc (Nat.le_refl _) _).alloc (by simp) _⟩
  · have hbel : ∀ k, Below w.heap.size w (w.iter s k) := fun k => (Below.refl _ _).alloc (Nat.le_refl _) _
    have HB := Lib.hid hbel
    obtain ⟨y, hy⟩ : ∃ y, hasSep s.data.toList = y := ⟨_, rfl⟩
    rw [hy]
    have HY : Hid (hasSep (s.data.toList.drop 0) = y) := hy
    have h8z : decide ((8 : Int) < (s.size : Int)) = false := decide_eq_false (by omega)
    have hU : ∀ w, Calls Tryz.prog 291 #[.int .i64 s.size] w fun e w' => e = .returned (.bool false) ∧ w' = w := fun w => by
      have := Any.strings_shouldUseASCIISet (P := Tryz.prog) (ρ := Tryz.containsAny_ren) { Tryz.containsAny with } (s.size : Int) w
      rw [h8z] at this
      exact this
    obtain ⟨S, hS⟩ : ∃ S : ByteArray, (⟨#[32, 58, 124]⟩ : ByteArray) = S := ⟨_, rfl⟩
    have hA : ∀ (c : UInt8) w, c.toNat < 128 → Calls Tryz.prog 290 #[.string S, .int .i32 c.toNat] w fun e w' => ∃ z : Int, e = .returned (.int .i64 z) ∧ decide (0 ≤ z) = [32, 58, 124].contains c ∧ w' = w := fun c w hc => by
      rw [← hS]
      refine (Any.strings_IndexRune_ascii { Tryz.containsAny with } ⟨#[32, 58, 124]⟩ (c.toNat : Int) w (by omega) (by omega)).mono ?_
      rintro e w' ⟨rfl, rfl⟩
      refine ⟨_, rfl, ?_, rfl⟩
      rw [show ((c.toNat : Int)).toNat.toUInt8 = c from by simp]
      exact (Lib.contains_iff_indexByte _ c).symm
    have hHi : ∀ (r : Nat) w, 128 ≤ r → r ≤ 2147483647 → Utf8.valid (r : Int) = true → Calls Tryz.prog 290 #[.string S, .int .i32 r] w (RetPost (.int .i64 (-1)) w) := fun r w h1 h2 hv => by
      rw [← hS]
      exact stIndexRune_high r (by omega) (by omega) hv w
    have HAA := Lib.hid hA
    have HHH := Lib.hid hHi
    have hSz : (S.size : Int) = 3 := by rw [← hS]; rfl
    have hSe : S.toList.isEmpty = false := by rw [← hS, ByteArray.toList_eq]; rfl
    rw [hS]
    have hsz : (s.size : Int) ≤ 8 := by omega
    clear hbel hA hHi hS hy
    go_enter Tryz.func230, Tryz.ntmps230
    go_wp2_with fail
    refine (hU _).mono ?_
    rintro e wv ⟨rfl, hw⟩
    obtain rfl : w = wv := hw.symm
    go_wp2_with fail
    go_loopw [] (fun wr => ∃ k, wr.heap[w.heap.size]? = some (.stringIter s k) ∧ Below w.heap.size w wr ∧ k ≤ s.size ∧ Hid (hasSep (s.data.toList.drop k) = y)) (fun wr => s.size - wr.iterPos w.heap.size)
    case atStart => exact ⟨0, World.iter_heap _ _ _, HB.out 0, by omega, HY⟩
    case round =>
      obtain ⟨k, ho, hb, hk, HK⟩ := hrel
      have hpos : wr.iterPos w.heap.size = k := by unfold World.iterPos; rw [ho]
      have HP := Lib.hid hpos
      have HO := Lib.hid ho
      have HBW := Lib.hid hb
      have hrlt : w.heap.size < wr.heap.size := (Array.getElem?_eq_some_iff.1 ho).1
      have HRL := Lib.hid hrlt
      clear hpos hrlt
      by_cases hlt : k < s.size
      · have hst := dropAt s k hlt
        have hnx := fun ty => run_next_at wr w.heap.size s k ty hlt ho
        have HW : Hid (∀ p, Below w.heap.size w (putIter wr w.heap.size s p)) := Lib.hid fun p => putIter_below HBW.out (Nat.le_refl _)
        have HA : Hid (∀ p, (putIter wr w.heap.size s p).heap[w.heap.size]? = some (.stringIter s p)) := Lib.hid fun p => putIter_at HO.out
        by_cases hb8 : s[k].toNat < 128
        · have hdec := decode_ascii s k hlt hb8
          rw [hdec] at hnx
          have hC := fun w => HAA.out s[k] w hb8
          have hsep := HK.out
          rw [hst, hasSep_cons] at hsep
          obtain ⟨c, hc⟩ : ∃ c : Int, (s[k].toNat : Int) = c := ⟨_, rfl⟩
          have hnx2 : ∀ ty, (Instr.next (.pointer (some ⟨w.heap.size, 0, none⟩)) true ty).run Tryz.prog wr = .ok (.tuple #[.bool true, .int .i64 k, .int .i32 c]) (putIter wr w.heap.size s (k + 1)) := fun ty => by rw [← hc]; exact hnx ty
          rw [hc] at hC
          cases hin : [32, 58, 124].contains s[k] with
          | true =>
            rw [hin] at hsep hC
            obtain rfl : true = y := by simpa using hsep
            clear hnx hsep hst hdec hc hin HK HY ho hb
            go_wp2_with fail
            refine (hC _).mono ?_
            rintro e w' ⟨z, rfl, hz, hw⟩
            subst hw
            have hz0 : (0 : Int) ≤ z := of_decide_eq_true hz
            have hfin := HW.out (k + 1)
            go_wp2_with fail
            go_ret
            exact ⟨_, rfl, by simp, hfin⟩
          | false =>
            rw [hin] at hsep hC
            have HK2 : Hid (hasSep (s.data.toList.drop (k + 1)) = y) := Lib.hid (by simpa using hsep)
            clear hnx hsep hst hdec hc hin HK HY ho hb
            go_wp2_with fail
            refine (hC _).mono ?_
            rintro e w' ⟨z, rfl, hz, hw⟩
            subst hw
            have hz0 : ¬ (0 : Int) ≤ z := of_decide_eq_false hz
            go_wp2_with fail
            go_roundw
            case rel => exact ⟨k + 1, HA.out _, HW.out _, by omega, HK2⟩
            case measure => (rw [HP.out]; unfold World.iterPos; rw [HA.out]; show s.size - (k + 1) < s.size - k; omega)
        · have hh := decode_high s k hlt (by omega)
          have hle := decode_le s k
          have hv := decode_valid s k hlt (by omega)
          obtain ⟨hsp1, hsp2⟩ := decode_span s k hlt (by omega)
          have HK2 : Hid (hasSep (s.data.toList.drop (k + (Utf8.decode s k).2)) = y) := Lib.hid (by rw [← hasSep_skip s k _ hsp1 hsp2]; exact HK.out)
          have hC := fun w => HHH.out (Utf8.decode s k).1 w hh.1 hle hv
          have HSP := Lib.hid hsp1
          have HH2 := Lib.hid hh.2
          clear hsp1 hsp2 hst hv hle hh HK HY ho hb hb8
          generalize (Utf8.decode s k).2 = wd at *
          generalize (((Utf8.decode s k).1 : Nat) : Int) = c at *
          go_wp2_with fail
          refine (hC _).mono ?_
          rintro e w' ⟨rfl, hbz⟩
          have hO2 : w'.heap[w.heap.size]? = some (.stringIter s (k + wd)) := (hbz.block _ (Array.getElem?_eq_some_iff.1 (HA.out (k + wd))).1).trans (HA.out (k + wd))
          have hB2 := bstep (HW.out (k + wd)) hbz
          clear hbz
          have HO2 := Lib.hid hO2
          have HB2 := Lib.hid hB2
          clear hO2 hB2
          go_wp2_with fail
          go_roundw
          case rel => exact ⟨k + wd, HO2.out, HB2.out, HSP.out, HK2⟩
          case measure => (have h1 := HH2.out; have h2 := HSP.out; rw [HP.out]; unfold World.iterPos; rw [HO2.out]; show s.size - (k + wd) < s.size - k; omega)
      · have hnx := fun ty => run_next_out wr w.heap.size s k ty hlt ho
        have hy0 := HK.out
        rw [dropEnd s k (by omega)] at hy0
        obtain rfl : false = y := hy0
        clear HK HY ho
        go_wp2_with fail
        go_ret
        exact ⟨_, rfl, by decide, HBW.out⟩
/-- Is a text a word: at least one byte, none of them a blank, a colon or a bar? -/
def goodW (l : List UInt8) : Bool := !(decide (l = []) || hasSep l)
theorem stContainsAny_any (s : ByteArray) (hz : s.size ≤ 5000) (w : World) : Calls Tryz.prog 188 #[.string s, .string ⟨#[32, 58, 124]⟩] w (RetPost (.bool (hasSep (bl s))) w) := by
  have hC := stIndexAny_any s hz w
  have hy : hasSep (bl s) = hasSep s.data.toList := rfl
  rw [hy]
  generalize hasSep s.data.toList = y at *
  clear hy
  go_enter Tryz.func188, Tryz.ntmps188
  go_wp2_with fail
  refine hC.mono ?_
  rintro e w' ⟨z, rfl, hz2, hb⟩
  subst hz2
  go_wp2
  go_ret
  exact ⟨rfl, hb⟩
set_option maxHeartbeats 2000000 in
theorem fdAllWordsC_any (x : ByteArray) (hz : x.size ≤ 5000) (w : World) : Calls Tryz.prog 187 #[.string x] w (RetPost (.bool (!goodW (bl x))) w) := by
  have hC := stContainsAny_any x hz w
  have c0 : x.toList.isEmpty = decide (bl x = []) := empty_list x
  have hy : (!goodW (bl x)) = (decide (bl x = []) || hasSep (bl x)) := by unfold goodW; simp
  rw [hy]
  clear hy
  generalize hasSep (bl x) = y at *
  cases hb0 : decide (bl x = []) with
  | true =>
    rw [hb0] at c0
    clear hC hb0
    go_enter Tryz.func187, Tryz.ntmps187
    go_wp2_with fail
    go_ret
    exact ⟨rfl, Below.refl _ _⟩
  | false =>
    rw [hb0] at c0
    clear hb0
    go_enter Tryz.func187, Tryz.ntmps187
    go_wp2_with fail
    refine hC.mono ?_
    rintro e w' ⟨rfl, hb⟩
    go_wp2
    go_ret
    exact ⟨rfl, hb⟩
theorem bls_take_at {L : List ByteArray} {k : Nat} {x : ByteArray} (h : L[k]? = some x) : (bls L).take (k + 1) = (bls L).take k ++ [bl x] := by
  have h1 : (bls L)[k]? = some (bl x) := by unfold bls; rw [List.getElem?_map, h]; rfl
  rw [List.take_add_one, h1, Option.toList_some]
set_option maxHeartbeats 4000000 in
theorem slIndexFS_any (L : List ByteArray) (n cap : Nat) (A : Option Addr) (w : World) (hZ : TextsZ w A n L) (hn : n ≤ 5000) (hs : ∀ x ∈ L, x.size ≤ 5000) :
    Calls Tryz.prog 229 #[.slice A n cap, .func (.func 187) #[] #[]] w (fun e w' => ∃ z : Int, e = .returned (.int .i64 z) ∧ decide (0 ≤ z) = !((bls L).all goodW) ∧ Below w.heap.size w w') := by
  have hni : (n : Int) ≤ 5000 := by omega
  have H := Lib.hid hZ
  have Hn := Lib.hid hZ.1
  have HS := Lib.hid hs
  obtain ⟨y, hy⟩ : ∃ y, (!((bls L).all goodW)) = y := ⟨_, rfl⟩
  rw [hy]
  have HY := Lib.hid hy
  clear hZ hy hs
  go_enter Tryz.func229, Tryz.ntmps229
  go_wp2
  go_loopw [8] (fun i wr => ∃ k : Nat, k ≤ n ∧ i = .int .i64 k ∧ Hid (((bls L).take k).all goodW = true) ∧ Below w.heap.size w wr) (fun i _ => n - (intOf i).toNat)
  case atStart => exact ⟨0, by omega, rfl, Lib.hid rfl, Below.refl _ _⟩
  case round =>
    obtain ⟨k, hk, rfl, HK, hb⟩ := hrel
    by_cases hlt : k < n
    · obtain ⟨b, off, x, rfl, hbl, hx, hcx⟩ := (H.out.below hb).at_ hlt
      have hC := fdAllWordsC_any x (HS.out x (List.mem_of_getElem? hx)) wr
      have hki : (k : Int) < (n : Int) := by omega
      have hk0 : (0 : Int) ≤ (k : Int) := by omega
      have hkt : ((k : Int)).toNat = k := by omega
      cases hg : goodW (bl x) with
      | true =>
        rw [hg] at hC
        have HK2 : Hid (((bls L).take (k + 1)).all goodW = true) := Lib.hid (by rw [bls_take_at hx, List.all_append, HK.out]; simp [hg])
        clear hx HK hg
        go_wp2_with fail
        refine hC.mono ?_
        rintro e w' ⟨rfl, hb2⟩
        have hb3 := bstep hb hb2
        clear hb2 hcx
        go_wp2
        exact ⟨⟨k + 1, by omega, by go_num, HK2, hb3⟩, by simp [intOf]; omega⟩
      | false =>
        rw [hg] at hC
        have hy : true = y := by
          rw [← HY.out]
          symm
          rw [Bool.not_eq_true']
          rw [List.all_eq_false]
          refine ⟨bl x, ?_, by rw [hg]; decide⟩
          unfold bls
          exact List.mem_map_of_mem (List.mem_of_getElem? hx)
        subst hy
        clear hx HK hg HY
        go_wp2_with fail
        refine hC.mono ?_
        rintro e w' ⟨rfl, hb2⟩
        have hb3 := bstep hb hb2
        clear hb2 hcx
        go_wp2
        go_ret
        exact ⟨_, rfl, by simp, hb3⟩
    · have hy := HK.out
      rw [List.take_of_length_le (by unfold bls; rw [List.length_map, Hn.out]; omega)] at hy
      have hy2 := HY.out
      rw [hy] at hy2
      obtain rfl : false = y := hy2
      clear HK HY hy
      go_wp2
      go_ret
      exact ⟨_, rfl, by decide, hb⟩
theorem slContainsFS_any (L : List ByteArray) (n cap : Nat) (A : Option Addr) (w : World) (hZ : TextsZ w A n L) (hn : n ≤ 5000) (hs : ∀ x ∈ L, x.size ≤ 5000) :
    Calls Tryz.prog 186 #[.slice A n cap, .func (.func 187) #[] #[]] w (RetPost (.bool (!((bls L).all goodW))) w) := by
  have hI := slIndexFS_any L n cap A w hZ hn hs
  clear hZ hs
  generalize (!((bls L).all goodW)) = y at *
  go_enter Tryz.func186, Tryz.ntmps186
  go_wp2_with fail
  refine hI.mono ?_
  rintro e w' ⟨z, rfl, hz, hb⟩
  subst hz
  go_wp2
  go_ret
  exact ⟨rfl, hb⟩
theorem fdAllWords_any (L : List ByteArray) (n cap : Nat) (A : Option Addr) (w : World) (hZ : TextsZ w A n L) (hn : n ≤ 5000) (hs : ∀ x ∈ L, x.size ≤ 5000) :
    Calls Tryz.prog 123 #[.slice A n cap] w (RetPost (.bool ((bls L).all goodW)) w) := by
  have hI := slContainsFS_any L n cap A w hZ hn hs
  clear hZ hs
  generalize (bls L).all goodW = y at *
  go_enter Tryz.func123, Tryz.ntmps123
  go_wp2_with fail
  refine hI.mono ?_
  rintro e w' ⟨rfl, hb⟩
  go_wp2
  go_ret
  exact ⟨by simp, hb⟩
end Go.Mk
