/-
  Proved: strings.Cut at a colon, strings.Split at a blank, slices.Index and slices.Clone at texts, as plain functions. Conditions: the texts lie where the slices say, and have at most 5,000 bytes; there are at most 5,000; the heap holds the program's variables.
-/
import Derived.Test.YthpcmhcokblglaaGreatDoorFcf
import Derived.Test.YthpcmhcokblglaaGreatDoorFcb
import Derived.Shelf.Strings.Cut
import Derived.Shelf.Strings.Split
set_option linter.unusedVariables false
set_option linter.unusedSimpArgs false
open Go Go.Proofs Go.RowKit Go.Shelf
set_option maxRecDepth 100000
namespace Go.Mk
def mkB (l : List UInt8) : ByteArray := ⟨l.toArray⟩
theorem bl_mkB (l : List UInt8) : bl (mkB l) = l := by show l.toArray.toList = l; simp
theorem mkB_size (l : List UInt8) : (mkB l).size = l.length := by show l.toArray.size = _; simp
theorem bl_len (s : ByteArray) : (bl s).length = s.size := Array.length_toList
theorem mkB_bl (s : ByteArray) : mkB (bl s) = s := by
  show (⟨(s.data.toList).toArray⟩ : ByteArray) = s
  simp
theorem bl_inj {a b : ByteArray} (h : bl a = bl b) : a = b := by rw [← mkB_bl a, ← mkB_bl b, h]
/-- The heap holds the program's variables, among them the one that the library's searches read. -/
structure GL (w : World) : Prop where
  size : 15 ≤ w.heap.size
  len : ∃ m, w.cell? ⟨Tryz.cut_ren.g 1, 0, none⟩ = some (.int .i64 m)
theorem GL.below {w w' : World} (h : GL w) (hb : Below w.heap.size w w') : GL w' := by
  obtain ⟨m, hm⟩ := h.len
  refine ⟨Nat.le_trans h.size hb.size, m, ?_⟩
  rw [← hm]
  exact hb.cell (p := ⟨Tryz.cut_ren.g 1, 0, none⟩) (Nat.lt_of_lt_of_le (by decide : Tryz.cut_ren.g 1 < 15) h.size)
theorem idx_none (b : UInt8) (l : List UInt8) (h : b ∉ l) : Lib.index l [b] = -1 := by
  induction l with
  | nil => rfl
  | cons a l ih =>
    have h1 : b ≠ a := fun e => h (by rw [e]; exact List.mem_cons_self ..)
    have h2 := ih (fun e => h (List.mem_cons_of_mem _ e))
    rw [Lib.index, if_neg (by simp [List.isPrefixOf, h1]), h2]
    rfl
theorem idx_some (b : UInt8) (x y : List UInt8) (h : b ∉ x) : Lib.index (x ++ b :: y) [b] = x.length := by
  induction x with
  | nil => rw [List.nil_append, Lib.index, if_pos (by simp [List.isPrefixOf])]; rfl
  | cons a l ih =>
    have h1 : b ≠ a := fun e => h (by rw [e]; exact List.mem_cons_self ..)
    have h2 := ih (fun e => h (List.mem_cons_of_mem _ e))
    rw [List.cons_append, Lib.index, if_neg (by simp [List.isPrefixOf, h1]), h2, if_neg (by rw [beq_iff_eq]; omega), List.length_cons]
    push_cast
    rfl
theorem cut_none (b : UInt8) (l : List UInt8) (h : b ∉ l) : Lib.cut l [b] = (l, [], false) := by
  unfold Lib.cut
  rw [idx_none b l h, if_neg (by decide)]
theorem cut_some (b : UInt8) (x y : List UInt8) (h : b ∉ x) : Lib.cut (x ++ b :: y) [b] = (x, y, true) := by
  unfold Lib.cut
  rw [idx_some b x y h, if_pos (by omega)]
  simp
/-- The text ahead of the first colon, and behind it. -/
def cutC : List UInt8 → Option (List UInt8 × List UInt8)
  | [] => none
  | c :: l => if c = 58 then some ([], l) else (cutC l).map fun p => (c :: p.1, p.2)
theorem cutC_none {l : List UInt8} (h : cutC l = none) : (58 : UInt8) ∉ l := by
  induction l with
  | nil => simp
  | cons c l ih =>
    rw [cutC] at h
    by_cases hc : c = 58
    · rw [if_pos hc] at h; cases h
    · rw [if_neg hc] at h
      cases h2 : cutC l with
      | none => intro q; rcases List.mem_cons.1 q with q | q; exact hc q.symm; exact ih h2 q
      | some p => rw [h2] at h; cases h
theorem cutC_some {l x y : List UInt8} (h : cutC l = some (x, y)) : l = x ++ 58 :: y ∧ (58 : UInt8) ∉ x := by
  induction l generalizing x y with
  | nil => cases h
  | cons c l ih =>
    rw [cutC] at h
    by_cases hc : c = 58
    · rw [if_pos hc] at h
      obtain ⟨rfl, rfl⟩ : [] = x ∧ l = y := by simpa using h
      subst hc
      exact ⟨rfl, by simp⟩
    · rw [if_neg hc] at h
      cases h2 : cutC l with
      | none => rw [h2] at h; cases h
      | some p =>
        rw [h2] at h
        obtain ⟨rfl, rfl⟩ : c :: p.1 = x ∧ p.2 = y := by simpa using h
        obtain ⟨e, hn⟩ := ih (x := p.1) (y := p.2) h2
        refine ⟨by rw [e]; rfl, ?_⟩
        intro q
        rcases List.mem_cons.1 q with q | q
        · exact hc q.symm
        · exact hn q
theorem stCut_none (s : ByteArray) (hz : s.size ≤ 5000) (h : cutC (bl s) = none) (w : World) (hG : GL w) : Calls Tryz.prog 119 #[.string s, .string ⟨#[58]⟩] w (RetPost (.tuple #[.string s, .string (mkB []), .bool false]) w) := by
  obtain ⟨m, hm⟩ := hG.len
  refine (Any.strings_Cut { Tryz.cut with } s ⟨#[58]⟩ m w (by omega) hm).mono ?_
  rintro e w' ⟨rfl, n, rfl⟩
  refine ⟨?_, below_drewN (Below.refl _ _) n⟩
  have hc : Lib.cut s.data.toList [58] = (s.data.toList, [], false) := cut_none 58 _ (cutC_none h)
  show Ending.returned (.tuple #[.string ⟨(Lib.cut s.data.toList [58]).1.toArray⟩, .string ⟨(Lib.cut s.data.toList [58]).2.1.toArray⟩, .bool (Lib.cut s.data.toList [58]).2.2]) = _
  rw [hc]
  have : (⟨(s.data.toList).toArray⟩ : ByteArray) = s := by simp
  show Ending.returned (.tuple #[.string ⟨(s.data.toList).toArray⟩, _, _]) = _
  rw [this]
  rfl
theorem stCut_some (s : ByteArray) (x y : List UInt8) (hz : s.size ≤ 5000) (h : cutC (bl s) = some (x, y)) (w : World) (hG : GL w) : Calls Tryz.prog 119 #[.string s, .string ⟨#[58]⟩] w (RetPost (.tuple #[.string (mkB x), .string (mkB y), .bool true]) w) := by
  obtain ⟨m, hm⟩ := hG.len
  refine (Any.strings_Cut { Tryz.cut with } s ⟨#[58]⟩ m w (by omega) hm).mono ?_
  rintro e w' ⟨rfl, n, rfl⟩
  refine ⟨?_, below_drewN (Below.refl _ _) n⟩
  obtain ⟨e, hn⟩ := cutC_some h
  have hc : Lib.cut s.data.toList [58] = (x, y, true) := by
    have := cut_some 58 x y hn
    rw [← e] at this
    exact this
  show Ending.returned (.tuple #[.string ⟨(Lib.cut s.data.toList [58]).1.toArray⟩, .string ⟨(Lib.cut s.data.toList [58]).2.1.toArray⟩, .bool (Lib.cut s.data.toList [58]).2.2]) = _
  rw [hc]
  rfl
/-- The parts between the places of a byte, behind what has been read of the part at hand. -/
def splitGo (c : UInt8) : List UInt8 → List UInt8 → List (List UInt8)
  | cur, [] => [cur]
  | cur, x :: l => if x = c then cur :: splitGo c [] l else splitGo c (cur ++ [x]) l
/-- The parts of a text between blanks. -/
def splitS (l : List UInt8) : List (List UInt8) := splitGo 32 [] l
theorem splitGo_none (c : UInt8) (l cur : List UInt8) (h : c ∉ l) : splitGo c cur l = [cur ++ l] := by
  induction l generalizing cur with
  | nil => simp [splitGo]
  | cons a l ih =>
    have h1 : a ≠ c := fun e => h (by rw [e]; exact List.mem_cons_self ..)
    rw [splitGo, if_neg h1, ih _ (fun e => h (List.mem_cons_of_mem _ e))]
    simp
theorem splitGo_some (c : UInt8) (x y cur : List UInt8) (h : c ∉ x) : splitGo c cur (x ++ c :: y) = (cur ++ x) :: splitGo c [] y := by
  induction x generalizing cur with
  | nil => rw [List.nil_append, splitGo, if_pos rfl, List.append_nil]
  | cons a l ih =>
    have h1 : a ≠ c := fun e => h (by rw [e]; exact List.mem_cons_self ..)
    rw [List.cons_append, splitGo, if_neg h1, ih _ (fun e => h (List.mem_cons_of_mem _ e))]
    simp
theorem splitK_go : ∀ (m : Nat) (l : List UInt8), l.length ≤ m → Lib.splitK [32] 0 (Lib.count l [32]) l = splitS l := by
  intro m
  induction m with
  | zero =>
    intro l hl
    obtain rfl : l = [] := List.length_eq_zero_iff.1 (by omega)
    rfl
  | succ m ih =>
    intro l hl
    by_cases h : (32 : UInt8) ∈ l
    · obtain ⟨x, y, e, hx⟩ := List.eq_append_cons_of_mem h
      have hi : Lib.index l [32] = (x.length : Int) := by rw [e]; exact idx_some 32 x y hx
      have hd : l.drop (x.length + ([32] : List UInt8).length) = y := by rw [e]; simp
      rw [Lib.count_hit (by simp) hi, hd, Nat.add_comm, Lib.splitK, if_neg (by rw [hi, beq_iff_eq]; omega), hi]
      have ht : ((x.length : Int)).toNat = x.length := by omega
      rw [ht, hd, ih y (by rw [e] at hl; simp at hl; omega)]
      unfold splitS
      rw [show splitGo 32 [] l = ([] ++ x) :: splitGo 32 [] y by rw [e]; exact splitGo_some 32 x y [] hx, List.nil_append]
      congr 1
      rw [e]
      simp
    · rw [Lib.count_miss (idx_none 32 l h)]
      unfold splitS
      rw [splitGo_none 32 l [] h]
      rfl
theorem stSplit_any (s : ByteArray) (hz : s.size ≤ 5000) (w : World) (hG : GL w) :
    Calls Tryz.prog 120 #[.string s, .string ⟨#[32]⟩] w (fun e w' => ∃ L : List ByteArray, e = .returned (.slice (some ⟨w.heap.size, 0, none⟩) L.length L.length) ∧ bls L = splitS (bl s) ∧ w' = w.alloc (.cells (L.map Value.string).toArray 9)) := by
  obtain ⟨m, hm⟩ := hG.len
  refine (Any.strings_Split Tryz.split (by kernel_rfl) s ⟨#[32]⟩ m w (by omega) hm (by decide)).mono ?_
  rintro e w' ⟨rfl, rfl⟩
  refine ⟨Lib.splitB ⟨#[32]⟩ 0 (Lib.countB s ⟨#[32]⟩) s, ?_, ?_, rfl⟩
  · rw [Lib.splitB_all ⟨#[32]⟩ (by decide) 0 _ s rfl]
  · unfold bls
    have := Lib.splitB_data ⟨#[32]⟩ 0 (Lib.countB s ⟨#[32]⟩) s
    exact this.trans (splitK_go _ _ (Nat.le_refl _))
theorem splitGo_ne (c : UInt8) : ∀ (l cur : List UInt8), splitGo c cur l ≠ []
  | [], cur => by simp [splitGo]
  | x :: l, cur => by
    rw [splitGo]
    split
    · simp
    · exact splitGo_ne c l _
theorem splitS_ne (l : List UInt8) : splitS l ≠ [] := splitGo_ne 32 l []
theorem splitGo_len (c : UInt8) : ∀ (l cur : List UInt8), (splitGo c cur l).length ≤ l.length + 1
  | [], cur => by simp [splitGo]
  | x :: l, cur => by
    rw [splitGo]
    split
    · have := splitGo_len c l []
      simp; omega
    · have := splitGo_len c l (cur ++ [x])
      simp; omega
theorem splitGo_size (c : UInt8) : ∀ (l cur : List UInt8) (m : Nat), cur.length + l.length ≤ m → ∀ t ∈ splitGo c cur l, t.length ≤ m
  | [], cur, m, h, t, ht => by
    rw [splitGo, List.mem_singleton] at ht
    subst ht
    simpa using h
  | x :: l, cur, m, h, t, ht => by
    simp only [List.length_cons] at h
    rw [splitGo] at ht
    split at ht
    · rcases List.mem_cons.1 ht with rfl | ht
      · omega
      · exact splitGo_size c l [] m (by simp; omega) t ht
    · exact splitGo_size c l (cur ++ [x]) m (by simp; omega) t ht
set_option maxHeartbeats 2000000 in
theorem slIndexS2_any (L : List ByteArray) (s : ByteArray) (n cap : Nat) (A : Option Addr) (w : World) (hZ : TextsZ w A n L) (hn : n ≤ 100000) :
    Calls Tryz.prog 121 #[.slice A n cap, .string s] w (fun e w' => ∃ z : Int, e = .returned (.int .i64 z) ∧ ((z = -1 ∧ isIn L s = false) ∨ ∃ k : Nat, z = k ∧ k < n ∧ L[k]? = some s ∧ isIn (L.take k) s = false) ∧ w = w') := by
  have hn0 : (n : Int) ≤ 100000 := by omega
  have HM := Lib.hid hZ
  have Hlen : Hid (L.length = n) := hZ.1
  clear hZ hn
  go_enter Tryz.func121, Tryz.ntmps121
  go_wp2
  go_loop [8] (fun i => ∃ k : Nat, k ≤ n ∧ i = .int .i64 k ∧ Hid (isIn (L.take k) s = false)) (fun i => n - (RowKit.intOf i).toNat)
  case atStart => exact ⟨0, by omega, rfl, Lib.hid rfl⟩
  case round =>
    obtain ⟨k, hk, rfl, HK⟩ := hrel
    by_cases hlt : k < n
    · obtain ⟨b, off, x, rfl, _, hLk, c1'⟩ := HM.out.at_ hlt
      have hki : (k : Int) < (n : Int) := by omega
      by_cases g : x = s
      · have gb : (s.toList == x.toList) = true := by rw [g]; simp
        have HLK : Hid (L[k]? = some s) := Lib.hid (by rw [← g]; exact hLk)
        have HLT := Lib.hid hlt
        clear hLk g
        as_aux_lemma =>
          go_wp2
          go_ret
          exact ⟨_, rfl, .inr ⟨k, rfl, HLT.out, HLK.out, HK.out⟩, rfl⟩
      · have HK2 : Hid (isIn (L.take (k + 1)) s = false) := (show _ = _ by rw [isIn_take hLk, HK.out, decide_eq_false g]; rfl)
        have gb : (s.toList == x.toList) = false := tl_ne (fun q => g q.symm)
        clear hLk g HK
        as_aux_lemma =>
          go_wp2
          exact ⟨⟨k + 1, by omega, by go_num, HK2⟩, by simp [RowKit.intOf]; omega⟩
    · have hz := HK.out
      rw [List.take_of_length_le (by rw [Hlen.out]; omega)] at hz
      have HZ := Lib.hid hz
      clear hz
      go_wp2
      go_ret
      exact ⟨_, rfl, .inl ⟨rfl, HZ.out⟩, rfl⟩
set_option maxHeartbeats 4000000 in
theorem slCloneS_any (L : List ByteArray) (n cap g off : Nat) (w : World) (hZ : TextsZ w (some ⟨g, off, none⟩) n L) (hn : n ≤ 6000) :
    Calls Tryz.prog 122 #[.slice (some ⟨g, off, none⟩) n cap] w (fun e w' => ∃ v, e = .returned v ∧ OwnNames w' w.heap.size v L ∧ Below w.heap.size w w') := by
  obtain ⟨i0, hi, hz0, hz1, hz2⟩ := info_parts infoStr
  have hni : (n : Int) ≤ 6000 := by omega
  have hq : ∀ W, (binOp .eql 22 (.slice (some ⟨g, off, none⟩) n cap) (.slice none 0 0)).run Tryz.prog W = .ok (.bool false) W := fun W => Lib.run_eql_slice_nil W _ _ (some ⟨g, off, none⟩) n cap 0 0 Tryz.underlying22
  have hb1 : Below w.heap.size w (w.alloc (.cells #[] 9)) := (Below.refl _ _).alloc (Nat.le_refl _) _
  have HRow0 : Hid ((w.alloc (.cells #[] 9)).ownsRow w.heap.size 9 1 (.slice (some ⟨w.heap.size, 0, none⟩) 0 0) 0 []) := Lib.hid (World.ownsRow_lit w #[] 0 (Nat.le_refl _) (by decide) rfl)
  have HNEWS : Hid (∀ ad, some (⟨g, off, none⟩ : Addr) = some ad → ∀ (j : Nat) (u : Value), (L.map Value.string)[j]? = some u → (w.alloc (.cells #[] 9)).cell? (ad.add j) = some u) := Lib.hid fun ad e j u h => texts_cell (hZ.below hb1) ad e j u h
  have HLEN : Hid ((L.map Value.string).length = n * 1) := Lib.hid (by rw [List.length_map, hZ.1, Nat.mul_one])
  have HL := Lib.hid hZ.1
  have HB1 := Lib.hid hb1
  clear hZ hb1
  go_enter Tryz.func122, Tryz.ntmps122
  go_wp2_with (at_builtin; refine wpList_append_src _ rfl _ _ 22 rfl w.heap.size 9 i0 (.string ⟨#[]⟩) 1 16 Tryz.underlying22 hi hz0 hz1 hz2 rfl (by decide) _ _ _ rfl HRow0.out (some ⟨g, off, none⟩) n cap (L.map Value.string) rfl HLEN.out (fun q => by cases q) HNEWS.out (strs_one _) ?c3 ?c4 ?c5 ?_)
  case c3 => unfold maxLen; omega
  case c4 => omega
  case c5 => exact HB1.out.size
  intro v8 w8 hrow hgrow _
  have hb8 := HB1.out.grown hgrow HB1.out.size (fun r hr => (World.ownsRow.lt HRow0.out r hr).1)
  have hro : OwnNames w8 w.heap.size v8 L := by unfold OwnNames; rw [HL.out]; simpa using hrow
  clear hrow hgrow
  go_wp2
  go_ret
  exact ⟨_, rfl, hro, hb8⟩
end Go.Mk
