/-
  Proved: words and plain of the reference of chapter 6 as plain functions of a text. Condition: the text has at most 5,000 bytes.
-/
import Derived.Test.YthpcmhcokblglaaGreatDoorFcj
import Derived.Test.YthpcmhcokblglaaGreatDoorFcn
set_option linter.unusedVariables false
set_option linter.unusedSimpArgs false
open Go Go.Proofs Go.RowKit
set_option maxRecDepth 100000
namespace Go.Mk
theorem extract_bl (s : ByteArray) (a b : Nat) : bl (s.extract a b) = ((bl s).drop a).take (b - a) := by
  show (s.extract a b).data.toList = _
  rw [ByteArray.data_extract, Array.toList_extract]
theorem take_next (s : ByteArray) (a k : Nat) (hk : k < s.size) (ha : a ≤ k) : ((bl s).drop a).take (k + 1 - a) = ((bl s).drop a).take (k - a) ++ [s[k]] := by
  have hl : (bl s).length = s.size := Array.length_toList
  rw [show k + 1 - a = (k - a) + 1 from by omega, List.take_succ_eq_append_getElem (by rw [List.length_drop, hl]; omega)]
  congr 2
  rw [List.getElem_drop]
  simp only [show a + (k - a) = k from by omega]
  rfl
/-- How far the loop is: L has been laid, the part at hand begins at a. -/
def SplitAt (s : ByteArray) (L : List (List UInt8)) (a k : Nat) : Prop :=
  (k ≤ s.size ∧ a ≤ k ∧ splitS (bl s) = L ++ splitGo 32 (((bl s).drop a).take (k - a)) ((bl s).drop k)) ∨ (k = s.size + 1 ∧ splitS (bl s) = L)
theorem SplitAt.start (s : ByteArray) : SplitAt s [] 0 0 := .inl ⟨Nat.zero_le _, Nat.le_refl _, by simp [splitS]⟩
theorem SplitAt.hit {s : ByteArray} {L : List (List UInt8)} {a k : Nat} (h : SplitAt s L a k) (hk : k < s.size) (hc : s[k] = 32) : SplitAt s (L ++ [bl (s.extract a k)]) (k + 1) (k + 1) := by
  rcases h with ⟨_, ha, h⟩ | ⟨h, _⟩
  · refine .inl ⟨by omega, Nat.le_refl _, ?_⟩
    rw [h, dropAt s k hk, splitGo, if_pos hc, extract_bl]
    simp
  · omega
theorem SplitAt.miss {s : ByteArray} {L : List (List UInt8)} {a k : Nat} (h : SplitAt s L a k) (hk : k < s.size) (hc : s[k] ≠ 32) : SplitAt s L a (k + 1) := by
  rcases h with ⟨_, ha, h⟩ | ⟨h, _⟩
  · refine .inl ⟨by omega, by omega, ?_⟩
    rw [h, dropAt s k hk, splitGo, if_neg hc, take_next s a k hk ha]
  · omega
theorem SplitAt.last {s : ByteArray} {L : List (List UInt8)} {a : Nat} (h : SplitAt s L a s.size) : SplitAt s (L ++ [bl (s.extract a s.size)]) (s.size + 1) (s.size + 1) := by
  rcases h with ⟨_, ha, h⟩ | ⟨h, _⟩
  · refine .inr ⟨rfl, ?_⟩
    rw [h, show (bl s).drop s.size = [] from dropEnd s s.size (Nat.le_refl _), splitGo, extract_bl]
  · omega
theorem SplitAt.done {s : ByteArray} {L : List (List UInt8)} {a k : Nat} (h : SplitAt s L a k) (hk : s.size < k) : splitS (bl s) = L := by
  rcases h with ⟨h, _⟩ | ⟨_, h⟩
  · omega
  · exact h
theorem SplitAt.le {s : ByteArray} {L : List (List UInt8)} {a k : Nat} (h : SplitAt s L a k) (hk : k ≤ s.size) : a ≤ k := by
  rcases h with ⟨_, h, _⟩ | ⟨h, _⟩ <;> omega
theorem bls_snoc (L : List ByteArray) (x : ByteArray) : bls (L ++ [x]) = bls L ++ [bl x] := by unfold bls; simp
set_option maxHeartbeats 4000000 in
theorem r6words_any (s : ByteArray) (hz : s.size ≤ 5000) (w : World) : Calls Tryz.prog 62 #[.string s] w (fun e w' => ∃ v L, e = .returned v ∧ OwnNames w' w.heap.size v L ∧ bls L = splitS (bl s) ∧ Below w.heap.size w w') := by
  obtain ⟨i0, hi, hz0, hz1, hz2⟩ := info_parts infoStr
  have hzi : (s.size : Int) ≤ 5000 := by omega
  go_enter Tryz.func62, Tryz.ntmps62
  go_wp2
  go_loopw [3, 4, 5] (fun v f i wr => ∃ (a k : Nat) (L : List ByteArray), f = .int .i64 a ∧ i = .int .i64 k ∧ k ≤ s.size + 1 ∧ L.length ≤ k ∧ Hid (SplitAt s (bls L) a k) ∧ OwnNames wr w.heap.size v L ∧ Below w.heap.size w wr) (fun _ _ i _ => s.size + 1 - (intOf i).toNat)
  case atStart => exact ⟨0, 0, [], rfl, rfl, by omega, Nat.le_refl _, Lib.hid (SplitAt.start s), World.ownsRow_nil _ _ _ _, Below.refl _ _⟩
  case round =>
    obtain ⟨a, k, L, rfl, rfl, hk, hL, HS, hown, hb⟩ := hrel
    by_cases hlt : k ≤ s.size
    · have hak := HS.out.le hlt
      have hsl : ∀ W, (Instr.slice 9 (.string s) (some (.int .i64 a)) (some (.int .i64 k)) none).run Tryz.prog W = .ok (.string (s.extract a k)) W := fun W => run_slice_string _ _ _ _ _ _ _ Tryz.underlying9 (by omega) (by omega) (by omega)
      have hki2 : (k : Int) ≤ (s.size : Int) := by omega
      by_cases hend : k = s.size
      · have HSn : Hid (SplitAt s (bls (L ++ [s.extract a k])) (k + 1) (k + 1)) := Lib.hid (by rw [bls_snoc]; have := HS.out; rw [hend] at this ⊢; exact this.last)
        have he : ((k : Int) == (s.size : Int)) = true := by rw [beq_iff_eq]; omega
        clear hend
        go_wp2_with (at_builtin; refine wpList_append_own _ rfl _ _ 22 rfl w.heap.size 9 i0 (.string ⟨#[]⟩) 1 16 Tryz.underlying22 hi hz0 hz1 hz2 rfl (by decide) _ _ _ rfl (World.ownsRow.alloc hown _) ⟨wr.heap.size, 0, none⟩ 1 1 [.string (s.extract a k)] rfl rfl ?c1 ?c2 ?c3 ?c4 ?c5 ?_)
        case c1 =>
          intro j u hj
          match j, hj with
          | 0, hj => simp at hj; subst hj; simp [Addr.add]
        case c2 => intro u hu; simp at hu; subst hu; rfl
        case c3 => unfold maxLen; omega
        case c4 => omega
        case c5 => have := hb.size; simp; omega
        · intro v' w1 hown' hgrow _
          have hb1 : Below w.heap.size w w1 := (hb.alloc hb.size _).grown hgrow (by have := hb.size; simp; omega) (fun r hr => (World.ownsRow.lt hown r hr).1)
          have ho1 : OwnNames w1 w.heap.size v' (L ++ [s.extract a k]) := OwnNames.next (by simpa using hown')
          clear hown' hgrow hown
          go_wp2
          go_roundw
          case rel => exact ⟨k + 1, k + 1, L ++ [s.extract a k], by go_num, by go_num, by omega, by simp; omega, HSn, ho1, hb1⟩
          case measure => simp [intOf]; omega
      · have hlt2 : k < s.size := by omega
        have he : ((k : Int) == (s.size : Int)) = false := by rw [beq_eq_false_iff_ne]; omega
        have hki : (k : Int) < (s.size : Int) := by omega
        by_cases hc : s[k] = 32
        · have HSn : Hid (SplitAt s (bls (L ++ [s.extract a k])) (k + 1) (k + 1)) := Lib.hid (by rw [bls_snoc]; exact HS.out.hit hlt2 hc)
          have hcb : ((s[k].toNat : Int) == 32) = true := by rw [hc]; rfl
          clear hc
          go_wp2_with (at_builtin; refine wpList_append_own _ rfl _ _ 22 rfl w.heap.size 9 i0 (.string ⟨#[]⟩) 1 16 Tryz.underlying22 hi hz0 hz1 hz2 rfl (by decide) _ _ _ rfl (World.ownsRow.alloc hown _) ⟨wr.heap.size, 0, none⟩ 1 1 [.string (s.extract a k)] rfl rfl ?c1 ?c2 ?c3 ?c4 ?c5 ?_)
          case c1 =>
            intro j u hj
            match j, hj with
            | 0, hj => simp at hj; subst hj; simp [Addr.add]
          case c2 => intro u hu; simp at hu; subst hu; rfl
          case c3 => unfold maxLen; omega
          case c4 => omega
          case c5 => have := hb.size; simp; omega
          · intro v' w1 hown' hgrow _
            have hb1 : Below w.heap.size w w1 := (hb.alloc hb.size _).grown hgrow (by have := hb.size; simp; omega) (fun r hr => (World.ownsRow.lt hown r hr).1)
            have ho1 : OwnNames w1 w.heap.size v' (L ++ [s.extract a k]) := OwnNames.next (by simpa using hown')
            clear hown' hgrow hown
            go_wp2
            go_roundw
            case rel => exact ⟨k + 1, k + 1, L ++ [s.extract a k], by go_num, by go_num, by omega, by simp; omega, HSn, ho1, hb1⟩
            case measure => simp [intOf]; omega
        · have HSn : Hid (SplitAt s (bls L) a (k + 1)) := Lib.hid (HS.out.miss hlt2 hc)
          have hcb : ((s[k].toNat : Int) == 32) = false := u8_ne hc
          clear hc
          go_wp2
          exact ⟨⟨a, k + 1, L, by go_num, by go_num, by omega, by omega, HSn, hown, hb⟩, by simp [intOf]; omega⟩
    · have HD := Lib.hid (HS.out.done (by omega)).symm
      go_wp2
      go_ret
      exact ⟨_, L, rfl, hown, HD.out, hb⟩
/-- Is a text a word by the reference: at least one byte, neither a colon nor a bar? -/
def plW (l : List UInt8) : Bool := (l.all fun c => !(decide (c = 58) || decide (c = 124))) && decide (0 < l.length)
set_option maxHeartbeats 4000000 in
theorem r6plain_any (s : ByteArray) (hz : s.size ≤ 5000) (w : World) : Calls Tryz.prog 63 #[.string s] w (RetSame (.bool (plW (bl s))) w) := by
  have hsz : (s.size : Int) ≤ 5000 := by omega
  obtain ⟨y, hy⟩ : ∃ y, plW (bl s) = y := ⟨_, rfl⟩
  rw [hy]
  have HY : Hid ((((bl s).drop 0).all fun c => !(decide (c = 58) || decide (c = 124))) = true → decide (0 < s.size) = y) := Lib.hid fun h => by
    rw [← hy]; unfold plW; rw [show (bl s).drop 0 = bl s from rfl] at h; rw [h, bl_len]; rfl
  have HF : Hid (∀ c ∈ bl s, (decide (c = 58) || decide (c = 124)) = true → false = y) := Lib.hid fun c hc q => by
    rw [← hy]
    symm
    unfold plW
    rw [Bool.and_eq_false_iff]
    left
    rw [List.all_eq_false]
    exact ⟨c, hc, by rw [q]; decide⟩
  clear hy hz
  go_enter Tryz.func63, Tryz.ntmps63
  go_wp2
  go_loop [3] (fun i => ∃ k : Nat, k ≤ s.size ∧ i = .int .i64 k ∧ Hid ((((bl s).drop k).all fun c => !(decide (c = 58) || decide (c = 124))) = true → decide (0 < s.size) = y)) (fun i => s.size - (intOf i).toNat)
  case atStart => exact ⟨0, by omega, rfl, HY⟩
  case round =>
    obtain ⟨k, hk, rfl, HK⟩ := hrel
    by_cases hlt : k < s.size
    · have hki : (k : Int) < (s.size : Int) := by omega
      obtain ⟨c, hc⟩ : ∃ c, s[k] = c := ⟨_, rfl⟩
      have hidx : ∀ h, (s[k]'h) = c := fun h => hc
      have hst := dropAt s k hlt
      have hst' : (bl s).drop k = c :: (bl s).drop (k + 1) := by rw [← hc]; exact hst
      have hmem : c ∈ bl s := List.mem_of_mem_drop (by rw [hst']; exact List.mem_cons_self ..)
      have e58 : ((c.toNat : Int) == 58) = decide (c = 58) := by
        by_cases q : c = 58
        · subst q; rfl
        · rw [decide_eq_false q]; exact u8_ne q
      have e124 : ((c.toNat : Int) == 124) = decide (c = 124) := by
        by_cases q : c = 124
        · subst q; rfl
        · rw [decide_eq_false q]; exact u8_ne q
      by_cases q1 : c = 58
      · have hf := HF.out c hmem (by rw [decide_eq_true q1]; rfl)
        subst hf
        rw [decide_eq_true q1] at e58
        clear hst hst' hmem q1 e124 HK HY HF hc
        go_wp2
        go_ret
        exact ⟨rfl, rfl⟩
      · by_cases q2 : c = 124
        · have hf := HF.out c hmem (by rw [decide_eq_true q2]; simp)
          subst hf
          rw [decide_eq_false q1] at e58
          rw [decide_eq_true q2] at e124
          clear hst hst' hmem q1 q2 HK HY HF hc
          go_wp2
          go_ret
          exact ⟨rfl, rfl⟩
        · have HK2 : Hid ((((bl s).drop (k + 1)).all fun c => !(decide (c = 58) || decide (c = 124))) = true → decide (0 < s.size) = y) := Lib.hid fun h => HK.out (by
            rw [hst', List.all_cons, h, decide_eq_false q1, decide_eq_false q2]; rfl)
          rw [decide_eq_false q1] at e58
          rw [decide_eq_false q2] at e124
          clear hst hst' hmem q1 q2 HK HY HF hc
          go_wp2
          exact ⟨⟨k + 1, by omega, by go_num, HK2⟩, by simp [intOf]; omega⟩
    · have ht := HK.out (by rw [show (bl s).drop k = [] from dropEnd s k (by omega)]; rfl)
      have hyy : decide ((0 : Int) < (s.size : Int)) = y := by rw [← ht]; simp
      clear HK HY HF ht
      subst hyy
      go_wp2
      go_ret
      exact ⟨rfl, rfl⟩
end Go.Mk
