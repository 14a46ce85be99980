/-
  Proved: the reference's split returns the parts of a text between the places of a byte, in new memory. Condition: the text has at most 100 bytes.
  Proved: the reference's ranged returns a mark, or the error of its range. No condition.
-/
import Derived.Test.YtclkcooomikiiaaGreatDoorTy
import Derived.Laws.OwnMore
import Derived.Laws.AppendOwn
import Derived.OwnWalk
import Derived.Lib.SmallJoins
import Derived.Test.YtclkcooomikiiaaGreatDoorTn
section
set_option linter.unusedVariables false
set_option linter.unusedSimpArgs false
open Go Go.Proofs Go.RowKit Go.Sort
set_option maxRecDepth 100000
namespace Go.Mk
/-- The parts between the places of a byte, behind what has been read of the part at hand. -/
def splitGo (c : UInt8) : List UInt8 → List UInt8 → List (List UInt8)
  | cur, [] => [cur]
  | cur, x :: l => if x = c then cur :: splitGo c [] l else splitGo c (cur ++ [x]) l
def mkB (l : List UInt8) : ByteArray := ⟨l.toArray⟩
def split (c : UInt8) (s : ByteArray) : List ByteArray := (splitGo c [] s.data.toList).map mkB
theorem mkB_extract (s : ByteArray) (a b : Nat) : mkB ((s.data.toList.drop a).take (b - a)) = s.extract a b := by
  rw [ba_of_list (extract_list s a b)]
  rfl
theorem take_next (s : ByteArray) (a k : Nat) (hk : k < s.size) (ha : a ≤ k) : (s.data.toList.drop a).take (k + 1 - a) = (s.data.toList.drop a).take (k - a) ++ [s[k]] := by
  have hl : s.data.toList.length = s.size := Array.length_toList
  rw [show k + 1 - a = (k - a) + 1 from by omega, List.take_succ_eq_append_getElem (by rw [List.length_drop, hl]; omega)]
  congr 2
  rw [List.getElem_drop]
  simp only [show a + (k - a) = k from by omega]
  rfl
/-- How far the loop is: L has been laid, the part at hand begins at a. -/
def SplitAt (c : UInt8) (s : ByteArray) (L : List ByteArray) (a k : Nat) : Prop :=
  (k ≤ s.size ∧ a ≤ k ∧ split c s = L ++ (splitGo c ((s.data.toList.drop a).take (k - a)) (s.data.toList.drop k)).map mkB) ∨ (k = s.size + 1 ∧ split c s = L)
theorem SplitAt.start (c : UInt8) (s : ByteArray) : SplitAt c s [] 0 0 := .inl ⟨Nat.zero_le _, Nat.le_refl _, by simp [split]⟩
theorem SplitAt.hit {c : UInt8} {s : ByteArray} {L : List ByteArray} {a k : Nat} (h : SplitAt c s L a k) (hk : k < s.size) (hc : s[k] = c) : SplitAt c s (L ++ [s.extract a k]) (k + 1) (k + 1) := by
  rcases h with ⟨_, ha, h⟩ | ⟨h, _⟩
  · refine .inl ⟨by omega, Nat.le_refl _, ?_⟩
    rw [h, drop_at s k hk, splitGo, if_pos hc, List.map_cons, mkB_extract]
    simp
  · omega
theorem SplitAt.miss {c : UInt8} {s : ByteArray} {L : List ByteArray} {a k : Nat} (h : SplitAt c s L a k) (hk : k < s.size) (hc : s[k] ≠ c) : SplitAt c s L a (k + 1) := by
  rcases h with ⟨_, ha, h⟩ | ⟨h, _⟩
  · refine .inl ⟨by omega, by omega, ?_⟩
    rw [h, drop_at s k hk, splitGo, if_neg hc, take_next s a k hk ha]
  · omega
theorem SplitAt.last {c : UInt8} {s : ByteArray} {L : List ByteArray} {a : Nat} (h : SplitAt c s L a s.size) : SplitAt c s (L ++ [s.extract a s.size]) (s.size + 1) (s.size + 1) := by
  rcases h with ⟨_, ha, h⟩ | ⟨h, _⟩
  · refine .inr ⟨rfl, ?_⟩
    rw [h, drop_end s s.size (Nat.le_refl _), splitGo, List.map_cons, mkB_extract]
    rfl
  · omega
theorem SplitAt.done {c : UInt8} {s : ByteArray} {L : List ByteArray} {a k : Nat} (h : SplitAt c s L a k) (hk : s.size < k) : split c s = L := by
  rcases h with ⟨h, _⟩ | ⟨_, h⟩
  · omega
  · exact h
theorem SplitAt.le {c : UInt8} {s : ByteArray} {L : List ByteArray} {a k : Nat} (h : SplitAt c s L a k) (hk : k ≤ s.size) : a ≤ k := by
  rcases h with ⟨_, h, _⟩ | ⟨h, _⟩ <;> omega
theorem infoStr : (Tryz.prog.info? 9).map (fun i => (i.zero, i.size, i.bytes)) = some (some (.string ⟨#[]⟩), 1, 16) := by kernel_rfl
/-- A list of texts in new memory. -/
def OwnTexts (w : World) (B : Nat) (v : Value) (L : List ByteArray) : Prop := w.ownsRow B 9 1 v L.length (L.map Value.string)
def SplitPost (L : List ByteArray) (w : World) (e : Ending) (w' : World) : Prop := ∃ v, e = .returned v ∧ OwnTexts w' w.heap.size v L ∧ Below w.heap.size w w'
theorem OwnTexts.next {w1 : World} {B : Nat} {v' : Value} {L : List ByteArray} {t : ByteArray} (h : w1.ownsRow B 9 1 v' (L.length + 1) (L.map Value.string ++ [Value.string t])) : OwnTexts w1 B v' (L ++ [t]) := by
  unfold OwnTexts
  rw [List.length_append, List.map_append]
  exact h
set_option maxHeartbeats 4000000 in
theorem refSplit_any (s : ByteArray) (c : UInt8) (hz : s.size ≤ 100) (w : World) : Calls Tryz.prog 38 #[.string s, .int .u8 c.toNat] w (SplitPost (split c s) w) := by
  obtain ⟨i0, hi, hz0, hz1, hz2⟩ := info_parts infoStr
  have hzi : (s.size : Int) ≤ 100 := by omega
  go_enter Tryz.func38, Tryz.ntmps38
  go_wp2
  go_loopw [5, 6, 7] (fun v f i wr => ∃ (a k : Nat) (L : List ByteArray), f = .int .i64 a ∧ i = .int .i64 k ∧ k ≤ s.size + 1 ∧ L.length ≤ k ∧ Hid (SplitAt c s L a k) ∧ OwnTexts wr w.heap.size v L ∧ Below w.heap.size w wr) (fun _ _ i _ => s.size + 1 - (intOf i).toNat)
  case atStart => exact ⟨0, 0, [], rfl, rfl, by omega, Nat.le_refl _, Lib.hid (SplitAt.start c s), World.ownsRow_nil _ _ _ _, Below.refl _ _⟩
  case round =>
    obtain ⟨a, k, L, rfl, rfl, hk, hL, HS, hown, hb⟩ := hrel
    by_cases hlt : k ≤ s.size
    · have hak := HS.out.le hlt
      have hsl : ∀ W, (Instr.slice 9 (.string s) (some (.int .i64 a)) (some (.int .i64 k)) none).run Tryz.prog W = .ok (.string (s.extract a k)) W := fun W => run_slice_string _ _ _ _ _ _ _ Tryz.underlying9 (by omega) (by omega) (by omega)
      by_cases hend : k = s.size
      · have HSn : Hid (SplitAt c s (L ++ [s.extract a k]) (k + 1) (k + 1)) := Lib.hid (by have := HS.out; rw [hend] at this ⊢; exact this.last)
        have he : ((k : Int) == (s.size : Int)) = true := by rw [beq_iff_eq]; omega
        clear hend
        go_wp2_with (at_builtin; refine wpList_append_own _ rfl _ _ 76 rfl w.heap.size 9 i0 (.string ⟨#[]⟩) 1 16 Tryz.underlying76 hi hz0 hz1 hz2 rfl (by decide) _ _ _ rfl (World.ownsRow.alloc hown _) ⟨wr.heap.size, 0, none⟩ 1 1 [.string (s.extract a k)] rfl rfl ?c1 ?c2 ?c3 ?c4 ?c5 ?_)
        case c1 =>
          intro j u hj
          match j, hj with
          | 0, hj => simp at hj; subst hj; simp [Addr.add]
        case c2 => intro u hu; simp at hu; subst hu; rfl
        case c3 => unfold maxLen; omega
        case c4 => omega
        case c5 => have := hb.size; simp; omega
        · intro v' w1 hown' hgrow _
          have hb1 : Below w.heap.size w w1 := (hb.alloc hb.size _).grown hgrow (by have := hb.size; simp; omega) (fun r hr => (World.ownsRow.lt hown r hr).1)
          have ho1 : OwnTexts w1 w.heap.size v' (L ++ [s.extract a k]) := OwnTexts.next (by simpa using hown')
          clear hown' hgrow hown
          go_wp2
          go_roundw
          case rel => exact ⟨k + 1, k + 1, L ++ [s.extract a k], by go_num, by go_num, by omega, by simp; omega, HSn, ho1, hb1⟩
          case measure => simp [intOf]; omega
      · have hlt2 : k < s.size := by omega
        have he : ((k : Int) == (s.size : Int)) = false := by rw [beq_eq_false_iff_ne]; omega
        have hki : (k : Int) < (s.size : Int) := by omega
        by_cases hc : s[k] = c
        · have HSn : Hid (SplitAt c s (L ++ [s.extract a k]) (k + 1) (k + 1)) := Lib.hid (HS.out.hit hlt2 hc)
          have hcb : ((s[k].toNat : Int) == (c.toNat : Int)) = true := by rw [hc]; simp
          clear hc
          go_wp2_with (at_builtin; refine wpList_append_own _ rfl _ _ 76 rfl w.heap.size 9 i0 (.string ⟨#[]⟩) 1 16 Tryz.underlying76 hi hz0 hz1 hz2 rfl (by decide) _ _ _ rfl (World.ownsRow.alloc hown _) ⟨wr.heap.size, 0, none⟩ 1 1 [.string (s.extract a k)] rfl rfl ?c1 ?c2 ?c3 ?c4 ?c5 ?_)
          case c1 =>
            intro j u hj
            match j, hj with
            | 0, hj => simp at hj; subst hj; simp [Addr.add]
          case c2 => intro u hu; simp at hu; subst hu; rfl
          case c3 => unfold maxLen; omega
          case c4 => omega
          case c5 => have := hb.size; simp; omega
          · intro v' w1 hown' hgrow _
            have hb1 : Below w.heap.size w w1 := (hb.alloc hb.size _).grown hgrow (by have := hb.size; simp; omega) (fun r hr => (World.ownsRow.lt hown r hr).1)
            have ho1 : OwnTexts w1 w.heap.size v' (L ++ [s.extract a k]) := OwnTexts.next (by simpa using hown')
            clear hown' hgrow hown
            go_wp2
            go_roundw
            case rel => exact ⟨k + 1, k + 1, L ++ [s.extract a k], by go_num, by go_num, by omega, by simp; omega, HSn, ho1, hb1⟩
            case measure => simp [intOf]; omega
        · have HSn : Hid (SplitAt c s L a (k + 1)) := Lib.hid (HS.out.miss hlt2 hc)
          have hcb : ((s[k].toNat : Int) == (c.toNat : Int)) = false := by rw [beq_eq_false_iff_ne]; intro e; exact hc (UInt8.toNat_inj.1 (by omega))
          clear hc
          go_wp2
          exact ⟨⟨a, k + 1, L, by go_num, by go_num, by omega, by omega, HSn, hown, hb⟩, by simp [intOf]; omega⟩
    · go_wp2
      go_ret
      exact ⟨_, rfl, by rw [HS.out.done (by omega)]; exact hown, hb⟩
end Go.Mk
end
section
set_option linter.unusedVariables false
set_option linter.unusedSimpArgs false
open Go Go.Proofs Go.RowKit Go.Sort
set_option maxRecDepth 100000
namespace Go.Mk
/-- A mark with an error. -/
structure ME where
  s : ByteArray
  v : Int
  r : ByteArray
  e : Int
def ME.out (m : ME) : Value := .tuple #[.agg #[.string m.s, .int .i64 m.v, .string m.r], .int .i64 m.e]
def ME.bad (e : Int) : ME := ⟨⟨#[]⟩, 0, ⟨#[]⟩, e⟩
/-- The mark, or the error of its range. -/
def ranged (s : ByteArray) (v : Int) (r : ByteArray) : ME := if chk s v r = 0 then ⟨s, v, r, 0⟩ else ME.bad (chk s v r)
set_option maxHeartbeats 1000000 in
theorem refRanged_bad (s r : ByteArray) (v e0 : Int) (he : chk s v r = e0) (hne : e0 ≠ 0) (w : World) : Calls Tryz.prog 37 #[.agg #[.string s, .int .i64 v, .string r]] w (RetPost (ME.out (ME.bad e0)) w) := by
  have hC := refCheckMark_any s r v
  rw [he] at hC
  clear he
  have hne' : (e0 != 0) = true := by rw [bne_iff_ne]; exact hne
  go_enter Tryz.func37, Tryz.ntmps37
  go_wp2_with fail
  refine (hC _).mono ?_
  rintro e w2 ⟨rfl, hb⟩
  obtain ⟨a0, a1, a2⟩ : Box w2 (w.heap.size + 1) ⟨#[]⟩ 0 ⟨#[]⟩ := (Box.new' _ _ ⟨#[]⟩ 0 ⟨#[]⟩ (by simp)).below hb (by simp)
  have f0 : ∀ o, w2.frozen? ⟨w.heap.size + 1, o, none⟩ = false := fun o => by rw [hb.frozen (p := ⟨w.heap.size + 1, o, none⟩) (by simp)]; simp
  have hbw : Below w.heap.size w w2 := (((Below.refl w.heap.size w).alloc (Nat.le_refl _) _).alloc (by simp) _).trans (hb.mono (by simp; omega))
  have hz : w.heap.size + 1 < w2.heap.size := by have := hb.size; simp at this; omega
  clear hb hC
  go_wp2
  obtain ⟨q0, q1, q2⟩ : Box _ (w.heap.size + 1) ⟨#[]⟩ 0 ⟨#[]⟩ := Box.put3 ⟨a0, a1, a2⟩
  exact bodyPost_ret (v := .tuple #[.agg #[.string ⟨#[]⟩, .int .i64 0, .string ⟨#[]⟩], .int .i64 e0]) (by simp [results, Tryz.results37, go_sem, q0, q1, q2]) rfl ⟨rfl, ((hbw.setCell (by show _ ≤ w.heap.size + 1; omega) _).setCell (by show _ ≤ w.heap.size + 1; omega) _).setCell (by show _ ≤ w.heap.size + 1; omega) _⟩
set_option maxHeartbeats 1000000 in
theorem refRanged_ok (s r : ByteArray) (v : Int) (he : chk s v r = 0) (w : World) : Calls Tryz.prog 37 #[.agg #[.string s, .int .i64 v, .string r]] w (RetPost (ME.out ⟨s, v, r, 0⟩) w) := by
  have hC := refCheckMark_any s r v
  rw [he] at hC
  clear he
  go_enter Tryz.func37, Tryz.ntmps37
  go_wp2_with fail
  refine (hC _).mono ?_
  rintro e w2 ⟨rfl, hb⟩
  obtain ⟨a0, a1, a2⟩ : Box w2 (w.heap.size + 1) ⟨#[]⟩ 0 ⟨#[]⟩ := (Box.new' _ _ ⟨#[]⟩ 0 ⟨#[]⟩ (by simp)).below hb (by simp)
  obtain ⟨c0, c1, c2⟩ : Box w2 w.heap.size s v r := ((Box.new w s v r).below ((Below.refl _ _).alloc (Nat.le_refl _) _) (by simp)).below hb (by simp; omega)
  have f0 : ∀ o, w2.frozen? ⟨w.heap.size + 1, o, none⟩ = false := fun o => by rw [hb.frozen (p := ⟨w.heap.size + 1, o, none⟩) (by simp)]; simp
  have hbw : Below w.heap.size w w2 := (((Below.refl w.heap.size w).alloc (Nat.le_refl _) _).alloc (by simp) _).trans (hb.mono (by simp; omega))
  have hz : w.heap.size + 1 < w2.heap.size := by have := hb.size; simp at this; omega
  clear hb hC
  go_wp2
  obtain ⟨q0, q1, q2⟩ : Box _ (w.heap.size + 1) s v r := Box.put3 ⟨a0, a1, a2⟩
  exact bodyPost_ret (v := .tuple #[.agg #[.string s, .int .i64 v, .string r], .int .i64 0]) (by simp [results, Tryz.results37, go_sem, q0, q1, q2]) rfl ⟨rfl, ((hbw.setCell (by show _ ≤ w.heap.size + 1; omega) _).setCell (by show _ ≤ w.heap.size + 1; omega) _).setCell (by show _ ≤ w.heap.size + 1; omega) _⟩
theorem refRanged_any (s r : ByteArray) (v : Int) (w : World) : Calls Tryz.prog 37 #[.agg #[.string s, .int .i64 v, .string r]] w (RetPost (ME.out (ranged s v r)) w) := by
  unfold ranged
  by_cases h : chk s v r = 0
  · rw [if_pos h]; exact refRanged_ok s r v h w
  · rw [if_neg h]; exact refRanged_bad s r v _ rfl h w
end Go.Mk
end
