/-
  Proved: what mark.splitFields returns yields the parts of a text between its colons, in their order, as long as the body asks for more. Conditions: the text has at most 60 bytes; the heap holds the program's tables.
-/
import Derived.Test.YtclkcooomikiiaaGreatDoorUh
import Derived.RangeFuncNested
import Derived.RangeFuncBound
import Derived.RangeFuncCalls
import Derived.RangeFuncLeaves
import Derived.RangeFuncBox
import Derived.Shelf.Abstract
import Derived.WalkKit
import Derived.OwnWalkIn
import Derived.TacticsInMore
import Derived.LoopNIn
import Derived.LoopIn
set_option linter.unusedVariables false
set_option linter.unusedSimpArgs false
open Go Go.Proofs Go.RowKit Go.Sort Go.Shelf
set_option maxRecDepth 100000
namespace Go.Mk
attribute [local go_sem] Oper.semAt_some
/-- A part of a text. -/
abbrev Part := { x : ByteArray // x.size ≤ 60 }
def strSz : Value → Nat
  | .string t => t.size
  | _ => 0
def isOn : Value → Bool
  | .bool b => b
  | _ => false
/-- How far the walk over the parts is. -/
def PartsAt (s : ByteArray) (pre : List Part) (r : ByteArray) (m : Bool) : Prop := split 58 s = pre.map (·.1) ++ (if m then split 58 r else [])
theorem grown_of_below {W W' : World} (h : Below W.heap.size W W') : W.grownBy W' none := ⟨h.os, h.tape, h.output, h.size, fun k hk _ => h.block k hk⟩
theorem split_part (s : ByteArray) (pre : List Part) (r : ByteArray) (h : PartsAt s pre r true) (hr : r.size ≤ 60) : ∃ x : Part, x.1 = cutA r 58 ∧ PartsAt s (pre ++ [x]) (cutB r 58) (cutF r 58) ∧ (cutF r 58 = true → (cutB r 58).size < r.size) ∧ pre.length < (split 58 s).length := by
  unfold PartsAt at *
  rw [if_pos rfl] at h
  refine ⟨⟨cutA r 58, Nat.le_trans (cutA_size r 58) hr⟩, rfl, ?_, ?_, ?_⟩
  · rw [h]
    rcases cut_cases r 58 with ⟨_, h2, h3, h4, h5⟩ | ⟨y, h1, h2, h3, _⟩
    · rw [h4, h5, if_neg (by decide)]
      simp [h2]
    · rw [h1, h2, h3, if_pos rfl]
      simp
  · intro e
    rcases cut_cases r 58 with ⟨_, h2, h3, h4, h5⟩ | ⟨y, h1, h2, h3, h4⟩
    · rw [h4] at e; cases e
    · rw [h2]; exact h4
  · rw [h, List.length_append, List.length_map]
    have := split_ne 58 r
    omega
set_option maxHeartbeats 2000000 in
theorem iter_in (n : Nat) (hn : 1 ≤ n) (l Bn : Nat) (s : ByteArray) (hz : s.size ≤ 60) (w0 : World) (hG : Gd w0) (J Jx : List Part → World → Prop) (hJ : ∀ pre W W', J pre W → Below W.heap.size W W' → J pre W')
    (hY : ∀ pre (x : Part) W, J pre W → pre.length < (split 58 s).length → YieldAt Fence.wide (n - 1) Tryz.prog l #[.string x.1] W fun e W' => (e = .returned (.bool true) ∧ J (pre ++ [x]) W' ∧ Below w0.heap.size W W') ∨ (e = .returned (.bool false) ∧ Jx (pre ++ [x]) W'))
    (W : World) (hBn : W.cell? ⟨Bn, 0, none⟩ = some (.string s)) (hW : Below w0.heap.size w0 W) (h0 : J [] W) :
    CallsIn Fence.wide n Tryz.prog 214 #[.func (.yield l) #[] #[], .pointer (some ⟨Bn, 0, none⟩)] W fun e W' => (∃ v, e = .returned v) ∧ ((∃ ys, ys.map (·.1) = split 58 s ∧ J ys W') ∨ (∃ pre, pre.map (·.1) <+: split 58 s ∧ Jx pre W')) := by
  have hG' : ∀ W', Below w0.heap.size w0 W' → Gd W' := fun W' h => hG.below h (Nat.le_refl _)
  have HS : Hid (∀ pre r, PartsAt s pre r true → r.size ≤ 60 → ∃ x : Part, x.1 = cutA r 58 ∧ PartsAt s (pre ++ [x]) (cutB r 58) (cutF r 58) ∧ (cutF r 58 = true → (cutB r 58).size < r.size) ∧ pre.length < (split 58 s).length) := Lib.hid fun pre r h hr => split_part s pre r h hr
  have HST : Hid (PartsAt s [] s true) := Lib.hid (by unfold PartsAt; simp)
  have HE : Hid (∀ pre r, PartsAt s pre r false → pre.map (·.1) = split 58 s) := Lib.hid fun pre r h => by unfold PartsAt at h; rw [h]; simp
  have HP : Hid (∀ (pre : List Part) r m, PartsAt s pre r m → pre.map (·.1) <+: split 58 s) := Lib.hid fun pre r m h => by unfold PartsAt at h; rw [h]; exact ⟨_, rfl⟩
  generalize split 58 s = L at *
  refine callsIn_of_wp Tryz.func214 rfl trivial ?_ rfl
  simp only [Tryz.ntmps214, List.size_toArray, List.length_cons, List.length_nil, Nat.reduceAdd, Nat.reduceSub, Array.replicate_succ, Array.replicate_zero, List.push_toArray, List.append_toArray, List.nil_append, List.cons_append]
  gi_wp2
  gi_loopw [3, 4] (fun r m wr => ∃ (pre : List Part) (t : ByteArray) (b : Bool), r = .string t ∧ m = .bool b ∧ t.size ≤ 60 ∧ Hid (PartsAt s pre t b) ∧ J pre wr ∧ Below w0.heap.size w0 wr) (fun r m _ => if isOn m then strSz r + 1 else 0)
  case atStart => exact ⟨[], s, true, rfl, rfl, hz, HST, h0, hW⟩
  case round =>
    obtain ⟨pre, t, b, rfl, rfl, ht, hP, hJs, hb⟩ := hrel
    cases b with
    | false =>
      gi_wp2
      go_end0
      exact ⟨⟨_, rfl⟩, .inl ⟨pre, HE.out pre t hP.out, hJs⟩⟩
    | true =>
      obtain ⟨x, hx, hx2, hx3, hx4⟩ := HS.out pre t hP.out ht
      have hC := Cut_any t 58 (by omega) wr (hG' _ hb)
      have hcs := cutB_size t 58
      rw [← hx] at hC
      generalize cutB t 58 = u at *
      generalize cutF t 58 = c at *
      have HX2 := Lib.hid hx2
      have HX3 := Lib.hid hx3
      clear hx hx2 hx3
      gi_wp2_with (refine ⟨trivial, ?_⟩; gi_at_call 86; refine (callsIn_wide.2 hC).mono ?_; rintro e w2 ⟨rfl, hb2⟩; obtain ⟨fn, tmps, assign, body, hy, hR⟩ := hY pre x w2 (hJ _ _ _ hJs hb2) hx4)
      refine hR.mono ?_
      have hb3 : Below w0.heap.size w0 w2 := hb.trans (hb2.mono hb.size)
      clear hb2 hb hR hy hC
      rintro e W3 (⟨rfl, hJ3, hk3⟩ | ⟨rfl, hJx3⟩)
      · have hb4 := hb3.trans hk3
        clear hk3 hb3
        gi_wp2
        go_roundw
        case rel => exact ⟨pre ++ [x], u, c, rfl, rfl, by omega, HX2, hJ3, hb4⟩
        case measure =>
          cases c with
          | false => simp [isOn]
          | true => have := HX3.out rfl; simp [isOn, strSz]; omega
      · gi_wp2
        refine bodyPost_ret (results_none rfl _ _ _) rfl ?_
        exact ⟨⟨_, rfl⟩, .inr ⟨pre ++ [x], HP.out _ _ _ HX2.out, hJx3⟩⟩
end Go.Mk
