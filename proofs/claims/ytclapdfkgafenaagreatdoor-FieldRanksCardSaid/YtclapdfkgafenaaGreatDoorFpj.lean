/-
  Proved: slices.Values of places yields them in their order, as long as the body asks for more. Conditions: there are at most 1,000 places, in cells that lie where the slice says.
-/
import Derived.Test.YtclapdfkgafenaaGreatDoorFph
import Derived.RangeFuncNested
import Derived.RangeFuncBound
import Derived.RangeFuncCalls
import Derived.RangeFuncLeaves
import Derived.RangeFuncBox
import Derived.RangeFuncFrom
import Derived.Shelf.Abstract
import Derived.WalkKit
import Derived.OwnWalkIn
import Derived.TacticsInMore
import Derived.LoopNIn
import Derived.LoopIn
import Derived.Maps.AppendAt
set_option linter.unusedVariables false
set_option linter.unusedSimpArgs false
open Go Go.Proofs Go.RowKit Go.Sort Go.Shelf
set_option maxRecDepth 100000
namespace Go.Mk
attribute [local go_sem] Oper.semAt_some
theorem grown_of_belowP {W W' : World} (h : Below W.heap.size W W') : W.grownBy W' none := ⟨h.os, h.tape, h.output, h.size, fun k hk _ => h.block k hk⟩
theorem Cel5.below {w w' : World} {g o K : Nat} {p : Plc} (h : Cel5 w g o p) (hb : Below K w w') (hg : g < K) : Cel5 w' g o p :=
  ⟨(hb.cell (p := ⟨g, o, none⟩) hg).trans h.1, (hb.cell (p := ⟨g, o + 1, none⟩) hg).trans h.2.1, (hb.cell (p := ⟨g, o + 2, none⟩) hg).trans h.2.2.1, (hb.cell (p := ⟨g, o + 3, none⟩) hg).trans h.2.2.2.1, (hb.cell (p := ⟨g, o + 4, none⟩) hg).trans h.2.2.2.2⟩
set_option maxHeartbeats 2000000 in
theorem vals_in (n : Nat) (hn : 1 ≤ n) (l Bs len cap : Nat) (A : Option Addr) (L : List Plc) (hl : L.length = len) (hlen : len ≤ 1000) (w0 : World) (J Jx : List Plc → World → Prop) (hJ : ∀ pre W W', J pre W → Below W.heap.size W W' → J pre W')
    (hY : ∀ pre (x : Plc) W, J pre W → pre.length < len → YieldAt Fence.wide (n - 1) Tryz.prog l #[x.val] W fun e W' => (e = .returned (.bool true) ∧ J (pre ++ [x]) W' ∧ Below w0.heap.size W W') ∨ (e = .returned (.bool false) ∧ Jx (pre ++ [x]) W'))
    (W : World) (hBs : W.cell? ⟨Bs, 0, none⟩ = some (.slice A len cap)) (hW : Below w0.heap.size w0 W) (hc : 0 < len → ∃ b off, A = some ⟨b, off, none⟩ ∧ b < w0.heap.size ∧ ∀ (j : Nat) (p : Plc), L[j]? = some p → Cel5 w0 b (off + j * 5) p) (h0 : J [] W) :
    CallsIn Fence.wide n Tryz.prog 163 #[.func (.yield l) #[] #[], .pointer (some ⟨Bs, 0, none⟩)] W fun e W' => (∃ v, e = .returned v) ∧ ((∃ ys, ys = L ∧ J ys W') ∨ (∃ pre, pre <+: L ∧ Jx pre W')) := by
  have hni : (len : Int) ≤ 1000 := by omega
  have HC := Lib.hid hc
  have HL := Lib.hid hl
  clear hc hl
  refine callsIn_of_wp Tryz.func163 rfl trivial ?_ rfl
  simp only [Tryz.ntmps163, List.size_toArray, List.length_cons, List.length_nil, Nat.reduceAdd, Nat.reduceSub, Array.replicate_succ, Array.replicate_zero, List.push_toArray, List.append_toArray, List.nil_append, List.cons_append]
  gi_wp2
  gi_loopw [7] (fun i wr => ∃ k : Nat, k ≤ len ∧ i = .int .i64 k ∧ J (L.take k) wr ∧ Below w0.heap.size w0 wr) (fun i _ => len - (intOf i).toNat)
  case atStart => exact ⟨0, Nat.zero_le _, rfl, h0, hW⟩
  case round =>
    obtain ⟨k, hk, rfl, hJs, hb⟩ := hrel
    by_cases hlt : k < len
    · obtain ⟨b, off, rfl, hbw, hcc⟩ := HC.out (by omega)
      have hki : (k : Int) < (len : Int) := by omega
      have hk0 : (0 : Int) ≤ (k : Int) := by omega
      have hkt : ((k : Int)).toNat = k := by omega
      have hlk : k < L.length := by rw [HL.out]; exact hlt
      have hx : L[k]? = some (L[k]'hlk) := List.getElem?_eq_getElem hlk
      generalize L[k]'hlk = x at hx
      have hst : L.take (k + 1) = L.take k ++ [x] := by rw [List.take_add_one, hx]; rfl
      have Hst := Lib.hid hst
      have hpl : (L.take k).length < len := by rw [List.length_take]; omega
      obtain ⟨c0, c1, c2, c3, c4⟩ := (hcc k x hx).below hb hbw
      obtain ⟨p, hp⟩ : ∃ p, wr.heap.size = p := ⟨_, rfl⟩
      obtain ⟨wx, hwx⟩ : ∃ wx, wr.alloc (.cells #[.string x.nm, .int .i64 x.rk, .string x.kd, .int .i64 x.vl, .string x.rs] 63) = wx := ⟨_, rfl⟩
      have hbx : Below w0.heap.size w0 wx := by rw [← hwx]; exact hb.alloc hb.size _
      have hJx : J (L.take k) wx := hJ _ wr wx hJs (by rw [← hwx]; exact balloc _ (Below.refl _ _))
      have x0 : wx.cell? ⟨p, 0, none⟩ = some (.string x.nm) := by rw [← hwx, ← hp]; simp
      have x1 : wx.cell? ⟨p, 1, none⟩ = some (.int .i64 x.rk) := by rw [← hwx, ← hp]; simp
      have x2 : wx.cell? ⟨p, 2, none⟩ = some (.string x.kd) := by rw [← hwx, ← hp]; simp
      have x3 : wx.cell? ⟨p, 3, none⟩ = some (.int .i64 x.vl) := by rw [← hwx, ← hp]; simp
      have x4 : wx.cell? ⟨p, 4, none⟩ = some (.string x.rs) := by rw [← hwx, ← hp]; simp
      obtain ⟨fn, tmps, assign, body, hy, hR⟩ := hY _ x wx hJx hpl
      unfold Plc.val at hy
      clear hx hst hJs hb hJx hcc
      gi_wp2
      refine hR.mono ?_
      have HBX := Lib.hid hbx
      clear hy hR hbx
      rintro e W3 (⟨rfl, hJ3, hk3⟩ | ⟨rfl, hJx3⟩)
      · gi_wp2
        go_roundw
        case rel => exact ⟨k + 1, by omega, by go_num, by rw [Hst.out]; exact hJ3, HBX.out.trans hk3⟩
        case measure => simp [intOf]; omega
      · gi_wp2
        refine bodyPost_ret (results_none rfl _ _ _) rfl ?_
        exact ⟨⟨_, rfl⟩, .inr ⟨_, by rw [← Hst.out]; exact List.take_prefix _ _, hJx3⟩⟩
    · obtain rfl : k = len := by omega
      rw [List.take_of_length_le (by rw [HL.out]; omega)] at hJs
      gi_wp2
      go_end0
      exact ⟨⟨_, rfl⟩, .inl ⟨_, rfl, hJs⟩⟩
end Go.Mk
