/-
  Proved: slices.stableCmpFunc and slices.SortStableFunc of up to 40 places sort them in place, where the
  Proved: slices.Values of places yields them in their order, as long as the body asks for
  Proved: slices.AppendSeq and slices.Collect of slices.Values of places make a row of the same places in new
-/
import Derived.Test.YthgkaojplomapaaGreatDoorFpg
import Derived.RangeFuncNested
import Derived.RangeFuncBound
import Derived.RangeFuncCalls
import Derived.RangeFuncLeaves
import Derived.RangeFuncBox
import Derived.RangeFuncFrom
import Derived.Shelf.Abstract
import Derived.WalkKit
import Derived.OwnWalkIn
import Derived.TacticsInMore
import Derived.LoopNIn
import Derived.LoopIn
import Derived.Maps.AppendAt
set_option maxHeartbeats 32000000
section
set_option linter.unusedVariables false
set_option linter.unusedSimpArgs false
open Go Go.Proofs Go.RowKit Go.Sort
set_option maxRecDepth 100000
namespace Go.Mk
theorem symMergeP_ih (F : Int → Plc) {lt : Int → Int → Prop} (ho : Ord lt) (cm : Int → Int → Int) (B g n cap bx : Nat) (hn1 : n ≤ 100000) : ∀ d : Nat, SymIHP F lt cm B g n cap bx d := by
 intro d
 induction d with
 | zero => intro L a m b w hd; omega
 | succ d ih =>
  intro L a m b w hd hr hn h1 h2 hb hC hs1 hs2 hT
  by_cases c1 : m = a + 1
  ·subst c1
   exact symAP_any F ho cm L B g n cap bx a (a + 1) b w hr hn rfl h2 hb hn1 hC hs2 hT
  ·by_cases c2 : b = m + 1
   ·subst c2
    exact symBP_any F ho cm L B g n cap bx a m (m + 1) w hr hn rfl (by omega) hb hn1 hC hs1 hT
   ·exact symCP_any F ho cm L B g n cap bx a m b ((a + b) / 2) w hr hn (by omega) (by omega) rfl hb hn1 hC hs1 hs2 hT (fun L' a' m' b' w' hd' => ih L' a' m' b' w' (by omega))
theorem symP_any (F : Int → Plc) {lt : Int → Int → Prop} (ho : Ord lt) (cm : Int → Int → Int) (L : List Int) (B g n cap bx a m b : Nat) (w : World) (hr : RowP F w B g n cap L) (hn : L.Nodup) (h1 : a < m) (h2 : m < b) (hb : b ≤ n) (hn1 : n ≤ 100000) (hC : CmpP F w g bx cm L)
  (hs1 : Srt lt L a m) (hs2 : Srt lt L m b) (hT : Tst cm lt L a m b) :
  Calls Tryz.prog 259 #[.slice (some ⟨g, 0, none⟩) n cap, .int .i64 (a : Nat), .int .i64 (m : Nat), .int .i64 (b : Nat), cmpP bx] w (SortP F w B g n cap lt L a b) :=
 symMergeP_ih F ho cm B g n cap bx hn1 (b - a + 1) L a m b w (by omega) hr hn h1 h2 hb hC hs1 hs2 hT
theorem stableP_any (F : Int → Plc) {lt : Int → Int → Prop} (ho : Ord lt) (cm : Int → Int → Int) (L : List Int) (B g n cap bx : Nat) (w : World) (hr : RowP F w B g n cap L) (hn : L.Nodup) (hn1 : n ≤ 40) (hC : CmpP F w g bx cm L)
  (hT : ∀ p q, p < q → q < n → (cm (ga L q) (ga L p) < 0 ↔ lt (ga L q) (ga L p))) :
  Calls Tryz.prog 214 #[.slice (some ⟨g, 0, none⟩) n cap, .int .i64 (n : Nat), cmpP bx] w (SortP F w B g n cap lt L 0 n) := by
 have hni : (n : Int) ≤ 40 := by omega
 have hl := hr.1
 have HI : Hid (∀ (M : List Int) (c b : Nat) (w' : World), InsB lt L M c → RowP F w' B g n cap M → w.grownBy w' (some g) → b ≤ n → c ≤ n →
   Calls Tryz.prog 258 #[.slice (some ⟨g, 0, none⟩) n cap, .int .i64 (c : Nat), .int .i64 (b : Nat), cmpP bx] w' (SortP F w' B g n cap lt M c b)) :=
  Lib.hid fun M c b w' h1 h2 h3 h4 h5 => insertP_any F ho cm M B g n cap bx c b w' h2 (h1.perm.perm.nodup_iff.2 hn) h4 (by omega) (by omega) (hC.next h3 h1.perm.perm) (fun p q q1 q2 q3 => h1.ask hT p q q1 q2 (by omega))
 have HM : Hid (∀ (M : List Int) (w' : World) (z : Int), z = (n : Int) → InsB lt L M n → RowP F w' B g n cap M → w.grownBy w' (some g) → 20 < n →
   Calls Tryz.prog 259 #[.slice (some ⟨g, 0, none⟩) n cap, .int .i64 0, .int .i64 20, .int .i64 z, cmpP bx] w' (SortP F w' B g n cap lt M 0 n)) :=
  Lib.hid fun M w' z hz h1 h2 h3 h4 => hz ▸ symP_any F ho cm M B g n cap bx 0 20 n w' h2 (h1.perm.perm.nodup_iff.2 hn) (by omega) h4 (Nat.le_refl _) (by omega) (hC.next h3 h1.perm.perm) (h1.lo (by omega)) (h1.hi hn1) (h1.tst hn1 hT)
 have HL := Lib.hid hl
 have HN := Lib.hid hn
 have HR := Lib.hid hr
 unfold SortP at HI HM ⊢
 unfold cmpP at *
 clear hC hT hn hr hl
 go_enter Tryz.func214, Tryz.ntmps214
 go_wp2
 go_loopw [7, 8] (fun av bv wr => ∃ (c b k : Nat) (M : List Int), av = .int .i64 (c : Nat) ∧ bv = .int .i64 (b : Nat) ∧ c ≤ n ∧ b ≤ 60 ∧ Hid (b = c + 20 ∧ c = 20 * k) ∧ Hid (InsB lt L M c) ∧ Hid (RowP F wr B g n cap M) ∧ Hid (w.grownBy wr (some g))) (fun _ bv _ => 100 - (RowKit.intOf bv).toNat)
 case atStart => exact ⟨0, 20, 0, L, rfl, rfl, by omega, by omega, Lib.hid ⟨by omega, by omega⟩, Lib.hid (InsB.start L), HR, Lib.hid (World.grownBy.refl _ _)⟩
 case round =>
  obtain ⟨c, b, k, M, rfl, rfl, hc, hb60, HBK, HB, HW, HG⟩ := hrel
  by_cases hlt : b ≤ n
  ·have hbi : (b : Int) ≤ (n : Int) := by omega
   have hK := HI.out M c b _ HB.out HW.out HG.out hlt hc
   go_wp2_with fail
   with_reducible refine hK.mono ?_
   rintro e w5 ⟨M', rfl, hp5, hs5, hr5, hg5⟩
   have HD := Lib.hid (And.intro (HB.out.step HN.out k HBK.out.2 (by have := HBK.out.1; omega) (by have := HBK.out.1; omega) (by rw [HL.out]; exact hlt) hp5 hs5) (And.intro hr5 (HG.out.trans hg5)))
   clear hp5 hs5 hr5 hg5 hK
   go_wp2
   go_roundw
   case rel => exact ⟨b, b + 20, k + 1, M', rfl, by go_num, hlt, by have := HBK.out.1; omega, Lib.hid ⟨rfl, by have := HBK.out; omega⟩, Lib.hid HD.out.1, Lib.hid HD.out.2.1, Lib.hid HD.out.2.2⟩
   case measure => simp [RowKit.intOf]; omega
  ·have hbi : ¬ (b : Int) ≤ (n : Int) := by omega
   have hK := HI.out M c n _ HB.out HW.out HG.out (Nat.le_refl _) hc
   go_wp2_with fail
   with_reducible refine hK.mono ?_
   rintro e w5 ⟨M1, rfl, hp5, hs5, hr5, hg5⟩
   have HD := Lib.hid (And.intro (HB.out.step HN.out k HBK.out.2 hc (by have := HBK.out.1; omega) (by rw [HL.out]; exact Nat.le_refl _) hp5 hs5) (And.intro hr5 (HG.out.trans hg5)))
   clear hp5 hs5 hr5 hg5 hK
   go_wp2
   go_loopw [6, 7, 8] (fun sv av bv wr => ∃ (s : Nat) (x y : Int) (M : List Int), sv = .int .i64 (s : Nat) ∧ av = .int .i64 x ∧ bv = .int .i64 y ∧ Hid ((s = 20 ∧ InsB lt L M n) ∨ (s = 40 ∧ PermIn 0 n L M ∧ Srt lt M 0 n)) ∧ Hid (RowP F wr B g n cap M) ∧ Hid (w.grownBy wr (some g))) (fun sv _ _ _ => 100 - (RowKit.intOf sv).toNat)
   case atStart => exact ⟨20, _, _, M1, rfl, rfl, rfl, Lib.hid (.inl ⟨rfl, HD.out.1⟩), Lib.hid HD.out.2.1, Lib.hid HD.out.2.2⟩
   case round =>
    obtain ⟨s, x, y, M2, rfl, rfl, rfl, HS, HW2, HG2⟩ := hrel
    by_cases h40 : s = 40
    ·subst h40
     have hP : PermIn 0 n L M2 ∧ Srt lt M2 0 n := by
      rcases HS.out with ⟨q, _⟩ | ⟨_, q⟩
      ·cases q
      ·exact q
     have HP := Lib.hid hP
     clear hP HS
     go_wp2
     go_end0
     exact ⟨M2, rfl, HP.out.1, HP.out.2, HW2.out, HG2.out⟩
    ·have hS : s = 20 ∧ InsB lt L M2 n := by
      rcases HS.out with q | ⟨q, _⟩
      ·exact q
      ·exact absurd q h40
     obtain ⟨rfl, hS⟩ := hS
     rw [show ((20 : Nat) : Int) = 20 from rfl]
     have HP := Lib.hid hS
     clear hS HS h40
     by_cases h20 : 20 < n
     ·have h20i : (20 : Int) < (n : Int) := by omega
      go_wp2
      go_loopw [7, 8] (fun av bv wr => ∃ (c : Nat) (M : List Int), av = .int .i64 (c : Nat) ∧ bv = .int .i64 ((c + 40 : Nat) : Int) ∧ Hid ((c = 0 ∧ InsB lt L M n) ∨ (c = 40 ∧ n = 40 ∧ PermIn 0 n L M ∧ Srt lt M 0 n)) ∧ Hid (RowP F wr B g n cap M) ∧ Hid (w.grownBy wr (some g))) (fun _ bv _ => 100 - (RowKit.intOf bv).toNat)
      case atStart => exact ⟨0, M2, rfl, rfl, Lib.hid (.inl ⟨rfl, HP.out⟩), HW2, HG2⟩
      case round =>
       obtain ⟨c3, M3, rfl, rfl, HS3, HW3, HG3⟩ := hrel
       by_cases hc3 : c3 = 40
       ·subst hc3
        have hP : n = 40 ∧ PermIn 0 n L M3 ∧ Srt lt M3 0 n := by
         rcases HS3.out with ⟨q, _⟩ | ⟨_, q⟩
         ·cases q
         ·exact q
        have HP3 := Lib.hid hP.2
        have hn40 := hP.1
        have hn40i : (n : Int) = 40 := by omega
        clear hP HS3
        go_wp2
        go_roundw
        case rel => exact ⟨40, _, _, M3, rfl, rfl, rfl, Lib.hid (.inr ⟨rfl, HP3.out⟩), HW3, HG3⟩
        case measure => simp [RowKit.intOf]
       ·have hS : c3 = 0 ∧ InsB lt L M3 n := by
         rcases HS3.out with q | ⟨q, _⟩
         ·exact q
         ·exact absurd q hc3
        obtain ⟨rfl, hS⟩ := hS
        have hK0 := fun z hz => HM.out M3 _ z hz hS HW3.out HG3.out h20
        have HP3 := Lib.hid hS
        clear hS HS3 hc3
        by_cases hn40 : n = 40
        ·have hn40i : (40 : Int) ≤ (n : Int) := by omega
         have hK := hK0 40 (by omega)
         clear hK0
         have HN40 := Lib.hid hn40
         clear hn40
         go_wp2_with fail
         with_reducible refine hK.mono ?_
         rintro e w5 ⟨M', rfl, hp5, hs5, hr5, hg5⟩
         have HD := Lib.hid (And.intro (HP3.out.perm.trans hp5) (And.intro hs5 (And.intro hr5 (HG3.out.trans hg5))))
         clear hp5 hs5 hr5 hg5 hK
         go_wp2
         go_roundw
         case rel => exact ⟨40, M', rfl, rfl, Lib.hid (.inr ⟨rfl, HN40.out, HD.out.1, HD.out.2.1⟩), Lib.hid HD.out.2.2.1, Lib.hid HD.out.2.2.2⟩
         case measure => simp [RowKit.intOf]
        ·have hn40i : ¬ (40 : Int) ≤ (n : Int) := by omega
         have hK := hK0 n rfl
         clear hK0
         go_wp2_with fail
         with_reducible refine hK.mono ?_
         rintro e w5 ⟨M', rfl, hp5, hs5, hr5, hg5⟩
         have HD := Lib.hid (And.intro (HP3.out.perm.trans hp5) (And.intro hs5 (And.intro hr5 (HG3.out.trans hg5))))
         clear hp5 hs5 hr5 hg5 hK
         go_wp2
         go_roundw
         case rel => exact ⟨40, _, _, M', rfl, rfl, rfl, Lib.hid (.inr ⟨rfl, HD.out.1, HD.out.2.1⟩), Lib.hid HD.out.2.2.1, Lib.hid HD.out.2.2.2⟩
         case measure => simp [RowKit.intOf]
     ·have h20i : ¬ (20 : Int) < (n : Int) := by omega
      go_wp2
      go_end0
      exact ⟨rfl, M2, HP.out.perm, HP.out.all (by omega), HW2.out, HG2.out⟩
theorem sortStableP_any (F : Int → Plc) {lt : Int → Int → Prop} (ho : Ord lt) (cm : Int → Int → Int) (L : List Int) (B g n cap bx : Nat) (w : World) (hr : RowP F w B g n cap L) (hn : L.Nodup) (hn1 : n ≤ 40) (hC : CmpP F w g bx cm L)
  (hT : ∀ p q, p < q → q < n → (cm (ga L q) (ga L p) < 0 ↔ lt (ga L q) (ga L p))) :
  Calls Tryz.prog 170 #[.slice (some ⟨g, 0, none⟩) n cap, cmpP bx] w (SortP F w B g n cap lt L 0 n) := by
 have hK := stableP_any F ho cm L B g n cap bx w hr hn hn1 hC hT
 unfold SortP at *
 unfold cmpP at *
 clear hC hT hn hr
 go_enter Tryz.func170, Tryz.ntmps170
 go_wp2_with fail
 with_reducible refine hK.mono ?_
 rintro e w5 ⟨M', rfl, h5⟩
 go_wp2
 go_end0
 exact ⟨M', rfl, h5⟩
end Go.Mk
end
section
set_option linter.unusedVariables false
set_option linter.unusedSimpArgs false
open Go Go.Proofs Go.RowKit Go.Sort Go.Shelf
set_option maxRecDepth 100000
namespace Go.Mk
attribute [local go_sem] Oper.semAt_some
theorem grown_of_belowP {W W' : World} (h : Below W.heap.size W W') : W.grownBy W' none := ⟨h.os, h.tape, h.output, h.size, fun k hk _ => h.block k hk⟩
theorem Cel5.below {w w' : World} {g o K : Nat} {p : Plc} (h : Cel5 w g o p) (hb : Below K w w') (hg : g < K) : Cel5 w' g o p :=
 ⟨(hb.cell (p := ⟨g, o, none⟩) hg).trans h.1, (hb.cell (p := ⟨g, o + 1, none⟩) hg).trans h.2.1, (hb.cell (p := ⟨g, o + 2, none⟩) hg).trans h.2.2.1, (hb.cell (p := ⟨g, o + 3, none⟩) hg).trans h.2.2.2.1, (hb.cell (p := ⟨g, o + 4, none⟩) hg).trans h.2.2.2.2⟩
theorem vals_in (n : Nat) (hn : 1 ≤ n) (l Bs len cap : Nat) (A : Option Addr) (L : List Plc) (hl : L.length = len) (hlen : len ≤ 1000) (w0 : World) (J Jx : List Plc → World → Prop) (hJ : ∀ pre W W', J pre W → Below W.heap.size W W' → J pre W')
  (hY : ∀ pre (x : Plc) W, J pre W → pre.length < len → YieldAt Fence.wide (n - 1) Tryz.prog l #[x.val] W fun e W' => (e = .returned (.bool true) ∧ J (pre ++ [x]) W' ∧ Below w0.heap.size W W') ∨ (e = .returned (.bool false) ∧ Jx (pre ++ [x]) W'))
  (W : World) (hBs : W.cell? ⟨Bs, 0, none⟩ = some (.slice A len cap)) (hW : Below w0.heap.size w0 W) (hc : 0 < len → ∃ b off, A = some ⟨b, off, none⟩ ∧ b < w0.heap.size ∧ ∀ (j : Nat) (p : Plc), L[j]? = some p → Cel5 w0 b (off + j * 5) p) (h0 : J [] W) :
  CallsIn Fence.wide n Tryz.prog 171 #[.func (.yield l) #[] #[], .pointer (some ⟨Bs, 0, none⟩)] W fun e W' => (∃ v, e = .returned v) ∧ ((∃ ys, ys = L ∧ J ys W') ∨ (∃ pre, pre <+: L ∧ Jx pre W')) := by
 have hni : (len : Int) ≤ 1000 := by omega
 have HC := Lib.hid hc
 have HL := Lib.hid hl
 clear hc hl
 refine callsIn_of_wp Tryz.func171 rfl trivial ?_ rfl
 simp only [Tryz.ntmps171, List.size_toArray, List.length_cons, List.length_nil, Nat.reduceAdd, Nat.reduceSub, Array.replicate_succ, Array.replicate_zero, List.push_toArray, List.append_toArray, List.nil_append, List.cons_append]
 gi_wp2
 gi_loopw [7] (fun i wr => ∃ k : Nat, k ≤ len ∧ i = .int .i64 k ∧ J (L.take k) wr ∧ Below w0.heap.size w0 wr) (fun i _ => len - (intOf i).toNat)
 case atStart => exact ⟨0, Nat.zero_le _, rfl, h0, hW⟩
 case round =>
  obtain ⟨k, hk, rfl, hJs, hb⟩ := hrel
  by_cases hlt : k < len
  ·obtain ⟨b, off, rfl, hbw, hcc⟩ := HC.out (by omega)
   have hki : (k : Int) < (len : Int) := by omega
   have hk0 : (0 : Int) ≤ (k : Int) := by omega
   have hkt : ((k : Int)).toNat = k := by omega
   have hlk : k < L.length := by rw [HL.out]; exact hlt
   have hx : L[k]? = some (L[k]'hlk) := List.getElem?_eq_getElem hlk
   generalize L[k]'hlk = x at hx
   have hst : L.take (k + 1) = L.take k ++ [x] := by rw [List.take_add_one, hx]; rfl
   have Hst := Lib.hid hst
   have hpl : (L.take k).length < len := by rw [List.length_take]; omega
   obtain ⟨c0, c1, c2, c3, c4⟩ := (hcc k x hx).below hb hbw
   obtain ⟨p, hp⟩ : ∃ p, wr.heap.size = p := ⟨_, rfl⟩
   obtain ⟨wx, hwx⟩ : ∃ wx, wr.alloc (.cells #[.string x.nm, .int .i64 x.rk, .string x.kd, .int .i64 x.vl, .string x.rs] 61) = wx := ⟨_, rfl⟩
   have hbx : Below w0.heap.size w0 wx := by rw [← hwx]; exact hb.alloc hb.size _
   have hJx : J (L.take k) wx := hJ _ wr wx hJs (by rw [← hwx]; exact balloc _ (Below.refl _ _))
   have x0 : wx.cell? ⟨p, 0, none⟩ = some (.string x.nm) := by rw [← hwx, ← hp]; simp
   have x1 : wx.cell? ⟨p, 1, none⟩ = some (.int .i64 x.rk) := by rw [← hwx, ← hp]; simp
   have x2 : wx.cell? ⟨p, 2, none⟩ = some (.string x.kd) := by rw [← hwx, ← hp]; simp
   have x3 : wx.cell? ⟨p, 3, none⟩ = some (.int .i64 x.vl) := by rw [← hwx, ← hp]; simp
   have x4 : wx.cell? ⟨p, 4, none⟩ = some (.string x.rs) := by rw [← hwx, ← hp]; simp
   obtain ⟨fn, tmps, assign, body, hy, hR⟩ := hY _ x wx hJx hpl
   unfold Plc.val at hy
   clear hx hst hJs hb hJx hcc
   gi_wp2
   refine hR.mono ?_
   have HBX := Lib.hid hbx
   clear hy hR hbx
   rintro e W3 (⟨rfl, hJ3, hk3⟩ | ⟨rfl, hJx3⟩)
   ·gi_wp2
    go_roundw
    case rel => exact ⟨k + 1, by omega, by go_num, by rw [Hst.out]; exact hJ3, HBX.out.trans hk3⟩
    case measure => simp [intOf]; omega
   ·gi_wp2
    refine bodyPost_ret (results_none rfl _ _ _) rfl ?_
    exact ⟨⟨_, rfl⟩, .inr ⟨_, by rw [← Hst.out]; exact List.take_prefix _ _, hJx3⟩⟩
  ·obtain rfl : k = len := by omega
   rw [List.take_of_length_le (by rw [HL.out]; omega)] at hJs
   gi_wp2
   go_end0
   exact ⟨⟨_, rfl⟩, .inl ⟨_, rfl, hJs⟩⟩
end Go.Mk
end
section
set_option linter.unusedVariables false
set_option linter.unusedSimpArgs false
open Go Go.Proofs Go.RowKit Go.Sort Go.Shelf
set_option maxRecDepth 100000
namespace Go.Mk
attribute [local go_sem] Oper.semAt_some
def PlcsZ (w : World) (A : Option Addr) (n : Nat) (L : List Plc) : Prop :=
 L.length = n ∧ (0 < n → ∃ b off, A = some ⟨b, off, none⟩ ∧ b < w.heap.size ∧ ∀ (j : Nat) (p : Plc), L[j]? = some p → Cel5 w b (off + j * 5) p)
theorem PlcsZ.below {w w' : World} {A : Option Addr} {n : Nat} {L : List Plc} (h : PlcsZ w A n L) (hb : Below w.heap.size w w') : PlcsZ w' A n L := by
 refine ⟨h.1, fun h0 => ?_⟩
 obtain ⟨b, off, e, hlt, hc⟩ := h.2 h0
 exact ⟨b, off, e, Nat.lt_of_lt_of_le hlt hb.size, fun j p hp => (hc j p hp).below hb hlt⟩
def OwnPlcs (w : World) (B : Nat) (v : Value) (L : List Plc) : Prop := w.ownsRow B 61 5 v L.length (L.flatMap Plc.cells)
theorem OwnPlcs.next {w1 : World} {B : Nat} {v' : Value} {L : List Plc} {p : Plc} (h : w1.ownsRow B 61 5 v' (L.length + 1) (L.flatMap Plc.cells ++ p.cells)) : OwnPlcs w1 B v' (L ++ [p]) := by
 unfold OwnPlcs
 rw [List.length_append, List.flatMap_append]
 simpa using h
theorem PlcsZ.of_own {w : World} {B : Nat} {v : Value} {L : List Plc} (h : OwnPlcs w B v L) : ∃ A c, v = .slice A L.length c ∧ PlcsZ w A L.length L := by
 rcases h.2 with ⟨a, b⟩ | ⟨g, cap, cur, a, b, c, d, e1, f, hx⟩
 ·exact ⟨none, 0, by rw [a, b], rfl, fun hn => absurd hn (by omega)⟩
 ·refine ⟨_, cap, a, rfl, fun _ => ⟨g, 0, rfl, (Array.getElem?_eq_some_iff.1 c).1, fun j p hp => ?_⟩⟩
  have hj := (List.getElem?_eq_some_iff.1 hp).1
  unfold OwnPlcs at h
  rw [a] at h
  refine ⟨?_, ?_, ?_, ?_, ?_⟩ <;> rw [Nat.zero_add]
  ·rw [World.ownsRow.cellAt h (j * 5) (by omega)]; exact (plc_at _ j _ 0 hp (by decide)).trans rfl
  ·rw [World.ownsRow.cellAt h (j * 5 + 1) (by omega)]; exact (plc_at _ j _ 1 hp (by decide)).trans rfl
  ·rw [World.ownsRow.cellAt h (j * 5 + 2) (by omega)]; exact (plc_at _ j _ 2 hp (by decide)).trans rfl
  ·rw [World.ownsRow.cellAt h (j * 5 + 3) (by omega)]; exact (plc_at _ j _ 3 hp (by decide)).trans rfl
  ·rw [World.ownsRow.cellAt h (j * 5 + 4) (by omega)]; exact (plc_at _ j _ 4 hp (by decide)).trans rfl
theorem infoPlc : (Tryz.prog.info? 61).map (fun i => (i.zero, i.size, i.bytes)) = some (some (.agg #[.string ⟨#[]⟩, .int .i64 0, .string ⟨#[]⟩, .int .i64 0, .string ⟨#[]⟩]), 5, 64) := by kernel_rfl
theorem slValuesP_any (A : Option Addr) (n c : Nat) (w : World) : Calls Tryz.prog 106 #[.slice A n c] w fun e w' => e = .returned (.func (.func 171) #[] #[.pointer (some ⟨w.heap.size, 0, none⟩)]) ∧ w' = w.alloc (.cells #[.slice A n c] 29) := by
 go_enter Tryz.func106, Tryz.ntmps106
 go_wp2
 go_ret
 exact ⟨rfl, rfl⟩
theorem vals_stops (n : Nat) (hn : 1 ≤ n) (Bs len cap : Nat) (A : Option Addr) (L : List Plc) (hlen : len ≤ 1000) (w0 w : World) (hZ : PlcsZ w0 A len L) (hW : Below w0.heap.size w0 w) (hlt : Bs < w.heap.size) (hBs : w.cell? ⟨Bs, 0, none⟩ = some (.slice A len cap)) :
  SeqStopsK Fence.wide n Tryz.prog 171 #[.pointer (some ⟨Bs, 0, none⟩)] (fun x : Plc => #[x.val]) (Below w0.heap.size) (fun ys => ys = L) (fun pre => pre <+: L) len w :=
 fun l J Jx W hWW hJ _ hY h0 => vals_in n hn l Bs len cap A L hZ.1 hlen w0 J Jx (fun pre A B hA hb => hJ pre A B none hA (grown_of_belowP hb) (fun r e => by cases e)) hY W ((hWW.cell (p := ⟨Bs, 0, none⟩) hlt).trans hBs) (hW.trans (hWW.mono hW.size)) hZ.2 h0
def PI (w : World) (pre : List Plc) (W : World) : Prop :=
 (∃ v, Boxed W w.heap.size 29 v ∧ W.ownsRow w.heap.size 61 5 v pre.length (pre.flatMap Plc.cells) ∧ True) ∧ Below w.heap.size w W
theorem PI.own (w : World) (B : Nat) (hB : w.heap.size ≤ B) : OwnFrom B (PI w) :=
 OwnFrom.and (Own.from (holdsRow_own w.heap.size w.heap.size 29 61 5 (fun (pre : List Plc) => pre.length) (fun (pre : List Plc) => pre.flatMap Plc.cells) (fun _ _ => True)) _) (ownFrom_below (Nat.le_refl _) hB)
def BoxP (W : World) (B : Nat) (x : Plc) : Prop := W.heap[B]? = some (.cells #[.string x.nm, .int .i64 x.rk, .string x.kd, .int .i64 x.vl, .string x.rs] 61 (0, 0))
theorem BoxP.own (x : Plc) (B : Nat) : Own (fun (_ : Unit) W => BoxP W B x) := fun s X Y row hs hg hrow =>
 (hg.block B (Array.getElem?_eq_some_iff.1 hs).1 (fun e' => by obtain ⟨o, ho, hc⟩ := hrow B e'.symm; rw [show X.heap[B]? = _ from hs] at ho; cases ho; cases hc)).trans hs
theorem appSeqP_any (Bs len cap : Nat) (A : Option Addr) (L : List Plc) (hlen : len ≤ 1000) (w : World) (hZ : PlcsZ w A len L) (hlt : Bs < w.heap.size) (hBs : w.cell? ⟨Bs, 0, none⟩ = some (.slice A len cap)) :
  Calls Tryz.prog 213 #[.slice none 0 0, .func (.func 171) #[] #[.pointer (some ⟨Bs, 0, none⟩)]] w (fun e w' => ∃ v, e = .returned v ∧ OwnPlcs w' w.heap.size v L ∧ Below w.heap.size w w') := by
 obtain ⟨i0, hi, hz0, hz1, hz2⟩ := info_parts infoPlc
 refine (callsIn_wide (n := 3)).1 ?_
 refine callsIn_of_wp_marks Tryz.func213 rfl trivial ?_ rfl
 simp only [Tryz.ntmps213, List.size_toArray, List.length_cons, List.length_nil, Nat.reduceAdd, Nat.reduceSub, Array.replicate_succ, Array.replicate_zero, List.push_toArray, List.append_toArray, List.nil_append, List.cons_append]
 gi_wp2
 have b0 := Boxed.new w 29 (.slice none 0 0)
 have hB0 : Below w.heap.size w (w.alloc (.cells #[.slice none 0 0] 29)) := (Below.refl _ w).alloc (Nat.le_refl _) _
 have hBs' : (w.alloc (.cells #[.slice none 0 0] 29)).cell? ⟨Bs, 0, none⟩ = some (.slice A len cap) := (hB0.cell (p := ⟨Bs, 0, none⟩) hlt).trans hBs
 have hsz : (w.alloc (.cells #[.slice none 0 0] 29)).heap.size = w.heap.size + 1 := by simp
 obtain ⟨W0, hW0⟩ : ∃ W0, w.alloc (.cells #[.slice none 0 0] 29) = W0 := ⟨_, rfl⟩
 rw [hW0] at b0 hB0 hBs' hsz ⊢
 clear hW0
 refine wpIn_rangeFunc_ownH rfl (by omega) (gf := 171) (lb := #[.pointer (some ⟨Bs, 0, none⟩)]) rfl trivial (enters_of Tryz.func171 (by kernel_rfl) rfl)
  (vals_stops _ (by omega) Bs len cap A L hlen w W0 hZ hB0 (by omega) hBs') belowK_t (belowK_b (by omega)) (Below.refl _ _) (fun _ => rfl)
  (PI w) (fun _ _ _ => False) (PI.own w _ (by omega)) (fun _ _ _ _ _ hs _ _ => hs)
  ⟨⟨_, b0, World.ownsRow_nil _ _ _ _, trivial⟩, hB0⟩
  (fun x a' W => ∃ Bx, w.heap.size < Bx ∧ BoxP W Bx x ∧ a' = { tmps := #[.slice none 0 0, .func (.func 171) #[] #[.pointer (some ⟨Bs, 0, none⟩)], .pointer (some ⟨w.heap.size, 0, none⟩), undef, .slice none 0 0, .pointer (some ⟨Bx, 0, none⟩), .func (.func 171) #[] #[.pointer (some ⟨Bs, 0, none⟩)], x.val, undef, undef, undef, undef, undef], defers := [] })
  (fun x a' _ X Y row hs hg hr => by obtain ⟨Bx, h1, h2, h3⟩ := hs; exact ⟨Bx, h1, BoxP.own x Bx () X Y row h2 hg (fun r e => (hr r e).2), h3⟩)
  ?assign ?body ?done ?stop
 case assign =>
  rintro l pre x W K ⟨⟨v, hv, hrow, _⟩, hB⟩ hK
  have hvl := hv.lt
  unfold Plc.val at *
  gi_wp2
  refine hK _ _ ((KeepsOthers.alloc _ _).from _) ((Below.refl _ W).alloc hB.size _) ⟨⟨v, hv.alloc _, hrow.alloc _, trivial⟩, hB.alloc hB.size _⟩ ⟨W.heap.size, hvl, ?_, rfl⟩
  exact World.alloc_heap_new W _
 case body =>
  rintro l pre x a' W hl ⟨r, hr⟩ ⟨⟨v, hv, hrow, _⟩, hB⟩ ⟨Bx, hBx, bX, rfl⟩ hlt2
  have hc := hv.cell
  have x0 : W.cell? ⟨Bx, 0, none⟩ = some (.string x.nm) := by simp [World.cell?, show W.heap[Bx]? = _ from bX]
  have x1 : W.cell? ⟨Bx, 1, none⟩ = some (.int .i64 x.rk) := by simp [World.cell?, show W.heap[Bx]? = _ from bX]
  have x2 : W.cell? ⟨Bx, 2, none⟩ = some (.string x.kd) := by simp [World.cell?, show W.heap[Bx]? = _ from bX]
  have x3 : W.cell? ⟨Bx, 3, none⟩ = some (.int .i64 x.vl) := by simp [World.cell?, show W.heap[Bx]? = _ from bX]
  have x4 : W.cell? ⟨Bx, 4, none⟩ = some (.string x.rs) := by simp [World.cell?, show W.heap[Bx]? = _ from bX]
  unfold Plc.val at *
  gi_wp2_with (gi_at_builtin; refine wpListIn_append_own _ rfl _ _ 29 rfl w.heap.size 61 i0 (.agg #[.string ⟨#[]⟩, .int .i64 0, .string ⟨#[]⟩, .int .i64 0, .string ⟨#[]⟩]) 5 64 Tryz.underlying29 hi hz0 hz1 hz2 rfl (by decide) _ _ _ rfl (hrow.alloc _) ⟨W.heap.size, 0, none⟩ 1 1 x.cells rfl rfl ?c1 ?c2 (by unfold maxLen; omega) (by omega) (by have := hB.size; simp; omega) ?c3)
  case c1 =>
   intro j u hj
   match j, hj with
   | 0, hj => simp [Plc.cells] at hj; subst hj; simp [Addr.add]
   | 1, hj => simp [Plc.cells] at hj; subst hj; simp [Addr.add]
   | 2, hj => simp [Plc.cells] at hj; subst hj; simp [Addr.add]
   | 3, hj => simp [Plc.cells] at hj; subst hj; simp [Addr.add]
   | 4, hj => simp [Plc.cells] at hj; subst hj; simp [Addr.add]
  case c2 => intro u hu; simp [Plc.cells] at hu; rcases hu with rfl | rfl | rfl | rfl | rfl <;> rfl
  case c3 =>
   intro v' w1 hown' hgrow _
   obtain ⟨g', cap', rfl⟩ := ownsRow_succ hown'
   obtain ⟨hv1, hv2, hr2, hk2, hb2⟩ := hv.appended (by decide) hrow hB.size (Nat.le_refl _) hown' hgrow
   have hc1 := hv1.cell
   have hf1 := hv1.frozen
   gi_wp2
   refine ⟨hk2.from _, hb2, ⟨⟨_, hv2, ?_, trivial⟩, hB.trans hb2⟩⟩
   rw [List.length_append, List.flatMap_append]
   simpa using hr2
 case done =>
  rintro D ys W hD rfl ⟨⟨v, hv, hrow, _⟩, hB⟩ hK
  have hc := hv.cell
  obtain ⟨A', c', rfl⟩ : ∃ A' c', v = .slice A' ys.length c' := by
   rcases Joins.ownsRow_forms hrow with ⟨h, h0⟩ | ⟨g, cap, h⟩
   ·exact ⟨none, 0, by rw [h, h0]⟩
   ·exact ⟨_, _, h⟩
  gi_wp2
  refine ⟨by simp, .inl ⟨_, _, rfl, run_takeDeferred hK, ?_⟩⟩
  refine ⟨_, results_tmp rfl _ _ _, _, rfl, ?_, hB.trans (belowK_b (w := w) (Nat.le_refl _) W D _ _ (by omega) hK rfl rfl)⟩
  exact ownsRow_putObj hrow _ hK rfl
 case stop =>
  rintro D c pre W _ _ h _
  exact h.elim
theorem collectP_any (Bs len cap : Nat) (A : Option Addr) (L : List Plc) (hlen : len ≤ 1000) (w : World) (hZ : PlcsZ w A len L) (hlt : Bs < w.heap.size) (hBs : w.cell? ⟨Bs, 0, none⟩ = some (.slice A len cap)) :
  Calls Tryz.prog 169 #[.func (.func 171) #[] #[.pointer (some ⟨Bs, 0, none⟩)]] w (fun e w' => ∃ v, e = .returned v ∧ OwnPlcs w' w.heap.size v L ∧ Below w.heap.size w w') := by
 have hK := appSeqP_any Bs len cap A L hlen w hZ hlt hBs
 clear hZ hBs
 go_enter Tryz.func169, Tryz.ntmps169
 go_wp2_with fail
 refine hK.mono ?_
 rintro e w2 ⟨v, rfl, ho, hb⟩
 go_wp2
 go_ret
 exact ⟨_, rfl, ho, hb⟩
end Go.Mk
end
