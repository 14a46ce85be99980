/-
  Proved: what seed.all returns at heats of runners yields their runners with the numbers of their heats, in their order. Conditions: the runners lie where the slices say; there are at most 100 heats, each at most 1,000 long.
  Proved: seed.whoAdvances returns a new map that holds just the names of those who advance. Conditions: the runners lie where the slices say; at most 20 heats, each at most 170 long, at most 1,000 runners.
  Proved: seed.copyOf returns new heats with the same runners. Conditions: the runners lie where the slices say; at most 20 heats, each at most 1,000 long, at most 10,000 runners.
  Proved: a region that draws its order, in a round of a range over a function, by the calculus of regions outside. Condition: no operation of the region defers.
-/
import Derived.Test.YtkjolejppnogiaaGreatDoorGf
import Derived.RangeFuncNested
import Derived.RangeFuncBound
import Derived.RangeFuncCalls
import Derived.RangeFuncLeaves
import Derived.RangeFuncBox
import Derived.Shelf.Abstract
import Derived.WalkKit
import Derived.OwnWalkIn
import Derived.TacticsInMore
import Derived.LoopNIn
import Derived.LoopIn
import Derived.Maps.OwnIn
import Derived.Maps.AppendAt
import Derived.Deep.AppendLies
import Derived.OrdersHeld
import Derived.Lib.Hide
import Derived.Deep.RegionHeld3
section
set_option linter.unusedVariables false
set_option linter.unusedSimpArgs false
open Go Go.Proofs Go.RowKit Go.Sort Go.Shelf
set_option maxRecDepth 100000
namespace Go.Mk
attribute [local go_sem] Oper.semAt_some
/-- A runner, with the number of a heat of so many. -/
abbrev HRun (N : Nat) := { q : Nat × Run // q.1 < N ∧ q.2.ok }
/-- The runners of heats, each with the number of the heat. -/
def prs : Nat → List (List Run) → List (Nat × Run)
  | _, [] => []
  | i, l :: LL => l.map (fun x => (i, x)) ++ prs (i + 1) LL
theorem prs_append (i : Nat) (L M : List (List Run)) : prs i (L ++ M) = prs i L ++ prs (i + L.length) M := by
  induction L generalizing i with
  | nil => simp [prs]
  | cons l L ih => rw [List.cons_append, prs, ih, prs, List.length_cons, List.append_assoc, show i + 1 + L.length = i + (L.length + 1) from by omega]
theorem prs_take {LL : List (List Run)} {k : Nat} {l : List Run} (h : LL[k]? = some l) : prs 0 (LL.take (k + 1)) = prs 0 (LL.take k) ++ l.map (fun x => (k, x)) := by
  have hk := (List.getElem?_eq_some_iff.1 h).1
  rw [List.take_add_one, h, Option.toList_some, prs_append, Nat.zero_add, List.length_take, Nat.min_eq_left (by omega), prs, prs, List.append_nil]
theorem prs_len (i : Nat) (LL : List (List Run)) : (prs i LL).length = LL.flatten.length := by
  induction LL generalizing i with
  | nil => rfl
  | cons l L ih => rw [prs, List.length_append, List.length_map, ih, List.flatten_cons, List.length_append]
theorem prs_snd (i : Nat) (LL : List (List Run)) : (prs i LL).map (·.2) = LL.flatten := by
  induction LL generalizing i with
  | nil => rfl
  | cons l L ih => rw [prs, List.map_append, ih, List.flatten_cons, List.map_map]; congr 1; exact List.map_id _
theorem prs_lt {LL : List (List Run)} {k : Nat} {l : List Run} {j : Nat} {x : Run} (h : LL[k]? = some l) (hx : l[j]? = some x) : (prs 0 (LL.take k)).length + j < LL.flatten.length := by
  have h1 := prs_take h
  have h2 : (prs 0 (LL.take (k + 1))).length ≤ (prs 0 LL).length := by
    have := prs_append 0 (LL.take (k + 1)) (LL.drop (k + 1))
    rw [List.take_append_drop] at this
    rw [this, List.length_append]; omega
  rw [prs_len 0 LL] at h2
  rw [h1, List.length_append, List.length_map] at h2
  have := (List.getElem?_eq_some_iff.1 hx).1
  omega
/-- Given, what is the next one? -/
theorem prs_next {LL : List (List Run)} {k : Nat} {l : List Run} {j : Nat} {x : Run} {P : List (Nat × Run)} (hx : l[j]? = some x) (hP : P = prs 0 (LL.take k) ++ (l.take j).map (fun x => (k, x))) : P ++ [(k, x)] = prs 0 (LL.take k) ++ (l.take (j + 1)).map (fun x => (k, x)) := by
  rw [hP, List.take_add_one, hx, Option.toList_some, List.map_append, List.append_assoc]
  rfl
/-- Below a bound all but one block is as it was. -/
def Kx (n₀ M : Nat) (W W' : World) : Prop := W.heap.size ≤ W'.heap.size ∧ ∀ k, k < n₀ → k ≠ M → W'.heap[k]? = W.heap[k]?
theorem Kx.refl (n₀ M : Nat) (W : World) : Kx n₀ M W W := ⟨Nat.le_refl _, fun _ _ _ => rfl⟩
theorem Kx.trans {n₀ M : Nat} {A B C : World} (h : Kx n₀ M A B) (k : Kx n₀ M B C) : Kx n₀ M A C := ⟨Nat.le_trans h.1 k.1, fun i h1 h2 => (k.2 i h1 h2).trans (h.2 i h1 h2)⟩
theorem Kx.of_below {n₀ M : Nat} {A B : World} (h : Below n₀ A B) : Kx n₀ M A B := ⟨h.size, fun k hk _ => h.block k hk⟩
theorem Kx.alloc {n₀ M : Nat} {A B : World} (h : Kx n₀ M A B) (hn : n₀ ≤ A.heap.size) (o : Obj) : Kx n₀ M A (B.alloc o) := h.trans (Kx.of_below ((Below.refl _ _).alloc (Nat.le_trans hn h.1) o))
theorem Kx.cell {n₀ M : Nat} {A B : World} (h : Kx n₀ M A B) {p : Addr} (hp : p.block < n₀) (hm : p.block ≠ M) : B.cell? p = A.cell? p := World.cell?_of_block (h.2 p.block hp hm)
/-- The heats of runners lie in the cells of slices, none of them in the block M. -/
def RHx (w : World) (n₀ M : Nat) (A : Option Addr) (n : Nat) (LL : List (List Run)) (b off : Nat) (Af : Nat → Option Addr) (cf : Nat → Nat) : Prop :=
  LL.length = n ∧ n₀ ≤ w.heap.size ∧ (0 < n → A = some ⟨b, off, none⟩ ∧ b < n₀ ∧ b ≠ M) ∧ ∀ (i : Nat) (l : List Run), LL[i]? = some l →
    w.cell? ⟨b, off + i, none⟩ = some (.slice (Af i) l.length (cf i)) ∧ Runs w n₀ (Af i) l.length l ∧ (0 < l.length → ∀ a, Af i = some a → a.block ≠ M)
theorem RHx.kept {w w' : World} {n₀ M n b off : Nat} {A : Option Addr} {LL : List (List Run)} {Af : Nat → Option Addr} {cf : Nat → Nat} (h : RHx w n₀ M A n LL b off Af cf) (hk : Kx n₀ M w w') : RHx w' n₀ M A n LL b off Af cf := by
  obtain ⟨h1, h2, h3, h4⟩ := h
  refine ⟨h1, Nat.le_trans h2 hk.1, h3, fun i l hl => ?_⟩
  obtain ⟨q1, q2, q3⟩ := h4 i l hl
  have hn : 0 < n := by rw [← h1]; exact Nat.lt_of_le_of_lt (Nat.zero_le _) (List.getElem?_eq_some_iff.1 hl).1
  obtain ⟨_, hb, hm⟩ := h3 hn
  refine ⟨(hk.cell (p := ⟨b, _, none⟩) hb hm).trans q1, ⟨q2.1, Nat.le_trans q2.2.1 hk.1, fun h0 => ?_⟩, q3⟩
  obtain ⟨b', off', e, hlt, hc⟩ := q2.2.2 h0
  have hm' : b' ≠ M := q3 h0 _ e
  refine ⟨b', off', e, hlt, fun j x hx => ?_⟩
  obtain ⟨c0, c1, c2, c3⟩ := hc j x hx
  exact ⟨(hk.cell (p := ⟨b', _, none⟩) hlt hm').trans c0, (hk.cell (p := ⟨b', _, none⟩) hlt hm').trans c1, (hk.cell (p := ⟨b', _, none⟩) hlt hm').trans c2, (hk.cell (p := ⟨b', _, none⟩) hlt hm').trans c3⟩
theorem RHx.of {w : World} {n₀ n : Nat} {A : Option Addr} {LL : List (List Run)} (h : RHeats w n₀ A n LL) : ∃ b off Af cf, RHx w n₀ n₀ A n LL b off Af cf := by
  by_cases h0 : 0 < n
  · obtain ⟨b, off, e, hlt, hc⟩ := h.2.2 h0
    have hex : ∀ i, ∃ q : Option Addr × Nat, ∀ l, LL[i]? = some l → w.cell? ⟨b, off + i, none⟩ = some (.slice q.1 l.length q.2) ∧ Runs w n₀ q.1 l.length l := fun i => by
      cases hi : LL[i]? with
      | none => exact ⟨(none, 0), fun l hl => by cases hl⟩
      | some l =>
        obtain ⟨A', c', h1, h2⟩ := hc i l hi
        exact ⟨(A', c'), fun l' hl => by cases hl; exact ⟨h1, h2⟩⟩
    refine ⟨b, off, fun i => (Classical.choose (hex i)).1, fun i => (Classical.choose (hex i)).2, h.1, h.2.1, fun _ => ⟨e, hlt, by omega⟩, fun i l hl => ?_⟩
    obtain ⟨h1, h2⟩ := Classical.choose_spec (hex i) l hl
    refine ⟨h1, h2, fun hp a ha => ?_⟩
    obtain ⟨b', off', e', hlt', _⟩ := h2.2.2 hp
    cases (ha.symm.trans e' : some a = some ⟨b', off', none⟩)
    show b' ≠ n₀
    omega
  · refine ⟨0, 0, fun _ => none, fun _ => 0, h.1, h.2.1, fun q => absurd q h0, fun i l hl => ?_⟩
    have := (List.getElem?_eq_some_iff.1 hl).1
    rw [h.1] at this
    omega
set_option maxHeartbeats 4000000 in
theorem all1_in (n : Nat) (hn : 1 ≤ n) (l Bn N n₀ M cap b off : Nat) (A : Option Addr) (LL : List (List Run)) (Af : Nat → Option Addr) (cf : Nat → Nat) (hN : N ≤ 100) (hs : ∀ q ∈ LL, q.length ≤ 1000 ∧ ∀ x ∈ q, x.ok) (J Jx : List (HRun N) → World → Prop) (hJ : ∀ pre W W', J pre W → Below W.heap.size W W' → J pre W')
    (hY : ∀ pre (x : HRun N) W, J pre W → pre.length < LL.flatten.length → YieldAt Fence.wide (n - 1) Tryz.prog l #[.int .i64 x.1.1, x.1.2.agg] W fun e W' => (e = .returned (.bool true) ∧ J (pre ++ [x]) W' ∧ Kx n₀ M W W') ∨ (e = .returned (.bool false) ∧ Jx (pre ++ [x]) W'))
    (W : World) (hBn : W.cell? ⟨Bn, 0, none⟩ = some (.slice A N cap)) (hL : RHx W n₀ M A N LL b off Af cf) (h0 : J [] W) :
    CallsIn Fence.wide n Tryz.prog 121 #[.func (.yield l) #[] #[], .pointer (some ⟨Bn, 0, none⟩)] W fun e W' => (∃ v, e = .returned v) ∧ ((∃ ys : List (HRun N), ys.map (·.1) = prs 0 LL ∧ J ys W') ∨ (∃ pre, True ∧ Jx pre W')) := by
  have HM : Hid (∀ w', Kx n₀ M W w' → RHx w' n₀ M A N LL b off Af cf) := fun w' hb => hL.kept hb
  have Hlen : Hid (LL.length = N) := hL.1
  have HS := Lib.hid hs
  have hNi : (N : Int) ≤ 100 := by omega
  have hnW := hL.2.1
  clear hL hs
  refine callsIn_of_wp Tryz.func121 rfl trivial ?_ rfl
  simp only [Tryz.ntmps121, List.size_toArray, List.length_cons, List.length_nil, Nat.reduceAdd, Nat.reduceSub, Array.replicate_succ, Array.replicate_zero, List.push_toArray, List.append_toArray, List.nil_append, List.cons_append]
  gi_wp2
  gi_loopw [9] (fun i wr => ∃ (k : Nat) (pre : List (HRun N)), k ≤ N ∧ i = .int .i64 k ∧ Hid (pre.map (·.1) = prs 0 (LL.take k)) ∧ J pre wr ∧ Kx n₀ M W wr) (fun i _ => N - (RowKit.intOf i).toNat)
  case atStart => exact ⟨0, [], by omega, rfl, Lib.hid rfl, h0, Kx.refl _ _ _⟩
  case round =>
    obtain ⟨k, pre, hk, rfl, hP, hJs, hb⟩ := hrel
    by_cases hlt : k < N
    · obtain ⟨hll, _, hAe, hcs⟩ := HM.out _ hb
      obtain ⟨rfl, hbl, hbm⟩ := hAe (by omega)
      have hkl : k < LL.length := by rw [hll]; exact hlt
      obtain ⟨q, hL⟩ : ∃ q, LL[k]? = some q := ⟨LL[k], List.getElem?_eq_getElem hkl⟩
      obtain ⟨hc, hZl, hZm⟩ := hcs k q hL
      obtain ⟨A', hA'⟩ : ∃ A', Af k = A' := ⟨_, rfl⟩
      obtain ⟨c', hc'⟩ : ∃ c', cf k = c' := ⟨_, rfl⟩
      rw [hA'] at hZl hZm hc
      rw [hc'] at hc
      clear hcs hAe hll hkl
      have hqs := HS.out q (List.mem_of_getElem? hL)
      have HL := Lib.hid hL
      have hki : (k : Int) < (N : Int) := by omega
      obtain ⟨m, hm⟩ : ∃ m, q.length = m := ⟨_, rfl⟩
      rw [hm] at hc hqs
      have Hm := Lib.hid hm
      have HOK := Lib.hid hqs.2
      have hmi : (m : Int) ≤ 1000 := by omega
      have HP : Hid (pre.map (·.1) = prs 0 (LL.take k) ++ (q.take 0).map (fun x => (k, x))) := (show _ = _ by rw [hP.out]; simp)
      obtain ⟨wy, hwy⟩ : ∃ wy : World, wy = wr := ⟨_, rfl⟩
      have HZL : Hid (∀ w', Kx n₀ M wy w' → Runs w' n₀ A' m q) := fun w' hb' => by rw [← hm, ← hA']; rw [hwy] at hb'; exact ((HM.out _ (hb.trans hb')).2.2.2 k q hL).2.1
      have HB : Hid (Kx n₀ M W wy) := (show Kx _ _ _ _ by rw [hwy]; exact hb)
      have hn2 : n₀ ≤ wy.heap.size := by rw [hwy]; have := hb.1; omega
      clear hL hZl hZm hm hqs hP hb hA' hc'
      gi_wp2
      gi_loopw [16] (fun i wx => ∃ (j : Nat) (pre : List (HRun N)), j ≤ m ∧ i = .int .i64 j ∧ Hid (pre.map (·.1) = prs 0 (LL.take k) ++ (q.take j).map (fun x => (k, x))) ∧ J pre wx ∧ Kx n₀ M wy wx) (fun i _ => m - (RowKit.intOf i).toNat)
      case atStart => exact ⟨0, pre, by omega, rfl, HP, hJs, by rw [hwy]; exact Kx.refl _ _ _⟩
      case round =>
        obtain ⟨j, pre, hj, rfl, hP, hJs, hb⟩ := hrel
        clear hc hwy
        by_cases hjm : j < m
        · obtain ⟨b2, off2, x, rfl, hbl2, hx, c0, c1, c2, c3⟩ := (HZL.out _ hb).at_ hjm
          have hlen : pre.length < LL.flatten.length := by
            have h1 := congrArg List.length hP.out
            rw [List.length_map, List.length_append, List.length_map, List.length_take, Nat.min_eq_left (by rw [Hm.out]; omega)] at h1
            rw [h1]
            exact prs_lt HL.out hx
          have HP2 : Hid ((pre.map (·.1)) ++ [(k, x)] = prs 0 (LL.take k) ++ (q.take (j + 1)).map (fun x => (k, x))) := prs_next hx hP.out
          have hok := HOK.out x (List.mem_of_getElem? hx)
          have hji : (j : Int) < (m : Int) := by omega
          have hba : Below wr.heap.size wr (wr.alloc (.cells #[.string x.name, .string x.kind, .int .i64 x.value, .string x.reason] 79)) := balloc _ (Below.refl _ _)
          obtain ⟨fn, tmps, assign, body, hy, hR⟩ := hY pre ⟨(k, x), hlt, hok⟩ _ (hJ _ _ _ hJs hba) hlen
          have hb2 : Kx n₀ M wy (wr.alloc (.cells #[.string x.name, .string x.kind, .int .i64 x.value, .string x.reason] 79)) := hb.alloc hn2 _
          obtain ⟨nm, kd, v, r⟩ := x
          dsimp only [Run.agg] at hy
          simp only at c0 c1 c2 c3
          have HPS : Hid (∀ z : HRun N, z.1 = (k, (⟨nm, kd, v, r⟩ : Run)) → (pre ++ [z]).map (·.1) = prs 0 (LL.take k) ++ (q.take (j + 1)).map (fun x => (k, x))) := fun z hz => by rw [List.map_append, List.map_singleton, hz]; exact HP2.out
          clear hx hP hJs hb HP2
          gi_wp2
          refine hR.mono ?_
          rintro e W3 (⟨rfl, hJ3, hk3⟩ | ⟨rfl, hJx3⟩)
          · have hb3 := hb2.trans hk3
            gi_wp2
            go_roundw
            case rel => exact ⟨j + 1, _, by omega, by go_num, HPS.out _ rfl, hJ3, hb3⟩
            case measure => simp [RowKit.intOf]; omega
          · gi_wp2
            refine bodyPost_ret (results_none rfl _ _ _) rfl ?_
            exact ⟨⟨_, rfl⟩, .inr ⟨_, trivial, hJx3⟩⟩
        · obtain rfl : j = m := by omega
          have h1 := hP.out
          rw [show q.take j = q from List.take_of_length_le (by rw [Hm.out]; omega), ← prs_take HL.out] at h1
          have HP3 := Lib.hid h1
          have hb3 := HB.out.trans hb
          clear h1 hP hb
          gi_wp2
          go_roundw
          case rel => exact ⟨k + 1, pre, by omega, by go_num, HP3, hJs, hb3⟩
          case measure => simp [RowKit.intOf]; omega
    · obtain rfl : k = N := by omega
      have h1 := hP.out
      rw [show LL.take k = LL from List.take_of_length_le (by rw [Hlen.out]; omega)] at h1
      have HP3 := Lib.hid h1
      clear h1 hP
      gi_wp2
      go_end0
      exact ⟨⟨_, rfl⟩, .inl ⟨pre, HP3.out, hJs⟩⟩
theorem allRunner_any (A : Option Addr) (N cap : Nat) (w : World) : Calls Tryz.prog 89 #[.slice A N cap] w fun e w' => e = .returned (.func (.func 121) #[] #[.pointer (some ⟨w.heap.size, 0, none⟩)]) ∧ w' = w.alloc (.cells #[.slice A N cap] 58) := by
  go_enter Tryz.func89, Tryz.ntmps89
  go_wp2
  go_ret
  exact ⟨rfl, rfl⟩
theorem grown_of_below {W W' : World} (h : Below W.heap.size W W') : W.grownBy W' none := ⟨h.os, h.tape, h.output, h.size, fun k hk _ => h.block k hk⟩
/-- The iterator's contract. -/
theorem all_stops (n : Nat) (hn : 1 ≤ n) (Bn N n₀ M cap b off : Nat) (A : Option Addr) (LL : List (List Run)) (Af : Nat → Option Addr) (cf : Nat → Nat) (hN : N ≤ 100) (hs : ∀ q ∈ LL, q.length ≤ 1000 ∧ ∀ x ∈ q, x.ok) (w : World) (hlt : Bn < w.heap.size) (hBn : w.cell? ⟨Bn, 0, none⟩ = some (.slice A N cap)) (hL : RHx w n₀ M A N LL b off Af cf) :
    SeqStopsK Fence.wide n Tryz.prog 121 #[.pointer (some ⟨Bn, 0, none⟩)] (fun x : HRun N => #[Value.int .i64 x.1.1, x.1.2.agg]) (Kx n₀ M) (fun ys => ys.map (·.1) = prs 0 LL) (fun _ => True) LL.flatten.length w :=
  fun l J Jx W hWW hJ _ hY h0 => all1_in n hn l Bn N n₀ M cap b off A LL Af cf hN hs J Jx (fun pre A B hA hb => hJ pre A B none hA (grown_of_below hb) (fun r e => by cases e)) hY W ((hWW.cell (p := ⟨Bn, 0, none⟩) hlt).trans hBn) (hL.kept (Kx.of_below (hWW.mono hL.2.1))) h0
end Go.Mk
end
section
set_option linter.unusedVariables false
set_option linter.unusedSimpArgs false
open Go Go.Proofs Go.RowKit Go.Sort Go.Shelf Go.Maps Go.WideMaps
set_option maxRecDepth 100000
namespace Go.Mk
attribute [local go_sem] Oper.semAt_some
/-- The names of those who advance. -/
def advN (LL : List (List Run)) (p t : Int) : List ByteArray := (byPl LL p).map Run.name ++ (byTm LL p t).map Run.name
/-- A runner lies in a block of its own. -/
def RunBox (W : World) (B : Nat) (x : Run) : Prop := W.heap[B]? = some (.cells #[.string x.name, .string x.kind, .int .i64 x.value, .string x.reason] 79 (0, 0))
theorem RunBox.new (W : World) (x : Run) : RunBox (W.alloc (.cells #[.string x.name, .string x.kind, .int .i64 x.value, .string x.reason] 79)) W.heap.size x := World.alloc_heap_new W _
theorem RunBox.own (B : Nat) (x : Run) (K : Nat) : OwnFrom K (fun (_ : Unit) W => RunBox W B x) := fun s X Y row hs hg hrow =>
  (hg.block B (Array.getElem?_eq_some_iff.1 hs).1 (fun e' => by obtain ⟨_, o, ho, hc⟩ := hrow B e'.symm; rw [show X.heap[B]? = _ from hs] at ho; cases ho; cases hc)).trans hs
theorem RunBox.cells {W : World} {B : Nat} {x : Run} (h : RunBox W B x) : W.cell? ⟨B, 0, none⟩ = some (.string x.name) ∧ W.cell? ⟨B, 1, none⟩ = some (.string x.kind) ∧ W.cell? ⟨B, 2, none⟩ = some (.int .i64 x.value) ∧ W.cell? ⟨B, 3, none⟩ = some (.string x.reason) := by
  have h' : W.heap[B]? = _ := h
  simp [World.cell?, h']
/-- Two heats in a list of their own, none of them in the block M. -/
theorem two_heats {w : World} {P T : List Run} {A1 A2 : Option Addr} {c1 c2 M : Nat} {W : World} (h1 : Runs w w.heap.size A1 P.length P) (h2 : Runs w w.heap.size A2 T.length T) (hM : w.heap.size ≤ M) (hb : Below w.heap.size w W) (H : Nat) (hH : H < W.heap.size) (hHM : H ≠ M)
    (c0 : W.cell? ⟨H, 0, none⟩ = some (.slice A1 P.length c1)) (c1' : W.cell? ⟨H, 1, none⟩ = some (.slice A2 T.length c2)) : RHx W W.heap.size M (some ⟨H, 0, none⟩) 2 [P, T] H 0 (fun i => if i = 0 then A1 else A2) (fun i => if i = 0 then c1 else c2) := by
  have k1 := (h1.below hb (Nat.le_refl _)).up hb.size (Nat.le_refl _)
  have k2 := (h2.below hb (Nat.le_refl _)).up hb.size (Nat.le_refl _)
  refine ⟨rfl, Nat.le_refl _, fun _ => ⟨rfl, hH, hHM⟩, fun i l hl => ?_⟩
  match i, hl with
  | 0, hl =>
    simp at hl
    subst hl
    refine ⟨by simpa using c0, by simpa using k1, fun h0 a ha => ?_⟩
    simp at ha
    obtain ⟨b', off', e', hlt', _⟩ := h1.2.2 h0
    rw [ha] at e'
    cases e'
    show b' ≠ M
    omega
  | 1, hl =>
    simp at hl
    subst hl
    refine ⟨by simpa using c1', by simpa using k2, fun h0 a ha => ?_⟩
    simp at ha
    obtain ⟨b', off', e', hlt', _⟩ := h2.2.2 h0
    rw [ha] at e'
    cases e'
    show b' ≠ M
    omega
theorem Kx.putObj {n₀ M : Nat} (W : World) (l : Nat) (o' : Obj) (h : n₀ ≤ l) : Kx n₀ M W (W.putObj l o') := ⟨by simp, fun k hk _ => World.putObj_heap_other (by omega)⟩
theorem Kx.grown {n₀ M : Nat} {A B : World} (h : A.grownBy B (some M)) (hn : n₀ ≤ A.heap.size) : Kx n₀ M A B := ⟨h.size, fun k hk hm => h.block k (by omega) (fun e => hm (by cases e; rfl))⟩
/-- Behind some runners: the map holds their names. -/
def WI (w : World) (M BX N : Nat) (pre : List (HRun N)) (W : World) : Prop :=
  Named W M pre.length (pre.map fun x => x.1.2.name) ∧ Boxed W BX 115 (.map (some M)) ∧ Below w.heap.size w W ∧ M + 4 ≤ W.heap.size
theorem WI.own (w : World) (M BX N B : Nat) (hM : M < B) (hB : w.heap.size ≤ B) : OwnFrom B (WI w M BX N) := fun s A C row hs hg hr =>
  ⟨hs.1.kept (hg.block M hs.1.lt (fun e => by have := (hr M e.symm).1; omega)), (Own.from (boxed_own BX 115 (fun (_ : Unit) => .map (some M))) B) () A C row hs.2.1 hg hr, (ownFrom_below (β := List (HRun N)) (Nat.le_refl _) hB) s A C row hs.2.2.1 hg hr, Nat.le_trans hs.2.2.2 hg.size⟩
/-- What whoAdvances leaves: a map of its own. -/
def WhoPost (LL : List (List Run)) (p t : Int) (w : World) (e : Ending) (w' : World) : Prop :=
  ∃ M m, e = .returned (.map (some M)) ∧ Named w' M m (advN LL p t) ∧ w.heap.size ≤ M ∧ Below w.heap.size w w'
set_option maxHeartbeats 4000000 in
theorem whoAdvances_any (LL : List (List Run)) (n cap : Nat) (A : Option Addr) (B : Nat) (p t : Int) (w : World) (hZ : RHeats w B A n LL) (hn : n ≤ 20) (hs : ∀ l ∈ LL, l.length ≤ 170 ∧ ∀ x ∈ l, x.ok) (hl : LL.flatten.length ≤ 1000) :
    Calls Tryz.prog 88 #[.slice A n cap, .int .i64 p, .int .i64 t] w (WhoPost LL p t w) := by
  have hA := advancing_any LL n cap A B p t w hZ hn (fun l h => (hs l h).1) hl
  have l1 := Nat.le_trans (byPl_len LL p) hl
  have l2 := Nat.le_trans (byTm_len LL p t) hl
  have hok : ∀ x ∈ LL.flatten, x.ok := fun x hx => by
    obtain ⟨l, h1, h2⟩ := List.mem_flatten.1 hx
    exact (hs l h1).2 x h2
  have ok1 : ∀ x ∈ byPl LL p, x.ok := fun x hx => by
    unfold byPl at hx
    obtain ⟨l, h1, h2⟩ := List.mem_flatMap.1 hx
    exact (hs l h1).2 x (List.mem_filter.1 h2).1
  have ok2 : ∀ x ∈ byTm LL p t, x.ok := fun x hx => by
    have := (List.mem_filter.1 hx).1
    unfold othR at this
    obtain ⟨l, h1, h2⟩ := List.mem_flatMap.1 this
    exact (hs l h1).2 x (List.mem_filter.1 h2).1
  have HADV : Hid (advN LL p t = (byPl LL p).map Run.name ++ (byTm LL p t).map Run.name) := (show _ = _ from rfl)
  unfold AdvPost at hA
  unfold WhoPost
  generalize advN LL p t = N at *
  generalize byPl LL p = P at *
  generalize byTm LL p t = T at *
  have HOK := Lib.hid (And.intro ok1 ok2)
  have HLN := Lib.hid (And.intro l1 l2)
  clear hZ hs hl hok ok1 ok2 l1 l2
  refine (callsIn_wide (n := 3)).1 ?_
  refine callsIn_of_wp_marks Tryz.func88 rfl trivial ?_ rfl
  simp only [Tryz.ntmps88, List.size_toArray, List.length_cons, List.length_nil, Nat.reduceAdd, Nat.reduceSub, Array.replicate_succ, Array.replicate_zero, List.push_toArray, List.append_toArray, List.nil_append, List.cons_append]
  gi_wp2_with (refine ⟨trivial, ?_⟩; gi_at_call 84; refine (callsIn_wide.2 hA).mono ?_; rintro e w2 ⟨u, v, rfl, hu, hv, hb2⟩)
  obtain ⟨A1, c1, rfl, hR1⟩ := Runs.of_ownS hu
  obtain ⟨A2, c2, rfl, hR2⟩ := Runs.of_ownS hv
  have hmm := @run_makeMap Tryz.prog
  have hAR := fun A N cap w => callsIn_wide (n := 2).2 (allRunner_any A N cap w)
  clear hu hv hA
  simp only [hmm, Result.andThen_ok]
  gi_wp2_with (refine ⟨trivial, ?_⟩; gi_at_call 89; refine (hAR _ _ _ _).mono ?_; rintro e w' ⟨rfl, rfl⟩)
  obtain ⟨M, hMe⟩ : ∃ M, M = w2.heap.size := ⟨_, rfl⟩
  have hT : Named (w2.alloc (.map #[] 0)) M 0 [] := by rw [hMe]; exact Named.made w2
  have hBx : Boxed ((w2.alloc (.map #[] 0)).alloc (.cells #[.map (some w2.heap.size)] 115)) (M + 1) 115 (.map (some M)) := by
    have := Boxed.new (w2.alloc (.map #[] 0)) 115 (.map (some w2.heap.size))
    rw [hMe]; simpa using this
  have hb2' := hb2
  have hW0 : Below w2.heap.size w2 ((((w2.alloc (Obj.map #[] 0)).alloc (Obj.cells #[Value.map (some w2.heap.size)] 115)).alloc (Obj.cells #[Value.slice A1 P.length c1, Value.slice A2 T.length c2] 65)).alloc (Obj.cells #[Value.slice (some { block := w2.heap.size + 1 + 1, off := 0 }) 2 2] 58)) := balloc _ (balloc _ (balloc _ (balloc _ (Below.refl _ _))))
  have hI0 : WI w M (M + 1) 2 [] ((((w2.alloc (Obj.map #[] 0)).alloc (Obj.cells #[Value.map (some w2.heap.size)] 115)).alloc (Obj.cells #[Value.slice A1 P.length c1, Value.slice A2 T.length c2] 65)).alloc (Obj.cells #[Value.slice (some { block := w2.heap.size + 1 + 1, off := 0 }) 2 2] 58)) := by
    refine ⟨?_, (hBx.alloc _).alloc _, hb2.trans (hW0.mono hb2.size), by simp; omega⟩
    refine hT.kept ?_
    rw [Below.heap_alloc _ _ _ (by simp; omega), Below.heap_alloc _ _ _ (by simp; omega), Below.heap_alloc _ _ _ (by simp; omega)]
  have hsz : ((((w2.alloc (Obj.map #[] 0)).alloc (Obj.cells #[Value.map (some w2.heap.size)] 115)).alloc (Obj.cells #[Value.slice A1 P.length c1, Value.slice A2 T.length c2] 65)).alloc (Obj.cells #[Value.slice (some { block := w2.heap.size + 1 + 1, off := 0 }) 2 2] 58)).heap.size = M + 4 := by simp; omega
  have hhd : ((((w2.alloc (Obj.map #[] 0)).alloc (Obj.cells #[Value.map (some w2.heap.size)] 115)).alloc (Obj.cells #[Value.slice A1 P.length c1, Value.slice A2 T.length c2] 65)).alloc (Obj.cells #[Value.slice (some { block := w2.heap.size + 1 + 1, off := 0 }) 2 2] 58)).heap[M + 2]? = some (.cells #[Value.slice A1 P.length c1, Value.slice A2 T.length c2] 65) := by
    rw [Below.heap_alloc _ _ _ (by simp; omega)]
    have h := World.alloc_heap_new ((w2.alloc (Obj.map #[] 0)).alloc (Obj.cells #[Value.map (some w2.heap.size)] 115)) (Obj.cells #[Value.slice A1 P.length c1, Value.slice A2 T.length c2] 65)
    simp only [World.size_alloc] at h
    rw [show M + 2 = w2.heap.size + 1 + 1 by omega]
    exact h
  have hH := two_heats (c1 := c1) (c2 := c2) hR1 hR2 (Nat.le_of_eq hMe.symm) hW0 (M + 2) (by omega) (by omega) (by simp [World.cell?, hhd]) (by simp [World.cell?, hhd])
  have hBn : ((((w2.alloc (Obj.map #[] 0)).alloc (Obj.cells #[Value.map (some w2.heap.size)] 115)).alloc (Obj.cells #[Value.slice A1 P.length c1, Value.slice A2 T.length c2] 65)).alloc (Obj.cells #[Value.slice (some { block := w2.heap.size + 1 + 1, off := 0 }) 2 2] 58)).cell? ⟨M + 3, 0, none⟩ = some (.slice (some ⟨M + 2, 0, none⟩) 2 2) := by
    have h := Boxed.new (((w2.alloc (Obj.map #[] 0)).alloc (Obj.cells #[Value.map (some w2.heap.size)] 115)).alloc (Obj.cells #[Value.slice A1 P.length c1, Value.slice A2 T.length c2] 65)) 58 (Value.slice (some { block := w2.heap.size + 1 + 1, off := 0 }) 2 2)
    simp only [World.size_alloc] at h
    rw [show M + 3 = w2.heap.size + 1 + 1 + 1 by omega, show M + 2 = w2.heap.size + 1 + 1 by omega]
    exact h.cell
  have e2 : w2.heap.size + 1 + 1 = M + 2 := by omega
  have e3 : w2.heap.size + 1 + 1 + 1 = M + 3 := by omega
  have e1 : w2.heap.size + 1 = M + 1 := by omega
  have hwM : w.heap.size ≤ M := by rw [hMe]; exact hb2.size
  generalize hWW : ((((w2.alloc (Obj.map #[] 0)).alloc (Obj.cells #[Value.map (some w2.heap.size)] 115)).alloc (Obj.cells #[Value.slice A1 P.length c1, Value.slice A2 T.length c2] 65)).alloc (Obj.cells #[Value.slice (some { block := w2.heap.size + 1 + 1, off := 0 }) 2 2] 58)) = W0 at *
  rw [e3, e2, e1, ← hMe]
  clear hT hBx hb2 hb2' hW0 hR1 hR2 hWW e1 e2 e3 hMe hmm hAR
  rw [hsz] at hH
  refine wpIn_rangeFunc_ownH rfl (by omega) (gf := 121) (lb := #[.pointer (some ⟨M + 3, 0, none⟩)]) rfl trivial (enters_of Tryz.func121 (by kernel_rfl) rfl)
    (all_stops _ (by omega) (M + 3) 2 (M + 4) M 2 (M + 2) 0 _ [P, T] _ _ (by omega) (fun q hq => by
      rcases List.mem_cons.1 hq with rfl | hq
      · exact ⟨HLN.out.1, HOK.out.1⟩
      · obtain rfl : q = T := by simpa using hq
        exact ⟨HLN.out.2, HOK.out.2⟩) W0 (by omega) hBn hH) Kx.trans (fun W l o o' hl _ _ _ => Kx.putObj W l o' (by omega)) (Below.refl _ _) (fun _ => rfl)
    (WI w M (M + 1) 2) (fun _ _ _ => False) (WI.own w M (M + 1) 2 _ (by omega) (by omega)) (fun c s A C row hs hg hr => hs) hI0
    (fun x a' W => ∃ Bx, RunBox W Bx x.1.2 ∧ a' = { tmps := #[.slice A n cap, .int .i64 p, .int .i64 t, undef, undef, undef, .map none, .slice A1 P.length c1, .slice A2 T.length c2, .pointer (some ⟨M + 1, 0, none⟩), undef, .pointer (some ⟨Bx, 0, none⟩), .tuple #[.slice A1 P.length c1, .slice A2 T.length c2], .slice A n cap, .int .i64 p, .int .i64 t, .tuple #[.slice A1 P.length c1, .slice A2 T.length c2], .slice A1 P.length c1, .slice A2 T.length c2, .map (some M), .slice A1 P.length c1, .slice A2 T.length c2, .slice (some ⟨M + 2, 0, none⟩) 2 2, .func (.func 121) #[] #[.pointer (some ⟨M + 3, 0, none⟩)], .int .i64 x.1.1, x.1.2.agg, undef, undef, undef, undef], defers := [] })
    (fun x a' s X Y row hs hg hr => by obtain ⟨Bx, h1, h2⟩ := hs; exact ⟨Bx, RunBox.own Bx _ _ () X Y row h1 hg hr, h2⟩) ?assign ?body ?done ?stop
  case assign =>
    rintro l pre ⟨⟨i, ⟨nm, kd, v, r⟩⟩, hx⟩ W K ⟨h1, h2, h3, h4⟩ hK
    dsimp only [Run.agg] at *
    gi_wp2
    refine hK _ _ ((KeepsOthers.alloc _ _).from _) ((Kx.refl _ _ _).alloc (by omega) _) ⟨h1.kept (Below.heap_alloc _ _ _ h1.lt), h2.alloc _, h3.alloc h3.size _, by simp; omega⟩ ⟨W.heap.size, RunBox.new W ⟨nm, kd, v, r⟩, rfl⟩
  case body =>
    rintro l pre ⟨⟨i, ⟨nm, kd, v, r⟩⟩, hx⟩ a' W hl ⟨rr, hr⟩ ⟨h1, h2, h3, h4⟩ ⟨Bx, hB, rfl⟩ hlt
    obtain ⟨D, ho, hm, hD⟩ := h1
    have hc := h2.cell
    obtain ⟨c0, k1, k2, k3⟩ := hB.cells
    have hz : nm.size ≤ maxLen := hx.2
    have hpl : pre.length < maxLen := by
      have := HLN.out
      have e : ([P, T] : List (List Run)).flatten.length = P.length + T.length := by simp
      rw [e] at hlt
      unfold maxLen
      omega
    simp only at c0
    dsimp only [Run.agg]
    have hM4 : M + 4 ≤ W.heap.size := h4
    gi_wp2_with (gi_at_mapUpdate; refine wpListIn_mapUpdate_own _ rfl _ _ _ 115 rfl 9 4 namesKeyed Tryz.underlying115 (plainElem (H := Unit) Tryz.prog 4) M pre.length _ rfl ho hpl _ _ _ rfl rfl (keyOf_string_mk Tryz.underlying9 hz) _ [] (plainElem_bool Tryz.underlying4 true) ?_; intro w1 hown1 hgrow1)
    refine ⟨KeepsFrom.of_grownBy hgrow1 (fun j e => by cases e; omega), Kx.grown hgrow1 hM4, ?_, h2.kept hgrow1 (fun e => by cases e), h3.grown hgrow1 h3.size (fun k e => by cases e; exact hwM), Nat.le_trans h4 hgrow1.size⟩
    have := Named.put hm hD nm hown1
    rw [List.map_append, List.map_singleton, List.length_append]
    exact this
  case done =>
    rintro D ys W hD hS ⟨h1, h2, h3, h4⟩ hK
    have hc := h2.cell
    have hNm : (ys.map fun x => x.1.2.name) = N := by
      rw [HADV.out]
      have e1 : (ys.map fun x => x.1.2.name) = (ys.map (·.1)).map fun q => q.2.name := by rw [List.map_map]; rfl
      rw [e1, hS]
      simp only [prs, List.map_append, List.map_map, List.append_nil]
      rfl
    rw [hNm] at h1
    have HF := Lib.hid h1
    clear h1 hS hNm
    gi_wp2
    refine ⟨by simp, .inl ⟨_, _, rfl, run_takeDeferred hK, ?_⟩⟩
    refine ⟨_, results_tmp rfl _ _ _, M, ys.length, rfl, ?_, hwM, ?_⟩
    · refine HF.out.kept ?_
      exact World.putObj_heap_other (by omega)
    · exact h3.trans (belowK_b (w := w) (Nat.le_refl _) W D _ _ (by omega) hK rfl rfl)
  case stop =>
    rintro D c pre W hD _ hs hK
    exact hs.elim
end Go.Mk
end
section
set_option linter.unusedVariables false
set_option linter.unusedSimpArgs false
open Go Go.Proofs Go.RowKit Go.Sort Go.Shelf Go.Maps Go.WideMaps
set_option maxRecDepth 100000
namespace Go.Mk
attribute [local go_sem] Oper.semAt_some
theorem infoSRuns : (Tryz.prog.info? 65).map (fun i => (i.zero, i.size, i.bytes)) = some (some (.slice none 0 0), 1, 24) := by kernel_rfl
/-- Rows of runners that are still grown: their slices lie in the cells of a block, and no two rows share memory. -/
def GrowH (w : World) (B g h : Nat) (R : Nat → List Run) : Prop :=
  g < w.heap.size ∧ B ≤ g ∧ ∃ V : Nat → Value,
    (∀ i, i < h → w.cell? ⟨g, i, none⟩ = some (V i) ∧ w.frozen? ⟨g, i, none⟩ = false ∧ OwnS w B (V i) (R i) ∧ (V i).ownBlock ≠ some g) ∧
    ∀ i j, i < h → j < h → i ≠ j → (V i).ownBlock = none ∨ (V i).ownBlock ≠ (V j).ownBlock
theorem grown_set (w : World) (g j : Nat) (u : Value) : w.grownBy (w.setCell ⟨g, j, none⟩ u) (some g) :=
  ⟨rfl, rfl, rfl, by simp, fun k _ hk => heap_setCell_other w ⟨g, j, none⟩ k u (fun e => hk (by simp [e]))⟩
theorem GrowH.start (w : World) (B h : Nat) (hB : B ≤ w.heap.size) : GrowH (w.alloc (.cells (madeCells #[.slice none 0 0] h) 65)) B w.heap.size h fun _ => [] := by
  refine ⟨by simp, hB, fun _ => .slice none 0 0, fun i hi => ⟨?_, by simp, World.ownsRow_nil _ _ _ _, by simp [Value.ownBlock]⟩, fun i j _ _ _ => .inl rfl⟩
  simp [madeCells, hi, Nat.mod_one]
theorem OwnS.kept_cells {W W' : World} {B : Nat} {v : Value} {L : List Run} {row : Option Nat} (h : OwnS W B v L) (hg : W.grownBy W' row) (hr : ∀ r, row = some r → ∃ o : Obj, W.heap[r]? = some o ∧ o.isCells = false) : OwnS W' B v L := by
  refine World.ownsRow.kept h hg ?_
  rcases h.2 with ⟨rfl, _⟩ | ⟨g, cap, cur, rfl, _, hb, _⟩
  · exact .inl rfl
  · right
    intro e
    obtain ⟨o, ho, hc⟩ := hr g e.symm
    rw [hb] at ho
    cases ho
    cases hc
theorem GrowH.own {w W W' : World} {B g h : Nat} {R : Nat → List Run} {row : Option Nat} (hR : GrowH W B g h R) (hg : W.grownBy W' row) (hr : ∀ r, row = some r → ∃ o : Obj, W.heap[r]? = some o ∧ o.isCells = false) : GrowH W' B g h R := by
  obtain ⟨h1, h2, V, h3, h4⟩ := hR
  refine ⟨Nat.lt_of_lt_of_le h1 hg.size, h2, V, fun i hi => ?_, h4⟩
  obtain ⟨a, b, c, d⟩ := h3 i hi
  exact ⟨cell_kept a hg hr, (frozen_kept a hg hr).trans b, c.kept_cells hg hr, d⟩
theorem GrowH.below {w w' : World} {B g h : Nat} {R : Nat → List Run} (hR : GrowH w B g h R) (hb : Below w.heap.size w w') : GrowH w' B g h R := by
  obtain ⟨hg, hB, V, h1, h2⟩ := hR
  refine ⟨Nat.lt_of_lt_of_le hg hb.size, hB, V, fun i hi => ?_, h2⟩
  obtain ⟨a, b, c, d⟩ := h1 i hi
  exact ⟨(hb.cell (p := ⟨g, i, none⟩) hg).trans a, (hb.frozen (p := ⟨g, i, none⟩) hg).trans b, ownN c hb, d⟩
/-- One more runner in a row. -/
theorem GrowH.step {wr wa w1 : World} {B g h j : Nat} {R R' : Nat → List Run} {x : Run} {v : Value} {g' cap : Nat} (hR : GrowH wr B g h R) (hj : j < h) (hv : wr.cell? ⟨g, j, none⟩ = some v) (hwa : Below wr.heap.size wr wa)
    (hgrow : wa.grownBy w1 v.ownBlock) (hown : w1.ownsRow B 79 4 (.slice (some ⟨g', 0, none⟩) ((R j).length + 1) cap) ((R j).length + 1) ((R j).flatMap runC ++ runC x))
    (hat : v.ownBlock = some g' ∨ g' = wa.heap.size) (h1 : R' j = R j ++ [x]) (h2 : ∀ i, i ≠ j → R' i = R i) :
    GrowH (w1.setCell ⟨g, j, none⟩ (.slice (some ⟨g', 0, none⟩) ((R j).length + 1) cap)) B g h R' := by
  have hRa := hR.below hwa
  have hva := (hwa.cell (p := ⟨g, j, none⟩) hR.1).trans hv
  have hsz := hwa.size
  have hgr := hR.1
  clear hR hv hwa
  obtain ⟨hg, hB, V, hV, hD⟩ := hRa
  obtain ⟨a, b, c, d⟩ := hV j hj
  obtain rfl : v = V j := Option.some.inj (hva.symm.trans a)
  have hsw : wa.heap.size ≤ w1.heap.size := hgrow.size
  have hgg : g' ≠ g := by
    rcases hat with e | e
    · intro q; exact d (by rw [e, q])
    · omega
  have cellg : ∀ i, w1.cell? ⟨g, i, none⟩ = wa.cell? ⟨g, i, none⟩ := fun i => hgrow.cell_far ⟨g, i, none⟩ hg (fun q => d q.symm)
  have frozg : ∀ i, w1.frozen? ⟨g, i, none⟩ = wa.frozen? ⟨g, i, none⟩ := fun i => hgrow.frozen_far ⟨g, i, none⟩ hg (fun q => d q.symm)
  refine ⟨by simpa using (show g < w1.heap.size by omega), hB, fun i => if i = j then .slice (some ⟨g', 0, none⟩) ((R j).length + 1) cap else V i, fun i hi => ?_, fun i k hi hk hik => ?_⟩
  · by_cases e : i = j
    · subst e
      simp only [if_true]
      refine ⟨World.cell?_setCell_same w1 _ _ ((cellg i).trans a), by simpa using (frozg i).trans b, ?_, by simpa [Value.ownBlock] using hgg⟩
      rw [h1]
      refine OwnS.app ?_
      have := hown.kept (grown_set w1 g i (.slice (some ⟨g', 0, none⟩) ((R i).length + 1) cap)) (.inr (by simpa [Value.ownBlock] using hgg))
      simpa using this
    · simp only [if_neg e]
      obtain ⟨a', b', c', d'⟩ := hV i hi
      refine ⟨?_, by simpa using (frozg i).trans b', ?_, d'⟩
      · rw [World.cell?_setCell_other w1 _ _ _ (by intro e2; injection e2 with _ e3; exact e e3.symm)]
        exact (cellg i).trans a'
      · rw [h2 i e]
        exact (World.ownsRow.kept c' hgrow (hD i j hi hj e)).kept (grown_set w1 g j _) (.inr d')
  · by_cases e : i = j
    · subst e
      simp only [if_true, if_neg (fun q => hik q.symm : ¬ k = i)]
      right
      obtain ⟨a', b', c', d'⟩ := hV k hk
      rcases hat with q | q
      · rcases hD k i hk hi (fun z => hik z.symm) with z | z
        · rw [z]; simp [Value.ownBlock]
        · intro y
          exact z (by rw [← y, q]; rfl)
      · intro y
        have := (World.ownsRow.lt c' g' (by rw [← y]; rfl)).2
        omega
    · simp only [if_neg e]
      by_cases e2 : k = j
      · subst e2
        simp only [if_true]
        obtain ⟨a', b', c', d'⟩ := hV i hi
        cases hb : (V i).ownBlock with
        | none => exact .inl rfl
        | some gi =>
          right
          intro y
          have y' : gi = g' := by simpa [Value.ownBlock] using y
          rcases hat with q | q
          · rcases hD i k hi hk hik with z | z
            · rw [hb] at z; cases z
            · exact z (by rw [hb, y', q])
          · have := (World.ownsRow.lt c' gi hb).2
            omega
      · simp only [if_neg e2]
        exact hD i k hi hk hik
end Go.Mk
end
section
set_option linter.unusedVariables false
set_option linter.unusedSimpArgs false
open Go Go.Proofs Go.RowKit
set_option maxRecDepth 100000
namespace Go.Mk
/-- The ways out but that of no room. -/
def NoOut (Q : Exit → Act → World → Prop) : Exit → Act → World → Prop
  | .outgrown, _, _ => False
  | e, a, w => Q e a w
theorem noOut_not {Q : Exit → Act → World → Prop} (h : LetsOut (NoOut Q)) : False := by
  obtain ⟨a, w, h⟩ := h
  exact h
theorem rowsIn_wide' {n : Nat} {P : Program} {row : String} {args : Array Value} {w : World} {R : Value → World → Prop} (h : Rows P row args w R) : RowsIn Fence.wide n P row args w R :=
  fun c cs _ => let ⟨v, w', r, s⟩ := h c cs; ⟨v, w', r, stepsIn_wide.2 s⟩
theorem ops_in_round {P : Program} {ops : Array Oper} {Q : Exit → Act → World → Prop} (l n : Nat) (hd : ∀ (i : Nat) o c, ops[i]? = some o → o.op ≠ .defer c) :
    ∀ (is : List Nat) (a : Act) (w : World), wpOps P ops (NoOut Q) is a w → wpOpsIn (Fence.wide.inRound l) n P ops Q is a w
  | [], a, w, h => h
  | i :: is, a, w, h => by
    unfold wpOps at h
    unfold wpOpsIn
    cases ho : ops[i]? with
    | none =>
      simp only [ho] at h ⊢
      exact ops_in_round l n hd is a w h
    | some o =>
      simp only [ho] at h ⊢
      have ih := ops_in_round (P := P) (Q := Q) l n hd is
      by_cases hw : Region.wanted o (yielded ops a.tmps) = true
      · simp only [hw, if_true] at h ⊢
        rcases h with h | ⟨_, h⟩
        · refine ⟨fun _ _ => trivial, ?_⟩
          rw [Oper.semAt_eq _ _ o (hd i o · ho)]
          unfold Oper.wp at h
          generalize (execOp a.eval o).run P w = r at *
          cases r with
          | ok x w' =>
            cases x <;> simp only [Oper.upon, Oper.uponIn] at h ⊢
            case value u => exact ih _ _ h
            case skip => exact ih _ _ h
            case defer d => exact ih _ _ h
            case enter f args =>
              refine ⟨fun q => (by cases q), CallsIn.inRound l (callsIn_wide.2 (Calls.mono h fun e w'' he => ?_))⟩
              cases e with
              | returned u => exact ih _ _ he
              | panicked c => exact he
              | outgrown => exact (noOut_not he).elim
            case row row args => exact ⟨fun q => (by cases q), (show RowsIn Fence.wide _ _ _ _ _ _ from rowsIn_wide' (Rows.mono h fun u w'' he => ih _ _ he))⟩
          | halt x w' =>
            cases x <;> simp only [Oper.upon, Oper.uponIn] at h ⊢
            case panic u => exact h
        · exact (noOut_not h).elim
      · simp only [hw, Bool.false_eq_true, if_false] at h ⊢
        exact ⟨fun _ _ => trivial, ih _ _ h⟩
theorem region_in_round {P : Program} {ops : Array Oper} {Q : Exit → Act → World → Prop} {id : Nat} {a : Act} {w : World} (l n : Nat) (hm : P.follows .mixedOrders = true) (hd : (ops.toList.all fun o => match o.op with | .defer _ => false | _ => true) = true)
    (h : wpAny P .any ops (NoOut Q) ops.size (Array.replicate ops.size false) a w.drew) : (Code.region id ops true).wpIn (Fence.wide.inRound l) n P Q a w :=
  wpIn_region_draw fun t => by
    simp only [Region.schedule, hm, Bool.true_or, if_true]
    refine ops_in_round l n (fun i o c hi => ?_) _ _ _ (wpAny_sound ops.size t _ a _ h)
    have := List.all_eq_true.1 hd o (by rw [Array.mem_toList_iff]; exact Array.mem_of_getElem? hi)
    intro e
    rw [e] at this
    cases this
section
variable {P : Program} {ops : Array Oper} {Q : Exit → Act → World → Prop} {md : Region.Mode} {S : World → Prop} {X : Nat → Bool}
/-- Whatever order is picked from here on, S holds behind every operation that is carried out, but for those that are exempt. -/
def wpAnyX (P : Program) (md : Region.Mode) (ops : Array Oper) (Q : Exit → Act → World → Prop) (S : World → Prop) (X : Nat → Bool) : Nat → Array Bool → Act → World → Prop
  | 0, listed, a, w => Region.ready md ops listed = [] ∧ Q .normal a w
  | fuel + 1, listed, a, w =>
    (Region.ready md ops listed = [] → Q .normal a w) ∧
    ∀ i ∈ Region.ready md ops listed, wpOp P ops Q i (fun a' w' => (X i = false → S w') ∧ wpAnyX P md ops Q S X fuel (listed.setIfInBounds i true) a' w') a w
theorem wpAny_of_X : ∀ (fuel : Nat) (listed : Array Bool) (a : Act) (w : World), wpAnyX P md ops Q S X fuel listed a w → wpAny P md ops Q fuel listed a w
  | 0, _, _, _, h => h
  | fuel + 1, _, _, _, h => ⟨h.1, fun i hi => wpOp_mono (fun a' w' h' => wpAny_of_X fuel _ a' w' h'.2) (h.2 i hi)⟩
theorem wpAnyX_first {i : Nat} {oi : Oper} {v : Value} (hi : ops[i]? = some oi) (hsel : ∀ (j : Nat) (o : Oper) cs b, ops[j]? = some o → o.op ≠ .select cs b)
    (hQ : ∀ c a w, Q (.panic c) (a.put oi.dst v) w → Q (.panic c) a w) (hX : ∀ j oj, ops[j]? = some oj → (∀ e ∈ oj.after, Region.binds md e = true → e.on ≠ i) → X j = false) :
    ∀ (fuel : Nat) (listed : Array Bool) (a : Act) (w : World),
      (∀ j oj, ops[j]? = some oj → j ≠ i → listed.getD j true = false → (∀ e ∈ oj.after, Region.binds md e = true → e.on ≠ i) → oi.apart ops oj = true) →
      i ∈ Region.ready md ops listed → YieldsIf P ops S oi v a → S w →
      wpAnyX P md ops Q S X fuel (listed.setIfInBounds i true) (a.put oi.dst v) w → wpAnyX P md ops Q S X (fuel + 1) listed a w := by
  intro fuel
  induction fuel with
  | zero =>
    intro listed a w _ hr hy hS H
    refine ⟨fun h => (by rw [h] at hr; cases hr), fun j hj => ?_⟩
    by_cases hji : j = i
    · subst hji; exact hy.wpOp hi hS ⟨fun _ => hS, H⟩
    · have := ready_mono hj hji
      rw [H.1] at this
      cases this
  | succ fuel ih =>
    intro listed a w hfree hr hy hS H
    refine ⟨fun h => (by rw [h] at hr; cases hr), fun j hj => ?_⟩
    by_cases hji : j = i
    · subst hji; exact hy.wpOp hi hS ⟨fun _ => hS, H⟩
    · have h1 := H.2 j (ready_mono hj hji)
      obtain ⟨hjun, oj, hoj, hall⟩ := mem_ready.1 hj
      have hnot : ∀ e ∈ oj.after, Region.binds md e = true → e.on ≠ i := fun e he hb heq => by
        have h1 := hall e he hb
        have h0 := (mem_ready.1 hr).1
        rw [heq] at h1
        rcases Nat.lt_or_ge i listed.size with h' | h'
        · simp [h'] at h0 h1; rw [h0] at h1; cases h1
        · simp [Array.getElem?_eq_none h'] at h1
      have h2 := wpOp_putIf hoj (hfree j oj hoj hji hjun hnot) (fun cs b => hsel i oi cs b hi) (fun cs b => hsel j oj cs b hoj) hQ hy h1
      have hfree' : ∀ k ok, ops[k]? = some ok → k ≠ i → (listed.setIfInBounds j true).getD k true = false →
          (∀ e ∈ ok.after, Region.binds md e = true → e.on ≠ i) → oi.apart ops ok = true := fun k ok hk hki hun hno => by
        refine hfree k ok hk hki ?_ hno
        by_cases hjk : j = k
        · subst hjk; exact hjun
        · rw [getD_set_ne true hjk] at hun; exact hun
      refine wpOp_mono (fun a' w' h3 => ⟨h3.2.1, ih (listed.setIfInBounds j true) a' w' hfree' (ready_mono hr (Ne.symm hji)) h3.1 (h3.2.1 (hX j oj hoj hnot)) ?_⟩) h2
      rw [Array.setIfInBounds_comm _ _ hji]
      exact h3.2.2
/-- The exempt operations wait for number i. -/
def exB (md : Region.Mode) (ops : Array Oper) (X : Nat → Bool) (i : Nat) : Bool := (List.range ops.size).all fun j => !X j || (match ops[j]? with | some oj => oj.after.any fun e => Region.binds md e && (e.on == i) | none => true)
theorem exB_spec {i : Nat} (h : exB md ops X i = true) : ∀ j oj, ops[j]? = some oj → (∀ e ∈ oj.after, Region.binds md e = true → e.on ≠ i) → X j = false := by
  intro j oj hj hno
  have hjl : j < ops.size := (Array.getElem?_eq_some_iff.1 hj).1
  have := List.all_eq_true.1 h j (List.mem_range.2 hjl)
  rw [hj] at this
  cases hx : X j with
  | false => rfl
  | true =>
    rw [hx] at this
    simp only [Bool.not_true, Bool.false_or] at this
    obtain ⟨k, hk, hb⟩ := Array.any_eq_true.1 this
    rw [Bool.and_eq_true] at hb
    exact absurd (by simpa using hb.2) (hno _ (Array.getElem_mem hk) hb.1)
theorem wpAnyX_take {i : Nat} {oi : Oper} {v : Value} {fuel : Nat} {listed : Array Bool} {a : Act} {w : World} (hi : ops[i]? = some oi)
    (hs : Region.noSelect ops = true) (hf : Region.free md ops listed i = true) (hr : (Region.ready md ops listed).contains i = true) (hx : exB md ops X i = true)
    (hQ : ∀ c a w, Q (.panic c) (a.put oi.dst v) w → Q (.panic c) a w) (hy : YieldsIf P ops S oi v a) (hS : S w)
    (h : wpAnyX P md ops Q S X fuel (listed.setIfInBounds i true) (a.put oi.dst v) w) : wpAnyX P md ops Q S X (fuel + 1) listed a w :=
  wpAnyX_first hi (Region.noSelect_spec hs) hQ (exB_spec hx) fuel listed a w (Region.free_spec hi hf) (by simpa using hr) hy hS h
/-- Just one operation may come up. -/
theorem wpAnyX_one {i : Nat} {o : Oper} {fuel : Nat} {listed : Array Bool} {a : Act} {w : World} (hr : Region.ready md ops listed = [i]) (ho : ops[i]? = some o) (hw : Region.wanted o (yielded ops a.tmps) = true)
    (h : ∀ K : Act → World → Prop, Hid (∀ a' w', (X i = false → S w') → wpAnyX P md ops Q S X fuel (listed.setIfInBounds i true) a' w' → K a' w') → o.wp P a w K Q) : wpAnyX P md ops Q S X (fuel + 1) listed a w := by
  refine ⟨fun h0 => (by rw [hr] at h0; cases h0), fun j hj => ?_⟩
  rw [hr] at hj
  obtain rfl : j = i := by simpa using hj
  unfold wpOp
  simp only [ho, hw, if_true]
  exact .inl (h _ (Lib.hid fun a' w' h1 h2 => ⟨h1, h2⟩))
theorem wpAnyX_done {listed : Array Bool} {a : Act} {w : World} (hr : Region.ready md ops listed = []) (h : Q .normal a w) : ∀ fuel, wpAnyX P md ops Q S X fuel listed a w
  | 0 => ⟨hr, h⟩
  | _ + 1 => ⟨fun _ => h, by rw [hr]; simp⟩
end
end Go.Mk
end
