/-
  Proved: the small error functions of package track, and of its reference (first, when, rangeError and the
-/
import Derived.Test.YthgkaojplomapaaGreatDoorProg
import Derived.Test.YthgkaojplomapaaGreatDoorRow
import Derived.OwnWalk
import Derived.Lib.Hide
import Derived.LoopTactic
import Derived.BigRegion
import Derived.BigQuiet
import Derived.Lib.QuietBelow
import Derived.Laws.OwnMore
import Derived.Laws.AppendOwn
import Derived.Lib.SmallJoins
import Derived.Outline
import Derived.Deep.DeepCutAuto
import Derived.Deep.LoopGhost
import Derived.OrdersHeld
import Derived.KernelRfl
import Derived.Deep.RegionHeld
import Derived.Tactics
set_option maxHeartbeats 32000000
set_option linter.unusedVariables false
set_option linter.unusedSimpArgs false
open Go Go.Proofs Go.RowKit
set_option maxRecDepth 100000
namespace Go.Mk
theorem zA1 {α : Type} (l : List α) (i : Nat) (a : α) : l.toArray.setIfInBounds i a = (l.set i a).toArray := List.setIfInBounds_toArray l i a
theorem zA2 {α : Type} {x : α} {l : List α} {a : α} : (x :: l).set 0 a = a :: l := rfl
theorem zA3 {α : Type} {x : α} {l : List α} {i : Nat} {a : α} : (x :: l).set (i + 1) a = x :: l.set i a := rfl
theorem zA4 {α : Type} {l : List α} {i : Nat} (h : i < l.toArray.size) : l.toArray[i] = l[i]'(by simpa using h) := List.getElem_toArray h
theorem zA5 {α : Type} (a : α) (l : List α) (h : 0 < (a :: l).length) : (a :: l)[0] = a := rfl
theorem zA6 {α : Type} (a : α) (l : List α) (i : Nat) (h : i + 1 < (a :: l).length) : (a :: l)[i + 1] = l[i]'(by simpa using h) := rfl
theorem zU {P : Program} {ops : Array Oper} {Q : Exit → Act → World → Prop} {md : Region.Mode} {S : World → Prop} (i : Nat) {oi : Oper} (v : Value) {fuel : Nat} {listed : Array Bool} {a : Act} {w : World} (hi : ops[i]? = some oi) (hv : ∀ w, S w → (execOp a.eval oi).run P w = .ok (.value v) w) (h : wpAnyH P md ops Q S fuel (listed.setIfInBounds i true) (a.put oi.dst v) w) (hw : Region.wanted oi (yielded ops a.tmps) = true := by kernel_rfl) (hs : Region.noSelect ops = true := by kernel_rfl) (hf : Region.free md ops listed i = true := by kernel_rfl) (hr : (Region.ready md ops listed).contains i = true := by kernel_rfl) (hQ : ∀ c a w, Q (.panic c) (a.put oi.dst v) w → Q (.panic c) a w := by exact fun _ _ _ h => h) (hS : S w := by assumption) : wpAnyH P md ops Q S (fuel + 1) listed a w := wpAnyH_take hi hs hf hr hQ (Or.inl ⟨hw, hv⟩) hS h
theorem zD {P : Program} {ops : Array Oper} {Q : Exit → Act → World → Prop} {md : Region.Mode} {S : World → Prop} (i : Nat) {oi : Oper} {fuel : Nat} {listed : Array Bool} {a : Act} {w : World} (hi : ops[i]? = some oi) (h : wpAnyH P md ops Q S fuel (listed.setIfInBounds i true) (a.put oi.dst undef) w) (hw : Region.wanted oi (yielded ops a.tmps) = false := by kernel_rfl) (hs : Region.noSelect ops = true := by kernel_rfl) (hf : Region.free md ops listed i = true := by kernel_rfl) (hr : (Region.ready md ops listed).contains i = true := by kernel_rfl) (hQ : ∀ c a w, Q (.panic c) (a.put oi.dst undef) w → Q (.panic c) a w := by exact fun _ _ _ h => h) (hS : S w := by assumption) : wpAnyH P md ops Q S (fuel + 1) listed a w := wpAnyH_take hi hs hf hr hQ (Or.inr ⟨hw, rfl⟩) hS h
theorem zP (l : List Value) (d : List Deferred) (i : Nat) (v : Value) : (Act.mk l.toArray d).put (some i) v = Act.mk (l.set i v).toArray d := by simp [Act.put]
theorem zQ (a : Act) (v : Value) : a.put none v = a := rfl
theorem zV (i : Nat) {P : Program} {ops : Array Oper} {Q : Exit → Act → World → Prop} {md : Region.Mode} {S : World → Prop} {oi : Oper} {v : Value} {fuel : Nat} {listed : Array Bool} {a : Act} {w : World} (hi : ops[i]? = some oi := by rfl) (hv : ∀ w, S w → (execOp a.eval oi).run P w = .ok (.value v) w := by (intro w hs; (try dsimp only at hs); (try change _ ∧ _ at hs); (try simp only [Act.put, zA1, zA2, zA3]); go_simp; (try with_reducible rfl))) (hw : Region.wanted oi (yielded ops a.tmps) = true := by kernel_rfl) (hs : Region.noSelect ops = true := by kernel_rfl) (hf : Region.free md ops listed i = true := by kernel_rfl) (hr : (Region.ready md ops listed).contains i = true := by kernel_rfl) (hQ : ∀ c a w, Q (.panic c) (a.put oi.dst v) w → Q (.panic c) a w := by exact fun _ _ _ h => h) (hS : S w := by assumption) (h : wpAnyH P md ops Q S fuel (listed.setIfInBounds i true) (a.put oi.dst v) w) : wpAnyH P md ops Q S (fuel + 1) listed a w := wpAnyH_take hi hs hf hr hQ (Or.inl ⟨hw, hv⟩) hS h
theorem zX (i : Nat) {P : Program} {ops : Array Oper} {Q : Exit → Act → World → Prop} {md : Region.Mode} {S F : World → Prop} {oi : Oper} {v : Value} {fuel : Nat} {listed : Array Bool} {a : Act} {w : World} (H : ∀ w, S w → F w) (hi : ops[i]? = some oi := by rfl) (hv : ∀ w, F w → (execOp a.eval oi).run P w = .ok (.value v) w := by (intro w hs; (try dsimp only at hs); (try change _ ∧ _ at hs); (try simp only [Act.put, zA1, zA2, zA3]); go_simp; (try with_reducible rfl))) (hw : Region.wanted oi (yielded ops a.tmps) = true := by kernel_rfl) (hs : Region.noSelect ops = true := by kernel_rfl) (hf : Region.free md ops listed i = true := by kernel_rfl) (hr : (Region.ready md ops listed).contains i = true := by kernel_rfl) (hQ : ∀ c a w, Q (.panic c) (a.put oi.dst v) w → Q (.panic c) a w := by exact fun _ _ _ h => h) (hS : S w := by assumption) (h : wpAnyH P md ops Q S fuel (listed.setIfInBounds i true) (a.put oi.dst v) w) : wpAnyH P md ops Q S (fuel + 1) listed a w := wpAnyH_take hi hs hf hr hQ (Or.inl ⟨hw, fun w h => hv w (H w h)⟩) hS h
theorem zN (i : Nat) {P : Program} {ops : Array Oper} {Q : Exit → Act → World → Prop} {md : Region.Mode} {S : World → Prop} {o : Oper} {fuel : Nat} {listed : Array Bool} {a : Act} {w : World} (h : ∀ K' : Act → World → Prop, Shut (∀ a w, S w → (S w → wpAnyH P md ops Q S fuel (listed.setIfInBounds i true) a w) → K' a w) → if Region.wanted o (yielded ops a.tmps) = true then Oper.wp P o a w K' Q else K' (a.put o.dst undef) w) (ho : ops[i]? = some o := by rfl) (hr : Region.ready md ops listed = [i] := by kernel_rfl) : wpAnyH P md ops Q S (fuel + 1) listed a w := wpAnyH_ready hr (by simp) (AllReadyH.cons ho h AllReadyH.nil)
def RetPost (v : Value) (w : World) (e : Ending) (w' : World) : Prop := e = .returned v ∧ Below w.heap.size w w'
def RetSame (v : Value) (w : World) (e : Ending) (w' : World) : Prop := e = .returned v ∧ w = w'
theorem infoInt : (Tryz.prog.info? 3).map (fun i => (i.zero, i.size, i.bytes)) = some (some (.int .i64 0), 1, 8) := by kernel_rfl
def fstN : List Int → Int
 | [] => 0
 | x :: l => if x = 0 then fstN l else x
def Es (w : World) (g : Nat) (L : List Int) : Prop := ∀ (i : Nat) (z : Int), L[i]? = some z → w.cell? ⟨g, i, none⟩ = some (.int .i64 z)
theorem fstN_drop (L : List Int) (k : Nat) (z : Int) (h : L[k]? = some z) : fstN (L.drop k) = if z = 0 then fstN (L.drop (k + 1)) else z := by
 obtain ⟨hk, e⟩ := List.getElem?_eq_some_iff.1 h
 rw [List.drop_eq_getElem_cons hk, e, fstN]
theorem es_get {w : World} {g : Nat} {L : List Int} (h : Es w g L) {k : Nat} (hk : k < L.length) : ∃ z, L[k]? = some z ∧ w.cell? ⟨g, k, none⟩ = some (.int .i64 z) :=
 ⟨L[k], List.getElem?_eq_getElem hk, h k _ (List.getElem?_eq_getElem hk)⟩

theorem below_drewN {B : Nat} {w w' : World} (h : Below B w w') (n : Nat) : Below B w (w'.drewN n) := ⟨h.os, h.tape, h.output, h.size, h.block⟩
theorem bstep {w a b : World} (h1 : Below w.heap.size w a) (h2 : Below a.heap.size a b) : Below w.heap.size w b := h1.trans (h2.mono h1.size)
theorem balloc {w a : World} (o : Obj) (h1 : Below w.heap.size w a) : Below w.heap.size w (a.alloc o) := h1.alloc h1.size o
theorem trFirst_any (L : List Int) (n : Nat) (hn : L.length = n) (hs : n ≤ 100) (g : Nat) (w : World) (h : Es w g L) :
  Calls Tryz.prog 56 #[.slice (some ⟨g, 0, none⟩) n n] w (RetSame (.int .i64 (fstN L)) w) := by
 have H := Lib.hid h
 have Hn := Lib.hid hn
 have hni : (n : Int) ≤ 100 := by omega
 obtain ⟨y, hy⟩ : ∃ y, fstN L = y := ⟨_, rfl⟩
 rw [hy]
 have HY : Hid (fstN (L.drop 0) = y) := by rw [← hy]; rfl
 clear h hn hs hy
 go_enter Tryz.func56, Tryz.ntmps56
 go_wp2
 go_loop [7] (fun i => ∃ k : Nat, k ≤ n ∧ i = .int .i64 k ∧ Hid (fstN (L.drop k) = y)) (fun i => n - (intOf i).toNat)
 case atStart => exact ⟨0, by omega, rfl, HY⟩
 case round =>
  obtain ⟨k, hk, rfl, HK⟩ := hrel
  by_cases hlt : k < n
  ·obtain ⟨z, hz, hc⟩ := es_get H.out (k := k) (by rw [Hn.out]; exact hlt)
   have hst := fstN_drop L k z hz
   rw [HK.out] at hst
   have hki : (k : Int) < (n : Int) := by omega
   by_cases h0 : z = 0
   ·subst h0
    rw [if_pos rfl] at hst
    have Hst : Hid (fstN (L.drop (k + 1)) = y) := hst.symm
    clear hst hz HK
    go_wp2
    exact ⟨⟨k + 1, by omega, by go_num, Hst⟩, by simp [intOf]; omega⟩
   ·rw [if_neg h0] at hst
    subst hst
    have hb : (y != 0) = true := by rw [bne_iff_ne]; exact h0
    clear hz HK HY
    go_wp2
    go_ret
    exact ⟨rfl, rfl⟩
  ·have hkn : k = n := by omega
   have h0 := HK.out
   rw [hkn, List.drop_of_length_le (by rw [Hn.out]; omega)] at h0
   have h0' : 0 = y := h0
   subst h0'
   go_wp2
   go_ret
   exact ⟨rfl, rfl⟩

theorem trWhen_any (b : Bool) (e : Int) (w : World) : Calls Tryz.prog 58 #[.bool b, .int .i64 e] w (RetSame (.int .i64 (if b then e else 0)) w) := by
 cases b
 ·go_enter Tryz.func58, Tryz.ntmps58
  go_wp2
  go_ret
  exact ⟨rfl, rfl⟩
 ·go_enter Tryz.func58, Tryz.ntmps58
  go_wp2
  go_ret
  exact ⟨rfl, rfl⟩
def rngE (n lo hi : Int) : Int := if n < lo ∨ hi < n then 3 else 0
theorem trRange_any (n lo hi : Int) (w : World) : Calls Tryz.prog 87 #[.int .i64 n, .int .i64 lo, .int .i64 hi] w (RetSame (.int .i64 (rngE n lo hi)) w) := by
 have hw := fun b => trWhen_any b 3 w
 unfold rngE
 by_cases h1 : n < lo
 ·rw [if_pos (.inl h1)]
  go_enter Tryz.func87, Tryz.ntmps87
  go_wp2_with fail
  refine (hw true).mono ?_
  rintro e w' ⟨rfl, rfl⟩
  go_wp2
  go_ret
  exact ⟨rfl, rfl⟩
 ·by_cases h2 : hi < n
  ·rw [if_pos (.inr h2)]
   go_enter Tryz.func87, Tryz.ntmps87
   go_wp2_with fail
   refine (hw true).mono ?_
   rintro e w' ⟨rfl, rfl⟩
   go_wp2
   go_ret
   exact ⟨rfl, rfl⟩
  ·rw [if_neg (by omega)]
   go_enter Tryz.func87, Tryz.ntmps87
   go_wp2_with fail
   refine (hw false).mono ?_
   rintro e w' ⟨rfl, rfl⟩
   go_wp2
   go_ret
   exact ⟨rfl, rfl⟩
theorem ownN {w w' : World} {base e size n : Nat} {v : Value} {xs : List Value} (h : w.ownsRow base e size v n xs) (hb : Below w.heap.size w w') : w'.ownsRow base e size v n xs := by
 refine ⟨h.1, ?_⟩
 rcases h.2 with ⟨a, b⟩ | ⟨g, cap, cur, a, b, c, d⟩
 ·exact .inl ⟨a, b⟩
 ·refine .inr ⟨g, cap, cur, a, b, ?_, d⟩
  have hg : g < w.heap.size := by
   rcases Nat.lt_or_ge g w.heap.size with hl | hl
   ·exact hl
   ·rw [Array.getElem?_eq_none hl] at c; cases c
  exact (hb.block g hg).trans c
def OwnZ (w : World) (B : Nat) (v : Value) (L : List Int) : Prop := w.ownsRow B 3 1 v L.length (L.map fun z => Value.int .i64 z)
theorem OwnZ.next {w1 : World} {B : Nat} {v' : Value} {L : List Int} {z : Int} (h : w1.ownsRow B 3 1 v' (L.length + 1) ((L.map fun z => Value.int .i64 z) ++ [.int .i64 z])) : OwnZ w1 B v' (L ++ [z]) := by
 unfold OwnZ
 rw [List.length_append, List.map_append]
 exact h
def IntsZ (w : World) (A : Option Addr) (n : Nat) (L : List Int) : Prop :=
 L.length = n ∧ (0 < n → ∃ g off, A = some ⟨g, off, none⟩ ∧ g < w.heap.size ∧ ∀ (j : Nat) (x : Int), L[j]? = some x → w.cell? ⟨g, off + j, none⟩ = some (.int .i64 x))
theorem IntsZ.below {w w' : World} {A : Option Addr} {n : Nat} {L : List Int} (h : IntsZ w A n L) (hb : Below w.heap.size w w') : IntsZ w' A n L := by
 refine ⟨h.1, fun hn => ?_⟩
 obtain ⟨g, off, e, hlt, hc⟩ := h.2 hn
 exact ⟨g, off, e, Nat.lt_of_lt_of_le hlt hb.size, fun j x hx => (hb.cell (p := ⟨g, _, none⟩) hlt).trans (hc j x hx)⟩
theorem IntsZ.of_own {w : World} {base : Nat} {v : Value} {L : List Int} (h : OwnZ w base v L) : ∃ A c, v = .slice A L.length c ∧ IntsZ w A L.length L := by
 rcases h.2 with ⟨a, b⟩ | ⟨g, cap, cur, a, b, c, d, e1, f, hx⟩
 ·exact ⟨none, 0, by rw [a, b], rfl, fun hn => absurd hn (by omega)⟩
 ·refine ⟨_, cap, a, rfl, fun _ => ⟨g, 0, rfl, (Array.getElem?_eq_some_iff.1 c).1, fun j x hj => ?_⟩⟩
  have := World.ownsRow.cells h (g := g) (by rw [a]; rfl) j (.int .i64 x) (by simp [hj])
  rwa [show (⟨g, 0, none⟩ : Addr).add j = ⟨g, 0 + j, none⟩ from by unfold Addr.add; split <;> simp_all] at this
theorem sameZ_any (L : List Int) (A1 A2 : Option Addr) (n c1 c2 : Nat) (w : World) (hn : n ≤ 300) (h1 : IntsZ w A1 n L) (h2 : IntsZ w A2 n L) :
  Calls Tryz.prog 19 #[.slice A1 n c1, .slice A2 n c2] w (RetPost (.bool true) w) := by
 have hn0 : (n : Int) ≤ 300 := by omega
 have H1 := Lib.hid h1
 have H2 := Lib.hid h2
 clear h1 h2 hn
 go_enter Tryz.func19, Tryz.ntmps19
 go_wp2
 go_loopw [5] (fun i wr => ∃ k : Nat, k ≤ n ∧ i = .int .i64 k ∧ Below w.heap.size w wr) (fun i _ => n - (intOf i).toNat)
 case atStart => exact ⟨0, by omega, rfl, Below.refl _ _⟩
 case round =>
  obtain ⟨k, hk, rfl, hb⟩ := hrel
  by_cases hlt : k < n
  ·have g1 := H1.out.below hb
   have g2 := H2.out.below hb
   obtain ⟨p1, f1, rfl, _, q1⟩ := g1.2 (by omega)
   obtain ⟨p2, f2, rfl, _, q2⟩ := g2.2 (by omega)
   have hkl : k < L.length := by rw [g1.1]; exact hlt
   have c1' := q1 k L[k] (List.getElem?_eq_getElem hkl)
   have c2' := q2 k L[k] (List.getElem?_eq_getElem hkl)
   obtain ⟨x, hx⟩ : ∃ x, L[k] = x := ⟨_, rfl⟩
   rw [hx] at c1' c2'
   have hki : (k : Int) < (n : Int) := by omega
   have hk0 : (0 : Int) ≤ (k : Int) := by omega
   have hkt : ((k : Int)).toNat = k := by omega
   clear q1 q2 g1 g2 hx hkl H1 H2
   go_wp2_with fail
   go_quiet (fail)
   go_wp2
   exact ⟨⟨k + 1, by omega, by go_num, below_drewN hb _⟩, by simp [intOf]; omega⟩
  ·go_wp2
   go_ret
   exact ⟨rfl, hb⟩
end Go.Mk
