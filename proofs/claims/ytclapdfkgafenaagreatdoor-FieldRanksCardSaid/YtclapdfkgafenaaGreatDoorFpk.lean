/-
  Proved: slices.AppendSeq and slices.Collect of slices.Values of places make a row of the same places in new memory. Conditions: there are at most 1,000 places, in cells that lie where the slice says.
-/
import Derived.Test.YtclapdfkgafenaaGreatDoorFpj
set_option linter.unusedVariables false
set_option linter.unusedSimpArgs false
open Go Go.Proofs Go.RowKit Go.Sort Go.Shelf
set_option maxRecDepth 100000
namespace Go.Mk
attribute [local go_sem] Oper.semAt_some
def PlcsZ (w : World) (A : Option Addr) (n : Nat) (L : List Plc) : Prop :=
  L.length = n ∧ (0 < n → ∃ b off, A = some ⟨b, off, none⟩ ∧ b < w.heap.size ∧ ∀ (j : Nat) (p : Plc), L[j]? = some p → Cel5 w b (off + j * 5) p)
theorem PlcsZ.below {w w' : World} {A : Option Addr} {n : Nat} {L : List Plc} (h : PlcsZ w A n L) (hb : Below w.heap.size w w') : PlcsZ w' A n L := by
  refine ⟨h.1, fun h0 => ?_⟩
  obtain ⟨b, off, e, hlt, hc⟩ := h.2 h0
  exact ⟨b, off, e, Nat.lt_of_lt_of_le hlt hb.size, fun j p hp => (hc j p hp).below hb hlt⟩
def OwnPlcs (w : World) (B : Nat) (v : Value) (L : List Plc) : Prop := w.ownsRow B 63 5 v L.length (L.flatMap Plc.cells)
theorem OwnPlcs.next {w1 : World} {B : Nat} {v' : Value} {L : List Plc} {p : Plc} (h : w1.ownsRow B 63 5 v' (L.length + 1) (L.flatMap Plc.cells ++ p.cells)) : OwnPlcs w1 B v' (L ++ [p]) := by
  unfold OwnPlcs
  rw [List.length_append, List.flatMap_append]
  simpa using h
theorem PlcsZ.of_own {w : World} {B : Nat} {v : Value} {L : List Plc} (h : OwnPlcs w B v L) : ∃ A c, v = .slice A L.length c ∧ PlcsZ w A L.length L := by
  rcases h.2 with ⟨a, b⟩ | ⟨g, cap, cur, a, b, c, d, e1, f, hx⟩
  · exact ⟨none, 0, by rw [a, b], rfl, fun hn => absurd hn (by omega)⟩
  · refine ⟨_, cap, a, rfl, fun _ => ⟨g, 0, rfl, (Array.getElem?_eq_some_iff.1 c).1, fun j p hp => ?_⟩⟩
    have hj := (List.getElem?_eq_some_iff.1 hp).1
    unfold OwnPlcs at h
    rw [a] at h
    refine ⟨?_, ?_, ?_, ?_, ?_⟩ <;> rw [Nat.zero_add]
    · rw [World.ownsRow.cellAt h (j * 5) (by omega)]; exact (plc_at _ j _ 0 hp (by decide)).trans rfl
    · rw [World.ownsRow.cellAt h (j * 5 + 1) (by omega)]; exact (plc_at _ j _ 1 hp (by decide)).trans rfl
    · rw [World.ownsRow.cellAt h (j * 5 + 2) (by omega)]; exact (plc_at _ j _ 2 hp (by decide)).trans rfl
    · rw [World.ownsRow.cellAt h (j * 5 + 3) (by omega)]; exact (plc_at _ j _ 3 hp (by decide)).trans rfl
    · rw [World.ownsRow.cellAt h (j * 5 + 4) (by omega)]; exact (plc_at _ j _ 4 hp (by decide)).trans rfl
theorem infoPlc : (Tryz.prog.info? 63).map (fun i => (i.zero, i.size, i.bytes)) = some (some (.agg #[.string ⟨#[]⟩, .int .i64 0, .string ⟨#[]⟩, .int .i64 0, .string ⟨#[]⟩]), 5, 64) := by kernel_rfl
theorem slValuesP_any (A : Option Addr) (n c : Nat) (w : World) : Calls Tryz.prog 101 #[.slice A n c] w fun e w' => e = .returned (.func (.func 163) #[] #[.pointer (some ⟨w.heap.size, 0, none⟩)]) ∧ w' = w.alloc (.cells #[.slice A n c] 25) := by
  go_enter Tryz.func101, Tryz.ntmps101
  go_wp2
  go_ret
  exact ⟨rfl, rfl⟩
theorem vals_stops (n : Nat) (hn : 1 ≤ n) (Bs len cap : Nat) (A : Option Addr) (L : List Plc) (hlen : len ≤ 1000) (w0 w : World) (hZ : PlcsZ w0 A len L) (hW : Below w0.heap.size w0 w) (hlt : Bs < w.heap.size) (hBs : w.cell? ⟨Bs, 0, none⟩ = some (.slice A len cap)) :
    SeqStopsK Fence.wide n Tryz.prog 163 #[.pointer (some ⟨Bs, 0, none⟩)] (fun x : Plc => #[x.val]) (Below w0.heap.size) (fun ys => ys = L) (fun pre => pre <+: L) len w :=
  fun l J Jx W hWW hJ _ hY h0 => vals_in n hn l Bs len cap A L hZ.1 hlen w0 J Jx (fun pre A B hA hb => hJ pre A B none hA (grown_of_belowP hb) (fun r e => by cases e)) hY W ((hWW.cell (p := ⟨Bs, 0, none⟩) hlt).trans hBs) (hW.trans (hWW.mono hW.size)) hZ.2 h0
def PI (w : World) (pre : List Plc) (W : World) : Prop :=
  (∃ v, Boxed W w.heap.size 25 v ∧ W.ownsRow w.heap.size 63 5 v pre.length (pre.flatMap Plc.cells) ∧ True) ∧ Below w.heap.size w W
theorem PI.own (w : World) (B : Nat) (hB : w.heap.size ≤ B) : OwnFrom B (PI w) :=
  OwnFrom.and (Own.from (holdsRow_own w.heap.size w.heap.size 25 63 5 (fun (pre : List Plc) => pre.length) (fun (pre : List Plc) => pre.flatMap Plc.cells) (fun _ _ => True)) _) (ownFrom_below (Nat.le_refl _) hB)
def BoxP (W : World) (B : Nat) (x : Plc) : Prop := W.heap[B]? = some (.cells #[.string x.nm, .int .i64 x.rk, .string x.kd, .int .i64 x.vl, .string x.rs] 63 (0, 0))
theorem BoxP.own (x : Plc) (B : Nat) : Own (fun (_ : Unit) W => BoxP W B x) := fun s X Y row hs hg hrow =>
  (hg.block B (Array.getElem?_eq_some_iff.1 hs).1 (fun e' => by obtain ⟨o, ho, hc⟩ := hrow B e'.symm; rw [show X.heap[B]? = _ from hs] at ho; cases ho; cases hc)).trans hs
set_option maxHeartbeats 4000000 in
theorem appSeqP_any (Bs len cap : Nat) (A : Option Addr) (L : List Plc) (hlen : len ≤ 1000) (w : World) (hZ : PlcsZ w A len L) (hlt : Bs < w.heap.size) (hBs : w.cell? ⟨Bs, 0, none⟩ = some (.slice A len cap)) :
    Calls Tryz.prog 204 #[.slice none 0 0, .func (.func 163) #[] #[.pointer (some ⟨Bs, 0, none⟩)]] w (fun e w' => ∃ v, e = .returned v ∧ OwnPlcs w' w.heap.size v L ∧ Below w.heap.size w w') := by
  obtain ⟨i0, hi, hz0, hz1, hz2⟩ := info_parts infoPlc
  refine (callsIn_wide (n := 3)).1 ?_
  refine callsIn_of_wp_marks Tryz.func204 rfl trivial ?_ rfl
  simp only [Tryz.ntmps204, List.size_toArray, List.length_cons, List.length_nil, Nat.reduceAdd, Nat.reduceSub, Array.replicate_succ, Array.replicate_zero, List.push_toArray, List.append_toArray, List.nil_append, List.cons_append]
  gi_wp2
  have b0 := Boxed.new w 25 (.slice none 0 0)
  have hB0 : Below w.heap.size w (w.alloc (.cells #[.slice none 0 0] 25)) := (Below.refl _ w).alloc (Nat.le_refl _) _
  have hBs' : (w.alloc (.cells #[.slice none 0 0] 25)).cell? ⟨Bs, 0, none⟩ = some (.slice A len cap) := (hB0.cell (p := ⟨Bs, 0, none⟩) hlt).trans hBs
  have hsz : (w.alloc (.cells #[.slice none 0 0] 25)).heap.size = w.heap.size + 1 := by simp
  obtain ⟨W0, hW0⟩ : ∃ W0, w.alloc (.cells #[.slice none 0 0] 25) = W0 := ⟨_, rfl⟩
  rw [hW0] at b0 hB0 hBs' hsz ⊢
  clear hW0
  refine wpIn_rangeFunc_ownH rfl (by omega) (gf := 163) (lb := #[.pointer (some ⟨Bs, 0, none⟩)]) rfl trivial (enters_of Tryz.func163 (by kernel_rfl) rfl)
    (vals_stops _ (by omega) Bs len cap A L hlen w W0 hZ hB0 (by omega) hBs') belowK_t (belowK_b (by omega)) (Below.refl _ _) (fun _ => rfl)
    (PI w) (fun _ _ _ => False) (PI.own w _ (by omega)) (fun _ _ _ _ _ hs _ _ => hs)
    ⟨⟨_, b0, World.ownsRow_nil _ _ _ _, trivial⟩, hB0⟩
    (fun x a' W => ∃ Bx, w.heap.size < Bx ∧ BoxP W Bx x ∧ a' = { tmps := #[.slice none 0 0, .func (.func 163) #[] #[.pointer (some ⟨Bs, 0, none⟩)], .pointer (some ⟨w.heap.size, 0, none⟩), undef, .slice none 0 0, .pointer (some ⟨Bx, 0, none⟩), .func (.func 163) #[] #[.pointer (some ⟨Bs, 0, none⟩)], x.val, undef, undef, undef, undef, undef], defers := [] })
    (fun x a' _ X Y row hs hg hr => by obtain ⟨Bx, h1, h2, h3⟩ := hs; exact ⟨Bx, h1, BoxP.own x Bx () X Y row h2 hg (fun r e => (hr r e).2), h3⟩)
    ?assign ?body ?done ?stop
  case assign =>
    rintro l pre x W K ⟨⟨v, hv, hrow, _⟩, hB⟩ hK
    have hvl := hv.lt
    unfold Plc.val at *
    gi_wp2
    refine hK _ _ ((KeepsOthers.alloc _ _).from _) ((Below.refl _ W).alloc hB.size _) ⟨⟨v, hv.alloc _, hrow.alloc _, trivial⟩, hB.alloc hB.size _⟩ ⟨W.heap.size, hvl, ?_, rfl⟩
    exact World.alloc_heap_new W _
  case body =>
    rintro l pre x a' W hl ⟨r, hr⟩ ⟨⟨v, hv, hrow, _⟩, hB⟩ ⟨Bx, hBx, bX, rfl⟩ hlt2
    have hc := hv.cell
    have x0 : W.cell? ⟨Bx, 0, none⟩ = some (.string x.nm) := by simp [World.cell?, show W.heap[Bx]? = _ from bX]
    have x1 : W.cell? ⟨Bx, 1, none⟩ = some (.int .i64 x.rk) := by simp [World.cell?, show W.heap[Bx]? = _ from bX]
    have x2 : W.cell? ⟨Bx, 2, none⟩ = some (.string x.kd) := by simp [World.cell?, show W.heap[Bx]? = _ from bX]
    have x3 : W.cell? ⟨Bx, 3, none⟩ = some (.int .i64 x.vl) := by simp [World.cell?, show W.heap[Bx]? = _ from bX]
    have x4 : W.cell? ⟨Bx, 4, none⟩ = some (.string x.rs) := by simp [World.cell?, show W.heap[Bx]? = _ from bX]
    unfold Plc.val at *
    gi_wp2_with (gi_at_builtin; refine wpListIn_append_own _ rfl _ _ 25 rfl w.heap.size 63 i0 (.agg #[.string ⟨#[]⟩, .int .i64 0, .string ⟨#[]⟩, .int .i64 0, .string ⟨#[]⟩]) 5 64 Tryz.underlying25 hi hz0 hz1 hz2 rfl (by decide) _ _ _ rfl (hrow.alloc _) ⟨W.heap.size, 0, none⟩ 1 1 x.cells rfl rfl ?c1 ?c2 (by unfold maxLen; omega) (by omega) (by have := hB.size; simp; omega) ?c3)
    case c1 =>
      intro j u hj
      match j, hj with
      | 0, hj => simp [Plc.cells] at hj; subst hj; simp [Addr.add]
      | 1, hj => simp [Plc.cells] at hj; subst hj; simp [Addr.add]
      | 2, hj => simp [Plc.cells] at hj; subst hj; simp [Addr.add]
      | 3, hj => simp [Plc.cells] at hj; subst hj; simp [Addr.add]
      | 4, hj => simp [Plc.cells] at hj; subst hj; simp [Addr.add]
    case c2 => intro u hu; simp [Plc.cells] at hu; rcases hu with rfl | rfl | rfl | rfl | rfl <;> rfl
    case c3 =>
      intro v' w1 hown' hgrow _
      obtain ⟨g', cap', rfl⟩ := ownsRow_succ hown'
      obtain ⟨hv1, hv2, hr2, hk2, hb2⟩ := hv.appended (by decide) hrow hB.size (Nat.le_refl _) hown' hgrow
      have hc1 := hv1.cell
      have hf1 := hv1.frozen
      gi_wp2
      refine ⟨hk2.from _, hb2, ⟨⟨_, hv2, ?_, trivial⟩, hB.trans hb2⟩⟩
      rw [List.length_append, List.flatMap_append]
      simpa using hr2
  case done =>
    rintro D ys W hD rfl ⟨⟨v, hv, hrow, _⟩, hB⟩ hK
    have hc := hv.cell
    obtain ⟨A', c', rfl⟩ : ∃ A' c', v = .slice A' ys.length c' := by
      rcases Joins.ownsRow_forms hrow with ⟨h, h0⟩ | ⟨g, cap, h⟩
      · exact ⟨none, 0, by rw [h, h0]⟩
      · exact ⟨_, _, h⟩
    gi_wp2
    refine ⟨by simp, .inl ⟨_, _, rfl, run_takeDeferred hK, ?_⟩⟩
    refine ⟨_, results_tmp rfl _ _ _, _, rfl, ?_, hB.trans (belowK_b (w := w) (Nat.le_refl _) W D _ _ (by omega) hK rfl rfl)⟩
    exact ownsRow_putObj hrow _ hK rfl
  case stop =>
    rintro D c pre W _ _ h _
    exact h.elim
set_option maxHeartbeats 1000000 in
theorem collectP_any (Bs len cap : Nat) (A : Option Addr) (L : List Plc) (hlen : len ≤ 1000) (w : World) (hZ : PlcsZ w A len L) (hlt : Bs < w.heap.size) (hBs : w.cell? ⟨Bs, 0, none⟩ = some (.slice A len cap)) :
    Calls Tryz.prog 161 #[.func (.func 163) #[] #[.pointer (some ⟨Bs, 0, none⟩)]] w (fun e w' => ∃ v, e = .returned v ∧ OwnPlcs w' w.heap.size v L ∧ Below w.heap.size w w') := by
  have hK := appSeqP_any Bs len cap A L hlen w hZ hlt hBs
  clear hZ hBs
  go_enter Tryz.func161, Tryz.ntmps161
  go_wp2_with fail
  refine hK.mono ?_
  rintro e w2 ⟨v, rfl, ho, hb⟩
  go_wp2
  go_ret
  exact ⟨_, rfl, ho, hb⟩
end Go.Mk
