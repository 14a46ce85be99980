/-
  Proved: the reference's unmarked and ordered: the places in the order of their ranks, in new
  Proved: the reference's Ranking returns the places of rows in the order of their ranks, in new
-/
import Derived.Test.YthgkaojplomapaaGreatDoorFrc
set_option maxHeartbeats 32000000
set_option linter.unusedVariables false
set_option linter.unusedSimpArgs false
open Go Go.Proofs Go.RowKit
set_option maxRecDepth 100000
section
namespace Go.Mk
def OwnPlR (w : World) (B : Nat) (v : Value) (L : List Plc) : Prop := w.ownsRow B 126 5 v L.length (L.flatMap Plc.cells)
theorem OwnPlR.next {w1 : World} {B : Nat} {v' : Value} {L : List Plc} {p : Plc} (h : w1.ownsRow B 126 5 v' (L.length + 1) (L.flatMap Plc.cells ++ p.cells)) : OwnPlR w1 B v' (L ++ [p]) := by
 unfold OwnPlR
 rw [List.length_append, List.flatMap_append]
 simpa using h
theorem PlcsZ.of_ownR {w : World} {B : Nat} {v : Value} {L : List Plc} (h : OwnPlR w B v L) : ∃ A c, v = .slice A L.length c ∧ PlcsZ w A L.length L := by
 rcases h.2 with ⟨a, b⟩ | ⟨g, cap, cur, a, b, c, d, e1, f, hx⟩
 ·exact ⟨none, 0, by rw [a, b], rfl, fun hn => absurd hn (by omega)⟩
 ·refine ⟨_, cap, a, rfl, fun _ => ⟨g, 0, rfl, (Array.getElem?_eq_some_iff.1 c).1, fun j p hp => ?_⟩⟩
  have hj := (List.getElem?_eq_some_iff.1 hp).1
  unfold OwnPlR at h
  rw [a] at h
  refine ⟨?_, ?_, ?_, ?_, ?_⟩ <;> rw [Nat.zero_add]
  ·rw [World.ownsRow.cellAt h (j * 5) (by omega)]; exact (plc_at _ j _ 0 hp (by decide)).trans rfl
  ·rw [World.ownsRow.cellAt h (j * 5 + 1) (by omega)]; exact (plc_at _ j _ 1 hp (by decide)).trans rfl
  ·rw [World.ownsRow.cellAt h (j * 5 + 2) (by omega)]; exact (plc_at _ j _ 2 hp (by decide)).trans rfl
  ·rw [World.ownsRow.cellAt h (j * 5 + 3) (by omega)]; exact (plc_at _ j _ 3 hp (by decide)).trans rfl
  ·rw [World.ownsRow.cellAt h (j * 5 + 4) (by omega)]; exact (plc_at _ j _ 4 hp (by decide)).trans rfl
theorem OwnPlR.low {w : World} {B B' : Nat} {v : Value} {L : List Plc} (h : OwnPlR w B v L) (hB : B' ≤ B) : OwnPlR w B' v L := by
 refine ⟨h.1, ?_⟩
 rcases h.2 with q | ⟨g, cap, cur, a, b, c⟩
 ·exact .inl q
 ·exact .inr ⟨g, cap, cur, a, Nat.le_trans hB b, c⟩
theorem infoPlR : (Tryz.prog.info? 126).map (fun i => (i.zero, i.size, i.bytes)) = some (some (.agg #[.string ⟨#[]⟩, .int .i64 0, .string ⟨#[]⟩, .int .i64 0, .string ⟨#[]⟩]), 5, 64) := by kernel_rfl
theorem r6unmarked_any (a b : Bool) (w : World) : Calls Tryz.prog 63 #[.bool a, .bool b] w (RetPost (.agg #[.string sNone, .int .i64 0, .string (if a && b then sDNS else sNM)]) w) := by
 have hB : ∀ x : ByteArray, Below w.heap.size w (w.alloc (.cells #[.string sNone, .int .i64 0, .string x] 59)) := fun x => balloc _ (Below.refl _ _)
 have HB := Lib.hid hB
 unfold sNone sDNS sNM at *
 clear hB
 cases a with
 | true =>
  cases b with
  | true =>
   show Calls Tryz.prog 63 _ w (RetPost (.agg #[.string ⟨#[110, 111, 110, 101]⟩, .int .i64 0, .string ⟨#[68, 78, 83]⟩]) w)
   go_enter Tryz.func63, Tryz.ntmps63
   go_wp2
   exact bodyPost_ret (v := .agg #[.string ⟨#[110, 111, 110, 101]⟩, .int .i64 0, .string ⟨#[68, 78, 83]⟩]) (by simp [results, Tryz.results63, go_sem]) rfl ⟨rfl, HB.out _⟩
  | false =>
   show Calls Tryz.prog 63 _ w (RetPost (.agg #[.string ⟨#[110, 111, 110, 101]⟩, .int .i64 0, .string ⟨#[78, 77]⟩]) w)
   go_enter Tryz.func63, Tryz.ntmps63
   go_wp2
   exact bodyPost_ret (v := .agg #[.string ⟨#[110, 111, 110, 101]⟩, .int .i64 0, .string ⟨#[78, 77]⟩]) (by simp [results, Tryz.results63, go_sem]) rfl ⟨rfl, HB.out _⟩
 | false =>
  show Calls Tryz.prog 63 _ w (RetPost (.agg #[.string ⟨#[110, 111, 110, 101]⟩, .int .i64 0, .string ⟨#[78, 77]⟩]) w)
  go_enter Tryz.func63, Tryz.ntmps63
  go_wp2
  exact bodyPost_ret (v := .agg #[.string ⟨#[110, 111, 110, 101]⟩, .int .i64 0, .string ⟨#[78, 77]⟩]) (by simp [results, Tryz.results63, go_sem]) rfl ⟨rfl, HB.out _⟩
def byRk (L : List Plc) (r : Nat) : List Plc := L.filter fun p => decide (p.rk = (r : Int) + 1)
def noRk (L : List Plc) : List Plc := L.filter fun p => decide (p.rk = 0)
def ordP (n : Nat) (L : List Plc) : List Plc := (List.range n).flatMap (byRk L) ++ noRk L
theorem flatMap_same {α β : Type} {f g : α → List β} : ∀ (l : List α), (∀ a ∈ l, f a = g a) → l.flatMap f = l.flatMap g
 | [], _ => rfl
 | a :: l, h => by rw [List.flatMap_cons, List.flatMap_cons, h a (by simp), flatMap_same l (fun b hb => h b (by simp [hb]))]
theorem ordP_eq (n : Nat) (L : List Plc) (h : ∀ p ∈ L, 0 ≤ p.rk ∧ p.rk ≤ n) : ordP n L = arrL n L := by
 unfold ordP arrL
 rw [List.range_succ, List.flatMap_append]
 congr 1
 ·refine flatMap_same _ (fun r hr => ?_)
  have hr := List.mem_range.1 hr
  unfold byRk
  refine List.filter_congr (fun p hp => ?_)
  have := h p hp
  unfold bhd
  by_cases q : p.rk = 0
  ·rw [if_pos q]
   rw [decide_eq_false (by omega), decide_eq_false (by omega)]
  ·rw [if_neg q]
 ·unfold noRk
  simp only [List.flatMap_cons, List.flatMap_nil, List.append_nil]
  refine List.filter_congr (fun p hp => ?_)
  have := h p hp
  unfold bhd
  by_cases q : p.rk = 0
  ·rw [if_pos q, decide_eq_true q, decide_eq_true rfl]
  ·rw [if_neg q, decide_eq_false q, decide_eq_false (by omega)]
theorem filt_take {L : List Plc} {k : Nat} {p : Plc} (f : Plc → Bool) (h : L[k]? = some p) : (L.take (k + 1)).filter f = (L.take k).filter f ++ if f p then [p] else [] := by
 rw [List.take_add_one, h, Option.toList_some, List.filter_append]
 congr 1
 by_cases q : f p = true <;> simp [q]
theorem filt_len (L : List Plc) (k : Nat) (f : Plc → Bool) : ((L.take k).filter f).length ≤ k := by
 have h1 := List.length_filter_le f (L.take k)
 rw [List.length_take] at h1
 omega
theorem flat_len (L : List Plc) (n : Nat) : ((List.range n).flatMap (byRk L)).length ≤ n * L.length := by
 induction n with
 | zero => simp
 | succ n ih =>
  rw [List.range_succ, List.flatMap_append, List.length_append, Nat.succ_mul]
  have : (List.flatMap (byRk L) [n]).length ≤ L.length := by
   simp only [List.flatMap_cons, List.flatMap_nil, List.append_nil]
   exact List.length_filter_le _ _
  omega
theorem r6ordered_any (L : List Plc) (n cap : Nat) (A : Option Addr) (w : World) (hZ : PlcsZ w A n L) (hn : n ≤ 100) :
  Calls Tryz.prog 68 #[.slice A n cap] w (fun e w' => ∃ v, e = .returned v ∧ OwnPlR w' w.heap.size v (ordP n L) ∧ Below w.heap.size w w') := by
 obtain ⟨i0, hi, hz0, hz1, hz2⟩ := info_parts infoPlR
 have hni : (n : Int) ≤ 100 := by omega
 have H := Lib.hid hZ
 have HL := Lib.hid hZ.1
 have HFL : Hid (∀ m, m ≤ n → ((List.range m).flatMap (byRk L)).length ≤ 10000) := Lib.hid fun m hm => by
  have h1 := flat_len L m
  rw [hZ.1] at h1
  have h2 : m * n ≤ 100 * 100 := Nat.mul_le_mul (by omega) hn
  omega
 have HF1 : Hid (∀ (k : Nat) (p : Plc) (f : Plc → Bool), L[k]? = some p → (L.take (k + 1)).filter f = (L.take k).filter f ++ if f p then [p] else []) := Lib.hid fun k p f h => filt_take f h
 have HF2 : Hid (∀ (k : Nat) (f : Plc → Bool), ((L.take k).filter f).length ≤ k) := Lib.hid fun k f => filt_len L k f
 have HF3 : Hid (∀ r, byRk L r = (L.take n).filter fun p => decide (p.rk = (r : Int) + 1)) := Lib.hid fun r => by unfold byRk; rw [List.take_of_length_le (by rw [hZ.1]; exact Nat.le_refl _)]
 have HF4 : Hid (noRk L = (L.take n).filter fun p => decide (p.rk = 0)) := Lib.hid (by unfold noRk; rw [List.take_of_length_le (by rw [hZ.1]; exact Nat.le_refl _)])
 unfold ordP
 rw [HF4.out]
 clear hZ
 go_enter Tryz.func68, Tryz.ntmps68
 go_wp2
 go_loopw [3, 4] (fun v i wr => ∃ r : Nat, r ≤ n ∧ i = .int .i64 ((r : Int) + 1) ∧ OwnPlR wr w.heap.size v ((List.range r).flatMap (byRk L)) ∧ Below w.heap.size w wr) (fun _ i _ => n + 1 - (RowKit.intOf i).toNat)
 case atStart => exact ⟨0, by omega, by go_num, World.ownsRow_nil _ _ _ _, Below.refl _ _⟩
 case round =>
  obtain ⟨r, hr, rfl, hown, hb⟩ := hrel
  by_cases hlt : r < n
  ·have hri : (r : Int) + 1 ≤ (n : Int) := by omega
   have hr0 : (0 : Int) ≤ (r : Int) := by omega
   have hst : (List.range (r + 1)).flatMap (byRk L) = (List.range r).flatMap (byRk L) ++ (L.take n).filter fun p => decide (p.rk = (r : Int) + 1) := by
    rw [List.range_succ, List.flatMap_append, ← HF3.out r]
    simp
   have Hst := Lib.hid hst
   have hPl := HFL.out r hr
   have HO := Lib.hid hown
   have HB := Lib.hid hb
   generalize hP : (List.range r).flatMap (byRk L) = P at *
   obtain ⟨f, hf⟩ : ∃ f : Plc → Bool, (fun p : Plc => decide (p.rk = (r : Int) + 1)) = f := ⟨_, rfl⟩
   have HF : Hid (∀ p : Plc, f p = decide (p.rk = (r : Int) + 1)) := Lib.hid fun p => by rw [← hf]
   rw [hf] at Hst
   have hPL := Lib.hid hPl
   clear hst hown hb hP hf hPl
   obtain ⟨wy, rfl⟩ : ∃ wy : World, wy = wr := ⟨_, rfl⟩
   go_wp2
   go_loopw [3, 5] (fun v i wr => ∃ k : Nat, k ≤ n ∧ i = .int .i64 k ∧ OwnPlR wr w.heap.size v (P ++ (L.take k).filter f) ∧ Below w.heap.size w wr) (fun _ i _ => n - (RowKit.intOf i).toNat)
   case atStart => exact ⟨0, by omega, rfl, by simpa using HO.out, HB.out⟩
   case round =>
    obtain ⟨k, hk, rfl, hown, hb⟩ := hrel
    by_cases hkn : k < n
    ·obtain ⟨b', off, p, rfl, hbl, hx, hc0, hc1, hc2, hc3, hc4⟩ := (H.out.below hb).at_ hkn
     have hki : (k : Int) < (n : Int) := by omega
     have hk0 : (0 : Int) ≤ (k : Int) := by omega
     have hkt : ((k : Int)).toNat = k := by omega
     have hlen : (P ++ (L.take k).filter f).length ≤ 20000 := by
      have := HF2.out k f
      have := hPL.out
      rw [List.length_append]; omega
     have hfx := HF1.out k p f hx
     have hfp := HF.out p
     by_cases hq : p.rk = (r : Int) + 1
     ·have hst2 : P ++ (L.take (k + 1)).filter f = (P ++ (L.take k).filter f) ++ [p] := by
       rw [hfx, hfp, decide_eq_true hq, if_pos rfl, List.append_assoc]
      have Hst2 := Lib.hid hst2
      generalize hQ : P ++ (L.take k).filter f = Q at *
      have HO2 := Lib.hid hown
      have HB2 := Lib.hid hb
      obtain ⟨m, hm⟩ : ∃ m, Q.length = m := ⟨_, rfl⟩
      have Hm := Lib.hid hm
      rw [hm] at hlen
      unfold OwnPlR at hown
      rw [hm] at hown
      have HCC : Hid (∀ (j : Nat) (u : Value) (q' : Nat), q' = wr.heap.size → p.cells[j]? = some u → (wr.alloc (.cells #[.string p.nm, .int .i64 p.rk, .string p.kd, .int .i64 p.vl, .string p.rs] 126)).cell? ((⟨q', 0, none⟩ : Addr).add j) = some u) := Lib.hid fun j u q' hq' hj => news5 wr p 126 q' hq' j u hj
      obtain ⟨n1, r1, k1, v1, t1⟩ := p
      dsimp only at hc0 hc1 hc2 hc3 hc4 hq HCC
      subst hq
      clear hst2 hfx hfp hx hQ hm
      go_wp2_with (at_builtin; refine wpList_append_own _ rfl _ _ 42 rfl w.heap.size 126 i0 (.agg #[.string ⟨#[]⟩, .int .i64 0, .string ⟨#[]⟩, .int .i64 0, .string ⟨#[]⟩]) 5 64 Tryz.underlying42 hi hz0 hz1 hz2 rfl (by decide) _ _ _ rfl (World.ownsRow.alloc hown _) ⟨wr.heap.size, 0, none⟩ 1 1 (Plc.cells ⟨n1, (r : Int) + 1, k1, v1, t1⟩) rfl rfl (fun j u hj => HCC.out j u _ rfl hj) (one5 _) ?c3 ?c4 ?c5 ?_)
      case c3 => unfold maxLen; omega
      case c4 => omega
      case c5 => have := HB2.out.size; simp; omega
      intro v' w2 hown' hgrow _
      have hb2 : Below w.heap.size w w2 := (HB2.out.alloc HB2.out.size _).grown hgrow (by have := HB2.out.size; simp; omega) (fun r hr => (World.ownsRow.lt hown r hr).1)
      have ho2 : OwnPlR w2 w.heap.size v' (P ++ (L.take (k + 1)).filter f) := by
       rw [Hst2.out]
       refine OwnPlR.next ?_
       rw [Hm.out]
       exact hown'
      clear hown' hgrow hown hc0 hc1 hc2 hc3 hc4 hb
      go_wp2
      go_roundw
      case rel => exact ⟨k + 1, by omega, by go_num, ho2, hb2⟩
      case measure => simp [RowKit.intOf]; omega
     ·have hst2 : P ++ (L.take (k + 1)).filter f = P ++ (L.take k).filter f := by
       rw [hfx, hfp, decide_eq_false hq, if_neg (by decide), List.append_nil]
      have hne : (p.rk == (r : Int) + 1) = false := by simp [hq]
      have HO2 := Lib.hid (show OwnPlR wr w.heap.size _ (P ++ (L.take (k + 1)).filter f) by rw [hst2]; exact hown)
      have HB2 := Lib.hid hb
      clear hst2 hfx hfp hx hown hb hlen
      go_wp2
      go_roundw
      case rel => exact ⟨k + 1, by omega, by go_num, HO2.out, HB2.out⟩
      case measure => simp [RowKit.intOf]; omega
    ·have hkn' : k = n := by omega
     subst hkn'
     rw [← Hst.out] at hown
     have HO2 := Lib.hid hown
     have HB2 := Lib.hid hb
     clear hown hb
     go_wp2
     go_roundw
     case rel => exact ⟨r + 1, by omega, by go_num, HO2.out, HB2.out⟩
     case measure => simp [RowKit.intOf]; omega
  ·have hrn : r = n := by omega
   subst hrn
   have hri : ¬ (r : Int) + 1 ≤ (r : Int) := by omega
   have hPl := HFL.out r (Nat.le_refl _)
   have HO := Lib.hid hown
   have HB := Lib.hid hb
   generalize hP : (List.range r).flatMap (byRk L) = P at *
   have HP := Lib.hid hP
   obtain ⟨f, hf⟩ : ∃ f : Plc → Bool, (fun p : Plc => decide (p.rk = 0)) = f := ⟨_, rfl⟩
   have HF : Hid (∀ p : Plc, f p = decide (p.rk = 0)) := Lib.hid fun p => by rw [← hf]
   have HFE := Lib.hid hf
   have hPL := Lib.hid hPl
   clear hown hb hf hPl hP
   obtain ⟨wy, rfl⟩ : ∃ wy : World, wy = wr := ⟨_, rfl⟩
   go_wp2
   go_loopw [3, 6] (fun v i wr => ∃ k : Nat, k ≤ r ∧ i = .int .i64 k ∧ OwnPlR wr w.heap.size v (P ++ (L.take k).filter f) ∧ Below w.heap.size w wr) (fun _ i _ => r - (RowKit.intOf i).toNat)
   case atStart => exact ⟨0, by omega, rfl, by simpa using HO.out, HB.out⟩
   case round =>
    obtain ⟨k, hk, rfl, hown, hb⟩ := hrel
    by_cases hkn : k < r
    ·obtain ⟨b', off, p, rfl, hbl, hx, hc0, hc1, hc2, hc3, hc4⟩ := (H.out.below hb).at_ hkn
     have hki : (k : Int) < (r : Int) := by omega
     have hk0 : (0 : Int) ≤ (k : Int) := by omega
     have hkt : ((k : Int)).toNat = k := by omega
     have hlen : (P ++ (L.take k).filter f).length ≤ 20000 := by
      have := HF2.out k f
      have := hPL.out
      rw [List.length_append]; omega
     have hfx := HF1.out k p f hx
     have hfp := HF.out p
     by_cases hq : p.rk = 0
     ·have hst2 : P ++ (L.take (k + 1)).filter f = (P ++ (L.take k).filter f) ++ [p] := by
       rw [hfx, hfp, decide_eq_true hq, if_pos rfl, List.append_assoc]
      have Hst2 := Lib.hid hst2
      generalize hQ : P ++ (L.take k).filter f = Q at *
      have HO2 := Lib.hid hown
      have HB2 := Lib.hid hb
      obtain ⟨m, hm⟩ : ∃ m, Q.length = m := ⟨_, rfl⟩
      have Hm := Lib.hid hm
      rw [hm] at hlen
      unfold OwnPlR at hown
      rw [hm] at hown
      have HCC : Hid (∀ (j : Nat) (u : Value) (q' : Nat), q' = wr.heap.size → p.cells[j]? = some u → (wr.alloc (.cells #[.string p.nm, .int .i64 p.rk, .string p.kd, .int .i64 p.vl, .string p.rs] 126)).cell? ((⟨q', 0, none⟩ : Addr).add j) = some u) := Lib.hid fun j u q' hq' hj => news5 wr p 126 q' hq' j u hj
      obtain ⟨n1, r1, k1, v1, t1⟩ := p
      dsimp only at hc0 hc1 hc2 hc3 hc4 hq HCC
      subst hq
      clear hst2 hfx hfp hx hQ hm
      go_wp2_with (at_builtin; refine wpList_append_own _ rfl _ _ 42 rfl w.heap.size 126 i0 (.agg #[.string ⟨#[]⟩, .int .i64 0, .string ⟨#[]⟩, .int .i64 0, .string ⟨#[]⟩]) 5 64 Tryz.underlying42 hi hz0 hz1 hz2 rfl (by decide) _ _ _ rfl (World.ownsRow.alloc hown _) ⟨wr.heap.size, 0, none⟩ 1 1 (Plc.cells ⟨n1, 0, k1, v1, t1⟩) rfl rfl (fun j u hj => HCC.out j u _ rfl hj) (one5 _) ?c3 ?c4 ?c5 ?_)
      case c3 => unfold maxLen; omega
      case c4 => omega
      case c5 => have := HB2.out.size; simp; omega
      intro v' w2 hown' hgrow _
      have hb2 : Below w.heap.size w w2 := (HB2.out.alloc HB2.out.size _).grown hgrow (by have := HB2.out.size; simp; omega) (fun r hr => (World.ownsRow.lt hown r hr).1)
      have ho2 : OwnPlR w2 w.heap.size v' (P ++ (L.take (k + 1)).filter f) := by
       rw [Hst2.out]
       refine OwnPlR.next ?_
       rw [Hm.out]
       exact hown'
      clear hown' hgrow hown hc0 hc1 hc2 hc3 hc4 hb
      go_wp2
      go_roundw
      case rel => exact ⟨k + 1, by omega, by go_num, ho2, hb2⟩
      case measure => simp [RowKit.intOf]; omega
     ·have hst2 : P ++ (L.take (k + 1)).filter f = P ++ (L.take k).filter f := by
       rw [hfx, hfp, decide_eq_false hq, if_neg (by decide), List.append_nil]
      have hne : (p.rk == 0) = false := by simp [hq]
      have HO2 := Lib.hid (show OwnPlR wr w.heap.size _ (P ++ (L.take (k + 1)).filter f) by rw [hst2]; exact hown)
      have HB2 := Lib.hid hb
      clear hst2 hfx hfp hx hown hb hlen
      go_wp2
      go_roundw
      case rel => exact ⟨k + 1, by omega, by go_num, HO2.out, HB2.out⟩
      case measure => simp [RowKit.intOf]; omega
    ·have hkn' : k = r := by omega
     rw [hkn', ← HP.out, ← HFE.out] at hown
     have HO2 := Lib.hid hown
     have HB2 := Lib.hid hb
     clear hown hb
     go_wp2
     go_ret
     exact ⟨_, rfl, HO2.out, HB2.out⟩
end Go.Mk
end
section
namespace Go.Mk
theorem three_blk {w : World} {g : Nat} {a b c : Value} {t : TypeId} (k : w.heap[g]? = some (.cells #[a, b, c] t (0, 0))) : (w.cell? ⟨g, 0, none⟩ = some a ∧ w.cell? ⟨g, 1, none⟩ = some b ∧ w.cell? ⟨g, 2, none⟩ = some c) ∧ (w.frozen? ⟨g, 0, none⟩ = false ∧ w.frozen? ⟨g, 1, none⟩ = false ∧ w.frozen? ⟨g, 2, none⟩ = false) :=
 ⟨⟨Go.Joins.cell_of_block k 0, Go.Joins.cell_of_block k 1, Go.Joins.cell_of_block k 2⟩, Go.Joins.unfrozen_of_block k 0, Go.Joins.unfrozen_of_block k 1, Go.Joins.unfrozen_of_block k 2⟩
end Go.Mk
end
