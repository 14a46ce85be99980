/-
  Proved: Parse of the reference of chapter 6 as a plain function of a text. Condition: the text has at most 5,000 bytes.
-/
import Derived.Test.YthpcmhcokblglaaGreatDoorFcm
import Derived.Test.YthpcmhcokblglaaGreatDoorFco
import Derived.Test.YthpcmhcokblglaaGreatDoorFcq
set_option linter.unusedVariables false
set_option linter.unusedSimpArgs false
open Go Go.Proofs Go.RowKit
set_option maxRecDepth 100000
namespace Go.Mk
/-- The words behind a bar. -/
def goO (Hs : List (List UInt8)) : List (List UInt8) → List (List UInt8) → Option (List (List UInt8) × List (List UInt8))
  | Os, [] => some (Hs, Os)
  | Os, t :: l => if t = [124] then none else if plW t then goO Hs (Os ++ [t]) l else none
/-- The words ahead of a bar, and behind it. -/
def goH : List (List UInt8) → List (List UInt8) → Option (List (List UInt8) × List (List UInt8))
  | Hs, [] => some (Hs, [])
  | Hs, t :: l => if t = [124] then (if l = [] then none else goO Hs [] l) else if plW t then goH (Hs ++ [t]) l else none
/-- The card of a text by the reference, and the error. -/
def refW (w0 : List UInt8) (b : List (List UInt8)) : CardP × Int :=
  if w0.length < 2 ∨ lastB w0 ≠ 58 ∨ plW w0.dropLast = false then (noCard, 25) else
  match goH [] (dropRet b) with
  | none => (noCard, 25)
  | some p => if frmE (mkB w0.dropLast) p.1 p.2 = 0 then ((w0.dropLast, p.1, p.2, decide (b.getLast? = some retL)), 0) else (noCard, frmE (mkB w0.dropLast) p.1 p.2)
def refV (l : List UInt8) : CardP × Int :=
  if 4096 < l.length then (noCard, 26) else
  match splitS l with
  | [] => (noCard, 25)
  | w0 :: b => refW w0 b
theorem refV_some {l w0 : List UInt8} {b : List (List UInt8)} (h : ¬ 4096 < l.length) (hs : splitS l = w0 :: b) : refV l = refW w0 b := by unfold refV; rw [if_neg h, hs]
theorem n58 (c : UInt8) : ((c.toNat : Int) != 58) = !decide (c = 58) := by
  by_cases q : c = 58
  · subst q; rfl
  · rw [decide_eq_false q]; show (!((c.toNat : Int) == 58)) = _; rw [show (58 : Int) = ((58 : UInt8).toNat : Int) from rfl, u8_ne q]
theorem goO_size : ∀ {l Hs Os : List (List UInt8)} {p : List (List UInt8) × List (List UInt8)}, goO Hs Os l = some p → p.1 = Hs ∧ ∀ t ∈ p.2, t ∈ Os ∨ t ∈ l
  | [], Hs, Os, p, h => by
    rw [goO] at h
    obtain rfl := Option.some.inj h
    exact ⟨rfl, fun t ht => .inl ht⟩
  | t :: l, Hs, Os, p, h => by
    rw [goO] at h
    split at h
    · cases h
    · split at h
      · obtain ⟨h1, h2⟩ := goO_size h
        refine ⟨h1, fun x hx => ?_⟩
        rcases h2 x hx with q | q
        · rw [List.mem_append, List.mem_singleton] at q
          rcases q with q | q
          · exact .inl q
          · exact .inr (by rw [q]; exact List.mem_cons_self ..)
        · exact .inr (List.mem_cons_of_mem _ q)
      · cases h
theorem TextsZ.belowB {w w' : World} {A : Option Addr} {n B : Nat} {L : List ByteArray} (h : TextsZ w A n L) (hb : Below B w w') (hB : B ≤ w.heap.size) (hblk : 0 < n → ∀ ad : Addr, A = some ad → ad.block < B) : TextsZ w' A n L := by
  refine ⟨h.1, fun h0 => ?_⟩
  obtain ⟨q, off, e, hlt, hc⟩ := h.2 h0
  have hq : q < B := hblk h0 _ e
  exact ⟨q, off, e, Nat.lt_of_lt_of_le hq (Nat.le_trans hB hb.size), fun j x hx => (hb.cell (p := ⟨q, off + j, none⟩) hq).trans (hc j x hx)⟩
/-- How far the words are read. -/
def PInv (wx w1 : World) (p : Nat) (nm : ByteArray) (rt : Bool) (H0 : List ByteArray) (RR : Option (List (List UInt8) × List (List UInt8))) (wr : World) (k : Nat) (bar : Bool) (Hs Os : List ByteArray) (v1 v2 : Value) : Prop :=
  (wr.heap[p]? = some (.cells #[.string nm, v1, v2, .bool rt] 54 (0, 0)) ∧ Below w1.heap.size w1 wr ∧ (∀ q, q < wx.heap.size → q ≠ p → wr.heap[q]? = wx.heap[q]?) ∧ wx.heap.size ≤ wr.heap.size) ∧ (Hs.length ≤ k ∧ Os.length ≤ k ∧ (∀ x ∈ Hs, x.size ≤ 5000) ∧ (∀ x ∈ Os, x.size ≤ 5000)) ∧
  ((bar = false ∧ OwnNames wr wx.heap.size v1 Hs ∧ v2 = .slice none 0 0 ∧ Os = [] ∧ goH (bls Hs) ((bls H0).drop k) = RR) ∨
   (bar = true ∧ (∃ B2, wx.heap.size ≤ B2 ∧ B2 ≤ wr.heap.size ∧ OwnNames wr B2 v2 Os ∧ ∃ A1 n1 c1, v1 = .slice A1 n1 c1 ∧ TextsZ wr A1 n1 Hs ∧ n1 ≤ c1 ∧ (A1 = none → c1 = 0) ∧ (0 < n1 → ∀ ad : Addr, A1 = some ad → wx.heap.size ≤ ad.block ∧ ad.block < B2)) ∧ goO (bls Hs) (bls Os) ((bls H0).drop k) = RR))
theorem slice_shape {w : World} {B : Nat} {T : TypeId} {v : Value} {n : Nat} {xs : List Value} (h : w.ownsRow B T 1 v n xs) : ∃ a c, v = .slice a n c := by
  rcases h.2 with ⟨a, b⟩ | ⟨g, cap, cur, a, _⟩
  · exact ⟨none, 0, by rw [a, b]⟩
  · exact ⟨_, cap, a⟩
theorem own_shape {w : World} {B : Nat} {v : Value} {L : List ByteArray} (h : OwnNames w B v L) : ∃ A1 n1 c1, v = .slice A1 n1 c1 ∧ TextsZ w A1 n1 L ∧ n1 ≤ c1 ∧ (A1 = none → c1 = 0) ∧ (0 < n1 → ∀ ad : Addr, A1 = some ad → B ≤ ad.block ∧ ad.block < w.heap.size) := by
  obtain ⟨A, c, hv, h1, h2, h3⟩ := TextsZ.of_own h
  refine ⟨A, L.length, c, hv, h3, h1, h2, fun h0 ad had => ?_⟩
  obtain ⟨q, c2, e, hq, hlt⟩ := ownSome h h0
  rw [hv, had] at e
  injection e with e1
  injection e1 with e1
  rw [e1]
  exact ⟨hq, hlt⟩
/-- At the end: both lists, in their cells. -/
theorem PInv.ends {wx w1 : World} {p : Nat} {nm : ByteArray} {rt : Bool} {H0 : List ByteArray} {RR : Option (List (List UInt8) × List (List UInt8))} {wr : World} {k : Nat} {bar : Bool} {Hs Os : List ByteArray} {v1 v2 : Value}
    (h : PInv wx w1 p nm rt H0 RR wr k bar Hs Os v1 v2) (hk : H0.length ≤ k) : RR = some (bls Hs, bls Os) ∧ ∃ A1 n1 c1 A2 n2 c2, v1 = .slice A1 n1 c1 ∧ v2 = .slice A2 n2 c2 ∧ (TextsZ wr A1 n1 Hs ∧ n1 ≤ c1 ∧ (A1 = none → c1 = 0) ∧ (0 < n1 → ∀ ad : Addr, A1 = some ad → wx.heap.size ≤ ad.block)) ∧ TextsZ wr A2 n2 Os ∧ n2 ≤ c2 ∧ (A2 = none → c2 = 0) ∧ (0 < n2 → ∀ ad : Addr, A2 = some ad → wx.heap.size ≤ ad.block) := by
  have hd : (bls H0).drop k = [] := bls_end rfl hk
  obtain ⟨_, _, ⟨rfl, h1, rfl, rfl, h2⟩ | ⟨rfl, ⟨B2, b1, b2, h1, A1, n1, c1, e1, t1, l1, o1, f1⟩, h2⟩⟩ := h
  · rw [hd, goH] at h2
    obtain ⟨A1, n1, c1, e1, t1, l1, o1, f1⟩ := own_shape h1
    exact ⟨h2.symm, A1, n1, c1, none, 0, 0, e1, rfl, ⟨t1, l1, o1, fun h0 ad had => (f1 h0 ad had).1⟩, (no_texts wr).1, by decide, fun _ => rfl, fun h0 => absurd h0 (by decide)⟩
  · rw [hd, goO] at h2
    obtain ⟨A2, n2, c2, e2, t2, l2, o2, f2⟩ := own_shape h1
    exact ⟨h2.symm, A1, n1, c1, A2, n2, c2, e1, e2, ⟨t1, l1, o1, fun h0 ad had => (f1 h0 ad had).1⟩, t2, l2, o2, fun h0 ad had => Nat.le_trans b1 (f2 h0 ad had).1⟩
set_option maxHeartbeats 4000000 in
theorem parse_long (s : ByteArray) (hz : s.size ≤ 5000) (h4 : 4096 < s.size) (w : World) : Calls Tryz.prog 26 #[.string s] w (ParPost (refV (bl s)) w) := by
  obtain ⟨g, hg⟩ : ∃ g, w.heap.size = g := ⟨_, rfl⟩
  obtain ⟨w1, hw1⟩ : ∃ w1, w.alloc (.cells #[.string ⟨#[]⟩, .slice none 0 0, .slice none 0 0, .bool false] 54) = w1 := ⟨_, rfl⟩
  have hb1 : Below w.heap.size w w1 := by rw [← hw1]; exact balloc _ (Below.refl _ _)
  have k0 : w1.heap[g]? = some (.cells #[.string ⟨#[]⟩, .slice none 0 0, .slice none 0 0, .bool false] 54 (0, 0)) := by rw [← hw1, ← hg]; exact Array.getElem?_push_size
  have HB1 := Lib.hid hb1
  have HG0 : Hid (w.heap.size ≤ g ∧ g < w1.heap.size) := Lib.hid ⟨by omega, (Array.getElem?_eq_some_iff.1 k0).1⟩
  have HK : Hid (∀ w', Below w1.heap.size w1 w' → w'.heap[g]? = some (.cells #[.string ⟨#[]⟩, .slice none 0 0, .slice none 0 0, .bool false] 54 (0, 0))) := Lib.hid fun w' hb => (hb.block _ (Array.getElem?_eq_some_iff.1 k0).1).trans k0
  have hlen := bl_len s
  have hzi : (s.size : Int) ≤ 5000 := by omega
  have HE : Hid (∀ (er : Int) w', refV (bl s) = (noCard, er) → Below w.heap.size w w' → ParPost (refV (bl s)) w (.returned (.tuple #[.agg #[.string ⟨#[]⟩, .slice none 0 0, .slice none 0 0, .bool false], .int .i64 er])) w') := Lib.hid fun er w' hv hb => by
    rw [hv]
    exact ⟨_, _, _, _, _, _, _, _, _, [], [], rfl, hb, rfl, no_texts w', no_texts w'⟩
  have HV : Hid (refV (bl s) = (noCard, 26)) := Lib.hid (by unfold refV; rw [if_pos (by omega)])
  have h4i : (4096 : Int) < (s.size : Int) := by omega
  have kg := HK.out w1 (Below.refl _ _)
  have q0 := Go.Joins.cell_of_block kg 0
  have r0 := Go.Joins.unfrozen_of_block kg 0
  have q1 := Go.Joins.cell_of_block kg 1
  have r1 := Go.Joins.unfrozen_of_block kg 1
  have q2 := Go.Joins.cell_of_block kg 2
  have r2 := Go.Joins.unfrozen_of_block kg 2
  have q3 := Go.Joins.cell_of_block kg 3
  have r3 := Go.Joins.unfrozen_of_block kg 3
  have KG := Lib.hid kg
  clear kg
  clear k0 hb1 h4 hlen
  go_enter Tryz.func26, Tryz.ntmps26
  go_wp2_with fail
  have k4 := four_set KG.out (.string ⟨#[]⟩) (.slice none 0 0) (.slice none 0 0) (.bool false)
  have hfin := HE.out 26 _ HV.out (four_below (HB1.out.trans ((Below.refl w1.heap.size w1).mono HB1.out.size)) HG0.out.1 (.string ⟨#[]⟩) (.slice none 0 0) (.slice none 0 0) (.bool false))
  have z0 := Go.Joins.cell_of_block k4 0
  have z1 := Go.Joins.cell_of_block k4 1
  have z2 := Go.Joins.cell_of_block k4 2
  have z3 := Go.Joins.cell_of_block k4 3
  exact bodyPost_ret (v := .tuple #[.agg #[.string ⟨#[]⟩, .slice none 0 0, .slice none 0 0, .bool false], .int .i64 26]) (by simp [results, Tryz.results26, go_sem, z0, z1, z2, z3]) rfl hfin
set_option maxHeartbeats 8000000 in
theorem parse_short (s : ByteArray) (hz : s.size ≤ 5000) (h4 : ¬ 4096 < s.size) (w : World) : Calls Tryz.prog 26 #[.string s] w (ParPost (refV (bl s)) w) := by
  obtain ⟨g, hg⟩ : ∃ g, w.heap.size = g := ⟨_, rfl⟩
  obtain ⟨w1, hw1⟩ : ∃ w1, w.alloc (.cells #[.string ⟨#[]⟩, .slice none 0 0, .slice none 0 0, .bool false] 54) = w1 := ⟨_, rfl⟩
  have hb1 : Below w.heap.size w w1 := by rw [← hw1]; exact balloc _ (Below.refl _ _)
  have k0 : w1.heap[g]? = some (.cells #[.string ⟨#[]⟩, .slice none 0 0, .slice none 0 0, .bool false] 54 (0, 0)) := by rw [← hw1, ← hg]; exact Array.getElem?_push_size
  have HB1 := Lib.hid hb1
  have HG0 : Hid (w.heap.size ≤ g ∧ g < w1.heap.size) := Lib.hid ⟨by omega, (Array.getElem?_eq_some_iff.1 k0).1⟩
  have HK : Hid (∀ w', Below w1.heap.size w1 w' → w'.heap[g]? = some (.cells #[.string ⟨#[]⟩, .slice none 0 0, .slice none 0 0, .bool false] 54 (0, 0))) := Lib.hid fun w' hb => (hb.block _ (Array.getElem?_eq_some_iff.1 k0).1).trans k0
  have hlen := bl_len s
  have hzi : (s.size : Int) ≤ 5000 := by omega
  have HE : Hid (∀ (er : Int) w', refV (bl s) = (noCard, er) → Below w.heap.size w w' → ParPost (refV (bl s)) w (.returned (.tuple #[.agg #[.string ⟨#[]⟩, .slice none 0 0, .slice none 0 0, .bool false], .int .i64 er])) w') := Lib.hid fun er w' hv hb => by
    rw [hv]
    exact ⟨_, _, _, _, _, _, _, _, _, [], [], rfl, hb, rfl, no_texts w', no_texts w'⟩
  have h4i : ¬ (4096 : Int) < (s.size : Int) := by omega
  have hW := r6words_any s hz w1
  have HW4 : Hid (¬ 4096 < (bl s).length) := Lib.hid (by omega)
  clear k0 hb1 h4
  go_enter Tryz.func26, Tryz.ntmps26
  go_wp2_with fail
  with_reducible refine hW.mono ?_
  rintro e w2 ⟨v, L, rfl, hO, hL, hb2⟩
  obtain ⟨t, L', rfl⟩ : ∃ t L', L = t :: L' := by
    cases L with
    | nil => exact absurd hL.symm (splitS_ne _)
    | cons t L' => exact ⟨t, L', rfl⟩
  obtain ⟨gb, cb, rfl, hgb, hcb, hcell⟩ := hO.at0 (by simp)
  have hgB : w1.heap.size ≤ gb := by
    obtain ⟨q, c2, e, hq, _⟩ := ownSome hO (by simp)
    injection e with e1
    injection e1 with e1
    have : gb = q := by injection e1
    omega
  obtain ⟨m, hm⟩ : ∃ m, L'.length = m := ⟨_, rfl⟩
  have hRW : refV (bl s) = refW (bl t) (bls L') := refV_some HW4.out (by rw [← hL]; rfl)
  have HRW := Lib.hid hRW
  have hsz := splitGo_size 32 (bl s) [] 5000 (by simp; omega)
  have hln := splitGo_len 32 (bl s) []
  have hsp : splitGo 32 [] (bl s) = bl t :: bls L' := by show splitS (bl s) = _; rw [← hL]; rfl
  rw [hsp] at hsz hln
  rw [List.length_cons, bls_len, hm] at hln
  have hts : t.size ≤ 5000 := by rw [← bl_len]; exact hsz _ (by simp)
  have HLS : Hid (∀ x ∈ L', x.size ≤ 5000) := Lib.hid fun x hx => by rw [← bl_len]; exact hsz _ (List.mem_cons_of_mem _ (by unfold bls; exact List.mem_map_of_mem hx))
  have hm2 : m ≤ 5000 := by omega
  have hc0 : w2.cell? ⟨gb, 0, none⟩ = some (.string t) := hcell 0 t rfl
  have HCL : Hid (∀ j x, L'[j]? = some x → w2.cell? ⟨gb, j + 1, none⟩ = some (.string x)) := Lib.hid fun j x hx => hcell (j + 1) x hx
  have HB2 := Lib.hid hb2
  have HM := Lib.hid hm
  have HGB : Hid (w1.heap.size ≤ gb ∧ gb < w2.heap.size) := Lib.hid ⟨hgB, hgb⟩
  have HCB : Hid (m + 1 ≤ cb) := Lib.hid (by rw [List.length_cons, hm] at hcb; exact hcb)
  have hl0 : (0 : Int) < ((m + 1 : Nat) : Int) := by omega
  have hmi : (m : Int) ≤ 5000 := by omega
  have hti : (t.size : Int) ≤ 5000 := by omega
  rw [List.length_cons, hm]
  clear hcell hO hL hW hb2 hgb hgB hcb hm hRW hsz hln hsp hlen
  by_cases hn2 : t.size < 2
  · have HV : Hid (refV (bl s) = (noCard, 25)) := Lib.hid (by rw [HRW.out]; unfold refW; rw [if_pos (.inl (by rw [bl_len]; exact hn2))])
    have hni : (t.size : Int) < 2 := by omega
    have kg := HK.out w2 HB2.out
    have q0 := Go.Joins.cell_of_block kg 0
    have r0 := Go.Joins.unfrozen_of_block kg 0
    have q1 := Go.Joins.cell_of_block kg 1
    have r1 := Go.Joins.unfrozen_of_block kg 1
    have q2 := Go.Joins.cell_of_block kg 2
    have r2 := Go.Joins.unfrozen_of_block kg 2
    have q3 := Go.Joins.cell_of_block kg 3
    have r3 := Go.Joins.unfrozen_of_block kg 3
    have KG := Lib.hid kg
    clear kg
    clear hn2
    go_wp2_with fail
    have k4 := four_set KG.out (.string ⟨#[]⟩) (.slice none 0 0) (.slice none 0 0) (.bool false)
    have hfin := HE.out 25 _ HV.out (four_below (HB1.out.trans ((HB2.out).mono HB1.out.size)) HG0.out.1 (.string ⟨#[]⟩) (.slice none 0 0) (.slice none 0 0) (.bool false))
    have z0 := Go.Joins.cell_of_block k4 0
    have z1 := Go.Joins.cell_of_block k4 1
    have z2 := Go.Joins.cell_of_block k4 2
    have z3 := Go.Joins.cell_of_block k4 3
    exact bodyPost_ret (v := .tuple #[.agg #[.string ⟨#[]⟩, .slice none 0 0, .slice none 0 0, .bool false], .int .i64 25]) (by simp [results, Tryz.results26, go_sem, z0, z1, z2, z3]) rfl hfin
  · have hni : ¬ (t.size : Int) < 2 := by omega
    obtain ⟨q, hq⟩ : ∃ q, t.size = q + 1 := ⟨t.size - 1, by omega⟩
    have hqt : q < t.size := by omega
    obtain ⟨c, hc⟩ : ∃ c, t[q] = c := ⟨_, rfl⟩
    have hidx : ∀ h, (t[q]'h) = c := fun h => hc
    have hlast : lastB (bl t) = c := by rw [lastB_at hq hqt, hc]
    have hq1 : (t.size : Int) - 1 = (q : Int) := by omega
    have hwq : IntKind.i64.wrap (q : Int) = (q : Int) := IntWalk.i64_in _ (by omega)
    have hq0 : (0 : Int) ≤ (q : Int) := by omega
    have hqT : ((q : Int)).toNat = q := by omega
    have hqi : (q : Int) < (t.size : Int) := by omega
    have hqi2 : (q : Int) ≤ (t.size : Int) := by omega
    have e58 := n58 c
    by_cases h58 : c = 58
    · rw [decide_eq_true h58] at e58
      have hdl : bl (t.extract 0 q) = (bl t).dropLast := by
        rw [extract_bl, List.drop_zero, Nat.sub_zero, List.dropLast_eq_take, bl_len, hq]
        rfl
      have hPl := fun w => r6plain_any (t.extract 0 q) (by rw [← bl_len, hdl, List.length_dropLast, bl_len]; omega) w
      rw [hdl] at hPl
      cases hpw : plW (bl t).dropLast with
      | false =>
        rw [hpw] at hPl
        have HV : Hid (refV (bl s) = (noCard, 25)) := Lib.hid (by rw [HRW.out]; unfold refW; rw [if_pos (.inr (.inr hpw))])
        have kg := HK.out w2 HB2.out
        have q0 := Go.Joins.cell_of_block kg 0
        have r0 := Go.Joins.unfrozen_of_block kg 0
        have q1 := Go.Joins.cell_of_block kg 1
        have r1 := Go.Joins.unfrozen_of_block kg 1
        have q2 := Go.Joins.cell_of_block kg 2
        have r2 := Go.Joins.unfrozen_of_block kg 2
        have q3 := Go.Joins.cell_of_block kg 3
        have r3 := Go.Joins.unfrozen_of_block kg 3
        have KG := Lib.hid kg
        clear kg
        clear hn2 hq hc hlast h58 hdl hpw
        go_wp2_with fail
        with_reducible refine (hPl _).mono ?_
        rintro e w3 ⟨rfl, rfl⟩
        go_wp2_with fail
        have k4 := four_set KG.out (.string ⟨#[]⟩) (.slice none 0 0) (.slice none 0 0) (.bool false)
        have hfin := HE.out 25 _ HV.out (four_below (HB1.out.trans ((HB2.out).mono HB1.out.size)) HG0.out.1 (.string ⟨#[]⟩) (.slice none 0 0) (.slice none 0 0) (.bool false))
        have z0 := Go.Joins.cell_of_block k4 0
        have z1 := Go.Joins.cell_of_block k4 1
        have z2 := Go.Joins.cell_of_block k4 2
        have z3 := Go.Joins.cell_of_block k4 3
        exact bodyPost_ret (v := .tuple #[.agg #[.string ⟨#[]⟩, .slice none 0 0, .slice none 0 0, .bool false], .int .i64 25]) (by simp [results, Tryz.results26, go_sem, z0, z1, z2, z3]) rfl hfin
      | true =>
        rw [hpw] at hPl
        obtain ⟨nm, hnm⟩ : ∃ nm, t.extract 0 q = nm := ⟨_, rfl⟩
        have HRV : Hid (refV (bl s) = (match goH [] (dropRet (bls L')) with
            | none => (noCard, 25)
            | some p => if frmE nm p.1 p.2 = 0 then ((bl nm, p.1, p.2, decide ((bls L').getLast? = some retL)), 0) else (noCard, frmE nm p.1 p.2))) := Lib.hid (by
          rw [HRW.out]
          unfold refW
          rw [if_neg (by rintro (q1 | q1 | q1); rw [bl_len] at q1; omega; rw [hlast] at q1; exact q1 h58; rw [hpw] at q1; cases q1), ← hdl, hnm, mkB_bl])
        rw [hnm] at hPl
        have HNS : Hid (nm.size ≤ 5000) := Lib.hid (by rw [← hnm, ← bl_len, hdl, List.length_dropLast, bl_len]; omega)
        clear hn2 hq hc hlast h58 hdl hpw HRW
        go_wp2_with fail
        with_reducible refine (hPl _).mono ?_
        rintro e w3 ⟨rfl, rfl⟩
        go_upto_region 9 with fail
        rename_i K1 h1 K0 h0
        obtain ⟨A0, hA0⟩ : ∃ A0 : Option Addr, (if cb = 1 then some ⟨gb, 0, none⟩ else some ⟨gb, 1, none⟩) = A0 := ⟨_, rfl⟩
        rw [hA0]
        have hA0n : ∃ o1, A0 = some ⟨gb, o1, none⟩ := by rw [← hA0]; split <;> exact ⟨_, rfl⟩
        have hA0p : 0 < m → A0 = some ⟨gb, 1, none⟩ := fun q => by rw [← hA0, if_neg (by have := HCB.out; omega)]
        obtain ⟨p, hp⟩ : ∃ p, w2.heap.size = p := ⟨_, rfl⟩
        rw [hp]
        obtain ⟨w4, hw4⟩ : ∃ w4, w2.alloc (.cells #[.string nm, .slice none 0 0, .slice none 0 0, .bool false] 54) = w4 := ⟨_, rfl⟩
        rw [hw4]
        have hb4 : Below w1.heap.size w1 w4 := by rw [← hw4]; exact HB2.out.alloc HB2.out.size _
        have hk4 : w4.heap[p]? = some (.cells #[.string nm, .slice none 0 0, .slice none 0 0, .bool false] 54 (0, 0)) := by rw [← hw4, ← hp]; exact Array.getElem?_push_size
        have hT4 : TextsZ w4 A0 m L' := by
          refine ⟨HM.out, fun q => ⟨gb, 1, hA0p q, ?_, fun j z hz => ?_⟩⟩
          · rw [← hw4]; have := HGB.out.2; simp; omega
          · rw [← hw4, Nat.add_comm 1 j, World.cell?_alloc_lt _ _ _ HGB.out.2]
            exact HCL.out j z hz
        have HPG : Hid (w1.heap.size ≤ p ∧ p ≠ gb ∧ w1.heap.size ≤ gb) := Lib.hid (by
          have h1 := HGB.out
          have h2 := HB2.out.size
          exact ⟨by omega, by omega, h1.1⟩)
        have HGX : Hid (gb < w4.heap.size) := Lib.hid (by rw [← hw4]; have := HGB.out.2; simp; omega)
        have HT4 := Lib.hid hT4
        have HK4 := Lib.hid hk4
        have HB4 := Lib.hid hb4
        obtain ⟨i0, hi, hz0, hz1, hz2⟩ := info_parts infoStr
        clear hA0 hw4 hT4 hk4 hb4 hp hc0 HCL HB2 hl0 e58 hPl hidx hq1 hwq hq0 hqT hqi hqi2 hni hqt hnm
        have REST : Hid (∀ (u1 u5 u7 u8 u9 u10 u11 u12 u13 u14 u15 u16 u17 u18 u19 u20 u21 u22 u23 u24 u25 u26 u27 u28 u29 u30 u31 u32 u33 u34 u35 u36 u37 u38 u39 u40 u41 u42 u43 u44 u45 u46 u47 u48 u49 u50 u51 u52 u53 u54 u55 u56 u57 u58 u59 u60 u61 u62 u63 u64 u65 u66 u67 u68 u69 u70 u71 u72 u73 u74 u75 u76 u77 u78 u79 u80 u81 u82 u83 u84 u85 u86 u87 u88 u89 u90 u91 u92 u93 u94 u95 u96 u97 u98 u99 u100 u101 u102 u103 u104 u105 u106 u107 u108 u109 u110 u111 u112 u113 u114 u115 u116 u117 u118 u119 u120 u121 : Value) (wx : World) (A : Option Addr) (n c : Nat) (H0 : List ByteArray) (rt : Bool), Below w1.heap.size w1 wx → wx.heap[p]? = some (.cells #[.string nm, .slice none 0 0, .slice none 0 0, .bool rt] 54 (0, 0)) → TextsZ wx A n H0 → n ≤ c → (∃ o1, A = some ⟨gb, o1, none⟩) → gb < wx.heap.size → (∀ z ∈ H0, z.size ≤ 5000) → bls H0 = dropRet (bls L') → rt = decide ((bls L').getLast? = some retL) → K1 ⟨#[.string s, u1, .pointer (some ⟨g, 0, none⟩), .int .i64 0, .slice A n c, u5, .pointer (some ⟨p, 0, none⟩), u7, u8, u9, u10, u11, u12, u13, u14, u15, u16, u17, u18, u19, u20, u21, u22, u23, u24, u25, u26, u27, u28, u29, u30, u31, u32, u33, u34, u35, u36, u37, u38, u39, u40, u41, u42, u43, u44, u45, u46, u47, u48, u49, u50, u51, u52, u53, u54, u55, u56, u57, u58, u59, u60, u61, u62, u63, u64, u65, u66, u67, u68, u69, u70, u71, u72, u73, u74, u75, u76, u77, u78, u79, u80, u81, u82, u83, u84, u85, u86, u87, u88, u89, u90, u91, u92, u93, u94, u95, u96, u97, u98, u99, u100, u101, u102, u103, u104, u105, u106, u107, u108, u109, u110, u111, u112, u113, u114, u115, u116, u117, u118, u119, u120, u121], []⟩ wx) := Lib.hid (by
          intro u1 u5 u7 u8 u9 u10 u11 u12 u13 u14 u15 u16 u17 u18 u19 u20 u21 u22 u23 u24 u25 u26 u27 u28 u29 u30 u31 u32 u33 u34 u35 u36 u37 u38 u39 u40 u41 u42 u43 u44 u45 u46 u47 u48 u49 u50 u51 u52 u53 u54 u55 u56 u57 u58 u59 u60 u61 u62 u63 u64 u65 u66 u67 u68 u69 u70 u71 u72 u73 u74 u75 u76 u77 u78 u79 u80 u81 u82 u83 u84 u85 u86 u87 u88 u89 u90 u91 u92 u93 u94 u95 u96 u97 u98 u99 u100 u101 u102 u103 u104 u105 u106 u107 u108 u109 u110 u111 u112 u113 u114 u115 u116 u117 u118 u119 u120 u121 wx A n c H0 rt hbx hkx hTx hnc hAo hgx hsz0 hH0 hrt
          apply h1
          clear h1 K1 h0 K0 HT4 HK4 HB4 hA0n hA0p
          obtain ⟨o1, rfl⟩ := hAo
          obtain ⟨RR, hRR⟩ : ∃ RR, goH [] (dropRet (bls L')) = RR := ⟨_, rfl⟩
          rw [hRR] at HRV
          have hn5 : n ≤ 5000 := by
            rw [← hTx.1, ← bls_len, hH0]
            have h1 := dropRet_len (bls L')
            have h2 := HM.out
            rw [bls_len] at h1
            omega
          have hpx : p < wx.heap.size := (Array.getElem?_eq_some_iff.1 hkx).1
          have HTX := Lib.hid hTx
          have HS0 := Lib.hid hsz0
          have HI0 : Hid (PInv wx w1 p nm rt H0 RR wx 0 false [] [] (.slice none 0 0) (.slice none 0 0)) := Lib.hid ⟨⟨hkx, hbx, fun _ _ _ => rfl, Nat.le_refl _⟩, ⟨by simp, by simp, by simp, by simp⟩, .inl ⟨rfl, World.ownsRow_nil _ _ _ _, rfl, rfl, by rw [List.drop_zero, hH0]; exact hRR⟩⟩
          have hni : (n : Int) ≤ 5000 := by omega
          have HRT := Lib.hid hrt
          clear hbx hkx hTx hH0 hrt hRR hsz0
          go_wp2_with fail
          go_loopw [7, 8] (fun bv i wr => ∃ (k : Nat) (bar : Bool) (Hs Os : List ByteArray) (v1 v2 : Value), bv = .bool bar ∧ i = .int .i64 k ∧ k ≤ n ∧ Hid (PInv wx w1 p nm rt H0 RR wr k bar Hs Os v1 v2)) (fun _ i _ => n - (intOf i).toNat)
          case atStart => exact ⟨0, false, [], [], _, _, rfl, rfl, by omega, HI0⟩
          case round =>
            obtain ⟨k, bar, Hs, Os, v1, v2, rfl, rfl, hk, HI⟩ := hrel
            by_cases hlt : k < n
            · obtain ⟨b', off', x, hA', hbl', hx, hcx0⟩ := HTX.out.at_ hlt
              obtain ⟨rfl, rfl⟩ : gb = b' ∧ o1 = off' := by injection hA' with e; injection e with e1 e2; exact ⟨e1, e2⟩
              obtain ⟨⟨i1, i2, i3, i4⟩, ⟨i5, i6, i7, i8⟩, i9⟩ := HI.out
              have HKP := Lib.hid i1
              have HBW := Lib.hid i2
              have HSB := Lib.hid i3
              have hcx : wr.cell? ⟨gb, o1 + k, none⟩ = some (.string x) := by
                rw [← hcx0]
                have e := i3 gb hgx (fun q => HPG.out.2.1 q.symm)
                unfold World.cell?
                rw [e]
              have hxs : x.size ≤ 5000 := HS0.out x (List.mem_of_getElem? hx)
              have hki : (k : Int) < (n : Int) := by omega
              have hk0 : (0 : Int) ≤ (k : Int) := by omega
              have hkt : ((k : Int)).toNat = k := by omega
              have hdr := bls_at hx
              have e1 : (x.toList == [124]) = decide (bl x = [124]) := by rw [ByteArray.toList_eq, list_beq]
              have hHl : H0.length = n := HTX.out.1
              have hne1 : (bls H0).drop (k + 1) = [] ↔ k + 1 = n := by
                rw [List.drop_eq_nil_iff, bls_len, hHl]; omega
              have hkw : IntKind.i64.wrap ((k : Int) + 1) = (k : Int) + 1 := IntWalk.i64_in _ (by omega)
              have elast : (((k : Int) + 1) == (n : Int)) = decide (k + 1 = n) := by
                by_cases q : k + 1 = n
                · rw [decide_eq_true q, beq_iff_eq]; omega
                · rw [decide_eq_false q, beq_eq_false_iff_ne]; omega
              clear hA' hbl' i1 i2 i3 HI hx hcx0 hHl
              by_cases hbx : bl x = [124]
              · rw [decide_eq_true hbx] at e1
                rcases i9 with ⟨rfl, j1, rfl, rfl, j2⟩ | ⟨rfl, j1, j2⟩
                · rw [hdr, goH, if_pos hbx] at j2
                  by_cases hend : k + 1 = n
                  · rw [decide_eq_true hend] at elast
                    rw [if_pos (hne1.2 hend)] at j2
                    have HNONE : RR = none := j2.symm
                    have HV : Hid (refV (bl s) = (noCard, 25)) := Lib.hid (by rw [HRV.out, HNONE])
                    have kg := HK.out wr HBW.out
                    have q0 := Go.Joins.cell_of_block kg 0
                    have r0 := Go.Joins.unfrozen_of_block kg 0
                    have q1 := Go.Joins.cell_of_block kg 1
                    have r1 := Go.Joins.unfrozen_of_block kg 1
                    have q2 := Go.Joins.cell_of_block kg 2
                    have r2 := Go.Joins.unfrozen_of_block kg 2
                    have q3 := Go.Joins.cell_of_block kg 3
                    have r3 := Go.Joins.unfrozen_of_block kg 3
                    have KG := Lib.hid kg
                    clear kg
                    clear j1 j2 hdr hend hne1 hbx HNONE
                    go_wp2_with fail
                    have k4 := four_set KG.out (.string ⟨#[]⟩) (.slice none 0 0) (.slice none 0 0) (.bool false)
                    have hfin := HE.out 25 _ HV.out (four_below (HB1.out.trans ((HBW.out).mono HB1.out.size)) HG0.out.1 (.string ⟨#[]⟩) (.slice none 0 0) (.slice none 0 0) (.bool false))
                    have z0 := Go.Joins.cell_of_block k4 0
                    have z1 := Go.Joins.cell_of_block k4 1
                    have z2 := Go.Joins.cell_of_block k4 2
                    have z3 := Go.Joins.cell_of_block k4 3
                    exact bodyPost_ret (v := .tuple #[.agg #[.string ⟨#[]⟩, .slice none 0 0, .slice none 0 0, .bool false], .int .i64 25]) (by simp [results, Tryz.results26, go_sem, z0, z1, z2, z3]) rfl hfin
                  · rw [decide_eq_false hend] at elast
                    rw [if_neg (fun q => hend (hne1.1 q))] at j2
                    obtain ⟨A1, n1, c1, s1, s2, s3, s4, s5⟩ := own_shape j1
                    have HIN : Hid (PInv wx w1 p nm rt H0 RR wr (k + 1) true Hs [] v1 (.slice none 0 0)) := Lib.hid ⟨⟨HKP.out, HBW.out, HSB.out, i4⟩, ⟨by omega, by simp, i7, by simp⟩, .inr ⟨rfl, ⟨wr.heap.size, i4, Nat.le_refl _, World.ownsRow_nil _ _ _ _, A1, n1, c1, s1, s2, s3, s4, s5⟩, j2⟩⟩
                    clear j1 j2 hdr hend hne1 hbx s1 s2 s3 s4 s5 i4 i5 i6 i7 i8
                    go_wp2
                    go_roundw
                    case rel => exact ⟨k + 1, true, Hs, [], v1, _, rfl, by go_num, by omega, HIN⟩
                    case measure => (simp [intOf]; omega)
                · rw [hdr, goO, if_pos hbx] at j2
                  have HNONE : RR = none := j2.symm
                  have HV : Hid (refV (bl s) = (noCard, 25)) := Lib.hid (by rw [HRV.out, HNONE])
                  have kg := HK.out wr HBW.out
                  have q0 := Go.Joins.cell_of_block kg 0
                  have r0 := Go.Joins.unfrozen_of_block kg 0
                  have q1 := Go.Joins.cell_of_block kg 1
                  have r1 := Go.Joins.unfrozen_of_block kg 1
                  have q2 := Go.Joins.cell_of_block kg 2
                  have r2 := Go.Joins.unfrozen_of_block kg 2
                  have q3 := Go.Joins.cell_of_block kg 3
                  have r3 := Go.Joins.unfrozen_of_block kg 3
                  have KG := Lib.hid kg
                  clear kg
                  clear j1 j2 hdr hne1 hbx HNONE
                  go_wp2_with fail
                  have k4 := four_set KG.out (.string ⟨#[]⟩) (.slice none 0 0) (.slice none 0 0) (.bool false)
                  have hfin := HE.out 25 _ HV.out (four_below (HB1.out.trans ((HBW.out).mono HB1.out.size)) HG0.out.1 (.string ⟨#[]⟩) (.slice none 0 0) (.slice none 0 0) (.bool false))
                  have z0 := Go.Joins.cell_of_block k4 0
                  have z1 := Go.Joins.cell_of_block k4 1
                  have z2 := Go.Joins.cell_of_block k4 2
                  have z3 := Go.Joins.cell_of_block k4 3
                  exact bodyPost_ret (v := .tuple #[.agg #[.string ⟨#[]⟩, .slice none 0 0, .slice none 0 0, .bool false], .int .i64 25]) (by simp [results, Tryz.results26, go_sem, z0, z1, z2, z3]) rfl hfin
              · rw [decide_eq_false hbx] at e1
                have hPl := fun w => r6plain_any x hxs w
                cases hpw : plW (bl x) with
                | false =>
                  rw [hpw] at hPl
                  have HNONE : RR = none := by
                    rcases i9 with ⟨_, _, _, _, j2⟩ | ⟨_, _, j2⟩
                    · rw [hdr, goH, if_neg hbx, if_neg (by rw [hpw]; decide)] at j2; exact j2.symm
                    · rw [hdr, goO, if_neg hbx, if_neg (by rw [hpw]; decide)] at j2; exact j2.symm
                  have HV : Hid (refV (bl s) = (noCard, 25)) := Lib.hid (by rw [HRV.out, HNONE])
                  have kg := HK.out wr HBW.out
                  have q0 := Go.Joins.cell_of_block kg 0
                  have r0 := Go.Joins.unfrozen_of_block kg 0
                  have q1 := Go.Joins.cell_of_block kg 1
                  have r1 := Go.Joins.unfrozen_of_block kg 1
                  have q2 := Go.Joins.cell_of_block kg 2
                  have r2 := Go.Joins.unfrozen_of_block kg 2
                  have q3 := Go.Joins.cell_of_block kg 3
                  have r3 := Go.Joins.unfrozen_of_block kg 3
                  have KG := Lib.hid kg
                  clear kg
                  clear i9 hdr hne1 hbx HNONE hpw
                  go_wp2_with fail
                  with_reducible refine (hPl _).mono ?_
                  rintro e w5 ⟨rfl, rfl⟩
                  go_wp2_with fail
                  have k4 := four_set KG.out (.string ⟨#[]⟩) (.slice none 0 0) (.slice none 0 0) (.bool false)
                  have hfin := HE.out 25 _ HV.out (four_below (HB1.out.trans ((HBW.out).mono HB1.out.size)) HG0.out.1 (.string ⟨#[]⟩) (.slice none 0 0) (.slice none 0 0) (.bool false))
                  have z0 := Go.Joins.cell_of_block k4 0
                  have z1 := Go.Joins.cell_of_block k4 1
                  have z2 := Go.Joins.cell_of_block k4 2
                  have z3 := Go.Joins.cell_of_block k4 3
                  exact bodyPost_ret (v := .tuple #[.agg #[.string ⟨#[]⟩, .slice none 0 0, .slice none 0 0, .bool false], .int .i64 25]) (by simp [results, Tryz.results26, go_sem, z0, z1, z2, z3]) rfl hfin
                | true =>
                  rw [hpw] at hPl
                  rcases i9 with ⟨rfl, j1, hv2, rfl, j2⟩ | ⟨rfl, ⟨Bq, hxq, hBq, j1, A1, n1, c1', hv1, t1, l1, o1', f1'⟩, j2⟩
                  · rw [hdr, goH, if_neg hbx, if_pos hpw] at j2
                    have HGO := Lib.hid j2
                    have sz1 : ∀ z ∈ Hs ++ [x], z.size ≤ 5000 := fun z hz => by
                      rcases List.mem_append.1 hz with q | q
                      · exact i7 z q
                      · rw [List.mem_singleton.1 q]; exact hxs
                    obtain ⟨Bq, hBQ⟩ : ∃ Bq, wx.heap.size = Bq := ⟨_, rfl⟩
                    have HBE := Lib.hid hBQ
                    have hrow0 := j1
                    unfold OwnNames at hrow0
                    rw [hBQ] at hrow0
                    have hBq : Bq ≤ wr.heap.size := by omega
                    have hLn : Hs.length ≤ k := i5
                    have hpx' : p < Bq := by omega
                    have hgx' : gb < Bq := by omega
                    have hxq : wx.heap.size ≤ Bq := by omega
                    have hwq : w1.heap.size ≤ Bq := by have := HPG.out.1; omega
                    clear j1 j2 hdr hne1 hbx hpw elast hkw i8 i6 hBQ
                    go_wp2_with fail
                    with_reducible refine (hPl _).mono ?_
                    rintro e w5 ⟨rfl, rfl⟩
                    have HSX : Hid (∀ w', Below Bq wr w' → w'.cell? ⟨gb, o1 + k, none⟩ = some (.string x)) := Lib.hid fun w' hb => (hb.cell (p := ⟨gb, o1 + k, none⟩) (by show gb < Bq; omega)).trans hcx
                    have HPP : Hid (∀ w', Below Bq wr w' → w'.heap[p]? = some (.cells #[.string nm, v1, v2, .bool rt] 54 (0, 0))) := Lib.hid fun w' hb => (hb.block p (by omega)).trans HKP.out
                    have HBQ := Lib.hid hBq
                    go_wp2_with fail
                    refine wp_region_held_drew (S := (fun w' => w'.cell? ⟨gb, o1 + k, none⟩ = some (.string x))) (by kernel_rfl) ?_ (fun hHeld => ?_)
                    · exact HSX.out _ ((Below.refl _ _).drew)
                    have hacc : Below Bq wr wr.drew := (Below.refl _ _).drew
                    have hrow := World.ownsRow.drew hrow0
                    have hBW : Bq ≤ wr.drew.heap.size := HBQ.out
                    generalize World.drew wr = wd at hHeld hacc hrow hBW ⊢
                    clear hHeld
                    have hHeld := HSX.out _ hacc
                    refine wpAnyH_take (i := 0) (oi := _) (v := ?_) rfl (by kernel_rfl) (by kernel_rfl) (by kernel_rfl) (fun _ _ _ h => h) (Or.inl ⟨by kernel_rfl, ?_⟩) (by assumption) ?_
                    rotate_left
                    · rintro w hs
                      go_simp
                      try with_reducible rfl
                    try simp only [Act.put, List.setIfInBounds_toArray, List.set_cons_zero, List.set_cons_succ, List.getElem_toArray, List.getElem_cons_zero, List.getElem_cons_succ]
                    clear hHeld
                    have hHeld := HSX.out _ hacc
                    refine wpAnyH_take (i := 2) (oi := _) (v := ?_) rfl (by kernel_rfl) (by kernel_rfl) (by kernel_rfl) (fun _ _ _ h => h) (Or.inl ⟨by kernel_rfl, ?_⟩) (by assumption) ?_
                    rotate_left
                    · rintro w hs
                      go_simp
                      try with_reducible rfl
                    try simp only [Act.put, List.setIfInBounds_toArray, List.set_cons_zero, List.set_cons_succ, List.getElem_toArray, List.getElem_cons_zero, List.getElem_cons_succ]
                    clear hHeld
                    have hHeld := HSX.out _ hacc
                    refine wpAnyH_take (i := 3) (oi := _) (v := ?_) rfl (by kernel_rfl) (by kernel_rfl) (by kernel_rfl) (fun _ _ _ h => h) (Or.inl ⟨by kernel_rfl, ?_⟩) (by assumption) ?_
                    rotate_left
                    · rintro w hs
                      go_simp
                      try with_reducible rfl
                    try simp only [Act.put, List.setIfInBounds_toArray, List.set_cons_zero, List.set_cons_succ, List.getElem_toArray, List.getElem_cons_zero, List.getElem_cons_succ]
                    clear hHeld
                    have hHeld := HSX.out _ hacc
                    refine wpAnyH_take (i := 4) (oi := _) (v := ?_) rfl (by kernel_rfl) (by kernel_rfl) (by kernel_rfl) (fun _ _ _ h => h) (Or.inl ⟨by kernel_rfl, ?_⟩) (by assumption) ?_
                    rotate_left
                    · rintro w hs
                      go_simp
                      try with_reducible rfl
                    try simp only [Act.put, List.setIfInBounds_toArray, List.set_cons_zero, List.set_cons_succ, List.getElem_toArray, List.getElem_cons_zero, List.getElem_cons_succ]
                    clear hHeld
                    have hHeld := HSX.out _ hacc
                    refine wpAnyH_take (i := 5) (oi := _) (v := ?_) rfl (by kernel_rfl) (by kernel_rfl) (by kernel_rfl) (fun _ _ _ h => h) (Or.inl ⟨by kernel_rfl, ?_⟩) (by assumption) ?_
                    rotate_left
                    · rintro w hs
                      go_simp
                      try with_reducible rfl
                    try simp only [Act.put, List.setIfInBounds_toArray, List.set_cons_zero, List.set_cons_succ, List.getElem_toArray, List.getElem_cons_zero, List.getElem_cons_succ]
                    clear hHeld
                    refine wpAnyH_ready (rs := [1, 6]) (by kernel_rfl) (by simp) ?_
                    refine AllReadyH.cons (o := _) rfl (fun K hKK => ?_) (AllReadyH.cons (o := _) rfl (fun K hKK => ?_) AllReadyH.nil)
                    · skip
                      have y1 := Go.Joins.cell_of_block (HPP.out _ hacc) 1
                      go_simp
                      refine hKK.out _ _ ?_ (fun hHeld => ?_)
                      · exact HSX.out _ hacc
                      clear hKK K hHeld
                      try simp only [Act.put, List.setIfInBounds_toArray, List.set_cons_zero, List.set_cons_succ, List.getElem_toArray, List.getElem_cons_zero, List.getElem_cons_succ]
                      clear y1
                      refine wpAnyH_ready (rs := [6]) (by kernel_rfl) (by simp) ?_
                      refine AllReadyH.cons (o := _) rfl (fun K hKK => ?_) AllReadyH.nil
                      go_simp
                      have hc2 : (wd.alloc (.cells #[.string x] 9)).cell? ⟨wd.heap.size, 0, none⟩ = some (.string x) := by simp
                      have hrow2 := World.ownsRow.alloc hrow (.cells #[.string x] 9)
                      have hacc2 := hacc.alloc hBW (.cells #[.string x] 9)
                      have hBW2 : Bq ≤ (wd.alloc (.cells #[.string x] 9)).heap.size := by simp; omega
                      clear hacc hrow hBW
                      have hacc := hacc2
                      have hrow := hrow2
                      have hBW := hBW2
                      clear hacc2 hrow2 hBW2
                      refine hKK.out _ _ ?_ (fun hHeld => ?_)
                      · exact HSX.out _ hacc
                      clear hKK K hHeld
                      try simp only [Act.put, List.setIfInBounds_toArray, List.set_cons_zero, List.set_cons_succ, List.getElem_toArray, List.getElem_cons_zero, List.getElem_cons_succ]
                      refine wpAnyH_ready (rs := [7]) (by kernel_rfl) (by simp) ?_
                      refine AllReadyH.cons (o := _) rfl (fun K hKK => ?_) AllReadyH.nil
                      refine step_append_src rfl (.tmp 107) (.tmp 112) 22 rfl Bq 9 i0 (.string ⟨#[]⟩) 1 16 Tryz.underlying22 hi hz0 hz1 hz2 rfl (by decide) _ _ _ rfl hrow _ _ _ [.string x] rfl rfl (fun q => by cases q) (fun ad had i u hu => by cases had; match i, hu with | 0, hu => (simp at hu; subst hu; rw [add_atX]; exact hc2)) (by intro u hu; rw [List.mem_singleton] at hu; subst hu; rfl) (by unfold maxLen; omega) (by omega) hBW ?_
                      intro v9 w9 hown9 hgrow _
                      have hacc2 := hacc.grown hgrow hBW (fun r hr => (World.ownsRow.lt hrow r hr).1)
                      clear hacc hrow hgrow hc2 hBW
                      have hacc := hacc2
                      clear hacc2
                      refine hKK.out _ _ ?_ (fun hHeld => ?_)
                      · exact HSX.out _ hacc
                      clear hKK K hHeld
                      try simp only [Act.put, List.setIfInBounds_toArray, List.set_cons_zero, List.set_cons_succ, List.getElem_toArray, List.getElem_cons_zero, List.getElem_cons_succ]
                      have hHeld := HSX.out _ hacc
                      refine wpAnyH_take (i := 8) (oi := _) (v := ?_) rfl (by kernel_rfl) (by kernel_rfl) (by kernel_rfl) (fun _ _ _ h => h) (Or.inl ⟨by kernel_rfl, ?_⟩) (by assumption) ?_
                      rotate_left
                      · rintro w hs
                        go_simp
                        try with_reducible rfl
                      try simp only [Act.put, List.setIfInBounds_toArray, List.set_cons_zero, List.set_cons_succ, List.getElem_toArray, List.getElem_cons_zero, List.getElem_cons_succ]
                      clear hHeld
                      have kp := HPP.out _ hacc
                      have c1 := Go.Joins.cell_of_block kp 1
                      have f1 := Go.Joins.unfrozen_of_block kp 1
                      have kp2 := Go.Joins.block_setCell (i := 1) kp v9
                      have KP2 := Lib.hid kp2
                      have hv9 : v9.oneCell' = true := by obtain ⟨a9, c9, e9⟩ := slice_shape hown9; rw [e9]; rfl
                      obtain ⟨a9, c9, e9⟩ := slice_shape hown9
                      have E9 := Lib.hid e9
                      subst e9
                      have HACC := Lib.hid hacc
                      have HO9 := Lib.hid hown9
                      clear kp kp2 hacc hown9 hv9 E9
                      refine wpAnyH_ready (rs := [9]) (by kernel_rfl) (by simp) ?_
                      refine AllReadyH.cons (o := _) rfl (fun K hKK => ?_) AllReadyH.nil
                      go_simp
                      refine hKK.out _ _ ?_ (fun hHeld => ?_)
                      · rw [World.cell?_setCell_other _ _ _ _ (fun e => HPG.out.2.1 (congrArg Addr.block e))]; exact HSX.out _ HACC.out
                      clear hKK K
                      try simp only [Act.put, List.setIfInBounds_toArray, List.set_cons_zero, List.set_cons_succ, List.getElem_toArray, List.getElem_cons_zero, List.getElem_cons_succ]
                      refine wpAnyH_done (by kernel_rfl) ?_ _
                      clear hHeld c1 f1
                      have hk9 : (w9.setCell ⟨p, 1, none⟩ (.slice a9 (Hs.length + 1) c9)).heap[p]? = some (.cells #[.string nm, (.slice a9 (Hs.length + 1) c9), v2, .bool rt] 54 (0, 0)) := KP2.out
                      have hb9 : Below w1.heap.size w1 (w9.setCell ⟨p, 1, none⟩ (.slice a9 (Hs.length + 1) c9)) := (HBW.out.trans (HACC.out.mono (by omega))).setCell HPG.out.1 _
                      have hs9 : ∀ q, q < wx.heap.size → q ≠ p → (w9.setCell ⟨p, 1, none⟩ (.slice a9 (Hs.length + 1) c9)).heap[q]? = wx.heap[q]? := fun q h1 h2 => by rw [heap_setCell_other _ _ _ _ h2, HACC.out.block q (by omega)]; exact HSB.out q h1 h2
                      have hz9 : wx.heap.size ≤ (w9.setCell ⟨p, 1, none⟩ (.slice a9 (Hs.length + 1) c9)).heap.size := by have := HACC.out.size; simp; omega
                      have ho9 : OwnNames (w9.setCell ⟨p, 1, none⟩ (.slice a9 (Hs.length + 1) c9)) Bq (.slice a9 (Hs.length + 1) c9) (Hs ++ [x]) := by
                        have := OwnNames.next (t := x) (v' := .slice a9 (Hs.length + 1) c9) HO9.out
                        exact ownsRow_setCell_below this (a := ⟨p, 1, none⟩) (by show p < Bq; omega) _
                      have HIN : Hid (PInv wx w1 p nm rt H0 RR (w9.setCell ⟨p, 1, none⟩ (.slice a9 (Hs.length + 1) c9)) (k + 1) false (Hs ++ [x]) [] (.slice a9 (Hs.length + 1) c9) v2) := Lib.hid ⟨⟨hk9, hb9, hs9, hz9⟩, ⟨by rw [List.length_append]; simp; omega, by simp, sz1, by simp⟩, .inl ⟨rfl, (by rw [HBE.out]; exact ho9), hv2, rfl, by rw [bls_snoc]; exact HGO.out⟩⟩
                      clear hk9 hb9 hs9 hz9 ho9
                      go_wp2
                      go_roundw
                      case rel => exact ⟨k + 1, false, Hs ++ [x], [], _, v2, by rfl, by go_num, by omega, HIN⟩
                      case measure => (simp [intOf]; omega)
                    · skip
                      go_simp
                      have hc2 : (wd.alloc (.cells #[.string x] 9)).cell? ⟨wd.heap.size, 0, none⟩ = some (.string x) := by simp
                      have hrow2 := World.ownsRow.alloc hrow (.cells #[.string x] 9)
                      have hacc2 := hacc.alloc hBW (.cells #[.string x] 9)
                      have hBW2 : Bq ≤ (wd.alloc (.cells #[.string x] 9)).heap.size := by simp; omega
                      clear hacc hrow hBW
                      have hacc := hacc2
                      have hrow := hrow2
                      have hBW := hBW2
                      clear hacc2 hrow2 hBW2
                      refine hKK.out _ _ ?_ (fun hHeld => ?_)
                      · exact HSX.out _ hacc
                      clear hKK K hHeld
                      try simp only [Act.put, List.setIfInBounds_toArray, List.set_cons_zero, List.set_cons_succ, List.getElem_toArray, List.getElem_cons_zero, List.getElem_cons_succ]
                      refine wpAnyH_ready (rs := [1]) (by kernel_rfl) (by simp) ?_
                      refine AllReadyH.cons (o := _) rfl (fun K hKK => ?_) AllReadyH.nil
                      have y1 := Go.Joins.cell_of_block (HPP.out _ hacc) 1
                      go_simp
                      refine hKK.out _ _ ?_ (fun hHeld => ?_)
                      · exact HSX.out _ hacc
                      clear hKK K hHeld
                      try simp only [Act.put, List.setIfInBounds_toArray, List.set_cons_zero, List.set_cons_succ, List.getElem_toArray, List.getElem_cons_zero, List.getElem_cons_succ]
                      clear y1
                      refine wpAnyH_ready (rs := [7]) (by kernel_rfl) (by simp) ?_
                      refine AllReadyH.cons (o := _) rfl (fun K hKK => ?_) AllReadyH.nil
                      refine step_append_src rfl (.tmp 107) (.tmp 112) 22 rfl Bq 9 i0 (.string ⟨#[]⟩) 1 16 Tryz.underlying22 hi hz0 hz1 hz2 rfl (by decide) _ _ _ rfl hrow _ _ _ [.string x] rfl rfl (fun q => by cases q) (fun ad had i u hu => by cases had; match i, hu with | 0, hu => (simp at hu; subst hu; rw [add_atX]; exact hc2)) (by intro u hu; rw [List.mem_singleton] at hu; subst hu; rfl) (by unfold maxLen; omega) (by omega) hBW ?_
                      intro v9 w9 hown9 hgrow _
                      have hacc2 := hacc.grown hgrow hBW (fun r hr => (World.ownsRow.lt hrow r hr).1)
                      clear hacc hrow hgrow hc2 hBW
                      have hacc := hacc2
                      clear hacc2
                      refine hKK.out _ _ ?_ (fun hHeld => ?_)
                      · exact HSX.out _ hacc
                      clear hKK K hHeld
                      try simp only [Act.put, List.setIfInBounds_toArray, List.set_cons_zero, List.set_cons_succ, List.getElem_toArray, List.getElem_cons_zero, List.getElem_cons_succ]
                      have hHeld := HSX.out _ hacc
                      refine wpAnyH_take (i := 8) (oi := _) (v := ?_) rfl (by kernel_rfl) (by kernel_rfl) (by kernel_rfl) (fun _ _ _ h => h) (Or.inl ⟨by kernel_rfl, ?_⟩) (by assumption) ?_
                      rotate_left
                      · rintro w hs
                        go_simp
                        try with_reducible rfl
                      try simp only [Act.put, List.setIfInBounds_toArray, List.set_cons_zero, List.set_cons_succ, List.getElem_toArray, List.getElem_cons_zero, List.getElem_cons_succ]
                      clear hHeld
                      have kp := HPP.out _ hacc
                      have c1 := Go.Joins.cell_of_block kp 1
                      have f1 := Go.Joins.unfrozen_of_block kp 1
                      have kp2 := Go.Joins.block_setCell (i := 1) kp v9
                      have KP2 := Lib.hid kp2
                      have hv9 : v9.oneCell' = true := by obtain ⟨a9, c9, e9⟩ := slice_shape hown9; rw [e9]; rfl
                      obtain ⟨a9, c9, e9⟩ := slice_shape hown9
                      have E9 := Lib.hid e9
                      subst e9
                      have HACC := Lib.hid hacc
                      have HO9 := Lib.hid hown9
                      clear kp kp2 hacc hown9 hv9 E9
                      refine wpAnyH_ready (rs := [9]) (by kernel_rfl) (by simp) ?_
                      refine AllReadyH.cons (o := _) rfl (fun K hKK => ?_) AllReadyH.nil
                      go_simp
                      refine hKK.out _ _ ?_ (fun hHeld => ?_)
                      · rw [World.cell?_setCell_other _ _ _ _ (fun e => HPG.out.2.1 (congrArg Addr.block e))]; exact HSX.out _ HACC.out
                      clear hKK K
                      try simp only [Act.put, List.setIfInBounds_toArray, List.set_cons_zero, List.set_cons_succ, List.getElem_toArray, List.getElem_cons_zero, List.getElem_cons_succ]
                      refine wpAnyH_done (by kernel_rfl) ?_ _
                      clear hHeld c1 f1
                      have hk9 : (w9.setCell ⟨p, 1, none⟩ (.slice a9 (Hs.length + 1) c9)).heap[p]? = some (.cells #[.string nm, (.slice a9 (Hs.length + 1) c9), v2, .bool rt] 54 (0, 0)) := KP2.out
                      have hb9 : Below w1.heap.size w1 (w9.setCell ⟨p, 1, none⟩ (.slice a9 (Hs.length + 1) c9)) := (HBW.out.trans (HACC.out.mono (by omega))).setCell HPG.out.1 _
                      have hs9 : ∀ q, q < wx.heap.size → q ≠ p → (w9.setCell ⟨p, 1, none⟩ (.slice a9 (Hs.length + 1) c9)).heap[q]? = wx.heap[q]? := fun q h1 h2 => by rw [heap_setCell_other _ _ _ _ h2, HACC.out.block q (by omega)]; exact HSB.out q h1 h2
                      have hz9 : wx.heap.size ≤ (w9.setCell ⟨p, 1, none⟩ (.slice a9 (Hs.length + 1) c9)).heap.size := by have := HACC.out.size; simp; omega
                      have ho9 : OwnNames (w9.setCell ⟨p, 1, none⟩ (.slice a9 (Hs.length + 1) c9)) Bq (.slice a9 (Hs.length + 1) c9) (Hs ++ [x]) := by
                        have := OwnNames.next (t := x) (v' := .slice a9 (Hs.length + 1) c9) HO9.out
                        exact ownsRow_setCell_below this (a := ⟨p, 1, none⟩) (by show p < Bq; omega) _
                      have HIN : Hid (PInv wx w1 p nm rt H0 RR (w9.setCell ⟨p, 1, none⟩ (.slice a9 (Hs.length + 1) c9)) (k + 1) false (Hs ++ [x]) [] (.slice a9 (Hs.length + 1) c9) v2) := Lib.hid ⟨⟨hk9, hb9, hs9, hz9⟩, ⟨by rw [List.length_append]; simp; omega, by simp, sz1, by simp⟩, .inl ⟨rfl, (by rw [HBE.out]; exact ho9), hv2, rfl, by rw [bls_snoc]; exact HGO.out⟩⟩
                      clear hk9 hb9 hs9 hz9 ho9
                      go_wp2
                      go_roundw
                      case rel => exact ⟨k + 1, false, Hs ++ [x], [], _, v2, by rfl, by go_num, by omega, HIN⟩
                      case measure => (simp [intOf]; omega)
                  · rw [hdr, goO, if_neg hbx, if_pos hpw] at j2
                    have HGO := Lib.hid j2
                    have sz1 : ∀ z ∈ Os ++ [x], z.size ≤ 5000 := fun z hz => by
                      rcases List.mem_append.1 hz with q | q
                      · exact i8 z q
                      · rw [List.mem_singleton.1 q]; exact hxs
                    have hrow0 := j1
                    unfold OwnNames at hrow0
                    have hLn : Os.length ≤ k := i6
                    have hpx' : p < Bq := by omega
                    have hgx' : gb < Bq := by omega
                    have hwq : w1.heap.size ≤ Bq := by have := HPG.out.1; omega
                    have HT1 := Lib.hid t1
                    have HF1 := Lib.hid f1'
                    have HLO := Lib.hid (And.intro l1 o1')
                    have HSZ := Lib.hid (And.intro i7 i7)
                    clear j1 j2 hdr hne1 hbx hpw elast hkw i8 i7 t1 f1' l1 o1'
                    go_wp2_with fail
                    with_reducible refine (hPl _).mono ?_
                    rintro e w5 ⟨rfl, rfl⟩
                    have HSX : Hid (∀ w', Below Bq wr w' → w'.cell? ⟨gb, o1 + k, none⟩ = some (.string x)) := Lib.hid fun w' hb => (hb.cell (p := ⟨gb, o1 + k, none⟩) (by show gb < Bq; omega)).trans hcx
                    have HPP : Hid (∀ w', Below Bq wr w' → w'.heap[p]? = some (.cells #[.string nm, v1, v2, .bool rt] 54 (0, 0))) := Lib.hid fun w' hb => (hb.block p (by omega)).trans HKP.out
                    have HBQ := Lib.hid hBq
                    go_wp2_with fail
                    refine wp_region_held_drew (S := (fun w' => w'.cell? ⟨gb, o1 + k, none⟩ = some (.string x))) (by kernel_rfl) ?_ (fun hHeld => ?_)
                    · exact HSX.out _ ((Below.refl _ _).drew)
                    have hacc : Below Bq wr wr.drew := (Below.refl _ _).drew
                    have hrow := World.ownsRow.drew hrow0
                    have hBW : Bq ≤ wr.drew.heap.size := HBQ.out
                    generalize World.drew wr = wd at hHeld hacc hrow hBW ⊢
                    clear hHeld
                    have hHeld := HSX.out _ hacc
                    refine wpAnyH_take (i := 0) (oi := _) (v := ?_) rfl (by kernel_rfl) (by kernel_rfl) (by kernel_rfl) (fun _ _ _ h => h) (Or.inl ⟨by kernel_rfl, ?_⟩) (by assumption) ?_
                    rotate_left
                    · rintro w hs
                      go_simp
                      try with_reducible rfl
                    try simp only [Act.put, List.setIfInBounds_toArray, List.set_cons_zero, List.set_cons_succ, List.getElem_toArray, List.getElem_cons_zero, List.getElem_cons_succ]
                    clear hHeld
                    have hHeld := HSX.out _ hacc
                    refine wpAnyH_take (i := 2) (oi := _) (v := ?_) rfl (by kernel_rfl) (by kernel_rfl) (by kernel_rfl) (fun _ _ _ h => h) (Or.inl ⟨by kernel_rfl, ?_⟩) (by assumption) ?_
                    rotate_left
                    · rintro w hs
                      go_simp
                      try with_reducible rfl
                    try simp only [Act.put, List.setIfInBounds_toArray, List.set_cons_zero, List.set_cons_succ, List.getElem_toArray, List.getElem_cons_zero, List.getElem_cons_succ]
                    clear hHeld
                    have hHeld := HSX.out _ hacc
                    refine wpAnyH_take (i := 3) (oi := _) (v := ?_) rfl (by kernel_rfl) (by kernel_rfl) (by kernel_rfl) (fun _ _ _ h => h) (Or.inl ⟨by kernel_rfl, ?_⟩) (by assumption) ?_
                    rotate_left
                    · rintro w hs
                      go_simp
                      try with_reducible rfl
                    try simp only [Act.put, List.setIfInBounds_toArray, List.set_cons_zero, List.set_cons_succ, List.getElem_toArray, List.getElem_cons_zero, List.getElem_cons_succ]
                    clear hHeld
                    have hHeld := HSX.out _ hacc
                    refine wpAnyH_take (i := 4) (oi := _) (v := ?_) rfl (by kernel_rfl) (by kernel_rfl) (by kernel_rfl) (fun _ _ _ h => h) (Or.inl ⟨by kernel_rfl, ?_⟩) (by assumption) ?_
                    rotate_left
                    · rintro w hs
                      go_simp
                      try with_reducible rfl
                    try simp only [Act.put, List.setIfInBounds_toArray, List.set_cons_zero, List.set_cons_succ, List.getElem_toArray, List.getElem_cons_zero, List.getElem_cons_succ]
                    clear hHeld
                    have hHeld := HSX.out _ hacc
                    refine wpAnyH_take (i := 5) (oi := _) (v := ?_) rfl (by kernel_rfl) (by kernel_rfl) (by kernel_rfl) (fun _ _ _ h => h) (Or.inl ⟨by kernel_rfl, ?_⟩) (by assumption) ?_
                    rotate_left
                    · rintro w hs
                      go_simp
                      try with_reducible rfl
                    try simp only [Act.put, List.setIfInBounds_toArray, List.set_cons_zero, List.set_cons_succ, List.getElem_toArray, List.getElem_cons_zero, List.getElem_cons_succ]
                    clear hHeld
                    refine wpAnyH_ready (rs := [1, 6]) (by kernel_rfl) (by simp) ?_
                    refine AllReadyH.cons (o := _) rfl (fun K hKK => ?_) (AllReadyH.cons (o := _) rfl (fun K hKK => ?_) AllReadyH.nil)
                    · skip
                      have y1 := Go.Joins.cell_of_block (HPP.out _ hacc) 2
                      go_simp
                      refine hKK.out _ _ ?_ (fun hHeld => ?_)
                      · exact HSX.out _ hacc
                      clear hKK K hHeld
                      try simp only [Act.put, List.setIfInBounds_toArray, List.set_cons_zero, List.set_cons_succ, List.getElem_toArray, List.getElem_cons_zero, List.getElem_cons_succ]
                      clear y1
                      refine wpAnyH_ready (rs := [6]) (by kernel_rfl) (by simp) ?_
                      refine AllReadyH.cons (o := _) rfl (fun K hKK => ?_) AllReadyH.nil
                      go_simp
                      have hc2 : (wd.alloc (.cells #[.string x] 9)).cell? ⟨wd.heap.size, 0, none⟩ = some (.string x) := by simp
                      have hrow2 := World.ownsRow.alloc hrow (.cells #[.string x] 9)
                      have hacc2 := hacc.alloc hBW (.cells #[.string x] 9)
                      have hBW2 : Bq ≤ (wd.alloc (.cells #[.string x] 9)).heap.size := by simp; omega
                      clear hacc hrow hBW
                      have hacc := hacc2
                      have hrow := hrow2
                      have hBW := hBW2
                      clear hacc2 hrow2 hBW2
                      refine hKK.out _ _ ?_ (fun hHeld => ?_)
                      · exact HSX.out _ hacc
                      clear hKK K hHeld
                      try simp only [Act.put, List.setIfInBounds_toArray, List.set_cons_zero, List.set_cons_succ, List.getElem_toArray, List.getElem_cons_zero, List.getElem_cons_succ]
                      refine wpAnyH_ready (rs := [7]) (by kernel_rfl) (by simp) ?_
                      refine AllReadyH.cons (o := _) rfl (fun K hKK => ?_) AllReadyH.nil
                      refine step_append_src rfl (.tmp 98) (.tmp 103) 22 rfl Bq 9 i0 (.string ⟨#[]⟩) 1 16 Tryz.underlying22 hi hz0 hz1 hz2 rfl (by decide) _ _ _ rfl hrow _ _ _ [.string x] rfl rfl (fun q => by cases q) (fun ad had i u hu => by cases had; match i, hu with | 0, hu => (simp at hu; subst hu; rw [add_atX]; exact hc2)) (by intro u hu; rw [List.mem_singleton] at hu; subst hu; rfl) (by unfold maxLen; omega) (by omega) hBW ?_
                      intro v9 w9 hown9 hgrow _
                      have hacc2 := hacc.grown hgrow hBW (fun r hr => (World.ownsRow.lt hrow r hr).1)
                      clear hacc hrow hgrow hc2 hBW
                      have hacc := hacc2
                      clear hacc2
                      refine hKK.out _ _ ?_ (fun hHeld => ?_)
                      · exact HSX.out _ hacc
                      clear hKK K hHeld
                      try simp only [Act.put, List.setIfInBounds_toArray, List.set_cons_zero, List.set_cons_succ, List.getElem_toArray, List.getElem_cons_zero, List.getElem_cons_succ]
                      have hHeld := HSX.out _ hacc
                      refine wpAnyH_take (i := 8) (oi := _) (v := ?_) rfl (by kernel_rfl) (by kernel_rfl) (by kernel_rfl) (fun _ _ _ h => h) (Or.inl ⟨by kernel_rfl, ?_⟩) (by assumption) ?_
                      rotate_left
                      · rintro w hs
                        go_simp
                        try with_reducible rfl
                      try simp only [Act.put, List.setIfInBounds_toArray, List.set_cons_zero, List.set_cons_succ, List.getElem_toArray, List.getElem_cons_zero, List.getElem_cons_succ]
                      clear hHeld
                      have kp := HPP.out _ hacc
                      have c1 := Go.Joins.cell_of_block kp 2
                      have f1 := Go.Joins.unfrozen_of_block kp 2
                      have kp2 := Go.Joins.block_setCell (i := 2) kp v9
                      have KP2 := Lib.hid kp2
                      have hv9 : v9.oneCell' = true := by obtain ⟨a9, c9, e9⟩ := slice_shape hown9; rw [e9]; rfl
                      obtain ⟨a9, c9, e9⟩ := slice_shape hown9
                      have E9 := Lib.hid e9
                      subst e9
                      have HACC := Lib.hid hacc
                      have HO9 := Lib.hid hown9
                      clear kp kp2 hacc hown9 hv9 E9
                      refine wpAnyH_ready (rs := [9]) (by kernel_rfl) (by simp) ?_
                      refine AllReadyH.cons (o := _) rfl (fun K hKK => ?_) AllReadyH.nil
                      go_simp
                      refine hKK.out _ _ ?_ (fun hHeld => ?_)
                      · rw [World.cell?_setCell_other _ _ _ _ (fun e => HPG.out.2.1 (congrArg Addr.block e))]; exact HSX.out _ HACC.out
                      clear hKK K
                      try simp only [Act.put, List.setIfInBounds_toArray, List.set_cons_zero, List.set_cons_succ, List.getElem_toArray, List.getElem_cons_zero, List.getElem_cons_succ]
                      refine wpAnyH_done (by kernel_rfl) ?_ _
                      clear hHeld c1 f1
                      have hk9 : (w9.setCell ⟨p, 2, none⟩ (.slice a9 (Os.length + 1) c9)).heap[p]? = some (.cells #[.string nm, v1, (.slice a9 (Os.length + 1) c9), .bool rt] 54 (0, 0)) := KP2.out
                      have hb9 : Below w1.heap.size w1 (w9.setCell ⟨p, 2, none⟩ (.slice a9 (Os.length + 1) c9)) := (HBW.out.trans (HACC.out.mono (by omega))).setCell HPG.out.1 _
                      have hs9 : ∀ q, q < wx.heap.size → q ≠ p → (w9.setCell ⟨p, 2, none⟩ (.slice a9 (Os.length + 1) c9)).heap[q]? = wx.heap[q]? := fun q h1 h2 => by rw [heap_setCell_other _ _ _ _ h2, HACC.out.block q (by omega)]; exact HSB.out q h1 h2
                      have hz9 : wx.heap.size ≤ (w9.setCell ⟨p, 2, none⟩ (.slice a9 (Os.length + 1) c9)).heap.size := by have := HACC.out.size; simp; omega
                      have ho9 : OwnNames (w9.setCell ⟨p, 2, none⟩ (.slice a9 (Os.length + 1) c9)) Bq (.slice a9 (Os.length + 1) c9) (Os ++ [x]) := by
                        have := OwnNames.next (t := x) (v' := .slice a9 (Os.length + 1) c9) HO9.out
                        exact ownsRow_setCell_below this (a := ⟨p, 2, none⟩) (by show p < Bq; omega) _
                      have tt9 : TextsZ (w9.setCell ⟨p, 2, none⟩ (.slice a9 (Os.length + 1) c9)) A1 n1 Hs := one_texts (TextsZ.belowB HT1.out HACC.out hBq (fun h0 ad had => (HF1.out h0 ad had).2)) (fun h0 ad had => by have := (HF1.out h0 ad had).1; omega) _
                      have HIN : Hid (PInv wx w1 p nm rt H0 RR (w9.setCell ⟨p, 2, none⟩ (.slice a9 (Os.length + 1) c9)) (k + 1) true Hs (Os ++ [x]) v1 (.slice a9 (Os.length + 1) c9)) := Lib.hid ⟨⟨hk9, hb9, hs9, hz9⟩, ⟨by omega, by rw [List.length_append]; simp; omega, HSZ.out.1, sz1⟩, .inr ⟨rfl, ⟨Bq, hxq, by have := HACC.out.size; simp; omega, ho9, A1, n1, c1', hv1, tt9, HLO.out.1, HLO.out.2, HF1.out⟩, by rw [bls_snoc]; exact HGO.out⟩⟩
                      clear hk9 hb9 hs9 hz9 ho9 tt9
                      go_wp2
                      go_roundw
                      case rel => exact ⟨k + 1, true, Hs, Os ++ [x], v1, _, by rfl, by go_num, by omega, HIN⟩
                      case measure => (simp [intOf]; omega)
                    · skip
                      go_simp
                      have hc2 : (wd.alloc (.cells #[.string x] 9)).cell? ⟨wd.heap.size, 0, none⟩ = some (.string x) := by simp
                      have hrow2 := World.ownsRow.alloc hrow (.cells #[.string x] 9)
                      have hacc2 := hacc.alloc hBW (.cells #[.string x] 9)
                      have hBW2 : Bq ≤ (wd.alloc (.cells #[.string x] 9)).heap.size := by simp; omega
                      clear hacc hrow hBW
                      have hacc := hacc2
                      have hrow := hrow2
                      have hBW := hBW2
                      clear hacc2 hrow2 hBW2
                      refine hKK.out _ _ ?_ (fun hHeld => ?_)
                      · exact HSX.out _ hacc
                      clear hKK K hHeld
                      try simp only [Act.put, List.setIfInBounds_toArray, List.set_cons_zero, List.set_cons_succ, List.getElem_toArray, List.getElem_cons_zero, List.getElem_cons_succ]
                      refine wpAnyH_ready (rs := [1]) (by kernel_rfl) (by simp) ?_
                      refine AllReadyH.cons (o := _) rfl (fun K hKK => ?_) AllReadyH.nil
                      have y1 := Go.Joins.cell_of_block (HPP.out _ hacc) 2
                      go_simp
                      refine hKK.out _ _ ?_ (fun hHeld => ?_)
                      · exact HSX.out _ hacc
                      clear hKK K hHeld
                      try simp only [Act.put, List.setIfInBounds_toArray, List.set_cons_zero, List.set_cons_succ, List.getElem_toArray, List.getElem_cons_zero, List.getElem_cons_succ]
                      clear y1
                      refine wpAnyH_ready (rs := [7]) (by kernel_rfl) (by simp) ?_
                      refine AllReadyH.cons (o := _) rfl (fun K hKK => ?_) AllReadyH.nil
                      refine step_append_src rfl (.tmp 98) (.tmp 103) 22 rfl Bq 9 i0 (.string ⟨#[]⟩) 1 16 Tryz.underlying22 hi hz0 hz1 hz2 rfl (by decide) _ _ _ rfl hrow _ _ _ [.string x] rfl rfl (fun q => by cases q) (fun ad had i u hu => by cases had; match i, hu with | 0, hu => (simp at hu; subst hu; rw [add_atX]; exact hc2)) (by intro u hu; rw [List.mem_singleton] at hu; subst hu; rfl) (by unfold maxLen; omega) (by omega) hBW ?_
                      intro v9 w9 hown9 hgrow _
                      have hacc2 := hacc.grown hgrow hBW (fun r hr => (World.ownsRow.lt hrow r hr).1)
                      clear hacc hrow hgrow hc2 hBW
                      have hacc := hacc2
                      clear hacc2
                      refine hKK.out _ _ ?_ (fun hHeld => ?_)
                      · exact HSX.out _ hacc
                      clear hKK K hHeld
                      try simp only [Act.put, List.setIfInBounds_toArray, List.set_cons_zero, List.set_cons_succ, List.getElem_toArray, List.getElem_cons_zero, List.getElem_cons_succ]
                      have hHeld := HSX.out _ hacc
                      refine wpAnyH_take (i := 8) (oi := _) (v := ?_) rfl (by kernel_rfl) (by kernel_rfl) (by kernel_rfl) (fun _ _ _ h => h) (Or.inl ⟨by kernel_rfl, ?_⟩) (by assumption) ?_
                      rotate_left
                      · rintro w hs
                        go_simp
                        try with_reducible rfl
                      try simp only [Act.put, List.setIfInBounds_toArray, List.set_cons_zero, List.set_cons_succ, List.getElem_toArray, List.getElem_cons_zero, List.getElem_cons_succ]
                      clear hHeld
                      have kp := HPP.out _ hacc
                      have c1 := Go.Joins.cell_of_block kp 2
                      have f1 := Go.Joins.unfrozen_of_block kp 2
                      have kp2 := Go.Joins.block_setCell (i := 2) kp v9
                      have KP2 := Lib.hid kp2
                      have hv9 : v9.oneCell' = true := by obtain ⟨a9, c9, e9⟩ := slice_shape hown9; rw [e9]; rfl
                      obtain ⟨a9, c9, e9⟩ := slice_shape hown9
                      have E9 := Lib.hid e9
                      subst e9
                      have HACC := Lib.hid hacc
                      have HO9 := Lib.hid hown9
                      clear kp kp2 hacc hown9 hv9 E9
                      refine wpAnyH_ready (rs := [9]) (by kernel_rfl) (by simp) ?_
                      refine AllReadyH.cons (o := _) rfl (fun K hKK => ?_) AllReadyH.nil
                      go_simp
                      refine hKK.out _ _ ?_ (fun hHeld => ?_)
                      · rw [World.cell?_setCell_other _ _ _ _ (fun e => HPG.out.2.1 (congrArg Addr.block e))]; exact HSX.out _ HACC.out
                      clear hKK K
                      try simp only [Act.put, List.setIfInBounds_toArray, List.set_cons_zero, List.set_cons_succ, List.getElem_toArray, List.getElem_cons_zero, List.getElem_cons_succ]
                      refine wpAnyH_done (by kernel_rfl) ?_ _
                      clear hHeld c1 f1
                      have hk9 : (w9.setCell ⟨p, 2, none⟩ (.slice a9 (Os.length + 1) c9)).heap[p]? = some (.cells #[.string nm, v1, (.slice a9 (Os.length + 1) c9), .bool rt] 54 (0, 0)) := KP2.out
                      have hb9 : Below w1.heap.size w1 (w9.setCell ⟨p, 2, none⟩ (.slice a9 (Os.length + 1) c9)) := (HBW.out.trans (HACC.out.mono (by omega))).setCell HPG.out.1 _
                      have hs9 : ∀ q, q < wx.heap.size → q ≠ p → (w9.setCell ⟨p, 2, none⟩ (.slice a9 (Os.length + 1) c9)).heap[q]? = wx.heap[q]? := fun q h1 h2 => by rw [heap_setCell_other _ _ _ _ h2, HACC.out.block q (by omega)]; exact HSB.out q h1 h2
                      have hz9 : wx.heap.size ≤ (w9.setCell ⟨p, 2, none⟩ (.slice a9 (Os.length + 1) c9)).heap.size := by have := HACC.out.size; simp; omega
                      have ho9 : OwnNames (w9.setCell ⟨p, 2, none⟩ (.slice a9 (Os.length + 1) c9)) Bq (.slice a9 (Os.length + 1) c9) (Os ++ [x]) := by
                        have := OwnNames.next (t := x) (v' := .slice a9 (Os.length + 1) c9) HO9.out
                        exact ownsRow_setCell_below this (a := ⟨p, 2, none⟩) (by show p < Bq; omega) _
                      have tt9 : TextsZ (w9.setCell ⟨p, 2, none⟩ (.slice a9 (Os.length + 1) c9)) A1 n1 Hs := one_texts (TextsZ.belowB HT1.out HACC.out hBq (fun h0 ad had => (HF1.out h0 ad had).2)) (fun h0 ad had => by have := (HF1.out h0 ad had).1; omega) _
                      have HIN : Hid (PInv wx w1 p nm rt H0 RR (w9.setCell ⟨p, 2, none⟩ (.slice a9 (Os.length + 1) c9)) (k + 1) true Hs (Os ++ [x]) v1 (.slice a9 (Os.length + 1) c9)) := Lib.hid ⟨⟨hk9, hb9, hs9, hz9⟩, ⟨by omega, by rw [List.length_append]; simp; omega, HSZ.out.1, sz1⟩, .inr ⟨rfl, ⟨Bq, hxq, by have := HACC.out.size; simp; omega, ho9, A1, n1, c1', hv1, tt9, HLO.out.1, HLO.out.2, HF1.out⟩, by rw [bls_snoc]; exact HGO.out⟩⟩
                      clear hk9 hb9 hs9 hz9 ho9 tt9
                      go_wp2
                      go_roundw
                      case rel => exact ⟨k + 1, true, Hs, Os ++ [x], v1, _, by rfl, by go_num, by omega, HIN⟩
                      case measure => (simp [intOf]; omega)
            · obtain ⟨⟨i1, i2, i3, i4⟩, ⟨i5, i6, i7, i8⟩, i9⟩ := HI.out
              obtain ⟨hR, A1, n1, c1, A2, n2, c2, rfl, rfl, ⟨t1, l1, o1', f1'⟩, t2, l2, o2', f2'⟩ := HI.out.ends (by rw [HTX.out.1]; omega)
              have HKP := Lib.hid i1
              have HBW := Lib.hid i2
              have hF := r6CheckForm_any nm Hs Os n1 c1 n2 c2 A1 A2 rt wr (by have := HNS.out; unfold maxLen; omega) t1 (by rw [← t1.1]; omega) i7 t2 (by rw [← t2.1]; omega) i8
              obtain ⟨er, her⟩ : ∃ er, frmE nm (bls Hs) (bls Os) = er := ⟨_, rfl⟩
              rw [her] at hF
              have HPV : Hid (refV (bl s) = if er = 0 then ((bl nm, bls Hs, bls Os, rt), 0) else (noCard, er)) := Lib.hid (by
                rw [HRV.out, hR, HRT.out]
                simp only
                rw [her])
              have HT1 := Lib.hid t1
              have HT2 := Lib.hid t2
              have HLE := Lib.hid (And.intro l1 (And.intro o1' (And.intro l2 o2')))
              have HGH : Hid ((0 < n1 → ∀ ad : Addr, A1 = some ad → ad.block ≠ g) ∧ (0 < n2 → ∀ ad : Addr, A2 = some ad → ad.block ≠ g)) := Lib.hid (by
                have h1 := HG0.out.2
                have h2 := HPG.out.1
                exact ⟨fun h0 ad had q => by have := f1' h0 ad had; omega, fun h0 ad had q => by have := f2' h0 ad had; omega⟩)
              have x0 := Go.Joins.cell_of_block i1 0
              have x1 := Go.Joins.cell_of_block i1 1
              have x2 := Go.Joins.cell_of_block i1 2
              have x3 := Go.Joins.cell_of_block i1 3
              have hkf : ¬ (k : Int) < (n : Int) := by omega
              clear i1 i2 i3 i4 i5 i6 i7 i8 i9 HI hR her t1 t2 l1 o1' l2 o2' f1' f2'
              go_wp2_with fail
              refine hF.mono ?_
              rintro e w4 ⟨rfl, hb4⟩
              have HB4 := Lib.hid (HBW.out.trans (hb4.mono HBW.out.size))
              have HKP4 : Hid (w4.heap[p]? = some (.cells #[.string nm, .slice A1 n1 c1, .slice A2 n2 c2, .bool rt] 54 (0, 0))) := Lib.hid ((hb4.block _ (Array.getElem?_eq_some_iff.1 HKP.out).1).trans HKP.out)
              have HTT1 := Lib.hid (HT1.out.below hb4)
              have HTT2 := Lib.hid (HT2.out.below hb4)
              have kg := HK.out w4 HB4.out
              have q0 := Go.Joins.cell_of_block kg 0
              have r0 := Go.Joins.unfrozen_of_block kg 0
              have q1 := Go.Joins.cell_of_block kg 1
              have r1 := Go.Joins.unfrozen_of_block kg 1
              have q2 := Go.Joins.cell_of_block kg 2
              have r2 := Go.Joins.unfrozen_of_block kg 2
              have q3 := Go.Joins.cell_of_block kg 3
              have r3 := Go.Joins.unfrozen_of_block kg 3
              have KG := Lib.hid kg
              clear kg
              clear x0 x1 x2 x3 hb4 hF
              by_cases he : er = 0
              · subst he
                have hv : Hid (refV (bl s) = ((bl nm, bls Hs, bls Os, rt), 0)) := Lib.hid (by rw [HPV.out, if_pos rfl])
                have x0 := Go.Joins.cell_of_block HKP4.out 0
                have x1 := Go.Joins.cell_of_block HKP4.out 1
                have x2 := Go.Joins.cell_of_block HKP4.out 2
                have x3 := Go.Joins.cell_of_block HKP4.out 3
                go_wp2_with fail
                have k4 := four_set KG.out (.string nm) (.slice A1 n1 c1) (.slice A2 n2 c2) (.bool rt)
                have hfin := four_below (HB1.out.trans (HB4.out.mono HB1.out.size)) HG0.out.1 (.string nm) (.slice A1 n1 c1) (.slice A2 n2 c2) (.bool rt)
                have z0 := Go.Joins.cell_of_block k4 0
                have z1 := Go.Joins.cell_of_block k4 1
                have z2 := Go.Joins.cell_of_block k4 2
                have z3 := Go.Joins.cell_of_block k4 3
                refine bodyPost_ret (v := .tuple #[.agg #[.string nm, .slice A1 n1 c1, .slice A2 n2 c2, .bool rt], .int .i64 0]) (by simp [results, Tryz.results26, go_sem, z0, z1, z2, z3]) rfl ⟨_, _, _, _, _, _, _, _, _, Hs, Os, rfl, hfin, hv.out, ⟨?_, HLE.out.1, HLE.out.2.1⟩, ?_, HLE.out.2.2.1, HLE.out.2.2.2⟩
                · exact four_texts HTT1.out HGH.out.1 _ _ _ _
                · exact four_texts HTT2.out HGH.out.2 _ _ _ _
              · have HV : Hid (refV (bl s) = (noCard, er)) := Lib.hid (by rw [HPV.out, if_neg he])
                have heb : (er != 0) = true := by rw [bne_iff_ne]; exact he
                clear he
                go_wp2_with fail
                have k4 := four_set KG.out (.string ⟨#[]⟩) (.slice none 0 0) (.slice none 0 0) (.bool false)
                have hfin := HE.out er _ HV.out (four_below (HB1.out.trans ((HB4.out).mono HB1.out.size)) HG0.out.1 (.string ⟨#[]⟩) (.slice none 0 0) (.slice none 0 0) (.bool false))
                have z0 := Go.Joins.cell_of_block k4 0
                have z1 := Go.Joins.cell_of_block k4 1
                have z2 := Go.Joins.cell_of_block k4 2
                have z3 := Go.Joins.cell_of_block k4 3
                exact bodyPost_ret (v := .tuple #[.agg #[.string ⟨#[]⟩, .slice none 0 0, .slice none 0 0, .bool false], .int .i64 er]) (by simp [results, Tryz.results26, go_sem, z0, z1, z2, z3]) rfl hfin)
        clear h1
        by_cases hm0 : m = 0
        · have hL0 : L' = [] := List.length_eq_zero_iff.1 (by rw [HM.out]; exact hm0)
          have HDR : Hid (bls L' = dropRet (bls L') ∧ false = decide ((bls L').getLast? = some retL)) := Lib.hid (by
            rw [hL0]
            exact ⟨rfl, by decide⟩)
          have hng : ¬ (0 : Int) < (m : Int) := by omega
          clear hm0 hL0
          go_wp2_with fail
          exact REST.out _ _ _ _ _ _ _ _ _ _ _ _ _ _ _ _ _ _ _ _ _ _ _ _ _ _ _ _ _ _ _ _ _ _ _ _ _ _ _ _ _ _ _ _ _ _ _ _ _ _ _ _ _ _ _ _ _ _ _ _ _ _ _ _ _ _ _ _ _ _ _ _ _ _ _ _ _ _ _ _ _ _ _ _ _ _ _ _ _ _ _ _ _ _ _ _ _ _ _ _ _ _ _ _ _ _ _ _ _ _ _ _ _ _ _ _ _ w4 A0 m _ L' false HB4.out HK4.out HT4.out (by have := HCB.out; omega) hA0n HGX.out HLS.out HDR.out.1 HDR.out.2
        · obtain ⟨j, hj⟩ : ∃ j, m = j + 1 := ⟨m - 1, by omega⟩
          have hA0e := hA0p (by omega)
          obtain ⟨z, hz⟩ : ∃ z, L'[j]? = some z := ⟨_, List.getElem?_eq_getElem (by rw [HM.out]; omega)⟩
          have hzc : w4.cell? ⟨gb, 1 + j, none⟩ = some (.string z) := by
            obtain ⟨q, off, e, _, hc⟩ := HT4.out.2 (by omega)
            rw [hA0e] at e
            injection e with e
            injection e with e1 e2
            rw [e1, e2]
            exact hc j z hz
          have hgl : (bls L').getLast? = some (bl z) := getLast_bls hz (by rw [HM.out]; exact hj)
          subst hA0e
          have hmp : (0 : Int) < (m : Int) := by omega
          have hmj : (m : Int) - 1 = (j : Int) := by omega
          have hwj : IntKind.i64.wrap (j : Int) = (j : Int) := IntWalk.i64_in _ (by omega)
          have hj0 : (0 : Int) ≤ (j : Int) := by omega
          have hjt : ((j : Int)).toNat = j := by omega
          have hjm : (j : Int) < (m : Int) := by omega
          have hjm2 : (j : Int) ≤ (m : Int) := by omega
          have hcbm : (m : Int) ≤ ((cb - 1 : Nat) : Int) := by have := HCB.out; omega
          have hjcb : (j : Int) ≤ ((cb - 1 : Nat) : Int) := by omega
          obtain ⟨cc, hcc⟩ : ∃ cc, cb - 1 = cc := ⟨_, rfl⟩
          rw [hcc] at hcbm hjcb ⊢
          have HMC : Hid (m ≤ cc) := Lib.hid (by omega)
          have HJ := Lib.hid hj
          by_cases hr : bl z = retL
          · have hcmp : (z.toList == [114, 101, 116, 105, 114, 101, 100]) = true := by
              rw [ByteArray.toList_eq, list_beq]
              exact decide_eq_true hr
            have HDR : Hid (bls (L'.take j) = dropRet (bls L') ∧ true = decide ((bls L').getLast? = some retL)) := Lib.hid (by
              rw [hgl, hr]
              refine ⟨?_, by simp⟩
              unfold dropRet
              rw [hgl, hr, if_pos rfl, bls_take, List.dropLast_eq_take, bls_len, HM.out, hj]
              rfl)
            have f3 := Go.Joins.unfrozen_of_block HK4.out 3
            have c3 := Go.Joins.cell_of_block HK4.out 3
            have k5 := Go.Joins.block_setCell (i := 3) HK4.out (.bool true)
            have HK5 := Lib.hid k5
            clear hz hgl hr k5 hj hm0 hcc
            go_wp2_with fail
            refine REST.out _ _ _ _ _ _ _ _ _ _ _ _ _ _ _ _ _ _ _ _ _ _ _ _ _ _ _ _ _ _ _ _ _ _ _ _ _ _ _ _ _ _ _ _ _ _ _ _ _ _ _ _ _ _ _ _ _ _ _ _ _ _ _ _ _ _ _ _ _ _ _ _ _ _ _ _ _ _ _ _ _ _ _ _ _ _ _ _ _ _ _ _ _ _ _ _ _ _ _ _ _ _ _ _ _ _ _ _ _ _ _ _ _ _ _ _ _ _ _ j cc (L'.take j) true (HB4.out.setCell HPG.out.1 _) HK5.out ?_ (by have := HJ.out; have := HMC.out; omega) hA0n (by have := HGX.out; simpa using this) (fun z hz => HLS.out z (List.mem_of_mem_take hz)) HDR.out.1 HDR.out.2
            have ht := HT4.out.take (k := j) (by have := HJ.out; omega)
            exact one_texts ht (fun _ ad had => by
              injection had with had
              rw [← had]
              exact fun q => HPG.out.2.1 q.symm) _
          · have hcmp : (z.toList == [114, 101, 116, 105, 114, 101, 100]) = false := by
              rw [ByteArray.toList_eq, list_beq]
              exact decide_eq_false hr
            have HDR : Hid (bls L' = dropRet (bls L') ∧ false = decide ((bls L').getLast? = some retL)) := Lib.hid (by
              have hne : ¬ (bls L').getLast? = some retL := by rw [hgl]; intro q; injection q with q; exact hr q
              refine ⟨?_, (decide_eq_false hne).symm⟩
              unfold dropRet
              rw [if_neg hne])
            clear hz hgl hr hj hm0 hcc
            go_wp2_with fail
            exact REST.out _ _ _ _ _ _ _ _ _ _ _ _ _ _ _ _ _ _ _ _ _ _ _ _ _ _ _ _ _ _ _ _ _ _ _ _ _ _ _ _ _ _ _ _ _ _ _ _ _ _ _ _ _ _ _ _ _ _ _ _ _ _ _ _ _ _ _ _ _ _ _ _ _ _ _ _ _ _ _ _ _ _ _ _ _ _ _ _ _ _ _ _ _ _ _ _ _ _ _ _ _ _ _ _ _ _ _ _ _ _ _ _ _ _ _ _ _ w4 _ m cc L' false HB4.out HK4.out HT4.out HMC.out hA0n HGX.out HLS.out HDR.out.1 HDR.out.2
    · rw [decide_eq_false h58] at e58
      have HV : Hid (refV (bl s) = (noCard, 25)) := Lib.hid (by rw [HRW.out]; unfold refW; rw [if_pos (.inr (.inl (by rw [hlast]; exact h58)))])
      have kg := HK.out w2 HB2.out
      have q0 := Go.Joins.cell_of_block kg 0
      have r0 := Go.Joins.unfrozen_of_block kg 0
      have q1 := Go.Joins.cell_of_block kg 1
      have r1 := Go.Joins.unfrozen_of_block kg 1
      have q2 := Go.Joins.cell_of_block kg 2
      have r2 := Go.Joins.unfrozen_of_block kg 2
      have q3 := Go.Joins.cell_of_block kg 3
      have r3 := Go.Joins.unfrozen_of_block kg 3
      have KG := Lib.hid kg
      clear kg
      clear hn2 hq hc hlast h58
      go_wp2_with fail
      have k4 := four_set KG.out (.string ⟨#[]⟩) (.slice none 0 0) (.slice none 0 0) (.bool false)
      have hfin := HE.out 25 _ HV.out (four_below (HB1.out.trans ((HB2.out).mono HB1.out.size)) HG0.out.1 (.string ⟨#[]⟩) (.slice none 0 0) (.slice none 0 0) (.bool false))
      have z0 := Go.Joins.cell_of_block k4 0
      have z1 := Go.Joins.cell_of_block k4 1
      have z2 := Go.Joins.cell_of_block k4 2
      have z3 := Go.Joins.cell_of_block k4 3
      exact bodyPost_ret (v := .tuple #[.agg #[.string ⟨#[]⟩, .slice none 0 0, .slice none 0 0, .bool false], .int .i64 25]) (by simp [results, Tryz.results26, go_sem, z0, z1, z2, z3]) rfl hfin
theorem r6Parse_any (s : ByteArray) (hz : s.size ≤ 5000) (w : World) : Calls Tryz.prog 26 #[.string s] w (ParPost (refV (bl s)) w) := by
  by_cases h4 : 4096 < s.size
  · exact parse_long s hz h4 w
  · exact parse_short s hz h4 w
end Go.Mk
