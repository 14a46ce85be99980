/-
  Proved: the reference's Standing gives the places of cards as the program's standing, in new
-/
import Derived.Test.YthgkaojplomapaaGreatDoorFhd
set_option maxHeartbeats 32000000
set_option linter.unusedVariables false
set_option linter.unusedSimpArgs false
open Go Go.Proofs Go.RowKit
set_option maxRecDepth 100000
namespace Go.Mk
def StW (w2 : World) (q : Nat) (nm : ByteArray) (rk : Int) (kd : ByteArray) (vl : Int) (rs : ByteArray) (v : Value) (P : List Plc) (wr : World) : Prop :=
 wr.heap[q]? = some (.cells #[.string nm, .int .i64 rk, .string kd, .int .i64 vl, .string rs] 126 (0, 0)) ∧ OwnPlR wr w2.heap.size v P ∧ (∀ r, v.ownBlock = some r → r < q) ∧ w2.heap.size ≤ q ∧ Below w2.heap.size w2 wr
def StX (w2 : World) (q : Nat) (nm : ByteArray) (rk : Int) (v : Value) (P : List Plc) (wr : World) : Prop := ∃ kd vl rs, StW w2 q nm rk kd vl rs v P wr
theorem StW.below {w2 wr wx : World} {q : Nat} {nm kd rs : ByteArray} {rk vl : Int} {v : Value} {P : List Plc} (h : StW w2 q nm rk kd vl rs v P wr) (hb : Below wr.heap.size wr wx) : StW w2 q nm rk kd vl rs v P wx :=
 ⟨(hb.block q (Array.getElem?_eq_some_iff.1 h.1).1).trans h.1, ownN h.2.1 hb, h.2.2.1, h.2.2.2.1, bstep h.2.2.2.2 hb⟩
theorem StW.bel {w2 wr : World} {q : Nat} {nm kd rs : ByteArray} {rk vl : Int} {v : Value} {P : List Plc} (h : StW w2 q nm rk kd vl rs v P wr) : Below w2.heap.size w2 wr := h.2.2.2.2
theorem StW.drew {w2 wr : World} {q : Nat} {nm kd rs : ByteArray} {rk vl : Int} {v : Value} {P : List Plc} (h : StW w2 q nm rk kd vl rs v P wr) : StW w2 q nm rk kd vl rs v P wr.drew := h.below (Below.drew (Below.refl _ _))
theorem StX.below {w2 wr wx : World} {q : Nat} {nm : ByteArray} {rk : Int} {v : Value} {P : List Plc} (h : StX w2 q nm rk v P wr) (hb : Below wr.heap.size wr wx) : StX w2 q nm rk v P wx := by
 obtain ⟨a, b, c, h⟩ := h
 exact ⟨a, b, c, h.below hb⟩
theorem StX.bel {w2 wr : World} {q : Nat} {nm : ByteArray} {rk : Int} {v : Value} {P : List Plc} (h : StX w2 q nm rk v P wr) : Below w2.heap.size w2 wr := by
 obtain ⟨a, b, c, h⟩ := h
 exact h.2.2.2.2
theorem StW.keep {w2 wr : World} {q i : Nat} {nm kd rs : ByteArray} {rk vl : Int} {v x : Value} {P : List Plc} (h : StW w2 q nm rk kd vl rs v P wr) : OwnPlR (wr.setCell ⟨q, i, none⟩ x) w2.heap.size v P ∧ Below w2.heap.size w2 (wr.setCell ⟨q, i, none⟩ x) :=
 ⟨ownsRow_setCell_other h.2.1 (a := ⟨q, i, none⟩) (fun e => absurd (h.2.2.1 q e) (Nat.lt_irrefl _)) x, h.2.2.2.2.setCell (p := ⟨q, i, none⟩) h.2.2.2.1 x⟩
theorem StW.set1 {w2 wr : World} {q : Nat} {nm kd rs : ByteArray} {rk vl : Int} {v : Value} {P : List Plc} (h : StW w2 q nm rk kd vl rs v P wr) (k : Int) : StW w2 q nm k kd vl rs v P (wr.setCell ⟨q, 1, none⟩ (.int .i64 k)) :=
 ⟨(Go.Joins.block_setCell (i := 1) h.1 (.int .i64 k)).trans rfl, h.keep.1, h.2.2.1, h.2.2.2.1, h.keep.2⟩
theorem StW.set0 {w2 wr : World} {q : Nat} {nm kd rs : ByteArray} {rk vl : Int} {v : Value} {P : List Plc} (h : StW w2 q nm rk kd vl rs v P wr) (k : ByteArray) : StW w2 q k rk kd vl rs v P (wr.setCell ⟨q, 0, none⟩ (.string k)) :=
 ⟨(Go.Joins.block_setCell (i := 0) h.1 (.string k)).trans rfl, h.keep.1, h.2.2.1, h.2.2.2.1, h.keep.2⟩
theorem StW.set2 {w2 wr : World} {q : Nat} {nm kd rs : ByteArray} {rk vl : Int} {v : Value} {P : List Plc} (h : StW w2 q nm rk kd vl rs v P wr) (k : ByteArray) : StW w2 q nm rk k vl rs v P (wr.setCell ⟨q, 2, none⟩ (.string k)) :=
 ⟨(Go.Joins.block_setCell (i := 2) h.1 (.string k)).trans rfl, h.keep.1, h.2.2.1, h.2.2.2.1, h.keep.2⟩
theorem StW.setv {w2 wr : World} {q : Nat} {nm kd rs : ByteArray} {rk vl : Int} {v : Value} {P : List Plc} (h : StW w2 q nm rk kd vl rs v P wr) (k : Int) : StW w2 q nm rk kd k rs v P (wr.setCell ⟨q, 3, none⟩ (.int .i64 k)) :=
 ⟨(Go.Joins.block_setCell (i := 3) h.1 (.int .i64 k)).trans rfl, h.keep.1, h.2.2.1, h.2.2.2.1, h.keep.2⟩
theorem StW.setr {w2 wr : World} {q : Nat} {nm kd rs : ByteArray} {rk vl : Int} {v : Value} {P : List Plc} (h : StW w2 q nm rk kd vl rs v P wr) (k : ByteArray) : StW w2 q nm rk kd vl k v P (wr.setCell ⟨q, 4, none⟩ (.string k)) :=
 ⟨(Go.Joins.block_setCell (i := 4) h.1 (.string k)).trans rfl, h.keep.1, h.2.2.1, h.2.2.2.1, h.keep.2⟩
theorem StW.set3 {w2 wr : World} {q : Nat} {nm kd rs : ByteArray} {rk vl : Int} {v : Value} {P : List Plc} (h : StW w2 q nm rk kd vl rs v P wr) (a : ByteArray) (b : Int) (c : ByteArray) : StW w2 q nm rk a b c v P (((wr.setCell ⟨q, 2, none⟩ (.string a)).setCell ⟨q, 3, none⟩ (.int .i64 b)).setCell ⟨q, 4, none⟩ (.string c)) := ((h.set2 a).setv b).setr c
theorem StW.set5 {w2 wr : World} {q : Nat} {nm kd rs : ByteArray} {rk vl : Int} {v : Value} {P : List Plc} (h : StW w2 q nm rk kd vl rs v P wr) (n : ByteArray) (k : Int) (a : ByteArray) (b : Int) (c : ByteArray) : StW w2 q n k a b c v P (((((wr.setCell ⟨q, 0, none⟩ (.string n)).setCell ⟨q, 1, none⟩ (.int .i64 k)).setCell ⟨q, 2, none⟩ (.string a)).setCell ⟨q, 3, none⟩ (.int .i64 b)).setCell ⟨q, 4, none⟩ (.string c)) := (((((h.set0 n).set1 k).set2 a).setv b).setr c)
theorem r6Standing_any (AN AG : Option Addr) (nN cN m cG : Nat) (G : List Int) (st : Int) (L : List CardR) (n cap : Nat) (A : Option Addr) (w : World) (hG : IntsZ w AG m G) (hm : m ≤ 1000) (hZ : Cards w A n L) (hn : n ≤ 100) (hs : ∀ r ∈ L, r.nh ≤ 1000 ∧ ∀ x ∈ r.H, x.size ≤ 5000) (hs2 : ∀ r ∈ L, r.no ≤ 900) (hle : ∀ r ∈ L, r.nh ≤ m) (hv : ∀ r ∈ L, CardV r) :
  Calls Tryz.prog 16 #[.agg #[.slice AN nN cN, .slice AG m cG, .int .i64 st], .slice A n cap] w (fun e w' => ∃ v, e = .returned v ∧ OwnPlR w' w.heap.size v (standL G L) ∧ Below w.heap.size w w') := by
 obtain ⟨i0, hi, hz0, hz1, hz2⟩ := info_parts infoPlR
 obtain ⟨g, hg⟩ : ∃ g, w.heap.size = g := ⟨_, rfl⟩
 obtain ⟨w1, hw1⟩ : ∃ w1, w.alloc (.cells #[.slice AN nN cN, .slice AG m cG, .int .i64 st] 25) = w1 := ⟨_, rfl⟩
 have hb1 : Below w.heap.size w w1 := by rw [← hw1]; exact balloc _ (Below.refl _ _)
 have hgl : g < w1.heap.size := by rw [← hw1, ← hg]; simp
 have hF := r6firsts_any L n cap A w1 (hZ.below hb1) hn hs hv
 have hni : (n : Int) ≤ 100 := by omega
 have hmi : (m : Int) ≤ 1000 := by omega
 have HXV : Hid (∀ w', Below w1.heap.size w1 w' → w'.cell? ⟨g, 0, none⟩ = some (.slice AN nN cN) ∧ w'.cell? ⟨g, 1, none⟩ = some (.slice AG m cG) ∧ w'.cell? ⟨g, 2, none⟩ = some (.int .i64 st)) := Lib.hid fun w' hb => by
  refine ⟨?_, ?_, ?_⟩
  all_goals
   refine (hb.cell (p := ⟨g, _, none⟩) hgl).trans ?_
   rw [← hw1, ← hg]; simp
 have H := Lib.hid hZ
 have HL := Lib.hid hZ.1
 have HGZ := Lib.hid hG
 have HU : Hid (∀ (w' : World) (a b : Bool), Calls Tryz.prog 63 #[.bool a, .bool b] w' (RetPost (.agg #[.string ⟨#[110, 111, 110, 101]⟩, .int .i64 0, .string (if a && b then sDNS else sNM)]) w')) := Lib.hid fun w' a b => r6unmarked_any a b w'
 have HBEa : Hid (∀ (r : CardR) (w' : World), r ∈ L → CardZ w' r → Calls Tryz.prog 64 #[r.val] w' (RetPost (.int .i64 ((talR r).a - 1)) w')) := Lib.hid fun r w' hr hc => r6best_any r w' hc (hs r hr).1 (hs r hr).2 (hv r hr)
 have HHGa : Hid (∀ (x y : CardR) (w' : World), x ∈ L → y ∈ L → 0 < (talR x).a → 0 < (talR y).a → CardZ w' x → CardZ w' y → Calls Tryz.prog 65 #[x.val, y.val] w' (RetPost (.int .i64 (cmpL (talR x).l (talR y).l)) w')) := Lib.hid fun x y w' hx hy h1 h2 c1 c2 => r6higher_any x y w' c1 c2 (hs x hx) (hs y hy) (hv x hx) (hv y hy) h1 h2
 have HOFa : Hid (∀ (x y : CardR) (w' : World), x ∈ L → y ∈ L → CardZ w' x → CardZ w' y → Calls Tryz.prog 67 #[x.val, y.val] w' (RetPost (.int .i64 (cmpOff (bls x.O) (bls y.O) x.rt y.rt)) w')) := Lib.hid fun x y w' hx hy c1 c2 => r6off_any x y w' c1 c2 (hs2 x hx) (hs2 y hy) (hv x hx) (hv y hy)
 have HTR : Hid (∀ r ∈ L, CardZ w r ∧ 0 ≤ (talR r).a ∧ (talR r).a ≤ r.nh ∧ r.nh ≤ m ∧ (r.nh : Int) ≤ 1000) := Lib.hid fun r hr => by
  have h1 := tal_range r
  obtain ⟨j, hj⟩ := List.mem_iff_getElem?.1 hr
  have hjl := (List.getElem?_eq_some_iff.1 hj).1
  rw [hZ.1] at hjl
  obtain ⟨_, _, _, _, hc⟩ := hZ.2 (by omega)
  have h2 := (hc j r hj).2
  have h3 := h2.1.1
  have h4 := (hs r hr).1
  exact ⟨h2, h1.1, by omega, hle r hr, by omega⟩
 have HHA : Hid (∀ (w' : World) (A' : Option Addr) (m' c' i : Nat), IntsZ w' A' m' ((fstsL L).map fun i : Nat => (i : Int)) → m' ≤ 1000 → i < n → Calls Tryz.prog 66 #[.slice A' m' c', .int .i64 i] w' (RetPost (.bool (fstB L (bestT L) i)) w')) := Lib.hid fun w' A' m' c' i hz hm' hi' => by
  have := r6has_any ((fstsL L).map fun i : Nat => (i : Int)) m' c' A' i w' hz hm'
  have e : decide ((i : Int) ∈ (fstsL L).map fun i : Nat => (i : Int)) = fstB L (bestT L) i := by
   have h1 : ((i : Int) ∈ (fstsL L).map fun i : Nat => (i : Int)) ↔ i ∈ fstsL L := by
    rw [List.mem_map]
    constructor
    ·rintro ⟨j, hj, ej⟩
     have : j = i := by omega
     rw [← this]; exact hj
    ·exact fun h => ⟨i, h, rfl⟩
   have h2 := (fsts_mem (L := L) (i := i))
   rw [hZ.1] at h2
   cases hb : fstB L (bestT L) i with
   | true => exact decide_eq_true (h1.2 (h2.2 ⟨hi', hb⟩))
   | false => exact decide_eq_false fun q => by have := (h2.1 (h1.1 q)).2; rw [hb] at this; cases this
  rw [e] at this
  exact this
 have HPa : Hid (∀ (k : Nat) (r : CardR), L[k]? = some r → (plcsC G L)[k]? = some (plcC G L n k r)) := Lib.hid fun k r h => by rw [← hZ.1]; exact plcsC_at h
 have HPl : Hid ((plcsC G L).length = n) := Lib.hid (by rw [plcsC_len, hZ.1])
 have HOr : Hid (∀ (v : Value) (B : Nat) (w' : World), OwnPlR w' B v (plcsC G L) → ∃ A' c', v = .slice A' n c' ∧ Calls Tryz.prog 68 #[.slice A' n c'] w' (fun e w'' => ∃ v, e = .returned v ∧ OwnPlR w'' w'.heap.size v (standL G L) ∧ Below w'.heap.size w' w'')) := Lib.hid fun v B w' ho => by
  obtain ⟨A', c', rfl, hP⟩ := PlcsZ.of_ownR ho
  rw [plcsC_len, hZ.1] at hP ⊢
  refine ⟨A', c', rfl, ?_⟩
  have := r6ordered_any (plcsC G L) n c' A' w' hP hn
  rw [ordP_eq n (plcsC G L) (fun p hp => by have := plcsC_rk G L p hp; rw [hZ.1] at this; exact this)] at this
  unfold standL
  rw [hZ.1]
  exact this
 obtain ⟨SL, hSL⟩ : ∃ SL, standL G L = SL := ⟨_, rfl⟩
 rw [hSL] at HOr ⊢
 have hml : ((fstsL L).map fun i : Nat => (i : Int)).length ≤ 1000 := by
  rw [List.length_map]
  unfold fstsL
  have := List.length_filter_le (fstB L (bestT L)) (List.range L.length)
  rw [List.length_range] at this
  have := hZ.1
  omega
 have HB1 := Lib.hid hb1
 obtain ⟨v0, v1, v2⟩ := HXV.out w1 (Below.refl _ _)
 have HML := Lib.hid hml
 clear hG hm hZ hn hs hs2 hle hv hb1 hgl hSL hml
 go_enter Tryz.func16, Tryz.ntmps16
 go_wp2_with fail
 refine hF.mono ?_
 rintro e w2 ⟨v5, rfl, ho5, hb2⟩
 obtain ⟨A5, c5, rfl, hz5⟩ := IntsZ.of_own ho5
 obtain ⟨m5, hm5⟩ : ∃ m5, ((fstsL L).map fun i : Nat => (i : Int)).length = m5 := ⟨_, rfl⟩
 rw [hm5] at hz5 HML ⊢
 have HI5 := Lib.hid hz5
 have HB2 := Lib.hid hb2
 have HW : Hid (Below w.heap.size w w2) := Lib.hid (bstep HB1.out hb2)
 clear hF ho5 hz5 hm5 hb2 v0 v1 v2 hw1
 go_wp2
 go_loopw [6, 7] (fun v i wr => ∃ k : Nat, k ≤ n ∧ i = .int .i64 k ∧ OwnPlR wr w2.heap.size v ((plcsC G L).take k) ∧ Below w2.heap.size w2 wr) (fun _ i _ => n - (RowKit.intOf i).toNat)
 case atStart => exact ⟨0, by omega, rfl, World.ownsRow_nil _ _ _ _, Below.refl _ _⟩
 case round =>
  obtain ⟨i, hi', rfl, hown, hb⟩ := hrel
  by_cases hlt : i < n
  ·obtain ⟨b', off, r, rfl, hbl, hr, hcr, hCZ⟩ := H.out.at_ hlt
   have hki : (i : Int) < (n : Int) := by omega
   have hk0 : (0 : Int) ≤ (i : Int) := by omega
   have hkt : ((i : Int)).toNat = i := by omega
   have hrm := List.mem_of_getElem? hr
   have HR := Lib.hid hr
   have HO := Lib.hid hown
   have HB := Lib.hid hb
   have hlen : ((plcsC G L).take i).length = i := by rw [List.length_take, HPl.out]; omega
   have Hst : Hid ((plcsC G L).take (i + 1) = (plcsC G L).take i ++ [plcC G L n i r]) := Lib.hid (by rw [List.take_add_one, HPa.out i r hr]; rfl)
   obtain ⟨P, hP⟩ : ∃ P, (plcsC G L).take i = P := ⟨_, rfl⟩
   rw [hP] at Hst HO hlen
   have Hlen := Lib.hid hlen
   obtain ⟨_, ta0, ta1, ta2, ta3⟩ := HTR.out r hrm
   have HBE : Hid (∀ w', Below w2.heap.size w2 w' → Calls Tryz.prog 64 #[r.val] w' (RetPost (.int .i64 ((talR r).a - 1)) w')) := Lib.hid fun w' hb' => HBEa.out r w' hrm (hCZ.below (bstep HW.out hb'))
   have HXc : Hid (∀ w', Below w2.heap.size w2 w' → w'.cell? ⟨b', off + i * 4, none⟩ = some (.string r.s) ∧ w'.cell? ⟨b', off + i * 4 + 1, none⟩ = some (.slice r.AH r.nh r.ch) ∧ w'.cell? ⟨b', off + i * 4 + 2, none⟩ = some (.slice r.AO r.no r.co) ∧ w'.cell? ⟨b', off + i * 4 + 3, none⟩ = some (.bool r.rt)) := Lib.hid fun w' hb => by
    have hb' := bstep HW.out hb
    exact ⟨(hb'.cell (p := ⟨b', _, none⟩) hbl).trans hcr.1, (hb'.cell (p := ⟨b', _, none⟩) hbl).trans hcr.2.1, (hb'.cell (p := ⟨b', _, none⟩) hbl).trans hcr.2.2.1, (hb'.cell (p := ⟨b', _, none⟩) hbl).trans hcr.2.2.2⟩
   have HPC : Hid (plcC G L n i r = ⟨r.s, (rkB (stR L) (stB L (bestT L)) n i : Nat), (mkC G r).1, (mkC G r).2.1, (mkC G r).2.2⟩) := Lib.hid rfl
   obtain ⟨tx, htx⟩ : ∃ tx, (if decide (r.nh = 0) && r.rt then sDNS else sNM) = tx := ⟨_, rfl⟩
   have HTX := Lib.hid htx
   have HUN : Hid (∀ w', Calls Tryz.prog 63 #[.bool (decide (r.nh = 0)), .bool r.rt] w' (RetPost (.agg #[.string ⟨#[110, 111, 110, 101]⟩, .int .i64 0, .string tx]) w')) := Lib.hid fun w' => by rw [← htx]; exact HU.out w' _ _
   obtain ⟨s1, A1, n1, c1, H1, B1, m1, d1, O1, r1⟩ := r
   unfold CardR.val at HBE
   dsimp only at *
   have HX : Hid (∀ w', Below w2.heap.size w2 w' → (w'.cell? ⟨g, 0, none⟩ = some (.slice AN nN cN) ∧ w'.cell? ⟨g, 1, none⟩ = some (.slice AG m cG) ∧ w'.cell? ⟨g, 2, none⟩ = some (.int .i64 st)) ∧ (w'.cell? ⟨b', off + i * 4, none⟩ = some (.string s1) ∧ w'.cell? ⟨b', off + i * 4 + 1, none⟩ = some (.slice A1 n1 c1) ∧ w'.cell? ⟨b', off + i * 4 + 2, none⟩ = some (.slice B1 m1 d1) ∧ w'.cell? ⟨b', off + i * 4 + 3, none⟩ = some (.bool r1))) := Lib.hid fun w' hb => ⟨HXV.out w' (bstep HB2.out hb), HXc.out w' hb⟩
   clear hown hb hbl hr hcr hCZ hlen htx HXc HU
   have hnh0 : ((n1 : Int) == 0) = decide (n1 = 0) := by
    by_cases q : n1 = 0
    ·subst q; rfl
    ·rw [decide_eq_false q]; simp; omega
   obtain ⟨zb, hzb⟩ : ∃ zb, decide (n1 = 0) = zb := ⟨_, rfl⟩
   rw [hzb] at hnh0 HUN
   have HU := HUN
   have HZB := Lib.hid hzb
   clear HUN hzb
   go_wp2_with fail
   obtain ⟨Q0, hQ0⟩ : ∃ Q0 : Exit → Act → World → Prop, Q0 = (fun e a' w' => e = .normal ∧ ∃ q : Nat, a' = ⟨#[(.agg #[.slice AN nN cN, .slice AG m cG, .int .i64 st]), (.slice (some ⟨b', off, none⟩) n cap), (.pointer (some ⟨g, 0, none⟩)), undef, (.slice none 0 0), (.slice A5 m5 c5), u6, (.int .i64 i), (.pointer (some ⟨q, 0, none⟩)), u9, u10, (.slice (some ⟨b', off, none⟩) n cap), (.slice A5 m5 c5), (.int .i64 i), (.slice (some ⟨b', off, none⟩) n cap), (.int .i64 n), (.bool true), u17, u18, (.slice (some ⟨b', off, none⟩) n cap), (.int .i64 i), (.pointer (some ⟨b', off + i * 4, none⟩)), (.pointer (some ⟨b', off + i * 4, none⟩)), (.string s1), (.slice (some ⟨b', off, none⟩) n cap), (.int .i64 i), (.pointer (some ⟨b', off + i * 4, none⟩)), (.pointer (some ⟨b', off + i * 4 + 1, none⟩)), (.slice A1 n1 c1), (.int .i64 n1), (.bool zb), (.slice (some ⟨b', off, none⟩) n cap), (.int .i64 i), (.pointer (some ⟨b', off + i * 4, none⟩)), (.pointer (some ⟨b', off + i * 4 + 3, none⟩)), (.bool r1), (.agg #[.string ⟨#[110, 111, 110, 101]⟩, .int .i64 0, .string tx]), (.agg #[.string s1, .int .i64 0, .string ⟨#[110, 111, 110, 101]⟩, .int .i64 0, .string tx]), u38, u39, u40, u41, u42, u43, u44, u45, u46, u47, u48, u49, u50, u51, u52, u53, u54, u55, u56, u57, u58, u59, u60, u61, u62, u63, u64, u65, u66, u67, u68, u69, u70, u71, u72, u73, u74, u75, u76, u77, u78, u79, u80, u81, u82, u83, u84, u85, u86, u87, u88, u89, u90, u91, u92, u93, u94, u95, u96, u97, u98, u99, u100, u101, u102, undef, undef], []⟩ ∧ StW w2 q s1 0 ⟨#[110, 111, 110, 101]⟩ 0 tx u6 P w') := ⟨_, rfl⟩
   have HQ0 := Lib.hid hQ0
   clear hQ0
   refine wp_mono (Q := Q0) ?_ ?_
   ·skip
    refine wp_region_held_drew (S := fun w' => OwnPlR w' w2.heap.size u6 P ∧ Below w2.heap.size w2 w') (by kernel_rfl) ?_ (fun hHeld => ?_)
    ·exact ⟨World.ownsRow.drew HO.out, Below.drew HB.out⟩
    generalize World.drew _ = wd at hHeld ⊢
    refine zX 0 (fun _ hs => HX.out _ hs.2) (hQ := fun _ _ _ h => by rw [HQ0.out] at h; cases h.1) (h := zX 1 (fun _ hs => HX.out _ hs.2) (hQ := fun _ _ _ h => by rw [HQ0.out] at h; cases h.1) (h := zX 2 (fun _ hs => HX.out _ hs.2) (hQ := fun _ _ _ h => by rw [HQ0.out] at h; cases h.1) (h := zX 3 (fun _ hs => HX.out _ hs.2) (hQ := fun _ _ _ h => by rw [HQ0.out] at h; cases h.1) (h := zX 4 (fun _ hs => HX.out _ hs.2) (hQ := fun _ _ _ h => by rw [HQ0.out] at h; cases h.1) (h := zX 5 (fun _ hs => HX.out _ hs.2) (hQ := fun _ _ _ h => by rw [HQ0.out] at h; cases h.1) (h := zX 6 (fun _ hs => HX.out _ hs.2) (hQ := fun _ _ _ h => by rw [HQ0.out] at h; cases h.1) (h := zX 7 (fun _ hs => HX.out _ hs.2) (hQ := fun _ _ _ h => by rw [HQ0.out] at h; cases h.1) (h := zX 8 (fun _ hs => HX.out _ hs.2) (hQ := fun _ _ _ h => by rw [HQ0.out] at h; cases h.1) (h := zX 9 (fun _ hs => HX.out _ hs.2) (hQ := fun _ _ _ h => by rw [HQ0.out] at h; cases h.1) (h := zX 10 (fun _ hs => HX.out _ hs.2) (hQ := fun _ _ _ h => by rw [HQ0.out] at h; cases h.1) (h := zX 11 (fun _ hs => HX.out _ hs.2) (hQ := fun _ _ _ h => by rw [HQ0.out] at h; cases h.1) (h := zX 12 (fun _ hs => HX.out _ hs.2) (hQ := fun _ _ _ h => by rw [HQ0.out] at h; cases h.1) (h := zX 13 (fun _ hs => HX.out _ hs.2) (hQ := fun _ _ _ h => by rw [HQ0.out] at h; cases h.1) (h := zX 14 (fun _ hs => HX.out _ hs.2) (hQ := fun _ _ _ h => by rw [HQ0.out] at h; cases h.1) (h := zX 15 (fun _ hs => HX.out _ hs.2) (hQ := fun _ _ _ h => by rw [HQ0.out] at h; cases h.1) (h := zX 16 (fun _ hs => HX.out _ hs.2) (hQ := fun _ _ _ h => by rw [HQ0.out] at h; cases h.1) (h := ?_)))))))))))))))))
    try simp only [zP, zQ, zA2, zA3]
    refine wpAnyH_ready (rs := [17, 19]) (by kernel_rfl) (by simp) ?_
    refine AllReadyH.cons (o := _) rfl (fun K hKK => ?_) ?_
    ·skip
     go_simp
     go_at_call 63
     with_reducible refine (HU.out _).mono ?_
     rintro e w6 ⟨rfl, hb6⟩
     have hX : OwnPlR w6 w2.heap.size u6 P ∧ Below w2.heap.size w2 w6 := ⟨ownN hHeld.1 hb6, bstep hHeld.2 hb6⟩
     clear hHeld hb6
     go_wp2_with fail
     refine hKK.out _ _ ?_ (fun hHeld => ?_)
     ·exact hX
     clear hKK K
     try simp only [zP, zQ, zA2, zA3]
     refine zX 18 (fun _ hs => HX.out _ hs.2) (hQ := fun _ _ _ h => by rw [HQ0.out] at h; cases h.1) (h := ?_)
     try simp only [zP, zQ, zA2, zA3]
     refine zN 19 fun K hKK => ?_
     go_simp
     refine hKK.out _ _ ?_ (fun hHeld => ?_)
     ·exact ⟨World.ownsRow.alloc hX.1 _, hX.2.alloc hX.2.size _⟩
     clear hKK K
     try simp only [zP, zQ, zA2, zA3]
     refine zN 20 fun K hKK => ?_
     go_simp
     have hZ2 : OwnPlR (w6.alloc (.cells #[.string s1, .int .i64 0, .string ⟨#[110, 111, 110, 101]⟩, .int .i64 0, .string tx] 126)) w2.heap.size u6 P ∧ Below w2.heap.size w2 (w6.alloc (.cells #[.string s1, .int .i64 0, .string ⟨#[110, 111, 110, 101]⟩, .int .i64 0, .string tx] 126)) := ⟨World.ownsRow.alloc hX.1 _, hX.2.alloc hX.2.size _⟩
     refine hKK.out _ _ ?_ (fun hHeld => ?_)
     ·exact hZ2
     clear hKK K
     try simp only [zP, zQ, zA2, zA3]
     refine wpAnyH_done (by kernel_rfl) ?_ _
     rw [HQ0.out]
     refine ⟨rfl, w6.heap.size, rfl, ?_⟩
     exact ⟨World.alloc_heap_new w6 _, hZ2.1, fun r hr => (World.ownsRow.lt hX.1 r hr).2, hX.2.size, hZ2.2⟩
    ·refine AllReadyH.cons (o := _) rfl (fun K hKK => ?_) AllReadyH.nil
     go_simp
     have hA : OwnPlR (wd.alloc (.cells #[.string ⟨#[]⟩, .int .i64 0, .string ⟨#[]⟩, .int .i64 0, .string ⟨#[]⟩] 126)) w2.heap.size u6 P ∧ Below w2.heap.size w2 (wd.alloc (.cells #[.string ⟨#[]⟩, .int .i64 0, .string ⟨#[]⟩, .int .i64 0, .string ⟨#[]⟩] 126)) := ⟨World.ownsRow.alloc hHeld.1 _, hHeld.2.alloc hHeld.2.size _⟩
     have hlt : ∀ r, u6.ownBlock = some r → r < wd.heap.size := fun r hr => (World.ownsRow.lt hHeld.1 r hr).2
     have hqi : w2.heap.size ≤ wd.heap.size := hHeld.2.size
     refine hKK.out _ _ ?_ (fun hHeld => ?_)
     ·exact hA
     clear hKK K
     try simp only [zP, zQ, zA2, zA3]
     refine zN 17 fun K hKK => ?_
     go_simp
     go_at_call 63
     with_reducible refine (HU.out _).mono ?_
     rintro e w6 ⟨rfl, hb6⟩
     obtain ⟨q, hq⟩ : ∃ q, wd.heap.size = q := ⟨_, rfl⟩
     have hk6 : w6.heap[q]? = some (.cells #[.string ⟨#[]⟩, .int .i64 0, .string ⟨#[]⟩, .int .i64 0, .string ⟨#[]⟩] 126 (0, 0)) := (hb6.block q (by rw [← hq]; simp)).trans (by rw [← hq]; exact World.alloc_heap_new wd _)
     have hX : OwnPlR w6 w2.heap.size u6 P ∧ Below w2.heap.size w2 w6 := ⟨ownN hA.1 hb6, bstep hA.2 hb6⟩
     rw [hq] at hlt hqi
     clear hHeld hb6 hA
     go_wp2_with fail
     refine hKK.out _ _ ?_ (fun hHeld => ?_)
     ·exact hX
     clear hKK K
     try simp only [zP, zQ, zA2, zA3]
     refine zX 18 (fun _ hs => HX.out _ hs.2) (hQ := fun _ _ _ h => by rw [HQ0.out] at h; cases h.1) (h := ?_)
     try simp only [zP, zQ, zA2, zA3]
     try rw [hq]
     have HS0 : Hid (StW w2 q ⟨#[]⟩ 0 ⟨#[]⟩ 0 ⟨#[]⟩ u6 P w6) := Lib.hid ⟨hk6, hX.1, hlt, hqi, hX.2⟩
     have HS5 := Lib.hid (StW.set5 HS0.out s1 0 ⟨#[110, 111, 110, 101]⟩ 0 tx)
     have d0 := Go.Joins.cell_of_block hk6 0
     have f0 := Go.Joins.unfrozen_of_block hk6 0
     have d1 := Go.Joins.cell_of_block hk6 1
     have f1 := Go.Joins.unfrozen_of_block hk6 1
     have d2 := Go.Joins.cell_of_block hk6 2
     have f2 := Go.Joins.unfrozen_of_block hk6 2
     have d3 := Go.Joins.cell_of_block hk6 3
     have f3 := Go.Joins.unfrozen_of_block hk6 3
     have d4 := Go.Joins.cell_of_block hk6 4
     have f4 := Go.Joins.unfrozen_of_block hk6 4
     refine zN 20 fun K hKK => ?_
     go_simp
     refine hKK.out _ _ ?_ (fun hHeld => ?_)
     ·exact ⟨HS5.out.2.1, HS5.out.2.2.2.2⟩
     clear hKK K
     try simp only [zP, zQ, zA2, zA3]
     refine wpAnyH_done (by kernel_rfl) ?_ _
     rw [HQ0.out]
     exact ⟨rfl, q, rfl, HS5.out⟩
   intro e a' w' hq0
   rw [HQ0.out] at hq0
   obtain ⟨rfl, q, rfl, hSt⟩ := hq0
   clear HQ0
   have HS0 := Lib.hid hSt
   clear hSt
   obtain ⟨a, ha⟩ : ∃ a, (talR ⟨s1, A1, n1, c1, H1, B1, m1, d1, O1, r1⟩).a = a := ⟨_, rfl⟩
   have HA := Lib.hid ha
   rw [ha] at HBE ta0 ta1
   obtain ⟨⟨v0, v1, v2⟩, ⟨b0, b1, b2, b3⟩⟩ := HX.out w' HS0.out.2.2.2.2
   clear ha
   go_wp2_with fail
   refine (HBE.out w' HS0.out.2.2.2.2).mono ?_
   rintro e w3 ⟨rfl, hb3⟩
   have HS1' := Lib.hid (HS0.out.below hb3)
   clear hb3 v0 v1 v2 b0 b1 b2 b3 HS0
   by_cases ha0 : 0 < a
   ·have hcn : (1 : Int) ≤ a := by omega
    obtain ⟨a', rfl⟩ : ∃ a' : Nat, a = (a' : Int) + 1 := ⟨(a - 1).toNat, by omega⟩
    have ham : a' < m := by omega
    have hai : (a' : Int) < (m : Int) := by omega
    have ha00 : (0 : Int) ≤ (a' : Int) := by omega
    have hat : ((a' : Int)).toNat = a' := by omega
    rw [Int.add_sub_cancel] at HBE ⊢
    obtain ⟨bG, oG, rfl, hbG, hcG⟩ := HGZ.out.2 (by omega)
    obtain ⟨z, hz⟩ : ∃ z, G[a']? = some z := ⟨_, List.getElem?_eq_getElem (by rw [HGZ.out.1]; exact ham)⟩
    have HG : Hid (∀ w', Below w2.heap.size w2 w' → w'.cell? ⟨bG, oG + a', none⟩ = some (.int .i64 z)) := Lib.hid fun w' hb' => ((bstep HW.out hb').cell (p := ⟨bG, _, none⟩) hbG).trans (hcG a' z hz)
    have HMK : Hid (mkC G ⟨s1, A1, n1, c1, H1, B1, m1, d1, O1, r1⟩ = (⟨#[108, 101, 110, 103, 116, 104]⟩, z, ⟨#[]⟩)) := Lib.hid (by
     unfold mkC
     rw [HA.out, if_pos ha0, Int.add_sub_cancel, Int.toNat_natCast, List.getD_eq_getElem?_getD, hz]; rfl)
    have d1' := Go.Joins.cell_of_block HS1'.out.1 1
    have f1' := Go.Joins.unfrozen_of_block HS1'.out.1 1
    have HS1 := Lib.hid (HS1'.out.set1 1)
    clear hbG hcG hz ham
    obtain ⟨⟨v0, v1, v2⟩, ⟨b0, b1, b2, b3⟩⟩ := HX.out _ HS1.out.2.2.2.2
    go_wp2_with fail
    clear d1' f1' v0 v1 v2 b0 b1 b2 b3
    refine wp_region_held_drew (S := fun w' => StX w2 q s1 1 u6 P w') (by kernel_rfl) ?_ (fun hHeld => ?_)
    ·exact ⟨_, _, _, HS1.out.drew⟩
    generalize World.drew _ = we at hHeld ⊢
    refine zX 0 (fun _ hs => And.intro (HX.out _ hs.bel) (HG.out _ hs.bel)) (h := zX 1 (fun _ hs => And.intro (HX.out _ hs.bel) (HG.out _ hs.bel)) (h := zX 2 (fun _ hs => And.intro (HX.out _ hs.bel) (HG.out _ hs.bel)) (h := zX 3 (fun _ hs => And.intro (HX.out _ hs.bel) (HG.out _ hs.bel)) (h := zX 4 (fun _ hs => And.intro (HX.out _ hs.bel) (HG.out _ hs.bel)) (h := zX 5 (fun _ hs => And.intro (HX.out _ hs.bel) (HG.out _ hs.bel)) (h := ?_))))))
    try simp only [zP, zQ, zA2, zA3]
    refine zN 6 fun K hKK => ?_
    go_simp
    go_at_call 64
    with_reducible refine (HBE.out _ hHeld.bel).mono ?_
    rintro e w5 ⟨rfl, hb5⟩
    have hX := hHeld.below hb5
    clear hHeld hb5
    go_wp2_with fail
    refine hKK.out _ _ ?_ (fun hHeld => ?_)
    ·exact hX
    clear hKK K
    try simp only [zP, zQ, zA2, zA3]
    clear hX
    refine zX 7 (fun _ hs => And.intro (HX.out _ hs.bel) (HG.out _ hs.bel)) (h := zX 8 (fun _ hs => And.intro (HX.out _ hs.bel) (HG.out _ hs.bel)) (h := zX 9 (fun _ hs => And.intro (HX.out _ hs.bel) (HG.out _ hs.bel)) (h := zX 10 (fun _ hs => And.intro (HX.out _ hs.bel) (HG.out _ hs.bel)) (h := ?_))))
    try simp only [zP, zQ, zA2, zA3]
    obtain ⟨kd0, vl0, rs0, hst0⟩ := hHeld
    have HS2 := Lib.hid (hst0.set3 ⟨#[108, 101, 110, 103, 116, 104]⟩ z ⟨#[]⟩)
    have d2 := Go.Joins.cell_of_block hst0.1 2
    have f2 := Go.Joins.unfrozen_of_block hst0.1 2
    have d3 := Go.Joins.cell_of_block hst0.1 3
    have f3 := Go.Joins.unfrozen_of_block hst0.1 3
    have d4 := Go.Joins.cell_of_block hst0.1 4
    have f4 := Go.Joins.unfrozen_of_block hst0.1 4
    clear hst0
    refine zN 11 fun K hKK => ?_
    go_simp
    refine hKK.out _ _ ?_ (fun hHeld => ?_)
    ·exact ⟨_, _, _, HS2.out⟩
    clear hKK K
    try simp only [zP, zQ, zA2, zA3]
    clear d2 d3 d4 f2 f3 f4
    refine wpAnyH_done (by kernel_rfl) ?_ _
    clear hHeld
    obtain ⟨w9, hw9⟩ : ∃ w9, (((w5.setCell ⟨q, 2, none⟩ (.string ⟨#[108, 101, 110, 103, 116, 104]⟩)).setCell ⟨q, 3, none⟩ (.int .i64 z)).setCell ⟨q, 4, none⟩ (.string ⟨#[]⟩)) = w9 := ⟨_, rfl⟩
    rw [hw9] at HS2 ⊢
    clear hw9
    have hai0 : 0 < (talA L i).a := by rw [talA_at HR.out, HA.out]; omega
    have HPC2 : Hid (plcC G L n i ⟨s1, A1, n1, c1, H1, B1, m1, d1, O1, r1⟩ = ⟨s1, (1 + (cntB (rfB L) i n : Nat) : Int), ⟨#[108, 101, 110, 103, 116, 104]⟩, z, ⟨#[]⟩⟩) := Lib.hid (by
     rw [HPC.out, HMK.out]
     unfold rkB stR
     rw [decide_eq_true hai0, if_pos rfl, ← cnt_ref hai0]
     simp)
    have HHAS : Hid (∀ w', Below w2.heap.size w2 w' → Calls Tryz.prog 66 #[.slice A5 m5 c5, .int .i64 i] w' (RetPost (.bool (fstB L (bestT L) i)) w')) := Lib.hid fun w' hb' => HHA.out w' A5 m5 c5 i (HI5.out.below hb') HML.out hlt
    clear hai0 HMK HPC HBE
    obtain ⟨fb, hfb⟩ : ∃ fb, fstB L (bestT L) i = fb := ⟨_, rfl⟩
    rw [hfb] at HHAS
    have HFB := Lib.hid hfb
    clear hfb
    go_wp2
    go_loopw [9] (fun k wr => ∃ k' : Nat, k' ≤ n ∧ k = .int .i64 k' ∧ StW w2 q s1 (1 + (cntB (rfB L) i k' : Nat)) ⟨#[108, 101, 110, 103, 116, 104]⟩ z ⟨#[]⟩ u6 P wr) (fun k _ => n - (RowKit.intOf k).toNat)
    case atStart => exact ⟨0, by omega, rfl, by simpa [cntB] using HS2.out⟩
    case round =>
     obtain ⟨k, hk, rfl, hst⟩ := hrel
     clear HS2
     by_cases hkn : k < n
     ·obtain ⟨b2, off2, x, e2, hbl2, hx, hcx, hCX⟩ := H.out.at_ hkn
      obtain ⟨rfl, rfl⟩ : b' = b2 ∧ off = off2 := by simpa using e2
      have hkk : (k : Int) < (n : Int) := by omega
      have hkk0 : (0 : Int) ≤ (k : Int) := by omega
      have hkkt : ((k : Int)).toNat = k := by omega
      have hxm := List.mem_of_getElem? hx
      have hrm := List.mem_of_getElem? HR.out
      obtain ⟨_, xc0, xc1, xc2, xc3⟩ := HTR.out x hxm
      obtain ⟨hCR, _⟩ := HTR.out _ hrm
      have HBK : Hid (∀ w', Below w2.heap.size w2 w' → Calls Tryz.prog 64 #[x.val] w' (RetPost (.int .i64 ((talR x).a - 1)) w')) := Lib.hid fun w' hb' => HBEa.out x w' hxm (hCX.below (bstep HW.out hb'))
      have HHI0 : Hid (0 < (talR x).a → ∀ w', Below w2.heap.size w2 w' → Calls Tryz.prog 65 #[x.val, CardR.val ⟨s1, A1, n1, c1, H1, B1, m1, d1, O1, r1⟩] w' (RetPost (.int .i64 (cmpL (talR x).l (talR ⟨s1, A1, n1, c1, H1, B1, m1, d1, O1, r1⟩).l)) w')) := Lib.hid fun h1 w' hb' => HHGa.out x _ w' hxm hrm h1 (by rw [HA.out]; omega) (hCX.below (bstep HW.out hb')) (hCR.below (bstep HW.out hb'))
      have HOF : Hid (∀ w', Below w2.heap.size w2 w' → Calls Tryz.prog 67 #[x.val, CardR.val ⟨s1, A1, n1, c1, H1, B1, m1, d1, O1, r1⟩] w' (RetPost (.int .i64 (cmpOff (bls x.O) (bls O1) x.rt r1)) w')) := Lib.hid fun w' hb' => HOFa.out x _ w' hxm hrm (hCX.below (bstep HW.out hb')) (hCR.below (bstep HW.out hb'))
      have hrf : rfB L k i = (decide (0 < (talR x).a) && decide (0 < if cmpL (talR x).l (talR ⟨s1, A1, n1, c1, H1, B1, m1, d1, O1, r1⟩).l = 0 ∧ fb = true then cmpOff (bls x.O) (bls O1) x.rt r1 else cmpL (talR x).l (talR ⟨s1, A1, n1, c1, H1, B1, m1, d1, O1, r1⟩).l)) := by
       unfold rfB
       rw [talA_at hx, talA_at HR.out, HFB.out, show offP L k i = cmpOff (bls x.O) (bls O1) x.rt r1 by unfold offP; rw [hx, HR.out]]
      obtain ⟨q0, hq0⟩ : ∃ q0, cmpL (talR x).l (talR ⟨s1, A1, n1, c1, H1, B1, m1, d1, O1, r1⟩).l = q0 := ⟨_, rfl⟩
      obtain ⟨o0, ho0⟩ : ∃ o0, cmpOff (bls x.O) (bls O1) x.rt r1 = o0 := ⟨_, rfl⟩
      obtain ⟨c, hc⟩ : ∃ c, (talR x).a = c := ⟨_, rfl⟩
      rw [hq0, ho0, hc] at hrf
      rw [hc] at HBK HHI0 xc0 xc1
      rw [hq0] at HHI0
      rw [ho0] at HOF
      have HXX : Hid (∀ w', Below w2.heap.size w2 w' → (w'.cell? ⟨b', off + k * 4, none⟩ = some (.string x.s) ∧ w'.cell? ⟨b', off + k * 4 + 1, none⟩ = some (.slice x.AH x.nh x.ch) ∧ w'.cell? ⟨b', off + k * 4 + 2, none⟩ = some (.slice x.AO x.no x.co) ∧ w'.cell? ⟨b', off + k * 4 + 3, none⟩ = some (.bool x.rt)) ∧ (w'.cell? ⟨b', off + i * 4, none⟩ = some (.string s1) ∧ w'.cell? ⟨b', off + i * 4 + 1, none⟩ = some (.slice A1 n1 c1) ∧ w'.cell? ⟨b', off + i * 4 + 2, none⟩ = some (.slice B1 m1 d1) ∧ w'.cell? ⟨b', off + i * 4 + 3, none⟩ = some (.bool r1))) := Lib.hid fun w' hb => by
       have hb' := bstep HW.out hb
       exact ⟨⟨(hb'.cell (p := ⟨b', _, none⟩) hbl2).trans hcx.1, (hb'.cell (p := ⟨b', _, none⟩) hbl2).trans hcx.2.1, (hb'.cell (p := ⟨b', _, none⟩) hbl2).trans hcx.2.2.1, (hb'.cell (p := ⟨b', _, none⟩) hbl2).trans hcx.2.2.2⟩, (HX.out w' hb).2⟩
      have hcl := cntB_le (rfB L) i k
      have E0 : (1 + (cntB (rfB L) i (k + 1) : Nat) : Int) = (1 + (cntB (rfB L) i k : Nat) : Int) + if rfB L k i then 1 else 0 := by
       rw [cntB]
       split <;> omega
      obtain ⟨rk, hrk⟩ : ∃ rk : Int, (1 + (cntB (rfB L) i k : Nat) : Int) = rk := ⟨_, rfl⟩
      have hrk0 : 0 ≤ rk := by omega
      have hrk1 : rk ≤ 200 := by omega
      rw [hrk] at E0 hst
      have HST := Lib.hid hst
      obtain ⟨s2, A2, n2, c2, H2, B2, m2, d2, O2, r2⟩ := x
      unfold CardR.val at HBK HHI0 HOF
      dsimp only at *
      clear hst hx hcx hCX hxm hrm hCR hq0 ho0 hc hbl2 e2 hcl hrk
      obtain ⟨⟨b0, b1, b2, b3⟩, _⟩ := HXX.out wr HST.out.2.2.2.2
      by_cases hc0 : 0 < c
      ·have hcn : decide (c < 1) = false := by simp; omega
       have hcn2 : ¬ c < 1 := by omega
       have HHI := Lib.hid (HHI0.out hc0)
       rw [decide_eq_true hc0, Bool.true_and] at hrf
       go_wp2_with fail
       refine (HBK.out wr HST.out.2.2.2.2).mono ?_
       rintro e w3 ⟨rfl, hb3⟩
       have HSB := Lib.hid (HST.out.below hb3)
       clear hb3 b0 b1 b2 b3 HHI0
       go_wp2_with fail
       refine wp_region_held_drew (S := fun w' => StW w2 q s1 rk ⟨#[108, 101, 110, 103, 116, 104]⟩ z ⟨#[]⟩ u6 P w') (by kernel_rfl) ?_ (fun hHeld => ?_)
       ·exact HSB.out.drew
       generalize World.drew _ = we at hHeld ⊢
       refine zX 0 (fun _ hs => HXX.out _ hs.2.2.2.2) (h := zX 1 (fun _ hs => HXX.out _ hs.2.2.2.2) (h := zX 2 (fun _ hs => HXX.out _ hs.2.2.2.2) (h := zX 3 (fun _ hs => HXX.out _ hs.2.2.2.2) (h := zX 4 (fun _ hs => HXX.out _ hs.2.2.2.2) (h := zX 5 (fun _ hs => HXX.out _ hs.2.2.2.2) (h := zX 6 (fun _ hs => HXX.out _ hs.2.2.2.2) (h := zX 7 (fun _ hs => HXX.out _ hs.2.2.2.2) (h := ?_))))))))
       try simp only [zP, zQ, zA2, zA3]
       refine zN 8 fun K hKK => ?_
       go_simp
       go_at_call 65
       with_reducible refine (HHI.out _ hHeld.bel).mono ?_
       rintro e w5 ⟨rfl, hb5⟩
       have hX := hHeld.below hb5
       clear hHeld hb5
       go_wp2_with fail
       refine hKK.out _ _ ?_ (fun hHeld => ?_)
       ·exact hX
       clear hKK K
       try simp only [zP, zQ, zA2, zA3]
       clear hX
       refine zX 9 (fun _ hs => HXX.out _ hs.2.2.2.2) (h := ?_)
       try simp only [zP, zQ, zA2, zA3]
       refine wpAnyH_done (by kernel_rfl) ?_ _
       have HSH := Lib.hid hHeld
       clear hHeld
       by_cases hq0 : q0 = 0
       ·subst hq0
        cases fb with
        | false =>
         rw [if_neg (by simp)] at hrf
         have hrf2 : rfB L k i = false := by rw [hrf]; rfl
         rw [hrf2, if_neg (by simp), Int.add_zero] at E0
         have HE := Lib.hid E0
         clear hrf hrf2 E0
         go_wp2_with fail
         refine (HHAS.out _ HSH.out.2.2.2.2).mono ?_
         rintro e w4 ⟨rfl, hb4⟩
         have HS4 := Lib.hid (HSH.out.below hb4)
         clear hb4
         go_wp2
         go_roundw
         case rel => exact ⟨k + 1, by omega, by go_num, by rw [HE.out]; exact HS4.out⟩
         case measure => simp [RowKit.intOf]; omega
        | true =>
         rw [if_pos (by simp)] at hrf
         go_wp2_with fail
         refine (HHAS.out _ HSH.out.2.2.2.2).mono ?_
         rintro e w4 ⟨rfl, hb4⟩
         have HSH := Lib.hid (HSH.out.below hb4)
         clear hb4
         go_wp2_with fail
         refine wp_region_held_drew (S := fun w' => StW w2 q s1 rk ⟨#[108, 101, 110, 103, 116, 104]⟩ z ⟨#[]⟩ u6 P w') (by kernel_rfl) ?_ (fun hHeld => ?_)
         ·exact HSH.out.drew
         generalize World.drew _ = we at hHeld ⊢
         refine zX 0 (fun _ hs => HXX.out _ hs.2.2.2.2) (h := zX 1 (fun _ hs => HXX.out _ hs.2.2.2.2) (h := zX 2 (fun _ hs => HXX.out _ hs.2.2.2.2) (h := zX 3 (fun _ hs => HXX.out _ hs.2.2.2.2) (h := zX 4 (fun _ hs => HXX.out _ hs.2.2.2.2) (h := zX 5 (fun _ hs => HXX.out _ hs.2.2.2.2) (h := zX 6 (fun _ hs => HXX.out _ hs.2.2.2.2) (h := zX 7 (fun _ hs => HXX.out _ hs.2.2.2.2) (h := ?_))))))))
         try simp only [zP, zQ, zA2, zA3]
         refine zN 8 fun K hKK => ?_
         go_simp
         go_at_call 67
         with_reducible refine (HOF.out _ hHeld.bel).mono ?_
         rintro e w5 ⟨rfl, hb5⟩
         have hX := hHeld.below hb5
         clear hHeld hb5
         go_wp2_with fail
         refine hKK.out _ _ ?_ (fun hHeld => ?_)
         ·exact hX
         clear hKK K
         try simp only [zP, zQ, zA2, zA3]
         clear hX
         refine zX 9 (fun _ hs => HXX.out _ hs.2.2.2.2) (h := ?_)
         try simp only [zP, zQ, zA2, zA3]
         refine wpAnyH_done (by kernel_rfl) ?_ _
         have HSF := Lib.hid hHeld
         clear hHeld
         by_cases hxx : 0 < o0
         ·rw [decide_eq_true hxx] at hrf
          rw [hrf, if_pos rfl] at E0
          have HE := Lib.hid E0
          have d1' := Go.Joins.cell_of_block HSF.out.1 1
          have f1' := Go.Joins.unfrozen_of_block HSF.out.1 1
          have HSN := Lib.hid (HSF.out.set1 (rk + 1))
          clear hrf E0
          go_wp2
          go_roundw
          case rel => exact ⟨k + 1, by omega, by go_num, by rw [HE.out]; exact HSN.out⟩
          case measure => simp [RowKit.intOf]; omega
         ·rw [decide_eq_false hxx] at hrf
          rw [hrf, if_neg (by simp), Int.add_zero] at E0
          have HE := Lib.hid E0
          have hxn : decide (0 < o0) = false := decide_eq_false hxx
          clear hrf E0
          go_wp2
          go_roundw
          case rel => exact ⟨k + 1, by omega, by go_num, by rw [HE.out]; exact HSF.out⟩
          case measure => simp [RowKit.intOf]; omega
       ·have hqn : (q0 == 0) = false := by simp [hq0]
        rw [if_neg (fun z => hq0 z.1)] at hrf
        have HSF := Lib.hid HSH.out
        by_cases hxx : 0 < q0
        ·rw [decide_eq_true hxx] at hrf
         rw [hrf, if_pos rfl] at E0
         have HE := Lib.hid E0
         clear hq0
         have d1' := Go.Joins.cell_of_block HSF.out.1 1
         have f1' := Go.Joins.unfrozen_of_block HSF.out.1 1
         have HSN := Lib.hid (HSF.out.set1 (rk + 1))
         clear hrf E0
         go_wp2
         go_roundw
         case rel => exact ⟨k + 1, by omega, by go_num, by rw [HE.out]; exact HSN.out⟩
         case measure => simp [RowKit.intOf]; omega
        ·rw [decide_eq_false hxx] at hrf
         rw [hrf, if_neg (by simp), Int.add_zero] at E0
         have HE := Lib.hid E0
         have hxn : decide (0 < q0) = false := decide_eq_false hxx
         clear hq0
         clear hrf E0
         go_wp2
         go_roundw
         case rel => exact ⟨k + 1, by omega, by go_num, by rw [HE.out]; exact HSF.out⟩
         case measure => simp [RowKit.intOf]; omega
      ·have hcn : c < 1 := by omega
       rw [decide_eq_false hc0, Bool.false_and] at hrf
       rw [hrf, if_neg (by simp), Int.add_zero] at E0
       have HE := Lib.hid E0
       clear hrf E0 HHI0 hc0
       go_wp2_with fail
       refine (HBK.out wr HST.out.2.2.2.2).mono ?_
       rintro e w3 ⟨rfl, hb3⟩
       have HSF := Lib.hid (HST.out.below hb3)
       clear hb3 b0 b1 b2 b3
       go_wp2
       go_roundw
       case rel => exact ⟨k + 1, by omega, by go_num, by rw [HE.out]; exact HSF.out⟩
       case measure => simp [RowKit.intOf]; omega
     ·obtain rfl : k = n := by omega
      have HSF := Lib.hid hst
      obtain ⟨rk, hrk⟩ : ∃ rk : Int, (1 + (cntB (rfB L) i k : Nat) : Int) = rk := ⟨_, rfl⟩
      rw [hrk] at HPC2 HSF
      clear hst hrk
      have hown := HSF.out.2.1
      unfold OwnPlR at hown
      rw [Hlen.out] at hown
      have d0' := Go.Joins.cell_of_block HSF.out.1 0
      have d1' := Go.Joins.cell_of_block HSF.out.1 1
      have d2' := Go.Joins.cell_of_block HSF.out.1 2
      have d3' := Go.Joins.cell_of_block HSF.out.1 3
      have d4' := Go.Joins.cell_of_block HSF.out.1 4
      go_wp2_with (at_builtin; refine wpList_append_own _ rfl _ _ 42 rfl w2.heap.size 126 i0 (.agg #[.string ⟨#[]⟩, .int .i64 0, .string ⟨#[]⟩, .int .i64 0, .string ⟨#[]⟩]) 5 64 Tryz.underlying42 hi hz0 hz1 hz2 rfl (by decide) _ _ _ rfl (World.ownsRow.alloc hown _) ⟨wr.heap.size, 0, none⟩ 1 1 (Plc.cells ⟨s1, rk, ⟨#[108, 101, 110, 103, 116, 104]⟩, z, ⟨#[]⟩⟩) rfl rfl (news5 wr ⟨s1, rk, ⟨#[108, 101, 110, 103, 116, 104]⟩, z, ⟨#[]⟩⟩ 126 _ rfl) (one5 _) ?c3 ?c4 ?c5 ?_)
      case c3 => unfold maxLen; omega
      case c4 => omega
      case c5 => have := HSF.out.2.2.2.2.size; simp; omega
      intro v' w8 hown' hgrow _
      have hb8 : Below w2.heap.size w2 w8 := (HSF.out.2.2.2.2.alloc HSF.out.2.2.2.2.size _).grown hgrow (by have := HSF.out.2.2.2.2.size; simp; omega) (fun r hr => (World.ownsRow.lt hown r hr).1)
      have ho8 : OwnPlR w8 w2.heap.size v' ((plcsC G L).take (i + 1)) := by
       rw [Hst.out, HPC2.out]
       refine OwnPlR.next ?_
       rw [Hlen.out]
       exact hown'
      clear hown' hgrow hown d0' d1' d2' d3' d4'
      go_wp2
      go_roundw
      case rel => exact ⟨i + 1, by omega, by go_num, ho8, hb8⟩
      case measure => simp [RowKit.intOf]; omega
   ·have hcn : ¬ (1 : Int) ≤ a := by omega
    have hcd : decide ((1 : Int) ≤ a) = false := by simp; omega
    have HPC2 : Hid (plcC G L n i ⟨s1, A1, n1, c1, H1, B1, m1, d1, O1, r1⟩ = ⟨s1, 0, ⟨#[110, 111, 110, 101]⟩, 0, tx⟩) := Lib.hid (by
     rw [HPC.out]
     unfold rkB stR mkC
     rw [talA_at HR.out, HA.out, decide_eq_false ha0, if_neg ha0, if_neg (by decide), ← HTX.out]
     congr 1
     by_cases q : n1 = 0
     ·cases r1 <;> simp [q]
     ·have : 0 < n1 := by omega
      simp [q, this])
    have HSF := HS1'
    have hown := HSF.out.2.1
    unfold OwnPlR at hown
    rw [Hlen.out] at hown
    have d0' := Go.Joins.cell_of_block HSF.out.1 0
    have d1' := Go.Joins.cell_of_block HSF.out.1 1
    have d2' := Go.Joins.cell_of_block HSF.out.1 2
    have d3' := Go.Joins.cell_of_block HSF.out.1 3
    have d4' := Go.Joins.cell_of_block HSF.out.1 4
    go_wp2_with (at_builtin; refine wpList_append_own _ rfl _ _ 42 rfl w2.heap.size 126 i0 (.agg #[.string ⟨#[]⟩, .int .i64 0, .string ⟨#[]⟩, .int .i64 0, .string ⟨#[]⟩]) 5 64 Tryz.underlying42 hi hz0 hz1 hz2 rfl (by decide) _ _ _ rfl (World.ownsRow.alloc hown _) ⟨w3.heap.size, 0, none⟩ 1 1 (Plc.cells ⟨s1, 0, ⟨#[110, 111, 110, 101]⟩, 0, tx⟩) rfl rfl (news5 w3 ⟨s1, 0, ⟨#[110, 111, 110, 101]⟩, 0, tx⟩ 126 _ rfl) (one5 _) ?c3 ?c4 ?c5 ?_)
    case c3 => unfold maxLen; omega
    case c4 => omega
    case c5 => have := HSF.out.2.2.2.2.size; simp; omega
    intro v' w8 hown' hgrow _
    have hb8 : Below w2.heap.size w2 w8 := (HSF.out.2.2.2.2.alloc HSF.out.2.2.2.2.size _).grown hgrow (by have := HSF.out.2.2.2.2.size; simp; omega) (fun r hr => (World.ownsRow.lt hown r hr).1)
    have ho8 : OwnPlR w8 w2.heap.size v' ((plcsC G L).take (i + 1)) := by
     rw [Hst.out, HPC2.out]
     refine OwnPlR.next ?_
     rw [Hlen.out]
     exact hown'
    clear hown' hgrow hown d0' d1' d2' d3' d4'
    go_wp2
    go_roundw
    case rel => exact ⟨i + 1, by omega, by go_num, ho8, hb8⟩
    case measure => simp [RowKit.intOf]; omega
  ·obtain rfl : i = n := by omega
   rw [List.take_of_length_le (by rw [HPl.out]; exact Nat.le_refl _)] at hown
   obtain ⟨A', c', rfl, hAr⟩ := HOr.out _ _ wr hown
   have HB := Lib.hid (bstep HW.out hb)
   clear hown hb
   go_wp2_with fail
   refine hAr.mono ?_
   rintro e w6 ⟨v6, rfl, ho6, hb6⟩
   have HF := Lib.hid (And.intro (OwnPlR.low ho6 HB.out.size) (bstep HB.out hb6))
   clear ho6 hb6 hAr
   go_wp2
   go_ret
   exact ⟨_, rfl, HF.out⟩
end Go.Mk
