/-
  Proved: the law's placed returns the first place of a name, and whether there is one. Conditions: the places lie where the slice says.
-/
import Derived.Test.YthgkaojplomapaaGreatDoorFpf
set_option linter.unusedVariables false
set_option linter.unusedSimpArgs false
open Go Go.Proofs Go.RowKit
set_option maxRecDepth 100000
namespace Go.Mk
def noPlc : Plc := ⟨⟨#[]⟩, 0, ⟨#[]⟩, 0, ⟨#[]⟩⟩
def plcBy (L : List Plc) (s : ByteArray) : Option Plc := L.find? fun p => decide (p.nm = s)
theorem plcBy_drop {L : List Plc} {k : Nat} {p : Plc} (h : L[k]? = some p) (s : ByteArray) : plcBy (L.drop k) s = if p.nm = s then some p else plcBy (L.drop (k + 1)) s := by
  obtain ⟨hk, rfl⟩ := List.getElem?_eq_some_iff.1 h
  unfold plcBy
  rw [List.drop_eq_getElem_cons hk, List.find?_cons]
  by_cases q : L[k].nm = s
  · rw [if_pos q]; simp [q]
  · rw [if_neg q]; simp [q]
theorem set5_cells {w : World} {g : Nat} {p q : Plc} (h : Cel5 w g 0 q) : Cel5 (set5 w g 0 p) g 0 p := by
  obtain ⟨h0, h1, h2, h3, h4⟩ := h
  unfold set5 Cel5
  simp only [Nat.zero_add] at *
  have n : ∀ i j : Nat, i ≠ j → (⟨g, i, none⟩ : Addr) ≠ ⟨g, j, none⟩ := fun i j hne e => hne (congrArg Addr.off e)
  have t1 := World.cell?_setCell_same w ⟨g, 0, none⟩ (.string p.nm) h0
  have s1 : (w.setCell ⟨g, 0, none⟩ (.string p.nm)).cell? ⟨g, 1, none⟩ = some (.int .i64 q.rk) := by rw [World.cell?_setCell_other _ _ _ _ (n 0 1 (by decide))]; exact h1
  have s2 : ((w.setCell ⟨g, 0, none⟩ (.string p.nm)).setCell ⟨g, 1, none⟩ (.int .i64 p.rk)).cell? ⟨g, 2, none⟩ = some (.string q.kd) := by rw [World.cell?_setCell_other _ _ _ _ (n 1 2 (by decide)), World.cell?_setCell_other _ _ _ _ (n 0 2 (by decide))]; exact h2
  have s3 : (((w.setCell ⟨g, 0, none⟩ (.string p.nm)).setCell ⟨g, 1, none⟩ (.int .i64 p.rk)).setCell ⟨g, 2, none⟩ (.string p.kd)).cell? ⟨g, 3, none⟩ = some (.int .i64 q.vl) := by rw [World.cell?_setCell_other _ _ _ _ (n 2 3 (by decide)), World.cell?_setCell_other _ _ _ _ (n 1 3 (by decide)), World.cell?_setCell_other _ _ _ _ (n 0 3 (by decide))]; exact h3
  have s4 : ((((w.setCell ⟨g, 0, none⟩ (.string p.nm)).setCell ⟨g, 1, none⟩ (.int .i64 p.rk)).setCell ⟨g, 2, none⟩ (.string p.kd)).setCell ⟨g, 3, none⟩ (.int .i64 p.vl)).cell? ⟨g, 4, none⟩ = some (.string q.rs) := by rw [World.cell?_setCell_other _ _ _ _ (n 3 4 (by decide)), World.cell?_setCell_other _ _ _ _ (n 2 4 (by decide)), World.cell?_setCell_other _ _ _ _ (n 1 4 (by decide)), World.cell?_setCell_other _ _ _ _ (n 0 4 (by decide))]; exact h4
  refine ⟨?_, ?_, ?_, ?_, World.cell?_setCell_same _ _ _ s4⟩
  · rw [World.cell?_setCell_other _ _ _ _ (n 4 0 (by decide)), World.cell?_setCell_other _ _ _ _ (n 3 0 (by decide)), World.cell?_setCell_other _ _ _ _ (n 2 0 (by decide)), World.cell?_setCell_other _ _ _ _ (n 1 0 (by decide))]; exact t1
  · rw [World.cell?_setCell_other _ _ _ _ (n 4 1 (by decide)), World.cell?_setCell_other _ _ _ _ (n 3 1 (by decide)), World.cell?_setCell_other _ _ _ _ (n 2 1 (by decide))]; exact World.cell?_setCell_same _ _ _ s1
  · rw [World.cell?_setCell_other _ _ _ _ (n 4 2 (by decide)), World.cell?_setCell_other _ _ _ _ (n 3 2 (by decide))]; exact World.cell?_setCell_same _ _ _ s2
  · rw [World.cell?_setCell_other _ _ _ _ (n 4 3 (by decide))]; exact World.cell?_setCell_same _ _ _ s3
theorem PlcsZ.atV {w : World} {A : Option Addr} {n : Nat} {L : List Plc} (h : PlcsZ w A n L) {k : Nat} (hk : k < n) : ∃ b off p, A = some ⟨b, off, none⟩ ∧ b < w.heap.size ∧ L[k]? = some p ∧ Cel5 w b (off + k * 5) p := by
  obtain ⟨b, off, e, hlt, hc⟩ := h.2 (by omega)
  have hl : k < L.length := by rw [h.1]; exact hk
  exact ⟨b, off, L[k], e, hlt, List.getElem?_eq_getElem hl, hc k _ (List.getElem?_eq_getElem hl)⟩
set_option maxHeartbeats 4000000 in
theorem l6placed_any (L : List Plc) (n cap : Nat) (A : Option Addr) (s : ByteArray) (w : World) (hZ : PlcsZ w A n L) (hn : n ≤ 1000) :
    Calls Tryz.prog 25 #[.slice A n cap, .string s] w (RetPost (.tuple #[((plcBy L s).getD noPlc).val, .bool (plcBy L s).isSome]) w) := by
  have hni : (n : Int) ≤ 1000 := by omega
  obtain ⟨g, hg⟩ : ∃ g, w.heap.size = g := ⟨_, rfl⟩
  obtain ⟨w1, hw1⟩ : ∃ w1, w.alloc (.cells #[.string ⟨#[]⟩, .int .i64 0, .string ⟨#[]⟩, .int .i64 0, .string ⟨#[]⟩] 61) = w1 := ⟨_, rfl⟩
  have hb1 : Below w.heap.size w w1 := by rw [← hw1]; exact balloc _ (Below.refl _ _)
  have hx1 : g < w1.heap.size := by rw [← hw1, ← hg]; simp
  have k5 : Cel5 w1 g 0 noPlc := by rw [← hw1, ← hg]; unfold Cel5 noPlc; refine ⟨?_, ?_, ?_, ?_, ?_⟩ <;> simp
  have f5 : ∀ o, w1.frozen? ⟨g, o, none⟩ = false := fun o => by rw [← hw1, ← hg]; simp
  have H := Lib.hid (hZ.below hb1)
  have HL : Hid (L.length = n) := Lib.hid hZ.1
  have HB1 := Lib.hid hb1
  have HG : Hid (g < w1.heap.size ∧ Cel5 w1 g 0 noPlc ∧ ∀ o, w1.frozen? ⟨g, o, none⟩ = false) := Lib.hid ⟨hx1, k5, f5⟩
  obtain ⟨y, hy⟩ : ∃ y, plcBy L s = y := ⟨_, rfl⟩
  rw [hy]
  have HY : Hid (plcBy (L.drop 0) s = y) := Lib.hid (by rw [← hy]; rfl)
  clear hZ hb1 hx1 k5 f5 hy
  go_enter Tryz.func25, Tryz.ntmps25
  go_wp2
  go_loopw [10] (fun i wr => ∃ k : Nat, k ≤ n ∧ i = .int .i64 k ∧ Hid (plcBy (L.drop k) s = y) ∧ Below w1.heap.size w1 wr) (fun i _ => n - (RowKit.intOf i).toNat)
  case atStart => exact ⟨0, by omega, rfl, HY, Below.refl _ _⟩
  case round =>
    obtain ⟨k, hk, rfl, HK, hb⟩ := hrel
    by_cases hlt : k < n
    · obtain ⟨b', off, p, rfl, hbl, hx, hc0, hc1, hc2, hc3, hc4⟩ := (H.out.below hb).atV hlt
      have hki : (k : Int) < (n : Int) := by omega
      have hk0 : (0 : Int) ≤ (k : Int) := by omega
      have hkt : ((k : Int)).toNat = k := by omega
      have hst := HK.out
      rw [plcBy_drop hx] at hst
      have HB := Lib.hid hb
      obtain ⟨q, hq⟩ : ∃ q, wr.heap.size = q := ⟨_, rfl⟩
      obtain ⟨wx, hwx⟩ : ∃ wx, wr.alloc (.cells #[.string p.nm, .int .i64 p.rk, .string p.kd, .int .i64 p.vl, .string p.rs] 61) = wx := ⟨_, rfl⟩
      have hbx : Below w1.heap.size w1 wx := by rw [← hwx]; exact hb.alloc hb.size _
      have x0 : wx.cell? ⟨q, 0, none⟩ = some (.string p.nm) := by rw [← hwx, ← hq]; simp
      have x1 : wx.cell? ⟨q, 1, none⟩ = some (.int .i64 p.rk) := by rw [← hwx, ← hq]; simp
      have x2 : wx.cell? ⟨q, 2, none⟩ = some (.string p.kd) := by rw [← hwx, ← hq]; simp
      have x3 : wx.cell? ⟨q, 3, none⟩ = some (.int .i64 p.vl) := by rw [← hwx, ← hq]; simp
      have x4 : wx.cell? ⟨q, 4, none⟩ = some (.string p.rs) := by rw [← hwx, ← hq]; simp
      have HBX := Lib.hid hbx
      by_cases h0 : p.nm = s
      · rw [if_pos h0] at hst
        subst hst h0
        have gb : (p.nm.toList == p.nm.toList) = true := by simp
        obtain ⟨hg1, ⟨d0, d1, d2, d3, d4⟩, df⟩ := HG.out
        simp only [Nat.zero_add] at d0 d1 d2 d3 d4
        have v0 := (hbx.cell (p := ⟨g, 0, none⟩) hg1).trans d0
        have v1 := (hbx.cell (p := ⟨g, 1, none⟩) hg1).trans d1
        have v2 := (hbx.cell (p := ⟨g, 2, none⟩) hg1).trans d2
        have v3 := (hbx.cell (p := ⟨g, 3, none⟩) hg1).trans d3
        have v4 := (hbx.cell (p := ⟨g, 4, none⟩) hg1).trans d4
        have vf : ∀ o, wx.frozen? ⟨g, o, none⟩ = false := fun o => (hbx.frozen (p := ⟨g, o, none⟩) hg1).trans (df o)
        have vf0 := vf 0
        have vf1 := vf 1
        have vf2 := vf 2
        have vf3 := vf 3
        have vf4 := vf 4
        have h5 : Cel5 wx g 0 noPlc := ⟨by simpa using v0, by simpa using v1, by simpa using v2, by simpa using v3, by simpa using v4⟩
        have h6 := set5_cells (p := p) h5
        unfold set5 Cel5 at h6
        simp only [Nat.zero_add] at h6
        obtain ⟨r0, r1, r2, r3, r4⟩ := h6
        have HFI : Hid (Below w.heap.size w (((((wx.setCell ⟨g, 0, none⟩ (.string p.nm)).setCell ⟨g, 1, none⟩ (.int .i64 p.rk)).setCell ⟨g, 2, none⟩ (.string p.kd)).setCell ⟨g, 3, none⟩ (.int .i64 p.vl)).setCell ⟨g, 4, none⟩ (.string p.rs))) := Lib.hid (by
          have hw : Below w.heap.size w wx := bstep HB1.out hbx
          have hgg : w.heap.size ≤ g := by omega
          exact ((((hw.setCell hgg _).setCell hgg _).setCell hgg _).setCell hgg _).setCell hgg _)
        clear hx HK hb hbx d0 d1 d2 d3 d4 df vf h5 HY
        obtain ⟨p1, p2, p3, p4, p5⟩ := p
        dsimp only at *
        go_wp2
        exact bodyPost_ret (v := .tuple #[.agg #[.string p1, .int .i64 p2, .string p3, .int .i64 p4, .string p5], .bool true]) (by simp [results, Tryz.results25, go_sem, r0, r1, r2, r3, r4]) rfl ⟨rfl, HFI.out⟩
      · rw [if_neg h0] at hst
        have Hst : Hid (plcBy (L.drop (k + 1)) s = y) := Lib.hid hst
        have gb : (p.nm.toList == s.toList) = false := tl_ne h0
        clear hst hx HK hb hbx
        go_wp2
        exact ⟨⟨k + 1, by omega, by go_num, Hst, HBX.out⟩, by simp [RowKit.intOf]; omega⟩
    · have h0 := HK.out
      rw [List.drop_eq_nil_of_le (by rw [HL.out]; omega)] at h0
      obtain ⟨hg1, ⟨d0, d1, d2, d3, d4⟩, df⟩ := HG.out
      simp only [Nat.zero_add] at d0 d1 d2 d3 d4
      have v0 := (hb.cell (p := ⟨g, 0, none⟩) hg1).trans d0
      have v1 := (hb.cell (p := ⟨g, 1, none⟩) hg1).trans d1
      have v2 := (hb.cell (p := ⟨g, 2, none⟩) hg1).trans d2
      have v3 := (hb.cell (p := ⟨g, 3, none⟩) hg1).trans d3
      have v4 := (hb.cell (p := ⟨g, 4, none⟩) hg1).trans d4
      have vf : ∀ o, wr.frozen? ⟨g, o, none⟩ = false := fun o => (hb.frozen (p := ⟨g, o, none⟩) hg1).trans (df o)
      have vf0 := vf 0
      have vf1 := vf 1
      have vf2 := vf 2
      have vf3 := vf 3
      have vf4 := vf 4
      have h5 : Cel5 wr g 0 noPlc := ⟨by simpa using v0, by simpa using v1, by simpa using v2, by simpa using v3, by simpa using v4⟩
      have h6 := set5_cells (p := noPlc) h5
      unfold set5 Cel5 noPlc at h6
      simp only [Nat.zero_add] at h6
      obtain ⟨r0, r1, r2, r3, r4⟩ := h6
      have HFI : Hid (Below w.heap.size w (((((wr.setCell ⟨g, 0, none⟩ (.string ⟨#[]⟩)).setCell ⟨g, 1, none⟩ (.int .i64 0)).setCell ⟨g, 2, none⟩ (.string ⟨#[]⟩)).setCell ⟨g, 3, none⟩ (.int .i64 0)).setCell ⟨g, 4, none⟩ (.string ⟨#[]⟩))) := Lib.hid (by
        have hw : Below w.heap.size w wr := bstep HB1.out hb
        have hgg : w.heap.size ≤ g := by omega
        exact ((((hw.setCell hgg _).setCell hgg _).setCell hgg _).setCell hgg _).setCell hgg _)
      have h7 : y = none := by rw [← h0]; rfl
      subst h7
      clear HK hb d0 d1 d2 d3 d4 df vf h5 h0 HY
      unfold noPlc at v0 v1 v2 v3 v4
      dsimp only at v0 v1 v2 v3 v4
      go_wp2
      exact bodyPost_ret (v := .tuple #[.agg #[.string ⟨#[]⟩, .int .i64 0, .string ⟨#[]⟩, .int .i64 0, .string ⟨#[]⟩], .bool false]) (by simp [results, Tryz.results25, go_sem, r0, r1, r2, r3, r4]) rfl ⟨rfl, HFI.out⟩
end Go.Mk
