/-
  Proved: the law's placed returns the first place of a name, and whether there is one. Conditions: the places lie where the slice says.
  Proved: plain facts on places in the order of their ranks: they are the places of the rows, each row's place is found by its name. Condition: the rows have no error.
  Proved: plain facts on the comparison of series: it is a linear order's, and a series into which a greater number is put is not less. No condition beside those named.
  Proved: plain facts on ranks: they don't hang on the order of the series; a better series has no worse rank, and nobody else's becomes better. No condition beside those named.
  Proved: plain facts on rows without an error: what they are; they can be exchanged among each other; the ranks of the places in terms of the series. No condition beside those named.
  Proved: plain facts on a row that is put in the place of another one: the rows stay without an error, and the ranks change as those of a better series. Conditions: the row keeps its name; its trials are right.
  Proved: plain facts on what FieldImproves asks of the places of a row: behind a trial that has become a mark, or a greater one, and with the rows turned round. Conditions: the rows have no error.
-/
import Derived.Test.YthgkaojplomapaaGreatDoorFph
import Derived.Test.YthgkaojplomapaaGreatDoorFrc
import Derived.Test.YthgkaojplomapaaGreatDoorFee
import Derived.Test.YthgkaojplomapaaGreatDoorFra
set_option linter.unusedVariables false
set_option linter.unusedSimpArgs false
open Go Go.Proofs Go.RowKit
set_option maxRecDepth 100000
section
namespace Go.Mk
def noPlc : Plc := ⟨⟨#[]⟩, 0, ⟨#[]⟩, 0, ⟨#[]⟩⟩
def plcBy (L : List Plc) (s : ByteArray) : Option Plc := L.find? fun p => decide (p.nm = s)
theorem plcBy_drop {L : List Plc} {k : Nat} {p : Plc} (h : L[k]? = some p) (s : ByteArray) : plcBy (L.drop k) s = if p.nm = s then some p else plcBy (L.drop (k + 1)) s := by
 obtain ⟨hk, rfl⟩ := List.getElem?_eq_some_iff.1 h
 unfold plcBy
 rw [List.drop_eq_getElem_cons hk, List.find?_cons]
 by_cases q : L[k].nm = s
 ·rw [if_pos q]; simp [q]
 ·rw [if_neg q]; simp [q]
theorem set5_cells {w : World} {g : Nat} {p q : Plc} (h : Cel5 w g 0 q) : Cel5 (set5 w g 0 p) g 0 p := by
 obtain ⟨h0, h1, h2, h3, h4⟩ := h
 unfold set5 Cel5
 simp only [Nat.zero_add] at *
 have n : ∀ i j : Nat, i ≠ j → (⟨g, i, none⟩ : Addr) ≠ ⟨g, j, none⟩ := fun i j hne e => hne (congrArg Addr.off e)
 have t1 := World.cell?_setCell_same w ⟨g, 0, none⟩ (.string p.nm) h0
 have s1 : (w.setCell ⟨g, 0, none⟩ (.string p.nm)).cell? ⟨g, 1, none⟩ = some (.int .i64 q.rk) := by rw [World.cell?_setCell_other _ _ _ _ (n 0 1 (by decide))]; exact h1
 have s2 : ((w.setCell ⟨g, 0, none⟩ (.string p.nm)).setCell ⟨g, 1, none⟩ (.int .i64 p.rk)).cell? ⟨g, 2, none⟩ = some (.string q.kd) := by rw [World.cell?_setCell_other _ _ _ _ (n 1 2 (by decide)), World.cell?_setCell_other _ _ _ _ (n 0 2 (by decide))]; exact h2
 have s3 : (((w.setCell ⟨g, 0, none⟩ (.string p.nm)).setCell ⟨g, 1, none⟩ (.int .i64 p.rk)).setCell ⟨g, 2, none⟩ (.string p.kd)).cell? ⟨g, 3, none⟩ = some (.int .i64 q.vl) := by rw [World.cell?_setCell_other _ _ _ _ (n 2 3 (by decide)), World.cell?_setCell_other _ _ _ _ (n 1 3 (by decide)), World.cell?_setCell_other _ _ _ _ (n 0 3 (by decide))]; exact h3
 have s4 : ((((w.setCell ⟨g, 0, none⟩ (.string p.nm)).setCell ⟨g, 1, none⟩ (.int .i64 p.rk)).setCell ⟨g, 2, none⟩ (.string p.kd)).setCell ⟨g, 3, none⟩ (.int .i64 p.vl)).cell? ⟨g, 4, none⟩ = some (.string q.rs) := by rw [World.cell?_setCell_other _ _ _ _ (n 3 4 (by decide)), World.cell?_setCell_other _ _ _ _ (n 2 4 (by decide)), World.cell?_setCell_other _ _ _ _ (n 1 4 (by decide)), World.cell?_setCell_other _ _ _ _ (n 0 4 (by decide))]; exact h4
 refine ⟨?_, ?_, ?_, ?_, World.cell?_setCell_same _ _ _ s4⟩
 ·rw [World.cell?_setCell_other _ _ _ _ (n 4 0 (by decide)), World.cell?_setCell_other _ _ _ _ (n 3 0 (by decide)), World.cell?_setCell_other _ _ _ _ (n 2 0 (by decide)), World.cell?_setCell_other _ _ _ _ (n 1 0 (by decide))]; exact t1
 ·rw [World.cell?_setCell_other _ _ _ _ (n 4 1 (by decide)), World.cell?_setCell_other _ _ _ _ (n 3 1 (by decide)), World.cell?_setCell_other _ _ _ _ (n 2 1 (by decide))]; exact World.cell?_setCell_same _ _ _ s1
 ·rw [World.cell?_setCell_other _ _ _ _ (n 4 2 (by decide)), World.cell?_setCell_other _ _ _ _ (n 3 2 (by decide))]; exact World.cell?_setCell_same _ _ _ s2
 ·rw [World.cell?_setCell_other _ _ _ _ (n 4 3 (by decide))]; exact World.cell?_setCell_same _ _ _ s3
theorem PlcsZ.atV {w : World} {A : Option Addr} {n : Nat} {L : List Plc} (h : PlcsZ w A n L) {k : Nat} (hk : k < n) : ∃ b off p, A = some ⟨b, off, none⟩ ∧ b < w.heap.size ∧ L[k]? = some p ∧ Cel5 w b (off + k * 5) p := by
 obtain ⟨b, off, e, hlt, hc⟩ := h.2 (by omega)
 have hl : k < L.length := by rw [h.1]; exact hk
 exact ⟨b, off, L[k], e, hlt, List.getElem?_eq_getElem hl, hc k _ (List.getElem?_eq_getElem hl)⟩
set_option maxHeartbeats 4000000 in
theorem l6placed_any (L : List Plc) (n cap : Nat) (A : Option Addr) (s : ByteArray) (w : World) (hZ : PlcsZ w A n L) (hn : n ≤ 1000) :
  Calls Tryz.prog 25 #[.slice A n cap, .string s] w (RetPost (.tuple #[((plcBy L s).getD noPlc).val, .bool (plcBy L s).isSome]) w) := by
 have hni : (n : Int) ≤ 1000 := by omega
 obtain ⟨g, hg⟩ : ∃ g, w.heap.size = g := ⟨_, rfl⟩
 obtain ⟨w1, hw1⟩ : ∃ w1, w.alloc (.cells #[.string ⟨#[]⟩, .int .i64 0, .string ⟨#[]⟩, .int .i64 0, .string ⟨#[]⟩] 61) = w1 := ⟨_, rfl⟩
 have hb1 : Below w.heap.size w w1 := by rw [← hw1]; exact balloc _ (Below.refl _ _)
 have hx1 : g < w1.heap.size := by rw [← hw1, ← hg]; simp
 have k5 : Cel5 w1 g 0 noPlc := by rw [← hw1, ← hg]; unfold Cel5 noPlc; refine ⟨?_, ?_, ?_, ?_, ?_⟩ <;> simp
 have f5 : ∀ o, w1.frozen? ⟨g, o, none⟩ = false := fun o => by rw [← hw1, ← hg]; simp
 have H := Lib.hid (hZ.below hb1)
 have HL : Hid (L.length = n) := Lib.hid hZ.1
 have HB1 := Lib.hid hb1
 have HG : Hid (g < w1.heap.size ∧ Cel5 w1 g 0 noPlc ∧ ∀ o, w1.frozen? ⟨g, o, none⟩ = false) := Lib.hid ⟨hx1, k5, f5⟩
 obtain ⟨y, hy⟩ : ∃ y, plcBy L s = y := ⟨_, rfl⟩
 rw [hy]
 have HY : Hid (plcBy (L.drop 0) s = y) := Lib.hid (by rw [← hy]; rfl)
 clear hZ hb1 hx1 k5 f5 hy
 go_enter Tryz.func25, Tryz.ntmps25
 go_wp2
 go_loopw [10] (fun i wr => ∃ k : Nat, k ≤ n ∧ i = .int .i64 k ∧ Hid (plcBy (L.drop k) s = y) ∧ Below w1.heap.size w1 wr) (fun i _ => n - (RowKit.intOf i).toNat)
 case atStart => exact ⟨0, by omega, rfl, HY, Below.refl _ _⟩
 case round =>
  obtain ⟨k, hk, rfl, HK, hb⟩ := hrel
  by_cases hlt : k < n
  ·obtain ⟨b', off, p, rfl, hbl, hx, hc0, hc1, hc2, hc3, hc4⟩ := (H.out.below hb).atV hlt
   have hki : (k : Int) < (n : Int) := by omega
   have hk0 : (0 : Int) ≤ (k : Int) := by omega
   have hkt : ((k : Int)).toNat = k := by omega
   have hst := HK.out
   rw [plcBy_drop hx] at hst
   have HB := Lib.hid hb
   obtain ⟨q, hq⟩ : ∃ q, wr.heap.size = q := ⟨_, rfl⟩
   obtain ⟨wx, hwx⟩ : ∃ wx, wr.alloc (.cells #[.string p.nm, .int .i64 p.rk, .string p.kd, .int .i64 p.vl, .string p.rs] 61) = wx := ⟨_, rfl⟩
   have hbx : Below w1.heap.size w1 wx := by rw [← hwx]; exact hb.alloc hb.size _
   have x0 : wx.cell? ⟨q, 0, none⟩ = some (.string p.nm) := by rw [← hwx, ← hq]; simp
   have x1 : wx.cell? ⟨q, 1, none⟩ = some (.int .i64 p.rk) := by rw [← hwx, ← hq]; simp
   have x2 : wx.cell? ⟨q, 2, none⟩ = some (.string p.kd) := by rw [← hwx, ← hq]; simp
   have x3 : wx.cell? ⟨q, 3, none⟩ = some (.int .i64 p.vl) := by rw [← hwx, ← hq]; simp
   have x4 : wx.cell? ⟨q, 4, none⟩ = some (.string p.rs) := by rw [← hwx, ← hq]; simp
   have HBX := Lib.hid hbx
   by_cases h0 : p.nm = s
   ·rw [if_pos h0] at hst
    subst hst h0
    have gb : (p.nm.toList == p.nm.toList) = true := by simp
    obtain ⟨hg1, ⟨d0, d1, d2, d3, d4⟩, df⟩ := HG.out
    simp only [Nat.zero_add] at d0 d1 d2 d3 d4
    have v0 := (hbx.cell (p := ⟨g, 0, none⟩) hg1).trans d0
    have v1 := (hbx.cell (p := ⟨g, 1, none⟩) hg1).trans d1
    have v2 := (hbx.cell (p := ⟨g, 2, none⟩) hg1).trans d2
    have v3 := (hbx.cell (p := ⟨g, 3, none⟩) hg1).trans d3
    have v4 := (hbx.cell (p := ⟨g, 4, none⟩) hg1).trans d4
    have vf : ∀ o, wx.frozen? ⟨g, o, none⟩ = false := fun o => (hbx.frozen (p := ⟨g, o, none⟩) hg1).trans (df o)
    have vf0 := vf 0
    have vf1 := vf 1
    have vf2 := vf 2
    have vf3 := vf 3
    have vf4 := vf 4
    have h5 : Cel5 wx g 0 noPlc := ⟨by simpa using v0, by simpa using v1, by simpa using v2, by simpa using v3, by simpa using v4⟩
    have h6 := set5_cells (p := p) h5
    unfold set5 Cel5 at h6
    simp only [Nat.zero_add] at h6
    obtain ⟨r0, r1, r2, r3, r4⟩ := h6
    have HFI : Hid (Below w.heap.size w (((((wx.setCell ⟨g, 0, none⟩ (.string p.nm)).setCell ⟨g, 1, none⟩ (.int .i64 p.rk)).setCell ⟨g, 2, none⟩ (.string p.kd)).setCell ⟨g, 3, none⟩ (.int .i64 p.vl)).setCell ⟨g, 4, none⟩ (.string p.rs))) := Lib.hid (by
     have hw : Below w.heap.size w wx := bstep HB1.out hbx
     have hgg : w.heap.size ≤ g := by omega
     exact ((((hw.setCell hgg _).setCell hgg _).setCell hgg _).setCell hgg _).setCell hgg _)
    clear hx HK hb hbx d0 d1 d2 d3 d4 df vf h5 HY
    obtain ⟨p1, p2, p3, p4, p5⟩ := p
    dsimp only at *
    go_wp2
    exact bodyPost_ret (v := .tuple #[.agg #[.string p1, .int .i64 p2, .string p3, .int .i64 p4, .string p5], .bool true]) (by simp [results, Tryz.results25, go_sem, r0, r1, r2, r3, r4]) rfl ⟨rfl, HFI.out⟩
   ·rw [if_neg h0] at hst
    have Hst : Hid (plcBy (L.drop (k + 1)) s = y) := Lib.hid hst
    have gb : (p.nm.toList == s.toList) = false := tl_ne h0
    clear hst hx HK hb hbx
    go_wp2
    exact ⟨⟨k + 1, by omega, by go_num, Hst, HBX.out⟩, by simp [RowKit.intOf]; omega⟩
  ·have h0 := HK.out
   rw [List.drop_eq_nil_of_le (by rw [HL.out]; omega)] at h0
   obtain ⟨hg1, ⟨d0, d1, d2, d3, d4⟩, df⟩ := HG.out
   simp only [Nat.zero_add] at d0 d1 d2 d3 d4
   have v0 := (hb.cell (p := ⟨g, 0, none⟩) hg1).trans d0
   have v1 := (hb.cell (p := ⟨g, 1, none⟩) hg1).trans d1
   have v2 := (hb.cell (p := ⟨g, 2, none⟩) hg1).trans d2
   have v3 := (hb.cell (p := ⟨g, 3, none⟩) hg1).trans d3
   have v4 := (hb.cell (p := ⟨g, 4, none⟩) hg1).trans d4
   have vf : ∀ o, wr.frozen? ⟨g, o, none⟩ = false := fun o => (hb.frozen (p := ⟨g, o, none⟩) hg1).trans (df o)
   have vf0 := vf 0
   have vf1 := vf 1
   have vf2 := vf 2
   have vf3 := vf 3
   have vf4 := vf 4
   have h5 : Cel5 wr g 0 noPlc := ⟨by simpa using v0, by simpa using v1, by simpa using v2, by simpa using v3, by simpa using v4⟩
   have h6 := set5_cells (p := noPlc) h5
   unfold set5 Cel5 noPlc at h6
   simp only [Nat.zero_add] at h6
   obtain ⟨r0, r1, r2, r3, r4⟩ := h6
   have HFI : Hid (Below w.heap.size w (((((wr.setCell ⟨g, 0, none⟩ (.string ⟨#[]⟩)).setCell ⟨g, 1, none⟩ (.int .i64 0)).setCell ⟨g, 2, none⟩ (.string ⟨#[]⟩)).setCell ⟨g, 3, none⟩ (.int .i64 0)).setCell ⟨g, 4, none⟩ (.string ⟨#[]⟩))) := Lib.hid (by
    have hw : Below w.heap.size w wr := bstep HB1.out hb
    have hgg : w.heap.size ≤ g := by omega
    exact ((((hw.setCell hgg _).setCell hgg _).setCell hgg _).setCell hgg _).setCell hgg _)
   have h7 : y = none := by rw [← h0]; rfl
   subst h7
   clear HK hb d0 d1 d2 d3 d4 df vf h5 h0 HY
   unfold noPlc at v0 v1 v2 v3 v4
   dsimp only at v0 v1 v2 v3 v4
   go_wp2
   exact bodyPost_ret (v := .tuple #[.agg #[.string ⟨#[]⟩, .int .i64 0, .string ⟨#[]⟩, .int .i64 0, .string ⟨#[]⟩], .bool false]) (by simp [results, Tryz.results25, go_sem, r0, r1, r2, r3, r4]) rfl ⟨rfl, HFI.out⟩
end Go.Mk
end
section
namespace Go.Mk
theorem plcBy_mem : ∀ {L : List Plc}, (L.map (·.nm)).Nodup → ∀ {p : Plc}, p ∈ L → plcBy L p.nm = some p
 | [], _, p, h => by cases h
 | q :: L, hd, p, h => by
  unfold plcBy
  rw [List.find?_cons]
  rw [List.map_cons, List.nodup_cons] at hd
  rcases List.mem_cons.1 h with rfl | h
  ·simp
  ·have hne : ¬ q.nm = p.nm := fun e => hd.1 (by rw [e]; exact List.mem_map_of_mem h)
   have := plcBy_mem hd.2 h
   unfold plcBy at this
   simp [hne, this]
theorem arr_perm {n : Nat} {L : List Plc} (hn : L.length = n) (hr : ∀ p ∈ L, 0 ≤ p.rk ∧ p.rk ≤ n) : (arrL n L).Perm L := by
 have h1 := byKey_perm (fun i => bhd n (plF L i)) n (n + 1) (fun x hx => by
  have h3 := toks_mem.1 hx
  have h4 : x.toNat < L.length := by omega
  have h5 : plF L x ∈ L := by unfold plF; rw [List.getD_eq_getElem?_getD, List.getElem?_eq_getElem h4]; exact List.getElem_mem h4
  have h6 := hr _ h5
  unfold bhd
  split <;> omega)
 have h2 := h1.map (plF L)
 rw [byKey_arr L n hn] at h2
 have h3 := plF_toks L
 rw [hn] at h3
 rw [h3] at h2
 exact h2
end Go.Mk
end
section
namespace Go.Mk
def leS : List Int → List Int → Prop
 | [], _ => True
 | _ :: _, [] => False
 | a :: l, b :: m => a < b ∨ (a = b ∧ leS l m)
theorem leS_refl : ∀ L : List Int, leS L L
 | [] => trivial
 | a :: l => .inr ⟨rfl, leS_refl l⟩
theorem leS_trans : ∀ {L M N : List Int}, leS L M → leS M N → leS L N
 | [], _, _, _, _ => trivial
 | _ :: _, [], _, h, _ => h.elim
 | _ :: _, _ :: _, [], _, h => h.elim
 | a :: l, b :: m, c :: n, h, k => by
  rcases h with h | ⟨rfl, h⟩
  ·rcases k with k | ⟨rfl, _⟩
   ·exact .inl (by omega)
   ·exact .inl h
  ·rcases k with k | ⟨rfl, k⟩
   ·exact .inl k
   ·exact .inr ⟨rfl, leS_trans h k⟩
theorem cmpL_pos : ∀ (L M : List Int), 0 < cmpL L M ↔ ¬ leS L M
 | [], [] => by simp [cmpL, leS]
 | [], _ :: _ => by simp [cmpL, leS]
 | _ :: _, [] => by simp [cmpL, leS]
 | a :: l, b :: m => by
  have ih := cmpL_pos l m
  rw [cmpL]
  unfold leS cmpZ
  by_cases h1 : a < b
  ·simp [h1]
  ·by_cases h2 : b < a
   ·have h3 : ¬ a = b := by omega
    simp [h1, h2, h3]
   ·have h3 : a = b := by omega
    subst h3
    simp [ih]
def insS (x : Int) : List Int → List Int
 | [] => [x]
 | q :: Q => if q < x then x :: q :: Q else q :: insS x Q
end Go.Mk
end
section
namespace Go.Mk
def rkL (S : List (List Int)) (l : List Int) : Nat := if l = [] then 0 else 1 + S.countP fun u => decide (0 < cmpL u l)
theorem countP_le' {α : Type} (p q : α → Bool) : ∀ {L : List α}, (∀ x ∈ L, p x = true → q x = true) → L.countP p ≤ L.countP q
 | [], _ => Nat.le_refl _
 | x :: L, h => by
  have ih := countP_le' p q (L := L) (fun y hy => h y (List.mem_cons_of_mem _ hy))
  have h1 := h x List.mem_cons_self
  rw [List.countP_cons, List.countP_cons]
  cases hp : p x with
  | false => simp; omega
  | true => rw [h1 hp]; simp; omega
end Go.Mk
end
section
namespace Go.Mk
end Go.Mk
end
section
namespace Go.Mk
end Go.Mk
end
section
namespace Go.Mk
def newT (T : List Int) (b : Nat) : List Int := if T.length = 0 then [(b : Int)] else T.set (b % T.length) (min 999999 (max 0 (T.getD (b % T.length) 0) + (b : Int)))
structure Asked (p q s : Plc) (x r : ByteArray) : Prop where
 same : p.rk = s.rk ∧ p.kd = s.kd ∧ p.vl = s.vl ∧ p.rs = s.rs
 own : x = r → 1 ≤ q.rk ∧ (0 < p.rk → q.rk ≤ p.rk)
 other : x ≠ r → (0 < p.rk → p.rk ≤ q.rk) ∧ (p.rk = 0 → q.rk = 0)
def grT (g : Int) (T : List Int) : Int := T.foldl max g
def grL (g : Int) (L : List RowR) : Int := L.foldl (fun g r => grT g r.T) g
theorem leS_total : ∀ L M : List Int, leS L M ∨ leS M L
 | [], _ => .inl trivial
 | _ :: _, [] => .inr trivial
 | a :: l, b :: m => by
  unfold leS
  rcases leS_total l m with h | h
  ·by_cases q : a < b
   ·exact .inl (.inl q)
   ·by_cases q2 : b < a
    ·exact .inr (.inl q2)
    ·exact .inl (.inr ⟨by omega, h⟩)
  ·by_cases q : a < b
   ·exact .inl (.inl q)
   ·by_cases q2 : b < a
    ·exact .inr (.inl q2)
    ·exact .inr (.inr ⟨by omega, h⟩)
end Go.Mk
end
