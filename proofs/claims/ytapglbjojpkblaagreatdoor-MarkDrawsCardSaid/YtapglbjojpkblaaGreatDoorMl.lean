/-
  Proved: mark.commonKind returns the common kind of a list of marks, or the first error. Conditions: the list lies where the slice says; the map's block is as kinds made it.
-/
import Derived.Test.YtapglbjojpkblaaGreatDoorCa
set_option linter.unusedVariables false
set_option linter.unusedSimpArgs false
open Go Go.Proofs Go.RowKit
set_option maxRecDepth 100000
namespace Go.Mk
/-- The marks of a list lie in the cells of a slice. -/
def Marks (w : World) (B : Nat) (A : Option Addr) (n : Nat) (L : List (ByteArray × Int × ByteArray)) : Prop :=
  L.length = n ∧ B ≤ w.heap.size ∧ (0 < n → ∃ b off, A = some ⟨b, off, none⟩ ∧ b < B ∧ ∀ (i : Nat) (m : ByteArray × Int × ByteArray), L[i]? = some m →
    w.cell? ⟨b, off + i * 3, none⟩ = some (.string m.1) ∧ w.cell? ⟨b, off + i * 3 + 1, none⟩ = some (.int .i64 m.2.1) ∧ w.cell? ⟨b, off + i * 3 + 2, none⟩ = some (.string m.2.2))
theorem Marks.below {w w' : World} {B K n : Nat} {A : Option Addr} {L : List (ByteArray × Int × ByteArray)} (h : Marks w B A n L) (hb : Below K w w') (hB : B ≤ K) : Marks w' B A n L := by
  refine ⟨h.1, Nat.le_trans h.2.1 hb.size, fun hn => ?_⟩
  obtain ⟨b, off, e, hlt, hc⟩ := h.2.2 hn
  refine ⟨b, off, e, hlt, fun i m hm => ?_⟩
  obtain ⟨h0, h1, h2⟩ := hc i m hm
  exact ⟨(hb.cell (p := ⟨b, _, none⟩) (by show b < K; omega)).trans h0, (hb.cell (p := ⟨b, _, none⟩) (by show b < K; omega)).trans h1, (hb.cell (p := ⟨b, _, none⟩) (by show b < K; omega)).trans h2⟩
theorem Marks.at_ {w : World} {B n : Nat} {A : Option Addr} {L : List (ByteArray × Int × ByteArray)} (h : Marks w B A n L) {k : Nat} (hk : k < n) :
    ∃ b off s v r, A = some ⟨b, off, none⟩ ∧ b < B ∧ L[k]? = some (s, v, r) ∧ w.cell? ⟨b, off + k * 3, none⟩ = some (.string s) ∧ w.cell? ⟨b, off + k * 3 + 1, none⟩ = some (.int .i64 v) ∧ w.cell? ⟨b, off + k * 3 + 2, none⟩ = some (.string r) := by
  obtain ⟨b, off, e, hlt, hc⟩ := h.2.2 (by omega)
  have hl : k < L.length := by rw [h.1]; exact hk
  obtain ⟨h0, h1, h2⟩ := hc k L[k] (List.getElem?_eq_getElem hl)
  exact ⟨b, off, L[k].1, L[k].2.1, L[k].2.2, e, hlt, List.getElem?_eq_getElem hl, h0, h1, h2⟩

/-- The common kind of marks, from one on, or the first error. -/
def comK : ByteArray → List (ByteArray × Int × ByteArray) → ByteArray × Int
  | c, [] => (c, 0)
  | c, (s, v, r) :: l => if chk s v r ≠ 0 then (⟨#[]⟩, chk s v r) else if s = sNone then comK c l else if c ≠ sNone ∧ c ≠ s then (⟨#[]⟩, 13) else comK s l

set_option maxHeartbeats 1000000 in
theorem commonKind_any (L : List (ByteArray × Int × ByteArray)) (n cap : Nat) (A : Option Addr) (B K : Nat) (w : World) (hM : Marks w B A n L) (hsm : n ≤ 300) (hK : Kinds w K) :
    Calls Tryz.prog 37 #[.map (some K), .slice A n cap] w (RetPost (.tuple #[.string (comK sNone L).1, .int .i64 (comK sNone L).2]) w) := by
  obtain ⟨y1, hy1⟩ : ∃ y, (comK sNone L).1 = y := ⟨_, rfl⟩
  obtain ⟨y2, hy2⟩ : ∃ y, (comK sNone L).2 = y := ⟨_, rfl⟩
  rw [hy1, hy2]
  have HY : Hid (comK sNone L = (y1, y2)) := by rw [← hy1, ← hy2]; rfl
  clear hy1 hy2
  have hn0 : (n : Int) ≤ 300 := by omega
  have HM : Hid (∀ w', Below w.heap.size w w' → Marks w' B A n L) := fun w' hb => hM.below hb hM.2.1
  have HKK : Hid (∀ w', Below w.heap.size w w' → Kinds w' K) := fun w' hb => hK.grow hb
  have hlen := hM.1
  have Hlen := Lib.hid hlen
  clear hM hK hlen hsm
  go_enter Tryz.func37, Tryz.ntmps37
  go_wp2
  go_loopw [12, 6] (fun i c wr => ∃ (k : Nat) (s : ByteArray), k ≤ n ∧ i = .int .i64 k ∧ c = .string s ∧ Below w.heap.size w wr ∧ Hid (comK s (L.drop k) = (y1, y2))) (fun i _ _ => n - (intOf i).toNat)
  case atStart => exact ⟨0, sNone, by omega, rfl, rfl, Below.refl _ _, HY⟩
  case round =>
    obtain ⟨k, c, hk, rfl, rfl, hb, HC⟩ := hrel
    by_cases hlt : k < n
    · obtain ⟨b, off, s, v, r, rfl, hbl, hL, c0, c1, c2⟩ := (HM.out _ hb).at_ hlt
      have hD : L.drop k = (s, v, r) :: L.drop (k + 1) := by
        have hkl := (List.getElem?_eq_some_iff.1 hL).1
        rw [List.drop_eq_getElem_cons hkl, (List.getElem?_eq_some_iff.1 hL).2]
      have hstep := HC.out
      rw [hD] at hstep
      unfold comK at hstep
      clear hL hD HC
      have hcm := checkMark_any s r v K (wr.alloc (.cells #[.string s, .int .i64 v, .string r] 32)) (HKK.out _ (hb.alloc hb.size _))
      have hb1 : Below w.heap.size w (wr.alloc (.cells #[.string s, .int .i64 v, .string r] 32)) := hb.alloc hb.size _
      have hX : Box (wr.alloc (.cells #[.string s, .int .i64 v, .string r] 32)) wr.heap.size s v r := Box.new wr s v r
      have hzz : (wr.alloc (.cells #[.string s, .int .i64 v, .string r] 32)).heap.size = wr.heap.size + 1 := by simp
      by_cases g0 : chk s v r = 0
      · rw [if_neg (by simp [g0])] at hstep
        rw [g0] at hcm
        clear g0
        by_cases g1 : s = sNone
        · rw [if_pos g1] at hstep
          have HS := Lib.hid hstep
          have k1 : (s.toList == [110, 111, 110, 101]) = true := by rw [none_beq]; simp [g1]
          clear g1 hstep
          go_wp2_with fail
          refine hcm.mono ?_
          rintro e w2 ⟨rfl, hb2⟩
          obtain ⟨x0, x1, x2⟩ := hX.below hb2 (by omega)
          have hb3 := hb1.trans (hb2.mono hb1.size)
          clear hb2 hb1 hX hcm hzz
          go_wp2
          exact ⟨⟨k + 1, c, by omega, by go_num, rfl, hb3, HS⟩, by simp [intOf]; omega⟩
        · rw [if_neg g1] at hstep
          have k1 : (s.toList == [110, 111, 110, 101]) = false := by rw [none_beq]; simp [g1]
          clear g1
          by_cases g2 : c ≠ sNone ∧ c ≠ s
          · rw [if_pos g2] at hstep
            obtain ⟨rfl, rfl⟩ : (⟨#[]⟩ : ByteArray) = y1 ∧ (13 : Int) = y2 := by simpa using hstep
            have k2 : (c.toList == [110, 111, 110, 101]) = false := by rw [none_beq]; simp [g2.1]
            have k3 : (c.toList == s.toList) = false := tl_ne g2.2
            clear g2 hstep
            go_wp2_with fail
            refine hcm.mono ?_
            rintro e w2 ⟨rfl, hb2⟩
            obtain ⟨x0, x1, x2⟩ := hX.below hb2 (by omega)
            have hb3 := hb1.trans (hb2.mono hb1.size)
            clear hb2 hb1 hX hcm hzz
            go_wp2
            go_ret2
            exact ⟨rfl, hb3⟩
          · rw [if_neg g2] at hstep
            have HS := Lib.hid hstep
            clear hstep
            by_cases g3 : c = sNone
            · have k2 : (c.toList == [110, 111, 110, 101]) = true := by rw [none_beq]; simp [g3]
              clear g2 g3
              go_wp2_with fail
              refine hcm.mono ?_
              rintro e w2 ⟨rfl, hb2⟩
              obtain ⟨x0, x1, x2⟩ := hX.below hb2 (by omega)
              have hb3 := hb1.trans (hb2.mono hb1.size)
              clear hb2 hb1 hX hcm hzz
              go_wp2
              exact ⟨⟨k + 1, s, by omega, by go_num, rfl, hb3, HS⟩, by simp [intOf]; omega⟩
            · have k2 : (c.toList == [110, 111, 110, 101]) = false := by rw [none_beq]; simp [g3]
              have g4 : c = s := Classical.byContradiction fun q => g2 ⟨g3, q⟩
              have k3 : (c.toList == s.toList) = true := by rw [g4]; simp
              clear g2 g3 g4
              go_wp2_with fail
              refine hcm.mono ?_
              rintro e w2 ⟨rfl, hb2⟩
              obtain ⟨x0, x1, x2⟩ := hX.below hb2 (by omega)
              have hb3 := hb1.trans (hb2.mono hb1.size)
              clear hb2 hb1 hX hcm hzz
              go_wp2
              exact ⟨⟨k + 1, s, by omega, by go_num, rfl, hb3, HS⟩, by simp [intOf]; omega⟩
      · rw [if_pos g0] at hstep
        obtain ⟨rfl, h2⟩ : (⟨#[]⟩ : ByteArray) = y1 ∧ chk s v r = y2 := by simpa using hstep
        rw [h2] at hcm g0
        have k0 : (y2 != 0) = true := by rw [bne_iff_ne]; exact g0
        clear hstep h2 g0
        go_wp2_with fail
        refine hcm.mono ?_
        rintro e w2 ⟨rfl, hb2⟩
        obtain ⟨x0, x1, x2⟩ := hX.below hb2 (by omega)
        have hb3 := hb1.trans (hb2.mono hb1.size)
        clear hb2 hb1 hX hcm hzz
        go_wp2
        go_ret2
        exact ⟨rfl, hb3⟩
    · have hkn : k = n := by omega
      have hstep := HC.out
      rw [hkn, List.drop_of_length_le (by rw [Hlen.out]; omega)] at hstep
      obtain ⟨rfl, rfl⟩ : c = y1 ∧ (0 : Int) = y2 := by simpa [comK] using hstep
      clear hstep hkn HC
      go_wp2
      go_ret2
      exact ⟨rfl, hb⟩
end Go.Mk
