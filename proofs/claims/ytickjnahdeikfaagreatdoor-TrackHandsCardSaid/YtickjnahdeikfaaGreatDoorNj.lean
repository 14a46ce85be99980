/-
  Proved: package mark's padded and the digits of a natural of one word with at most 19 digits. Conditions: the number is a word that lies where the value says; the heap holds the library's table.
  Proved: the digits of a natural of one word with at most 19 digits. Conditions: the number is a word that lies where the value says; the heap holds the library's table.
-/
import Derived.Test.YtickjnahdeikfaaGreatDoorNh
import Derived.Test.YtickjnahdeikfaaGreatDoorNg
import Derived.Shelf.Strings.Repeat
import Derived.Lib.ItoaNum
section
set_option linter.unusedVariables false
set_option linter.unusedSimpArgs false
open Go Go.Proofs Go.RowKit Go.Shelf
set_option maxRecDepth 100000
namespace Go.Mk
theorem repX : Builder.Extra Tryz.prog Tryz.repeat_ren := {
  sizeBuilder := by kernel_rfl
  liesBuilder := by kernel_rfl
  t5 := Tryz.underlying5
  a5 := Tryz.isAgg5
  z5 := Tryz.sizeOf5
  v5 := Tryz.zeroValue5
  infoByte := by kernel_rfl
  cellsByte := by kernel_rfl
  sizeByte := by kernel_rfl
  neB5 := by decide }
theorem repeatL_one (c : Nat) : Lib.repeatL [48] c = List.replicate c 48 := by
  induction c with
  | zero => rfl
  | succ c ih => rw [Lib.repeatL, ih]; rfl
theorem naRepeat_any (c : Nat) (hc : c ≤ 20) (w : World) : Calls Tryz.prog 170 #[.string ⟨#[48]⟩, .int .i64 c] w (RetPost (.string (zT c [])) w) := by
  refine (Any.strings_Repeat Tryz.repeat repX ⟨#[48]⟩ c w (by omega) (by show 1 * c ≤ _; omega)).mono ?_
  rintro e w' ⟨rfl, hb⟩
  refine ⟨?_, hb⟩
  show Ending.returned (.string ⟨(Lib.repeatL [48] c).toArray⟩) = _
  rw [repeatL_one]
  unfold zT
  rw [List.append_nil]
def dgs (n : Nat) : List UInt8 := if n = 0 then [] else Lib.decDigits n
theorem dgs_step (n : Nat) (h : 0 < n) : dgs n = dgs (n / 10) ++ [UInt8.ofNat (48 + n % 10)] := by
  unfold dgs
  rw [if_neg (by omega), Lib.decDigits]
  by_cases h10 : n < 10
  · have : n / 10 = 0 := by omega
    simp [h10, this, Nat.mod_eq_of_lt h10]
  · have : n / 10 ≠ 0 := by omega
    simp [h10, this]

theorem dgs_head (n : Nat) (h : 0 < n) : ∃ c l, dgs n = c :: l ∧ c ≠ 48 := by
  induction n using Nat.strongRecOn with
  | _ n ih =>
    rw [dgs_step n h]
    by_cases h9 : n / 10 = 0
    · refine ⟨UInt8.ofNat (48 + n % 10), [], by rw [h9]; rfl, ?_⟩
      intro q
      have := congrArg UInt8.toNat q
      rw [UInt8.toNat_ofNat'] at this
      have e48 : (48 : UInt8).toNat = 48 := rfl
      rw [e48] at this
      omega
    · obtain ⟨c, l, e, hc⟩ := ih (n / 10) (by omega) (by omega)
      exact ⟨c, l ++ [UInt8.ofNat (48 + n % 10)], by rw [e]; rfl, hc⟩
theorem dec_head (n : Nat) (h : 0 < n) : ∃ c l, Lib.decDigits n = c :: l ∧ c ≠ 48 := by
  have := dgs_head n h
  unfold dgs at this
  rwa [if_neg (by omega)] at this
theorem dec_len (n : Nat) (h : n < 18446744073709551616) : (Lib.decDigits n).length ≤ 20 := by
  rw [Lib.decDigits_length]
  by_cases h0 : n = 0
  · subst h0; decide +kernel
  · have := Lib.numDigits_eq n (by omega) h
    split at this <;> omega
set_option maxHeartbeats 1000000 in
theorem naPadded_any (u : Nat) (hu : u < 18446744073709551616) (w : World) (hG : Gt w) : Calls Tryz.prog 147 #[.int .u64 (u : Int), .int .i64 19] w (RetPost (.string (zT (19 - (Lib.decDigits u).length) (Lib.decDigits u))) w) := by
  have hF := FormatUint_any u hu w hG
  have hl := dec_len u hu
  have hR : ∀ w, Calls Tryz.prog 170 #[.string ⟨#[48]⟩, .int .i64 (max 0 ((19 : Int) - ((deci u).size : Int)))] w (RetPost (.string (zT (19 - (Lib.decDigits u).length) [])) w) := fun w => by
    have := naRepeat_any (19 - (Lib.decDigits u).length) (by omega) w
    have e : (deci u).size = (Lib.decDigits u).length := by show (Lib.decDigits u).toArray.size = _; simp
    rwa [show ((19 - (Lib.decDigits u).length : Nat) : Int) = max 0 ((19 : Int) - ((deci u).size : Int)) from by rw [e]; omega] at this
  have hp : zT (19 - (Lib.decDigits u).length) [] ++ deci u = zT (19 - (Lib.decDigits u).length) (Lib.decDigits u) := by
    have e : ∀ (a b : ByteArray), a.data.toList = b.data.toList → a = b := by
      intro a b h; cases a; cases b; congr 1; exact Array.toList_inj.1 h
    apply e
    simp [zT, deci]
  have hzs : ((zT (19 - (Lib.decDigits u).length) []).size : Int) ≤ 19 := by rw [zT_size]; simp; omega
  have hds : ((deci u).size : Int) ≤ 20 := by show ((Lib.decDigits u).toArray.size : Int) ≤ 20; simp; omega
  have Hp := Lib.hid hp
  generalize zT (19 - (Lib.decDigits u).length) [] = z at hR hzs Hp
  generalize deci u = s at *
  clear hp hl hG
  go_enter Tryz.func147, Tryz.ntmps147
  go_wp2_with fail
  refine hF.mono ?_
  rintro e w' ⟨rfl, hb⟩
  clear hF
  go_wp2_with fail
  refine (hR _).mono ?_
  rintro e w3 ⟨rfl, hb3⟩
  go_wp2
  go_ret
  exact ⟨by rw [← Hp.out]; rfl, hb.trans (hb3.mono hb.size)⟩
set_option maxHeartbeats 1000000 in
theorem naJoin_any (g off c : Nat) (x : ByteArray) (w : World) (hc : w.cell? ⟨g, off, none⟩ = some (.string x)) : Calls Tryz.prog 150 #[.slice (some ⟨g, off, none⟩) 1 c, .string ⟨#[]⟩] w (RetSame (.string x) w) := by
  have hc0 : w.cell? ⟨g, off + 0, none⟩ = some (.string x) := hc
  go_enter Tryz.func150, Tryz.ntmps150
  go_wp2
  go_ret
  exact ⟨rfl, rfl⟩
end Go.Mk
end
section
set_option linter.unusedVariables false
set_option linter.unusedSimpArgs false
open Go Go.Proofs Go.RowKit
set_option maxRecDepth 100000
namespace Go.Mk
/-- The decimal notation. -/
def digT (N : Nat) : ByteArray := if N = 0 then ⟨#[48]⟩ else zT 0 (Lib.decDigits N)
theorem infoStrN : (Tryz.prog.info? 9).map (fun i => (i.zero, i.size, i.bytes)) = some (some (.string ⟨#[]⟩), 1, 16) := by kernel_rfl
set_option maxHeartbeats 4000000 in
theorem naDigits_any (v : Value) (N : Nat) (w : World) (h : W1 w v N) (hN : N < 10000000000000000000) (hG : Gt w) : Calls Tryz.prog 138 #[v] w (RetPost (.string (digT N)) w) := by
  by_cases h0 : N = 0
  · subst h0
    obtain ⟨A, c, rfl⟩ := h.zero
    go_enter Tryz.func138, Tryz.ntmps138
    go_wp2
    go_ret
    exact ⟨rfl, Below.refl _ _⟩
  · have hn : 0 < N := by omega
    have hD := fun w1 (hb : Below w.heap.size w w1) => naDivW_any v N 10000000000000000000 w1 (h.below hb) hn (by omega) (by omega)
    rw [Nat.div_eq_of_lt hN, Nat.mod_eq_of_lt hN] at hD
    have hP := fun w1 (hb : Below w.heap.size w w1) => naPadded_any N (by omega) w1 (hG.below hb (Nat.le_refl _))
    have hl := dec_len N (by omega)
    have hT := fun w1 => naTrimLeft_any (19 - (Lib.decDigits N).length) (Lib.decDigits N) (by omega) (by omega) (dec_head N hn) w1
    have hy : digT N = zT 0 (Lib.decDigits N) := if_neg h0
    rw [hy]
    obtain ⟨_, b, off, c, rfl, _, _⟩ := h.pos hn
    obtain ⟨i0, hi, he⟩ := Option.map_eq_some_iff.1 infoStrN
    simp only [Prod.mk.injEq] at he
    obtain ⟨hz0, hz1, hz2⟩ := he
    obtain ⟨Z, hZ⟩ : ∃ Z, zT (19 - (Lib.decDigits N).length) (Lib.decDigits N) = Z := ⟨_, rfl⟩
    obtain ⟨Y, hY⟩ : ∃ Y, zT 0 (Lib.decDigits N) = Y := ⟨_, rfl⟩
    rw [hZ] at hP hT
    rw [hY] at hT ⊢
    clear hZ hY hl hy h hG h0 hN
    go_enter Tryz.func138, Tryz.ntmps138
    go_wp2
    go_loopw [0, 3] (fun x y wr => ((x = .slice (some ⟨b, off, none⟩) 1 c ∧ y = .slice none 0 0) ∨ (∃ A c g cap, x = .slice A 0 c ∧ y = .slice (some ⟨g, 0, none⟩) 1 cap ∧ wr.cell? ⟨g, 0, none⟩ = some (.string Z) ∧ g < wr.heap.size)) ∧ Below w.heap.size w wr) (fun x _ _ => match x with | .slice _ k _ => k | _ => 0)
    case atStart => exact ⟨.inl ⟨rfl, rfl⟩, Below.refl _ _⟩
    case round =>
      obtain ⟨hx, hb⟩ := hrel
      rcases hx with ⟨rfl, rfl⟩ | ⟨A, c1, g, cap, rfl, rfl, hc, hg⟩
      · go_wp2_with fail
        refine (hD _ hb).mono ?_
        rintro e w1 ⟨q, rfl, hq, b1⟩
        obtain ⟨A, c1, rfl⟩ := hq.zero
        have bw1 := bstep hb b1
        clear hq
        go_wp2_with fail
        refine (hP _ bw1).mono ?_
        rintro e w2 ⟨rfl, b2⟩
        have bw2 := bstep bw1 b2
        go_wp2_with (at_builtin; refine wpList_append_own _ rfl _ _ 54 rfl w.heap.size 9 i0 (.string ⟨#[]⟩) 1 16 Tryz.underlying54 hi hz0 hz1 hz2 rfl (by decide) _ _ _ rfl (World.ownsRow_nil _ _ _ _) ⟨w2.heap.size, 0, none⟩ 1 1 [.string Z] rfl rfl ?c1 ?c2 ?c3 ?c4 ?c5 ?_)
        case c1 =>
          intro j u hj
          match j, hj with
          | 0, hj => simp at hj; subst hj; simp [Addr.add]
        case c2 => intro u hu; simp at hu; subst hu; rfl
        case c3 => unfold maxLen; omega
        case c4 => omega
        case c5 => have := bw2.size; simp; omega
        intro v' w3 hown' hgrow _
        have hb3 : Below w.heap.size w w3 := (bw2.alloc bw2.size _).grown hgrow (by have := bw2.size; simp; omega) (fun r hr => by cases hr)
        obtain ⟨g, cap, rfl, _, hg⟩ := ownSome hown' (by omega)
        have hc := World.ownsRow.cells hown' (g := g) rfl 0 (.string Z) (by simp)
        clear hown' hgrow
        go_wp2
        go_roundw
        case rel => exact ⟨.inr ⟨A, c1, g, cap, rfl, rfl, hc, hg⟩, hb3⟩
        case measure => show 0 < 1; omega
      · have HC := Lib.hid hc
        have hR := fun w => naReverse_any g 0 cap w
        have hJ := fun w hc => naJoin_any g 0 cap Z w hc
        clear hc hD hP
        go_wp2_with fail
        refine (hR _).mono ?_
        rintro e w1 ⟨rfl, b1⟩
        have hc1 := (b1.cell (p := ⟨g, 0, none⟩) hg).trans HC.out
        go_wp2_with fail
        refine (hJ _ hc1).mono ?_
        rintro e w2 ⟨rfl, rfl⟩
        go_wp2_with fail
        refine (hT _).mono ?_
        rintro e w2 ⟨rfl, rfl⟩
        go_wp2
        go_ret
        exact ⟨rfl, bstep hb b1⟩
end Go.Mk
end
