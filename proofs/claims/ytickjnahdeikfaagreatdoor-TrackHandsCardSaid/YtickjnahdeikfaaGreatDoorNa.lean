/-
  Proved: machine words of package mark's naturals: the greatest common divisor of two words (and the reference's, of two integers), the comparison of two words, the division of a word by another one. Conditions: the numbers are words.
  Proved: lists of words of package mark's naturals: without zeros at the end, of one word, whether it is 1. Conditions: the words lie where the slice says.
-/
import Derived.Test.YtickjnahdeikfaaGreatDoorYa
section
set_option linter.unusedVariables false
set_option linter.unusedSimpArgs false
open Go Go.Proofs Go.RowKit
set_option maxRecDepth 100000
namespace Go.Mk
set_option maxHeartbeats 1000000 in
theorem naWordDiv_any (a b : Nat) (ha : a < 18446744073709551616) (hb : b < 18446744073709551616) (w : World) :
    Calls Tryz.prog 151 #[.int .u64 (a : Int), .int .u64 (b : Int)] w (RetPost (.int .u64 ((Nat.gcd b a : Nat) : Int)) w) := by
  have Ha := Lib.hid ha
  have Hb := Lib.hid hb
  clear ha hb
  obtain ⟨g, hg⟩ : ∃ g, Nat.gcd b a = g := ⟨_, rfl⟩
  rw [hg]
  have HG := Lib.hid hg
  clear hg
  go_enter Tryz.func151, Tryz.ntmps151
  go_wp2
  go_loopw [0, 1] (fun x y wr => ∃ p q : Nat, p < 18446744073709551616 ∧ q < 18446744073709551616 ∧ x = .int .u64 (p : Int) ∧ y = .int .u64 (q : Int) ∧ Hid (Nat.gcd q p = g) ∧ Below w.heap.size w wr) (fun _ y _ => (intOf y).toNat)
  case atStart => exact ⟨a, b, Ha.out, Hb.out, rfl, rfl, HG, Below.refl _ _⟩
  case round =>
    obtain ⟨p, q, hp, hq, rfl, rfl, HK, hbe⟩ := hrel
    by_cases h0 : q = 0
    · subst h0
      have h1 := HK.out
      rw [Nat.gcd_zero_left] at h1
      subst h1
      clear HG
      go_wp2
      go_ret
      exact ⟨rfl, hbe⟩
    · have hst : Hid (Nat.gcd (p % q) q = g) := by
        have := HK.out
        rw [Nat.gcd_rec] at this
        exact this
      have hlt : p % q < q := Nat.mod_lt _ (by omega)
      have hq0 : (0 : Int) < (q : Int) := by omega
      have hqn : ((q : Int) == 0) = false := by rw [beq_eq_false_iff_ne]; omega
      go_wp2
      go_quiet (fail)
      go_wp2
      exact ⟨⟨q, p % q, hq, by omega, rfl, by rw [Int.natCast_emod], hst, below_drewN hbe _⟩, by show ((p : Int) % (q : Int)).toNat < (q : Int).toNat; rw [← Int.natCast_emod, Int.toNat_natCast, Int.toNat_natCast]; exact hlt⟩
set_option maxHeartbeats 1000000 in
theorem rfGcd_any (a b : Nat) (ha : a < 9223372036854775808) (hb : b < 9223372036854775808) (w : World) :
    Calls Tryz.prog 100 #[.int .i64 (a : Int), .int .i64 (b : Int)] w (RetPost (.int .i64 ((Nat.gcd b a : Nat) : Int)) w) := by
  have Ha := Lib.hid ha
  have Hb := Lib.hid hb
  clear ha hb
  obtain ⟨g, hg⟩ : ∃ g, Nat.gcd b a = g := ⟨_, rfl⟩
  rw [hg]
  have HG := Lib.hid hg
  clear hg
  go_enter Tryz.func100, Tryz.ntmps100
  go_wp2
  go_loopw [0, 1] (fun x y wr => ∃ p q : Nat, p < 9223372036854775808 ∧ q < 9223372036854775808 ∧ x = .int .i64 (p : Int) ∧ y = .int .i64 (q : Int) ∧ Hid (Nat.gcd q p = g) ∧ Below w.heap.size w wr) (fun _ y _ => (intOf y).toNat)
  case atStart => exact ⟨a, b, Ha.out, Hb.out, rfl, rfl, HG, Below.refl _ _⟩
  case round =>
    obtain ⟨p, q, hp, hq, rfl, rfl, HK, hbe⟩ := hrel
    by_cases h0 : q = 0
    · subst h0
      have h1 := HK.out
      rw [Nat.gcd_zero_left] at h1
      subst h1
      clear HG
      go_wp2
      go_ret
      exact ⟨rfl, hbe⟩
    · have hst : Hid (Nat.gcd (p % q) q = g) := by
        have := HK.out
        rw [Nat.gcd_rec] at this
        exact this
      have hlt : p % q < q := Nat.mod_lt _ (by omega)
      have hq0 : (0 : Int) < (q : Int) := by omega
      have hqn : ((q : Int) == 0) = false := by rw [beq_eq_false_iff_ne]; omega
      go_wp2
      go_quiet (fail)
      go_wp2
      exact ⟨⟨q, p % q, hq, by omega, rfl, by rw [Int.natCast_emod], hst, below_drewN hbe _⟩, by show ((p : Int) % (q : Int)).toNat < (q : Int).toNat; rw [← Int.natCast_emod, Int.toNat_natCast, Int.toNat_natCast]; exact hlt⟩
theorem naNaNU_any (a : Nat) (w : World) : Calls Tryz.prog 198 #[.int .u64 (a : Int)] w (RetPost (.bool false) w) := by
  go_enter Tryz.func198, Tryz.ntmps198
  go_wp2
  go_ret
  exact ⟨rfl, Below.refl _ _⟩
/-- As a comparison answers. -/
def cmpN (a b : Nat) : Int := if a < b then -1 else if b < a then 1 else 0
set_option maxHeartbeats 1000000 in
theorem naCmpU_any (a b : Nat) (w : World) : Calls Tryz.prog 179 #[.int .u64 (a : Int), .int .u64 (b : Int)] w (RetPost (.int .i64 (cmpN a b)) w) := by
  have hN := naNaNU_any
  unfold cmpN
  by_cases h1 : a < b
  · rw [if_pos h1]
    go_enter Tryz.func179, Tryz.ntmps179
    go_wp2_with fail
    refine (hN _ _).mono ?_
    rintro e w1 ⟨rfl, b1⟩
    go_wp2_with fail
    refine (hN _ _).mono ?_
    rintro e w2 ⟨rfl, b2⟩
    go_wp2
    go_ret
    exact ⟨rfl, bstep b1 b2⟩
  · by_cases h2 : b < a
    · rw [if_neg h1, if_pos h2]
      go_enter Tryz.func179, Tryz.ntmps179
      go_wp2_with fail
      refine (hN _ _).mono ?_
      rintro e w1 ⟨rfl, b1⟩
      go_wp2_with fail
      refine (hN _ _).mono ?_
      rintro e w2 ⟨rfl, b2⟩
      go_wp2
      go_ret
      exact ⟨rfl, bstep b1 b2⟩
    · obtain rfl : a = b := by omega
      rw [if_neg h1, if_neg h2]
      go_enter Tryz.func179, Tryz.ntmps179
      go_wp2_with fail
      refine (hN _ _).mono ?_
      rintro e w1 ⟨rfl, b1⟩
      go_wp2_with fail
      refine (hN _ _).mono ?_
      rintro e w2 ⟨rfl, b2⟩
      go_wp2
      go_ret
      exact ⟨rfl, bstep b1 b2⟩
theorem naNaNI_any (a : Nat) (w : World) : Calls Tryz.prog 197 #[.int .i64 (a : Int)] w (RetPost (.bool false) w) := by
  go_enter Tryz.func197, Tryz.ntmps197
  go_wp2
  go_ret
  exact ⟨rfl, Below.refl _ _⟩
set_option maxHeartbeats 1000000 in
theorem naCmpI_any (a b : Nat) (w : World) : Calls Tryz.prog 178 #[.int .i64 (a : Int), .int .i64 (b : Int)] w (RetPost (.int .i64 (cmpN a b)) w) := by
  have hN := naNaNI_any
  unfold cmpN
  by_cases h1 : a < b
  · rw [if_pos h1]
    go_enter Tryz.func178, Tryz.ntmps178
    go_wp2_with fail
    refine (hN _ _).mono ?_
    rintro e w1 ⟨rfl, b1⟩
    go_wp2_with fail
    refine (hN _ _).mono ?_
    rintro e w2 ⟨rfl, b2⟩
    go_wp2
    go_ret
    exact ⟨rfl, bstep b1 b2⟩
  · by_cases h2 : b < a
    · rw [if_neg h1, if_pos h2]
      go_enter Tryz.func178, Tryz.ntmps178
      go_wp2_with fail
      refine (hN _ _).mono ?_
      rintro e w1 ⟨rfl, b1⟩
      go_wp2_with fail
      refine (hN _ _).mono ?_
      rintro e w2 ⟨rfl, b2⟩
      go_wp2
      go_ret
      exact ⟨rfl, bstep b1 b2⟩
    · obtain rfl : a = b := by omega
      rw [if_neg h1, if_neg h2]
      go_enter Tryz.func178, Tryz.ntmps178
      go_wp2_with fail
      refine (hN _ _).mono ?_
      rintro e w1 ⟨rfl, b1⟩
      go_wp2_with fail
      refine (hN _ _).mono ?_
      rintro e w2 ⟨rfl, b2⟩
      go_wp2
      go_ret
      exact ⟨rfl, bstep b1 b2⟩
theorem wrapU (n : Nat) (h : n < 18446744073709551616) : IntKind.u64.wrap (n : Int) = (n : Int) := by
  have e : IntKind.u64.wrap (n : Int) = (n : Int) % 18446744073709551616 := by simp [IntKind.wrap, IntKind.bits, IntKind.signed]
  rw [e]; omega
set_option maxHeartbeats 1000000 in
theorem naDiv64_any (a b : Nat) (ha : a < 18446744073709551616) (hb0 : 0 < b) (hb : b < 18446744073709551616) (w : World) :
    Calls Tryz.prog 168 #[.int .u64 0, .int .u64 (a : Int), .int .u64 (b : Int)] w (RetPost (.tuple #[.int .u64 ((a / b : Nat) : Int), .int .u64 ((a % b : Nat) : Int)]) w) := by
  have hbn : ((b : Int) == 0) = false := by rw [beq_eq_false_iff_ne]; omega
  have hb1 : (0 : Int) < (b : Int) := by omega
  have Ha := Lib.hid ha
  have Hb := Lib.hid hb
  clear ha hb
  go_enter Tryz.func168, Tryz.ntmps168
  go_wp2
  go_quiet (fail)
  go_wp2
  go_ret2
  exact ⟨by show Ending.returned (.tuple #[.int .u64 (IntKind.u64.wrap ((a : Int) / (b : Int))), .int .u64 ((a : Int) % (b : Int))]) = _; rw [← Int.natCast_ediv, wrapU _ (Nat.lt_of_le_of_lt (Nat.div_le_self _ _) Ha.out), Int.natCast_emod], below_drewN (Below.refl _ _) _⟩
end Go.Mk
end
section
set_option linter.unusedVariables false
set_option linter.unusedSimpArgs false
open Go Go.Proofs Go.RowKit
set_option maxRecDepth 100000
namespace Go.Mk
/-- The words of a list lie in the cells of a slice. -/
def WdsZ (w : World) (A : Option Addr) (n : Nat) (L : List Nat) : Prop :=
  L.length = n ∧ (0 < n → ∃ g off, A = some ⟨g, off, none⟩ ∧ g < w.heap.size ∧ ∀ (j x : Nat), L[j]? = some x → w.cell? ⟨g, off + j, none⟩ = some (.int .u64 (x : Int)))
theorem WdsZ.below {w w' : World} {A : Option Addr} {n : Nat} {L : List Nat} (h : WdsZ w A n L) (hb : Below w.heap.size w w') : WdsZ w' A n L := by
  refine ⟨h.1, fun hn => ?_⟩
  obtain ⟨g, off, e, hlt, hc⟩ := h.2 hn
  exact ⟨g, off, e, Nat.lt_of_lt_of_le hlt hb.size, fun j x hx => (hb.cell (p := ⟨g, _, none⟩) hlt).trans (hc j x hx)⟩
theorem WdsZ.cellAt {w : World} {A : Option Addr} {n : Nat} {L : List Nat} (h : WdsZ w A n L) {k : Nat} (hk : k < n) : ∃ b off x, A = some ⟨b, off, none⟩ ∧ b < w.heap.size ∧ L[k]? = some x ∧ w.cell? ⟨b, off + k, none⟩ = some (.int .u64 (x : Int)) := by
  obtain ⟨b, off, e, hlt, hc⟩ := h.2 (by omega)
  have hl : k < L.length := by rw [h.1]; exact hk
  exact ⟨b, off, L[k], e, hlt, List.getElem?_eq_getElem hl, hc k L[k] (List.getElem?_eq_getElem hl)⟩
/-- How many words stay, without zeros at the end. -/
def trimN (L : List Nat) : Nat → Nat
  | 0 => 0
  | k + 1 => if L[k]? = some 0 then trimN L k else k + 1
set_option maxHeartbeats 1000000 in
theorem naTrim_any (L : List Nat) (n c : Nat) (A : Option Addr) (w : World) (hZ : WdsZ w A n L) (hc : n ≤ c) (hs : c ≤ 1000000) :
    Calls Tryz.prog 145 #[.slice A n c] w (RetSame (.slice A (trimN L n) c) w) := by
  have H := Lib.hid hZ
  have Hc := Lib.hid hc
  have hs0 : (c : Int) ≤ 1000000 := by omega
  have hn0 : (n : Int) ≤ 1000000 := by omega
  obtain ⟨y, hy⟩ : ∃ y, trimN L n = y := ⟨_, rfl⟩
  rw [hy]
  have HY := Lib.hid hy
  clear hZ hc hs hy
  go_enter Tryz.func145, Tryz.ntmps145
  go_wp2
  go_loop [0] (fun v => ∃ k : Nat, k ≤ n ∧ v = .slice A k c ∧ Hid (trimN L k = y)) (fun v => match v with | .slice _ k _ => k | _ => 0)
  case atStart => exact ⟨n, by omega, rfl, HY⟩
  case round =>
    obtain ⟨k, hk, rfl, HK⟩ := hrel
    by_cases h0 : k = 0
    · subst h0
      have h1 : 0 = y := HK.out
      subst h1
      go_wp2
      go_ret
      exact ⟨rfl, rfl⟩
    · obtain ⟨m, rfl⟩ : ∃ m, k = m + 1 := ⟨k - 1, by omega⟩
      have hkc := Nat.le_trans hk Hc.out
      obtain ⟨b, off, x, rfl, hbl, hx, hcell⟩ := H.out.cellAt (k := m) (by omega)
      have hst : (if L[m]? = some 0 then trimN L m else m + 1) = y := HK.out
      rw [hx] at hst
      have hk0 : (0 : Int) < ((m + 1 : Nat) : Int) := by omega
      have hk1 : ((m + 1 : Nat) : Int) - 1 = (m : Int) := by omega
      have hm0 : (0 : Int) ≤ (m : Int) := by omega
      have hm1 : (m : Int) < ((m + 1 : Nat) : Int) := by omega
      have hm2 : ((m + 1 : Nat) : Int) ≤ (c : Int) := by omega
      have hm3 : ((m + 1 : Nat) : Int) ≤ 1000000 := by omega
      have hmt : ((m : Int)).toNat = m := by omega
      by_cases hx0 : x = 0
      · subst hx0
        rw [if_pos rfl] at hst
        have Hst := Lib.hid hst
        clear hst HK hx
        go_wp2
        exact ⟨⟨m, by omega, rfl, Hst⟩, by show m < m + 1; omega⟩
      · rw [if_neg (by intro q; exact hx0 (Option.some.inj q))] at hst
        subst hst
        have hxn : ((x : Int) == 0) = false := by rw [beq_eq_false_iff_ne]; omega
        clear HK hx HY hx0
        go_wp2
        go_ret
        exact ⟨rfl, rfl⟩
/-- The words of a natural below 2^64. -/
def wL (N : Nat) : List Nat := if N = 0 then [] else [N]
/-- A natural of a word lies in this value. -/
def W1 (w : World) (v : Value) (N : Nat) : Prop := N < 18446744073709551616 ∧ ∃ A c, v = .slice A (wL N).length c ∧ WdsZ w A (wL N).length (wL N)
theorem W1.below {w w' : World} {v : Value} {N : Nat} (h : W1 w v N) (hb : Below w.heap.size w w') : W1 w' v N := by
  obtain ⟨h0, A, c, e, hz⟩ := h
  exact ⟨h0, A, c, e, hz.below hb⟩
theorem W1.zero {w : World} {v : Value} (h : W1 w v 0) : ∃ A c, v = .slice A 0 c := by
  obtain ⟨_, A, c, e, _⟩ := h
  exact ⟨A, c, e⟩
theorem W1.pos {w : World} {v : Value} {N : Nat} (h : W1 w v N) (hN : 0 < N) : N < 18446744073709551616 ∧ ∃ g off c, v = .slice (some ⟨g, off, none⟩) 1 c ∧ g < w.heap.size ∧ w.cell? ⟨g, off, none⟩ = some (.int .u64 (N : Int)) := by
  obtain ⟨h0, A, c, e, hz⟩ := h
  have hl : wL N = [N] := if_neg (by omega)
  rw [hl] at e hz
  obtain ⟨g, off, x, hA, hg, hx, hc⟩ := hz.cellAt (k := 0) (by simp)
  obtain rfl : N = x := Option.some.inj hx
  exact ⟨h0, g, off, c, by rw [e, hA]; rfl, hg, hc⟩
theorem W1.mk0 (w : World) (A : Option Addr) (c : Nat) : W1 w (.slice A 0 c) 0 := ⟨by omega, A, c, rfl, rfl, fun h => absurd h (by simp [wL])⟩
theorem W1.mk1 {w : World} {g off c N : Nat} (hN : 0 < N) (h : N < 18446744073709551616) (hg : g < w.heap.size) (hc : w.cell? ⟨g, off, none⟩ = some (.int .u64 (N : Int))) : W1 w (.slice (some ⟨g, off, none⟩) 1 c) N := by
  have hl : wL N = [N] := if_neg (by omega)
  refine ⟨h, _, c, by rw [hl]; rfl, by rw [hl], fun _ => ⟨g, off, rfl, hg, fun j x hx => ?_⟩⟩
  rw [hl] at hx
  cases j with
  | zero => obtain rfl : N = x := Option.some.inj hx; exact hc
  | succ j => simp at hx
theorem new_word (w : World) (x : Value) (t : TypeId) : (w.alloc (.cells #[x] t)).cell? ⟨w.heap.size, 0, none⟩ = some x := World.cell?_alloc_mark w #[x] t _ 0
def NatPost (N : Nat) (w : World) (e : Ending) (w' : World) : Prop := ∃ v, e = .returned v ∧ W1 w' v N ∧ Below w.heap.size w w'
set_option maxHeartbeats 1000000 in
theorem naFromWord_any (N : Nat) (h : N < 18446744073709551616) (w : World) : Calls Tryz.prog 137 #[.int .u64 (N : Int)] w (NatPost N w) := by
  have Hh := Lib.hid h
  have hT := fun (g : Nat) (w1 : World) (hZ : WdsZ w1 (some ⟨g, 0, none⟩) 1 [N]) => naTrim_any [N] 1 1 (some ⟨g, 0, none⟩) w1 hZ (by omega) (by omega)
  clear h
  go_enter Tryz.func137, Tryz.ntmps137
  go_wp2_with fail
  refine (hT _ _ ?_).mono ?_
  · refine ⟨rfl, fun _ => ⟨_, 0, rfl, by simp, fun j x hx => ?_⟩⟩
    cases j with
    | zero => obtain rfl : N = x := Option.some.inj hx; exact new_word w _ _
    | succ j => simp at hx
  rintro e w1 ⟨rfl, rfl⟩
  go_wp2
  go_ret
  refine ⟨_, rfl, ?_, balloc _ (Below.refl _ _)⟩
  by_cases h0 : N = 0
  · subst h0; exact W1.mk0 _ _ _
  · have e : trimN [N] 1 = 1 := by unfold trimN; rw [if_neg (by intro q; exact h0 (Option.some.inj q))]
    show W1 _ (.slice (some ⟨w.heap.size, 0, none⟩) (trimN [N] 1) 1) N
    rw [e]
    exact W1.mk1 (by omega) Hh.out (by simp) (new_word w _ _)
set_option maxHeartbeats 1000000 in
theorem naIsOne_any (v : Value) (N : Nat) (w : World) (h : W1 w v N) : Calls Tryz.prog 139 #[v] w (RetSame (.bool (decide (N = 1))) w) := by
  by_cases h0 : N = 0
  · subst h0
    obtain ⟨A, c, rfl⟩ := h.zero
    go_enter Tryz.func139, Tryz.ntmps139
    go_wp2
    go_ret
    exact ⟨rfl, rfl⟩
  · obtain ⟨hN, g, off, c, rfl, hg, hc⟩ := h.pos (by omega)
    have hc0 : w.cell? ⟨g, off + 0, none⟩ = some (.int .u64 (N : Int)) := hc
    by_cases h1 : N = 1
    · subst h1
      go_enter Tryz.func139, Tryz.ntmps139
      go_wp2
      go_ret
      exact ⟨rfl, rfl⟩
    · have hd : decide (N = 1) = false := decide_eq_false h1
      rw [hd]
      have hx : ((N : Int) == 1) = false := by rw [beq_eq_false_iff_ne]; omega
      clear h hd
      go_enter Tryz.func139, Tryz.ntmps139
      go_wp2
      go_ret
      exact ⟨rfl, rfl⟩
end Go.Mk
end
