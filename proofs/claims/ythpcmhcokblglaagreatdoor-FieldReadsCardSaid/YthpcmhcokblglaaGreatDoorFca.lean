/-
  Proved: split of package field gives the number of failures at the beginning of a text and what stands behind them; inARow gives the failures in a row at the end of texts. Conditions: the texts lie where the slice says; each is no longer than an int says, and there are at most 1,000 of at most 1,000 bytes for inARow.
-/
import Derived.Test.YthpcmhcokblglaaGreatDoorFa
import Derived.Laws.Runes
set_option linter.unusedVariables false
set_option linter.unusedSimpArgs false
open Go Go.Proofs Go.RowKit
set_option maxRecDepth 100000
namespace Go.Mk
/-- The failures at the beginning of a text. -/
def nxL : List UInt8 → Nat
  | [] => 0
  | c :: l => if c = 120 then nxL l + 1 else 0
def nx (s : ByteArray) : Nat := nxL s.data.toList
/-- What stands behind them. -/
def endX (s : ByteArray) : ByteArray := s.extract (nx s) s.size
theorem nxL_le (l : List UInt8) : nxL l ≤ l.length := by
  induction l with
  | nil => exact Nat.le_refl _
  | cons c l ih =>
    rw [nxL]
    split
    · simpa using ih
    · simp
theorem nx_le (s : ByteArray) : nx s ≤ s.size := nxL_le _
theorem dropAt (s : ByteArray) (k : Nat) (hk : k < s.size) : s.data.toList.drop k = s[k] :: s.data.toList.drop (k + 1) := by
  have hl : k < s.data.toList.length := by rw [Array.length_toList]; exact hk
  rw [List.drop_eq_getElem_cons hl]
  rfl
theorem dropEnd (s : ByteArray) (k : Nat) (hk : s.size ≤ k) : s.data.toList.drop k = [] := List.drop_eq_nil_of_le (by rw [Array.length_toList]; exact hk)
theorem enc_not (r : Int) (h0 : 0 ≤ r) (h : r ≠ 120) : ((Utf8.encode r).toList == [120]) = false := by
  rw [beq_eq_false_iff_ne, ByteArray.toList_eq]
  intro q
  have hsz : (Utf8.encode r).size = 1 := by
    have := congrArg List.length q
    rw [Array.length_toList] at this
    exact this
  by_cases hv : Utf8.valid r = true
  · by_cases h1 : 128 ≤ r
    · have := (encode_facts r hv h1).1
      omega
    · have h2 : r.toNat < 128 := by omega
      unfold Utf8.encode at q
      simp only [hv, if_true, h2] at q
      have q' : UInt8.ofNat r.toNat = 120 := by simpa using q
      have q2 := congrArg UInt8.toNat q'
      have q3 : r.toNat % 256 = 120 := q2
      omega
  · have hf : Utf8.valid r = false := by simpa using hv
    unfold Utf8.encode at hsz
    rw [hf] at hsz
    have : (3 : Nat) = 1 := hsz
    omega
theorem enc_x : ((Utf8.encode 120).toList == [120]) = true := by rw [ByteArray.toList_eq]; decide
theorem x_u8 {c : UInt8} (h : c.toNat = 120) : c = 120 := UInt8.toNat_inj.1 h
set_option maxHeartbeats 4000000 in
theorem fdSplit_any (s : ByteArray) (w : World) (hz : s.size ≤ maxLen) : Calls Tryz.prog 158 #[.string s] w (RetPost (.tuple #[.int .i64 (nx s), .string (endX s)]) w) := by
  have hml : maxLen = 9223372036854775807 := rfl
  have hsz : (s.size : Int) ≤ 9223372036854775807 := by omega
  have hbel : ∀ k, Below w.heap.size w (w.iter s k) := fun k => (Below.refl _ _).alloc (Nat.le_refl _) _
  have HB := Lib.hid hbel
  obtain ⟨n, hn⟩ : ∃ n, nx s = n := ⟨_, rfl⟩
  unfold endX
  rw [hn]
  have HN : Hid (nxL s.data.toList = n) := hn
  have hsl : ∀ (k : Nat) W, k ≤ s.size → (Instr.slice 9 (.string s) (some (.int .i64 k)) none none).run Tryz.prog W = .ok (.string (s.extract k s.size)) W := fun k W hk => by
    rw [run_slice_string_l (P := Tryz.prog) (ht := Tryz.underlying9) (h0 := by omega) (h1 := by omega)]
    simp
  have HSL := Lib.hid hsl
  clear hn hbel hsl
  go_enter Tryz.func158, Tryz.ntmps158
  go_wp2_with fail
  go_loopw [] (fun wr => ∃ k, wr = w.iter s k ∧ k ≤ s.size ∧ Hid (n = k + nxL (s.data.toList.drop k))) (fun wr => s.size - wr.iterPos w.heap.size)
  case atStart => exact ⟨0, rfl, by omega, (show _ = _ by rw [← HN.out]; simp)⟩
  case round =>
    obtain ⟨k, rfl, hk, HK⟩ := hrel
    by_cases hlt : k < s.size
    · have hst := dropAt s k hlt
      by_cases hx : s[k].toNat = 120
      · have hnx := fun ty => run_next_ascii (P := Tryz.prog) w s k ty hlt (by omega)
        rw [hx] at hnx
        have HK2 : Hid (n = (k + 1) + nxL (s.data.toList.drop (k + 1))) := (show _ = _ by
          have := HK.out
          rw [hst, nxL, if_pos (x_u8 hx)] at this
          omega)
        have he := enc_x
        clear hst hx HK
        go_wp2_with fail
        go_roundw
        case rel => exact ⟨k + 1, rfl, by omega, HK2⟩
        case measure => (simp; omega)
      · have hnk : n = k := by
          have := HK.out
          rw [hst, nxL, if_neg (fun q => hx (by rw [q]; rfl))] at this
          omega
        subst hnk
        have hsl := fun W => HSL.out n W hk
        clear HK hst
        by_cases hb : s[n].toNat < 128
        · have hnx := fun ty => run_next_ascii (P := Tryz.prog) w s n ty hlt hb
          have he := enc_not (s[n].toNat : Int) (by omega) (by omega)
          generalize (s[n].toNat : Int) = r at *
          clear hb hx
          have hn0 : (0 : Int) ≤ (n : Int) := by omega
          have hnt : ((n : Int)).toNat = n := by omega
          have hns : (n : Int) ≤ (s.size : Int) := by omega
          go_wp2_with fail
          go_region
          go_wp2
          go_ret2
          exact ⟨rfl, (HB.out _).drew⟩
        · have hnx := fun ty => run_next_any (P := Tryz.prog) w s n ty hlt
          obtain ⟨hh1, hh2⟩ := decode_high s n hlt (by omega)
          have he := enc_not ((Utf8.decode s n).1 : Int) (by omega) (by omega)
          generalize ((Utf8.decode s n).1 : Int) = r at *
          generalize (Utf8.decode s n).2 = st at *
          clear hb hx
          have hn0 : (0 : Int) ≤ (n : Int) := by omega
          have hnt : ((n : Int)).toNat = n := by omega
          have hns : (n : Int) ≤ (s.size : Int) := by omega
          go_wp2_with fail
          go_region
          go_wp2
          go_ret2
          exact ⟨rfl, (HB.out _).drew⟩
    · have hnx := fun ty => run_next_end (P := Tryz.prog) w s k ty hlt
      have hnk : n = s.size := by
        have := HK.out
        rw [dropEnd s k (by omega), nxL] at this
        omega
      subst hnk
      clear HK
      go_wp2_with fail
      go_ret2
      exact ⟨by simp; rfl, HB.out _⟩
end Go.Mk
