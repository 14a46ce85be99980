/-
  Proved: plain facts on names, and on the teams of a relay: the first error of names; the error of a team that
  Proved: slices.Contains at texts, and the reference's Has, say whether a text is one of a list; the first
-/
import Derived.Test.YthgkaojplomapaaGreatDoorXi
import Derived.Deep.RegionHeld3
set_option maxHeartbeats 32000000
set_option linter.unusedVariables false
set_option linter.unusedSimpArgs false
open Go Go.Proofs Go.RowKit
set_option maxRecDepth 100000
section
namespace Go.Mk
def nmE (s : ByteArray) : Int := if isNm s then 0 else 8
def isIn (P : List ByteArray) (s : ByteArray) : Bool := P.any fun t => decide (t = s)
theorem isIn_snoc (P : List ByteArray) (t s : ByteArray) : isIn (P ++ [t]) s = (isIn P s || decide (t = s)) := by simp [isIn]
theorem isIn_mem {P : List ByteArray} {s : ByteArray} : isIn P s = true ↔ s ∈ P := by
 unfold isIn
 rw [List.any_eq_true]
 constructor
 ·rintro ⟨t, ht, h⟩
  rw [of_decide_eq_true h] at ht
  exact ht
 ·intro h
  exact ⟨s, h, decide_eq_true rfl⟩
def twE (P : List ByteArray) (s : ByteArray) : Int := fstN [nmE s, if isIn P s then 9 else 0]
def nmsE : List ByteArray → List ByteArray → Int
 | _, [] => 0
 | P, s :: l => if twE P s = 0 then nmsE (P ++ [s]) l else twE P s
theorem nmsE_drop {L : List ByteArray} {k : Nat} {s : ByteArray} (h : L[k]? = some s) : nmsE (L.take k) (L.drop k) = if twE (L.take k) s = 0 then nmsE (L.take (k + 1)) (L.drop (k + 1)) else twE (L.take k) s := by
 obtain ⟨hk, e⟩ := List.getElem?_eq_some_iff.1 h
 rw [List.drop_eq_getElem_cons hk, e, nmsE, List.take_add_one, h]
 rfl
def dst : List ByteArray → List ByteArray → List ByteArray
 | P, [] => P
 | P, s :: l => dst (if isIn P s then P else P ++ [s]) l
end Go.Mk
end
section
namespace Go.Mk
def TextsZ (w : World) (A : Option Addr) (n : Nat) (L : List ByteArray) : Prop :=
 L.length = n ∧ (0 < n → ∃ g off, A = some ⟨g, off, none⟩ ∧ g < w.heap.size ∧ ∀ (j : Nat) (x : ByteArray), L[j]? = some x → w.cell? ⟨g, off + j, none⟩ = some (.string x))
theorem TextsZ.below {w w' : World} {A : Option Addr} {n : Nat} {L : List ByteArray} (h : TextsZ w A n L) (hb : Below w.heap.size w w') : TextsZ w' A n L := by
 refine ⟨h.1, fun hn => ?_⟩
 obtain ⟨g, off, e, hlt, hc⟩ := h.2 hn
 exact ⟨g, off, e, Nat.lt_of_lt_of_le hlt hb.size, fun j x hx => (hb.cell (p := ⟨g, _, none⟩) hlt).trans (hc j x hx)⟩
theorem TextsZ.take {w : World} {A : Option Addr} {n : Nat} {L : List ByteArray} (h : TextsZ w A n L) {k : Nat} (hk : k ≤ n) : TextsZ w A k (L.take k) := by
 refine ⟨by rw [List.length_take, h.1]; omega, fun h0 => ?_⟩
 obtain ⟨g, off, e, hlt, hc⟩ := h.2 (by omega)
 refine ⟨g, off, e, hlt, fun j x hx => hc j x ?_⟩
 have hj := (List.getElem?_eq_some_iff.1 hx).1
 rw [List.length_take] at hj
 rwa [List.getElem?_take_of_lt (by omega)] at hx
theorem TextsZ.at_ {w : World} {A : Option Addr} {n : Nat} {L : List ByteArray} (h : TextsZ w A n L) {k : Nat} (hk : k < n) : ∃ b off x, A = some ⟨b, off, none⟩ ∧ b < w.heap.size ∧ L[k]? = some x ∧ w.cell? ⟨b, off + k, none⟩ = some (.string x) := by
 obtain ⟨b, off, e, hlt, hc⟩ := h.2 (by omega)
 have hl : k < L.length := by rw [h.1]; exact hk
 exact ⟨b, off, L[k], e, hlt, List.getElem?_eq_getElem hl, hc k L[k] (List.getElem?_eq_getElem hl)⟩
theorem isIn_take {L : List ByteArray} {k : Nat} {x s : ByteArray} (h : L[k]? = some x) : isIn (L.take (k + 1)) s = (isIn (L.take k) s || decide (x = s)) := by
 rw [List.take_add_one, h, Option.toList_some, isIn_snoc]
theorem isIn_at {L : List ByteArray} {k : Nat} {x : ByteArray} (h : L[k]? = some x) : isIn L x = true := isIn_mem.2 (List.mem_of_getElem? h)
theorem tl_ne {x s : ByteArray} (h : ¬ x = s) : (x.toList == s.toList) = false := by
 rw [beq_eq_false_iff_ne]
 intro q
 rw [ByteArray.toList_eq, ByteArray.toList_eq] at q
 exact h (ByteArray.ext (Array.toList_inj.1 q))
theorem slIndexS_any (L : List ByteArray) (s : ByteArray) (n cap : Nat) (A : Option Addr) (w : World) (hZ : TextsZ w A n L) (hn : n ≤ 100000) :
  Calls Tryz.prog 187 #[.slice A n cap, .string s] w (fun e w' => ∃ z : Int, e = .returned (.int .i64 z) ∧ decide (0 ≤ z) = isIn L s ∧ w = w') := by
 have hn0 : (n : Int) ≤ 100000 := by omega
 have HM := Lib.hid hZ
 have Hlen : Hid (L.length = n) := hZ.1
 obtain ⟨X, hX⟩ : ∃ X, isIn L s = X := ⟨_, rfl⟩
 have HX := Lib.hid hX
 rw [hX]
 clear hZ hX hn
 go_enter Tryz.func187, Tryz.ntmps187
 go_wp2
 go_loop [8] (fun i => ∃ k : Nat, k ≤ n ∧ i = .int .i64 k ∧ Hid (isIn (L.take k) s = false)) (fun i => n - (RowKit.intOf i).toNat)
 case atStart => exact ⟨0, by omega, rfl, Lib.hid rfl⟩
 case round =>
  obtain ⟨k, hk, rfl, HK⟩ := hrel
  by_cases hlt : k < n
  ·obtain ⟨b, off, x, rfl, _, hLk, c1'⟩ := HM.out.at_ hlt
   have hki : (k : Int) < (n : Int) := by omega
   by_cases g : x = s
   ·have hXt : true = X := by rw [← HX.out, ← g]; exact (isIn_at hLk).symm
    subst hXt
    have gb : (s.toList == x.toList) = true := by rw [g]; simp
    clear hLk g HK HX
    as_aux_lemma =>
     go_wp2
     go_ret
     exact ⟨_, rfl, by simp, rfl⟩
   ·have HK2 : Hid (isIn (L.take (k + 1)) s = false) := (show _ = _ by rw [isIn_take hLk, HK.out, decide_eq_false g]; rfl)
    have gb : (s.toList == x.toList) = false := tl_ne (fun q => g q.symm)
    clear hLk g HK HX
    as_aux_lemma =>
     go_wp2
     exact ⟨⟨k + 1, by omega, by go_num, HK2⟩, by simp [RowKit.intOf]; omega⟩
  ·have hz := HK.out
   rw [List.take_of_length_le (by rw [Hlen.out]; omega), HX.out] at hz
   subst hz
   go_wp2
   go_ret
   exact ⟨_, rfl, by decide, rfl⟩
theorem slContainsS_any (L : List ByteArray) (s : ByteArray) (n cap : Nat) (A : Option Addr) (w : World) (hZ : TextsZ w A n L) (hn : n ≤ 100000) :
  Calls Tryz.prog 180 #[.slice A n cap, .string s] w (RetSame (.bool (isIn L s)) w) := by
 have hI := slIndexS_any L s n cap A w hZ hn
 clear hZ
 go_enter Tryz.func180, Tryz.ntmps180
 go_wp2_with fail
 refine hI.mono ?_
 rintro e w' ⟨z, rfl, hz, rfl⟩
 rw [← hz]
 go_wp2
 go_ret
 exact ⟨rfl, rfl⟩
theorem es2 (w : World) (x y : Int) (t : TypeId) : Es (w.alloc (.cells #[.int .i64 x, .int .i64 y] t)) w.heap.size [x, y] := by
 intro i v hv
 match i, hv with
 | 0, hv => simp at hv; subst hv; simp
 | 1, hv => simp at hv; subst hv; simp
end Go.Mk
end
