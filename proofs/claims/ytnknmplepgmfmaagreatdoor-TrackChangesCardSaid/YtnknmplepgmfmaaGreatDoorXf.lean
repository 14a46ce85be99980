/-
  Proved: the error of a team that may differ from the first one by package track (changeError), which adds to a map of substitutes. Conditions: the names lie where the slices say, below the map's block; the map holds just the substitutes so far; at most 1,000 names, each no longer than an int says.
-/
import Derived.Test.YtnknmplepgmfmaaGreatDoorXe
import Derived.Maps.OwnOps
import Derived.Maps.OwnSet
import Derived.Maps.Views
import Derived.Maps.AppendAt
import Derived.StringKeys
set_option linter.unusedVariables false
set_option linter.unusedSimpArgs false
open Go Go.Proofs Go.RowKit Go.Maps Go.WideMaps
set_option maxRecDepth 100000
namespace Go.Mk
/-- Block B is a map of the call's own that holds just the names of a list, each once. -/
def NSet (w : World) (B n : Nat) (P : List ByteArray) : Prop :=
  ∃ D : DataW Unit, w.ownsMap Tryz.prog 9 (plainElem Tryz.prog 4) B n D ∧ Tidy D ∧ Maps.size D = P.length ∧
    ∀ s : ByteArray, Maps.has D (.string s.data.toList) = isIn P s
theorem NSet.lt {w : World} {B n : Nat} {P : List ByteArray} (h : NSet w B n P) : B < w.heap.size := by
  obtain ⟨D, h, _⟩ := h
  exact h.lt
theorem NSet.kept {w w' : World} {B n : Nat} {P : List ByteArray} (h : NSet w B n P) (hg : w'.heap[B]? = w.heap[B]?) : NSet w' B n P := by
  obtain ⟨D, ⟨es, clock, hb, F, hs, hD⟩, r⟩ := h
  exact ⟨D, ⟨es, clock, hg.trans hb, F, hs, hD⟩, r⟩
theorem NSet.below {w w' : World} {B n : Nat} {P : List ByteArray} (h : NSet w B n P) (hb : Below w.heap.size w w') : NSet w' B n P := h.kept (hb.block B h.lt)
theorem NSet.made (w : World) : NSet (w.alloc (.map #[] 0)) w.heap.size 0 [] :=
  ⟨.map [], World.ownsMap_made _ _ _ _, tidy_empty, rfl, fun s => rfl⟩
theorem setKeyed : Keyed Tryz.prog 9 := string_keyed Tryz.underlying9
theorem NSet.put {w : World} {B n : Nat} {P : List ByteArray} {D : DataW Unit} (hm : Tidy D) (hz : Maps.size D = P.length) (hD : ∀ s : ByteArray, Maps.has D (.string s.data.toList) = isIn P s) (s : ByteArray)
    (ho : w.ownsMap Tryz.prog 9 (plainElem Tryz.prog 4) B n (D.put (.string s.data.toList) (.lit (.bool true)))) : NSet w B n (if isIn P s then P else P ++ [s]) := by
  refine ⟨_, ho, hm.put (show WideAt.IsKeyLit (.string s.data.toList) from trivial) _, ?_, fun t => ?_⟩
  · rw [size_put hm, hD s, hz]
    split <;> simp
  · by_cases h : t = s
    · subst h
      rw [has_put_same hm.isMap (show WideAt.IsKeyLit (.string t.data.toList) from trivial), isIn_put]
      simp
    · have hne : (Lit.string t.data.toList) ≠ .string s.data.toList := by
        intro q
        injection q with q
        exact h (ByteArray.ext (Array.toList_inj.1 q))
      rw [has_put_other hne, hD t, isIn_put, decide_eq_false (fun q : s = t => h q.symm), Bool.or_false]
/-- The texts of a list lie in the cells of a slice, in a block below a bound. -/
def TextsB (w : World) (B : Nat) (A : Option Addr) (n : Nat) (L : List ByteArray) : Prop :=
  L.length = n ∧ B ≤ w.heap.size ∧ (0 < n → ∃ g off, A = some ⟨g, off, none⟩ ∧ g < B ∧ ∀ (j : Nat) (x : ByteArray), L[j]? = some x → w.cell? ⟨g, off + j, none⟩ = some (.string x))
theorem TextsB.toZ {w : World} {B n : Nat} {A : Option Addr} {L : List ByteArray} (h : TextsB w B A n L) : TextsZ w A n L := by
  refine ⟨h.1, fun hn => ?_⟩
  obtain ⟨g, off, e, hlt, hc⟩ := h.2.2 hn
  exact ⟨g, off, e, Nat.lt_of_lt_of_le hlt h.2.1, hc⟩
theorem TextsB.below {w w' : World} {B K n : Nat} {A : Option Addr} {L : List ByteArray} (h : TextsB w B A n L) (hb : Below K w w') (hB : B ≤ K) : TextsB w' B A n L := by
  refine ⟨h.1, Nat.le_trans h.2.1 hb.size, fun hn => ?_⟩
  obtain ⟨b, off, e, hlt, hc⟩ := h.2.2 hn
  exact ⟨b, off, e, hlt, fun j x hx => (hb.cell (p := ⟨b, _, none⟩) (Nat.lt_of_lt_of_le hlt hB)).trans (hc j x hx)⟩
theorem TextsZ.toB {w : World} {n : Nat} {A : Option Addr} {L : List ByteArray} (h : TextsZ w A n L) : TextsB w w.heap.size A n L := ⟨h.1, Nat.le_refl _, h.2⟩
theorem grown_of {w a b : World} {B : Nat} (h : Below w.heap.size w a) (g : a.grownBy b (some B)) : w.grownBy b (some B) :=
  ⟨g.os.trans h.os, g.tape.trans h.tape, g.output.trans h.output, Nat.le_trans h.size g.size, fun i hi hne => (g.block i (Nat.lt_of_lt_of_le hi h.size) hne).trans (h.block i hi)⟩
set_option maxHeartbeats 4000000 in
theorem trChange_any (F R T P : List ByteArray) (nf cf nr cr nt ct B N : Nat) (Af Ar At : Option Addr) (w : World) (hF : TextsB w B Af nf F) (hR : TextsB w B Ar nr R) (hT : TextsB w B At nt T) (hM : NSet w B N P)
    (hnf : nf ≤ 1000) (hnr : nr ≤ 1000) (hnt : nt ≤ 1000) (hN : N ≤ 1000000) (hs : ∀ x ∈ T, x.size ≤ maxLen) :
    Calls Tryz.prog 70 #[.slice Af nf cf, .slice Ar nr cr, .slice At nt ct, .map (some B)] w (fun e w' => e = .returned (.int .i64 (chgE F R P T).1) ∧ (∃ n', n' ≤ N + nt ∧ NSet w' B n' (chgE F R P T).2) ∧ w.grownBy w' (some B)) := by
  have hnti : (nt : Int) ≤ 1000 := by omega
  have HT := Lib.hid hT
  have Hlen := Lib.hid hT.1
  have HL := Lib.hid hM.lt
  have HS := Lib.hid hs
  have HF : Hid (∀ w' s, Below B w w' → Calls Tryz.prog 106 #[.slice Af nf cf, .string s] w' (RetSame (.bool (isIn F s)) w')) := Lib.hid fun w' s hb => slContainsS_any F s nf cf Af w' (hF.below hb (Nat.le_refl _)).toZ (by omega)
  have HR : Hid (∀ w' s, Below B w w' → Calls Tryz.prog 106 #[.slice Ar nr cr, .string s] w' (RetSame (.bool (isIn R s)) w')) := Lib.hid fun w' s hb => slContainsS_any R s nr cr Ar w' (hR.below hb (Nat.le_refl _)).toZ (by omega)
  obtain ⟨Y, hY⟩ : ∃ Y, chgE F R P T = Y := ⟨_, rfl⟩
  rw [hY]
  have HY : Hid (chgE F R P (T.drop 0) = Y) := Lib.hid (by rw [List.drop_zero]; exact hY)
  clear hF hR hT hY hs
  go_enter Tryz.func70, Tryz.ntmps70
  go_wp2
  go_loopw [13] (fun i wr => ∃ (k n' : Nat) (Q : List ByteArray), k ≤ nt ∧ n' ≤ N + k ∧ i = .int .i64 k ∧ Hid (chgE F R Q (T.drop k) = Y) ∧ Hid (NSet wr B n' Q) ∧ w.grownBy wr (some B)) (fun i _ => nt - (intOf i).toNat)
  case atStart => exact ⟨0, N, P, by omega, by omega, rfl, HY, Lib.hid hM, World.grownBy.refl _ _⟩
  case round =>
    obtain ⟨k, n', Q, hk, hn', rfl, HK, HM, hG⟩ := hrel
    have hb : Below B w wr := (Below.refl _ _).grown hG (Nat.le_of_lt HL.out) (fun j hj => by cases hj; exact Nat.le_refl _)
    by_cases hlt : k < nt
    · obtain ⟨b, off, x, rfl, hbl, hx, hcx⟩ := (HT.out.below hb (Nat.le_refl _)).toZ.at_ hlt
      have hst := HK.out
      rw [chgE_drop hx] at hst
      have hki : (k : Int) < (nt : Int) := by omega
      have hCF := HF.out wr x hb
      have hCR := HR.out wr x hb
      have hxz := HS.out x (List.mem_of_getElem? hx)
      clear hx HK
      cases hf : isIn F x with
      | true =>
        rw [hf] at hst hCF
        rw [if_pos rfl] at hst
        have Hst := Lib.hid hst
        clear hst hCR hf HY
        as_aux_lemma =>
          go_wp2_with fail
          refine hCF.mono ?_
          rintro e w' ⟨rfl, rfl⟩
          go_wp2
          go_roundw
          case rel => exact ⟨k + 1, n', Q, by omega, by omega, by go_num, Hst, HM, hG⟩
          case measure => simp [intOf]; omega
      | false =>
        rw [hf] at hst hCF
        rw [if_neg (by simp)] at hst
        cases hr : isIn R x with
        | false =>
          rw [hr] at hst hCR
          rw [if_neg (by simp)] at hst
          subst hst
          clear hf hr HY
          as_aux_lemma =>
            go_wp2_with fail
            refine hCF.mono ?_
            rintro e w' ⟨rfl, rfl⟩
            go_wp2_with fail
            refine hCR.mono ?_
            rintro e w' ⟨rfl, rfl⟩
            go_wp2
            go_ret
            exact ⟨rfl, ⟨n', by omega, HM.out⟩, hG⟩
        | true =>
          rw [hr] at hst hCR
          rw [if_pos rfl] at hst
          have Hst := Lib.hid hst
          clear hst hf hr HY
          as_aux_lemma =>
            go_wp2_with fail
            refine hCF.mono ?_
            rintro e w' ⟨rfl, rfl⟩
            go_wp2_with fail
            refine hCR.mono ?_
            rintro e w' ⟨rfl, rfl⟩
            obtain ⟨D, ho, hm, hsz, hD⟩ := HM.out
            have HD := Lib.hid hD
            have HZ := Lib.hid hsz
            clear hD hsz
            go_wp2_with (first
              | (at_mapUpdate; refine wpList_mapUpdate_own _ rfl _ _ _ 117 rfl 9 4 setKeyed Tryz.underlying117 (plainElem (H := Unit) Tryz.prog 4) B n' _ rfl ho (by unfold maxLen; omega) _ _ _ rfl rfl (keyOf_string_mk Tryz.underlying9 hxz) _ [] (plainElem_bool Tryz.underlying4 true) ?_; intro w1 hown1 hgrow1)
              | go_in)
            go_roundw
            case rel => exact ⟨k + 1, n' + 1, _, by omega, by omega, by go_num, Hst, Lib.hid (NSet.put hm HZ.out HD.out x hown1), hG.trans hgrow1⟩
            case measure => simp [intOf]; omega
    · have hkn : k = nt := by omega
      have h0 := HK.out
      rw [hkn, List.drop_of_length_le (by rw [Hlen.out]; omega), chgE] at h0
      obtain ⟨D, ho, hm, hsz, hD⟩ := HM.out
      have hW0 := fun w => trWhen_any (decide (2 < (Q.length : Int))) 18 w
      have hif : (if (decide (2 < (Q.length : Int))) = true then (18 : Int) else 0) = if 2 < Q.length then 18 else 0 := by
        by_cases q : 2 < Q.length
        · rw [if_pos q, if_pos (by simp; omega)]
        · rw [if_neg q, if_neg (by simp; omega)]
      rw [hif] at hW0
      obtain ⟨e, he⟩ : ∃ e : Int, (if 2 < Q.length then (18 : Int) else 0) = e := ⟨_, rfl⟩
      rw [he] at h0 hW0
      subst h0
      clear he
      clear hif HK
      go_wp2_with (first
        | (at_len; refine wpList_len_own _ rfl _ 117 rfl 9 4 Tryz.underlying117 _ B n' _ rfl ho ?_)
        | (go_at_call 51; (with_reducible refine (hW0 _).mono ?_); rintro e w' ⟨rfl, rfl⟩)
        | go_in)
      go_ret
      first | exact ⟨rfl, ⟨n', by omega, HM.out⟩, hG⟩ | exact ⟨⟨n', by omega, HM.out⟩, hG⟩
end Go.Mk
