/-
  Proved: the reference's CheckEntrants returns the same plain error. Conditions: the entrants lie where the slice says; the texts are no longer than an int says.
  Proved: laws on rows of texts and of integers in new memory. Conditions: what each of them names.
-/
import Derived.Test.YtccgahkoekcefaaGreatDoorEc
import Derived.Test.YtccgahkoekcefaaGreatDoorCa
import Derived.Laws.OwnMore
import Derived.Laws.AppendOwn
import Derived.Lib.SmallJoins
import Derived.Outline
import Derived.Deep.DeepCutAuto
import Derived.Deep.LoopGhost
section
set_option linter.unusedVariables false
set_option linter.unusedSimpArgs false
open Go Go.Proofs Go.RowKit Go.Maps Go.WideMaps
set_option maxRecDepth 100000
namespace Go.Mk
theorem names_snoc {L : List Ent} {k : Nat} {x : Ent} (h : L[k]? = some x) : (L.take (k + 1)).map Ent.name = (L.take k).map Ent.name ++ [x.name] := by
  rw [List.take_add_one, h]; simp
theorem isIn_names {L : List Ent} {k j : Nat} {x : Ent} (hj : j < k) (h : L[j]? = some x) : isIn ((L.take k).map Ent.name) x.name = true := by
  unfold isIn
  rw [List.any_eq_true]
  refine ⟨x.name, List.mem_map.2 ⟨x, ?_, rfl⟩, by simp⟩
  exact List.mem_iff_getElem?.2 ⟨j, by rw [List.getElem?_take_of_lt hj]; exact h⟩
theorem entE_name {P : List ByteArray} {x : Ent} (h : isNm x.name = false) : entE P x = 8 := by simp [entE, twE, nmE, fstN, h]
theorem entE_twice {P : List ByteArray} {x : Ent} (h : isNm x.name = true) (h2 : isIn P x.name = true) : entE P x = 9 := by simp [entE, twE, nmE, fstN, h, h2]
theorem entE_club {P : List ByteArray} {x : Ent} (h : isNm x.name = true) (h2 : isIn P x.name = false) (h3 : isNm x.club = false) : entE P x = 8 := by simp [entE, twE, nmE, fstN, h, h2, h3]
theorem entE_mark {P : List ByteArray} {x : Ent} (h : isNm x.name = true) (h2 : isIn P x.name = false) (h3 : isNm x.club = true) : entE P x = chk x.kind x.value x.reason := by
  simp [entE, twE, nmE, fstN, h, h2, h3]
  intro q; exact q.symm
theorem entE_zero {P : List ByteArray} {x : Ent} (h : entE P x = 0) : chk x.kind x.value x.reason = 0 := by
  unfold entE at h
  simp only [fstN] at h
  split at h
  · split at h
    · split at h <;> omega
    · omega
  · omega
theorem entsE_zero : ∀ (P : List ByteArray) (L : List Ent), entsE P L = 0 → ∀ x ∈ L, chk x.kind x.value x.reason = 0
  | _, [], _ => fun x hx => by cases hx
  | P, y :: l, h => by
    unfold entsE at h
    by_cases g : entE P y = 0
    · rw [if_pos g] at h
      intro x hx
      rcases List.mem_cons.1 hx with rfl | hx
      · exact entE_zero g
      · exact entsE_zero _ l h x hx
    · rw [if_neg g] at h
      exact absurd h g
theorem kindFull (s : ByteArray) (v : Int) (r : ByteArray) (h : chk s v r = 0) : s.toList.isEmpty = false := by
  rcases chk_kind s v r h with h | h | h | h <;> subst h <;> rw [ByteArray.toList_eq] <;> rfl
theorem r4CheckEntrants_many (n cap : Nat) (A : Option Addr) (w : World) (h : 160 < (n : Int)) (hm : (n : Int) ≤ 9223372036854775807) :
    Calls Tryz.prog 11 #[.slice A n cap] w (RetPost (.int .i64 5) w) := by
  go_enter Tryz.func11, Tryz.ntmps11
  go_wp2
  go_ret
  exact ⟨rfl, Below.refl _ _⟩
set_option maxHeartbeats 4000000 in
theorem r4CheckEntrants_any (L : List Ent) (n cap : Nat) (A : Option Addr) (B : Nat) (w : World) (hZ : Ents w B A n L) (hn : n ≤ 160) (hs : ∀ x ∈ L, x.ok) :
    Calls Tryz.prog 11 #[.slice A n cap] w (RetPost (.int .i64 (chkEnts L)) w) := by
  have hni : (n : Int) ≤ 160 := by omega
  have HM : Hid (∀ w', Below w.heap.size w w' → Ents w' B A n L) := fun w' hb => hZ.below hb hZ.2.1
  have Hlen : Hid (L.length = n) := hZ.1
  have HS := Lib.hid hs
  have hl : ¬ 160 < L.length := by rw [hZ.1]; omega
  obtain ⟨X, hX⟩ : ∃ X, entsE [] L = X := ⟨_, rfl⟩
  obtain ⟨Y, hY⟩ : ∃ Y, kindsE sNone L = Y := ⟨_, rfl⟩
  obtain ⟨y, hy⟩ : ∃ y, fstN [X, Y] = y := ⟨_, rfl⟩
  rw [show chkEnts L = y by unfold chkEnts; rw [if_neg hl, hX, hY, hy]]
  have HX : Hid (entsE ((L.take 0).map Ent.name) (L.drop 0) = X) := (show _ = _ by rw [List.drop_zero, List.take_zero, List.map_nil, hX])
  have HX0 : Hid (entsE [] L = X) := hX
  have HY : Hid (kindsE sNone (L.drop 0) = Y) := (show _ = _ by rw [List.drop_zero, hY])
  have HE : Hid (X ≠ 0 → X = y) := fun q => by rw [← hy]; simp [fstN, q]
  have HF : Hid (X = 0 → Y = y) := fun q => by rw [← hy]; simp [fstN, q]
  clear hX hY hy hl hZ hs
  go_enter Tryz.func11, Tryz.ntmps11
  go_wp2
  go_loopw [3] (fun i wr => ∃ k : Nat, k ≤ n ∧ i = .int .i64 k ∧ Hid (entsE ((L.take k).map Ent.name) (L.drop k) = X) ∧ Below w.heap.size w wr) (fun i _ => n - (intOf i).toNat)
  case atStart => exact ⟨0, by omega, rfl, HX, Below.refl _ _⟩
  case round =>
    obtain ⟨k, hk, rfl, HK, hb⟩ := hrel
    by_cases hlt : k < n
    · obtain ⟨b, off, x, rfl, hbl, hL, c0, c1, c2, c3, c4⟩ := (HM.out _ hb).at_ hlt
      have hst := HK.out
      rw [drop_cons hL, entsE, ← names_snoc hL] at hst
      obtain ⟨ok1, ok2⟩ := HS.out x (List.mem_of_getElem? hL)
      have HL := Lib.hid hL
      have HXs := Lib.hid hst
      have hki : (k : Int) < (n : Int) := by omega
      have hI := fun w => refIsName_any x.name w ok1
      have hJ := fun w => refIsName_any x.club w ok2
      clear hL HK hst ok1 ok2
      by_cases g1 : isNm x.name = true
      · rw [g1] at hI
        have HG := Lib.hid g1
        clear g1
        have HI : Hid (isIn ((L.take 0).map Ent.name) x.name = false) := (show _ = _ from rfl)
        go_wp2_with fail
        refine (hI _).mono ?_
        rintro e w2 ⟨rfl, rfl⟩
        clear c0 c1 c2 c3 c4
        go_wp2
        go_loopw [4] (fun i wx => ∃ j : Nat, j ≤ k ∧ i = .int .i64 j ∧ Hid (isIn ((L.take j).map Ent.name) x.name = false) ∧ Below w.heap.size w wx) (fun i _ => k - (intOf i).toNat)
        case atStart => exact ⟨0, by omega, rfl, HI, hb⟩
        case round =>
          obtain ⟨j, hj, rfl, HJ, hbx⟩ := hrel
          obtain ⟨bq, oq, xq, hAq, _, hLq, c0, c1, c2, c3, c4⟩ := (HM.out _ hbx).at_ hlt
          cases hAq
          cases HL.out.symm.trans hLq
          by_cases hjk : j < k
          · obtain ⟨bq, oq, xj, hAq, _, hLj, d0, _⟩ := (HM.out _ hbx).at_ (show j < n by omega)
            cases hAq
            have hji : (j : Int) < (k : Int) := by omega
            have hji2 : (j : Int) < (n : Int) := by omega
            have hj0 : (0 : Int) ≤ (j : Int) := by omega
            have hjt : ((j : Int)).toNat = j := by omega
            have hkt : ((k : Int)).toNat = k := by omega
            by_cases g2 : xj.name = x.name
            · have hin := isIn_names hjk hLj
              rw [g2] at hin d0
              have hXs := HXs.out
              rw [entE_twice HG.out hin, if_neg (by decide)] at hXs
              have hy9 := HE.out (by rw [← hXs]; decide)
              rw [← hXs] at hy9
              subst hy9
              clear hXs hin hLj hLq
              have gb : (x.name.toList == x.name.toList) = true := by simp
              as_aux_lemma =>
                go_wp2_with fail
                go_quiet (fail)
                go_wp2
                go_ret
                exact ⟨rfl, below_drewN hbx _⟩
            · have HJ2 : Hid (isIn ((L.take (j + 1)).map Ent.name) x.name = false) := (show _ = _ by rw [names_snoc hLj, isIn_snoc, HJ.out, decide_eq_false g2]; rfl)
              have gb : (xj.name.toList == x.name.toList) = false := tl_ne g2
              clear hLj hLq g2
              as_aux_lemma =>
                go_wp2_with fail
                go_quiet (fail)
                go_wp2
                go_roundw
                case rel => exact ⟨j + 1, by omega, by go_num, HJ2, below_drewN hbx _⟩
                case measure => simp [intOf]; omega
          · have hjk2 : j = k := by omega
            subst hjk2
            have hnj : ¬ (j : Int) < (j : Int) := by omega
            cases g3 : isNm x.club with
            | false =>
              rw [g3] at hJ
              have hXs := HXs.out
              rw [entE_club HG.out HJ.out g3, if_neg (by decide)] at hXs
              have hy8 := HE.out (by rw [← hXs]; decide)
              rw [← hXs] at hy8
              subst hy8
              clear hXs hLq
              as_aux_lemma =>
                go_wp2_with fail
                refine (hJ _).mono ?_
                rintro e w2 ⟨rfl, rfl⟩
                go_wp2
                go_ret
                exact ⟨rfl, hbx⟩
            | true =>
              rw [g3] at hJ
              have hXs := HXs.out
              rw [entE_mark HG.out HJ.out g3] at hXs
              have hC := fun w => refCheckMark_any x.kind x.reason x.value w
              by_cases g4 : chk x.kind x.value x.reason = 0
              · rw [if_pos g4] at hXs
                rw [g4] at hC
                have HK2 := Lib.hid hXs
                clear hXs hLq g4
                as_aux_lemma =>
                  go_wp2_with fail
                  refine (hJ _).mono ?_
                  rintro e w2 ⟨rfl, rfl⟩
                  go_wp2_with fail
                  refine (hC _).mono ?_
                  rintro e w2 ⟨rfl, hb2⟩
                  go_wp2
                  go_roundw
                  case rel => exact ⟨j + 1, by omega, by go_num, HK2, hbx.trans (hb2.mono hbx.size)⟩
                  case measure => simp [intOf]; omega
              · rw [if_neg g4] at hXs
                have gb : (chk x.kind x.value x.reason != 0) = true := by rw [bne_iff_ne]; exact g4
                generalize chk x.kind x.value x.reason = e4 at *
                have hy4 := HE.out (by rw [← hXs]; exact g4)
                rw [← hXs] at hy4
                subst hy4
                clear hXs hLq
                as_aux_lemma =>
                  go_wp2_with fail
                  refine (hJ _).mono ?_
                  rintro e w2 ⟨rfl, rfl⟩
                  go_wp2_with fail
                  refine (hC _).mono ?_
                  rintro e w2 ⟨rfl, hb2⟩
                  go_wp2
                  go_ret
                  exact ⟨rfl, hbx.trans (hb2.mono hbx.size)⟩
      · have g1 : isNm x.name = false := by simpa using g1
        rw [g1] at hI
        have hXs := HXs.out
        rw [entE_name g1, if_neg (by decide)] at hXs
        have hy8 := HE.out (by rw [← hXs]; decide)
        rw [← hXs] at hy8
        subst hy8
        clear hXs g1
        as_aux_lemma =>
          go_wp2_with fail
          refine (hI _).mono ?_
          rintro e w2 ⟨rfl, rfl⟩
          go_wp2
          go_ret
          exact ⟨rfl, hb⟩
    · have hz := HK.out
      rw [List.drop_of_length_le (by rw [Hlen.out]; omega), entsE] at hz
      subst hz
      have hYy := HF.out rfl
      subst hYy
      have HC : Hid (∀ x ∈ L, x.kind.toList.isEmpty = false) := fun x hx => kindFull _ _ _ (entsE_zero [] L HX0.out x hx)
      have hnk : ¬ (k : Int) < (n : Int) := by omega
      clear HK
      go_wp2
      go_loopw [7, 6] (fun i c wx => ∃ (j : Nat) (s d : ByteArray), j ≤ n ∧ i = .int .i64 j ∧ c = .string d ∧ ((s = sNone ∧ d.toList.isEmpty = true) ∨ (s = d ∧ s ≠ sNone ∧ d.toList.isEmpty = false)) ∧ Hid (kindsE s (L.drop j) = Y) ∧ Below w.heap.size w wx) (fun i _ _ => n - (intOf i).toNat)
      case atStart => exact ⟨0, sNone, ⟨#[]⟩, by omega, rfl, rfl, .inl ⟨rfl, by rw [ByteArray.toList_eq]; rfl⟩, HY, hb⟩
      case round =>
        obtain ⟨j, s, d, hj, rfl, rfl, hsd, HK, hbx⟩ := hrel
        by_cases hlt : j < n
        · obtain ⟨b, off, x, rfl, hbl, hL, c0, c1, c2, c3, c4⟩ := (HM.out _ hbx).at_ hlt
          have hst := HK.out
          rw [drop_cons hL, kindsE] at hst
          have hne := HC.out x (List.mem_of_getElem? hL)
          obtain ⟨nm, cl, kd, v, r⟩ := x
          simp only at c0 c1 c2 c3 c4 hst hne
          have hji : (j : Int) < (n : Int) := by omega
          clear hL HK c0 c1 c3 c4
          by_cases g1 : kd = sNone
          · rw [if_pos g1] at hst
            have HS2 := Lib.hid hst
            have k1 : (kd.toList == [110, 111, 110, 101]) = true := by rw [noneB]; simp [g1]
            have HD := Lib.hid hsd
            clear g1 hst hne hsd
            as_aux_lemma =>
              go_wp2
              go_roundw
              case rel => exact ⟨j + 1, s, d, by omega, by go_num, rfl, HD.out, HS2, hbx⟩
              case measure => simp [intOf]; omega
          · rw [if_neg g1] at hst
            have k1 : (kd.toList == [110, 111, 110, 101]) = false := by rw [noneB]; simp [g1]
            have HN1 := Lib.hid g1
            have HN2 := Lib.hid hne
            clear g1 hne
            rcases hsd with ⟨h1, h2⟩ | ⟨h1, h2, h3⟩
            · subst h1
              rw [if_neg (fun q => q.1 rfl)] at hst
              have HS2 := Lib.hid hst
              clear hst
              as_aux_lemma =>
                go_wp2
                go_roundw
                case rel => exact ⟨j + 1, kd, kd, by omega, by go_num, rfl, .inr ⟨rfl, HN1.out, HN2.out⟩, HS2, hbx⟩
                case measure => simp [intOf]; omega
            · subst h1
              by_cases g2 : s = kd
              · subst g2
                rw [if_neg (fun q => q.2 rfl)] at hst
                have HS2 := Lib.hid hst
                have gb : (s.toList == s.toList) = true := by simp
                clear hst h2
                as_aux_lemma =>
                  go_wp2
                  go_roundw
                  case rel => exact ⟨j + 1, s, s, by omega, by go_num, rfl, .inr ⟨rfl, HN1.out, HN2.out⟩, HS2, hbx⟩
                  case measure => simp [intOf]; omega
              · rw [if_pos ⟨h2, g2⟩] at hst
                subst hst
                have gb : (kd.toList == s.toList) = false := tl_ne (fun q => g2 q.symm)
                clear h2 g2
                as_aux_lemma =>
                  go_wp2
                  go_ret
                  exact ⟨rfl, hbx⟩
        · have hz := HK.out
          rw [List.drop_of_length_le (by rw [Hlen.out]; omega), kindsE] at hz
          subst hz
          clear HK hsd
          go_wp2
          go_ret
          exact ⟨rfl, hbx⟩
end Go.Mk
end
section
set_option linter.unusedVariables false
set_option linter.unusedSimpArgs false
open Go Go.Proofs Go.RowKit Go.Maps Go.WideMaps
set_option maxRecDepth 100000
namespace Go.Mk
theorem ownN {w w' : World} {base e size n : Nat} {v : Value} {xs : List Value} (h : w.ownsRow base e size v n xs) (hb : Below w.heap.size w w') : w'.ownsRow base e size v n xs := by
  refine ⟨h.1, ?_⟩
  rcases h.2 with ⟨a, b⟩ | ⟨g, cap, cur, a, b, c, d⟩
  · exact .inl ⟨a, b⟩
  · refine .inr ⟨g, cap, cur, a, b, ?_, d⟩
    have hg : g < w.heap.size := by
      rcases Nat.lt_or_ge g w.heap.size with hl | hl
      · exact hl
      · rw [Array.getElem?_eq_none hl] at c; cases c
    exact (hb.block g hg).trans c
theorem ownSome {w : World} {base e size n : Nat} {v : Value} {xs : List Value} (h : w.ownsRow base e size v n xs) (hn : 0 < n) : ∃ g cap, v = .slice (some ⟨g, 0, none⟩) n cap ∧ base ≤ g ∧ g < w.heap.size := by
  rcases h.2 with ⟨_, h0⟩ | ⟨g, cap, cur, hv, hb, hg, _⟩
  · omega
  · refine ⟨g, cap, hv, hb, ?_⟩
    rcases Nat.lt_or_ge g w.heap.size with hlt | hge
    · exact hlt
    · rw [Array.getElem?_eq_none hge] at hg; cases hg
theorem infoS : (Tryz.prog.info? 9).map (fun i => (i.zero, i.size, i.bytes)) = some (some (.string ⟨#[]⟩), 1, 16) := by kernel_rfl
def OwnNames (w : World) (B : Nat) (v : Value) (L : List ByteArray) : Prop := w.ownsRow B 9 1 v L.length (L.map Value.string)
theorem OwnNames.next {w1 : World} {B : Nat} {v' : Value} {L : List ByteArray} {t : ByteArray} (h : w1.ownsRow B 9 1 v' (L.length + 1) (L.map Value.string ++ [Value.string t])) : OwnNames w1 B v' (L ++ [t]) := by
  unfold OwnNames
  rw [List.length_append, List.map_append]
  exact h
theorem OwnNames.shape {w : World} {B : Nat} {v : Value} {L : List ByteArray} (h : OwnNames w B v L) : ∃ a c, v = .slice a L.length c := by
  rcases h.2 with ⟨hv, h0⟩ | ⟨g, cap, cur, hv, _⟩
  · exact ⟨none, 0, by rw [hv, h0]⟩
  · exact ⟨_, _, hv⟩
theorem OwnNames.at_ {w : World} {B n cap : Nat} {a : Option Addr} {L : List ByteArray} (h : OwnNames w B (.slice a n cap) L) {q : Nat} (hq : q < L.length) : ∃ g s, a = some ⟨g, 0, none⟩ ∧ L[q]? = some s ∧ w.cell? ⟨g, q, none⟩ = some (.string s) := by
  obtain ⟨g, c, hv, _, _⟩ := ownSome h (by omega)
  cases hv
  refine ⟨g, L[q], rfl, List.getElem?_eq_getElem hq, ?_⟩
  have := World.ownsRow.cells h (g := g) rfl q (.string L[q]) (by rw [List.getElem?_map, List.getElem?_eq_getElem hq]; rfl)
  by_cases hq0 : q = 0
  · subst hq0; simpa [Addr.add] using this
  · simpa [Addr.add, hq0] using this
theorem isIn_take {L : List ByteArray} {q : Nat} {s t : ByteArray} (h : L[q]? = some s) : isIn (L.take (q + 1)) t = (isIn (L.take q) t || decide (s = t)) := by
  rw [List.take_add_one, h]
  exact isIn_snoc _ _ _
theorem isIn_at {L : List ByteArray} {q : Nat} {s : ByteArray} (h : L[q]? = some s) : isIn L s = true := by
  unfold isIn
  rw [List.any_eq_true]
  exact ⟨s, List.mem_of_getElem? h, by simp⟩
def OwnZ (w : World) (B : Nat) (v : Value) (L : List Int) : Prop := w.ownsRow B 3 1 v L.length (L.map fun z => Value.int .i64 z)
theorem OwnZ.next {w1 : World} {B : Nat} {v' : Value} {L : List Int} {z : Int} (h : w1.ownsRow B 3 1 v' (L.length + 1) ((L.map fun z => Value.int .i64 z) ++ [.int .i64 z])) : OwnZ w1 B v' (L ++ [z]) := by
  unfold OwnZ
  rw [List.length_append, List.map_append]
  exact h
theorem map_snoc {α β : Type} (f : α → β) {L : List α} {k : Nat} {x : α} (h : L[k]? = some x) : (L.take (k + 1)).map f = (L.take k).map f ++ [f x] := by
  rw [List.take_add_one, h]; simp
end Go.Mk
end
