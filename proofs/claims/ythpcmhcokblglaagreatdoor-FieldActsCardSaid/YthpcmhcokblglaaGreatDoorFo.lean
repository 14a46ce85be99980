/-
  Proved: CheckAct, CheckActs and ShortActs of the reference of chapter 6 as plain functions. Conditions: the acts lie where the slice says; the names are no longer than an int says.
-/
import Derived.Test.YthpcmhcokblglaaGreatDoorFm
set_option linter.unusedVariables false
set_option linter.unusedSimpArgs false
open Go Go.Proofs Go.RowKit
set_option maxRecDepth 100000
namespace Go.Mk
/-- An act: its athlete, its kind, its value. -/
structure ActR where
  s : ByteArray
  k : ByteArray
  v : Int
def actC (a : ActR) : List Value := [.string a.s, .string a.k, .int .i64 a.v]
def actV (a : ActR) : Value := .agg #[.string a.s, .string a.k, .int .i64 a.v]
/-- The acts of a list lie in the cells of a slice. -/
def Acts (w : World) (A : Option Addr) (n : Nat) (L : List ActR) : Prop :=
  L.length = n ∧ (0 < n → ∃ g off, A = some ⟨g, off, none⟩ ∧ g < w.heap.size ∧ ∀ (j : Nat) (a : ActR), L[j]? = some a → w.cell? ⟨g, off + j * 3, none⟩ = some (.string a.s) ∧ w.cell? ⟨g, off + j * 3 + 1, none⟩ = some (.string a.k) ∧ w.cell? ⟨g, off + j * 3 + 2, none⟩ = some (.int .i64 a.v))
theorem Acts.below {w w' : World} {A : Option Addr} {n : Nat} {L : List ActR} (h : Acts w A n L) (hb : Below w.heap.size w w') : Acts w' A n L := by
  refine ⟨h.1, fun hn => ?_⟩
  obtain ⟨g, off, e, hlt, hc⟩ := h.2 hn
  exact ⟨g, off, e, Nat.lt_of_lt_of_le hlt hb.size, fun j a ha => ⟨(hb.cell (p := ⟨g, _, none⟩) hlt).trans (hc j a ha).1, (hb.cell (p := ⟨g, _, none⟩) hlt).trans (hc j a ha).2.1, (hb.cell (p := ⟨g, _, none⟩) hlt).trans (hc j a ha).2.2⟩⟩
theorem Acts.at_ {w : World} {A : Option Addr} {n : Nat} {L : List ActR} (h : Acts w A n L) {k : Nat} (hk : k < n) : ∃ b off a, A = some ⟨b, off, none⟩ ∧ b < w.heap.size ∧ L[k]? = some a ∧ w.cell? ⟨b, off + k * 3, none⟩ = some (.string a.s) ∧ w.cell? ⟨b, off + k * 3 + 1, none⟩ = some (.string a.k) ∧ w.cell? ⟨b, off + k * 3 + 2, none⟩ = some (.int .i64 a.v) := by
  obtain ⟨b, off, e, hlt, hc⟩ := h.2 (by omega)
  have hl : k < L.length := by rw [h.1]; exact hk
  obtain ⟨c0, c1, c2⟩ := hc k L[k] (List.getElem?_eq_getElem hl)
  exact ⟨b, off, L[k], e, hlt, List.getElem?_eq_getElem hl, c0, c1, c2⟩
theorem key_eq (k key : ByteArray) {l : List UInt8} (h : key.toList = l) : (k.toList == l) = decide (k = key) := by
  subst h
  by_cases e : k = key
  · subst e; simp
  · rw [decide_eq_false e]; exact tl_ne e
set_option maxHeartbeats 8000000 in
theorem r6CheckAct_any (h : Bool) (s k : ByteArray) (v : Int) (w : World) (hz : s.size ≤ maxLen) :
    Calls Tryz.prog 15 #[.agg #[.string s, .string k, .int .i64 v], .bool h] w (RetPost (.int .i64 (actE h s k v)) w) := by
  obtain ⟨w1, hw1⟩ : ∃ w1, w.alloc (.cells #[.string s, .string k, .int .i64 v] 40) = w1 := ⟨_, rfl⟩
  have hb1 : Below w.heap.size w w1 := by rw [← hw1]; exact balloc _ (Below.refl _ _)
  have c0 : w1.cell? ⟨w.heap.size, 0, none⟩ = some (.string s) := by rw [← hw1]; simp
  have c1 : w1.cell? ⟨w.heap.size, 1, none⟩ = some (.string k) := by rw [← hw1]; simp
  have c2 : w1.cell? ⟨w.heap.size, 2, none⟩ = some (.int .i64 v) := by rw [← hw1]; simp
  have hN := fun w' => refIsName_any s w' hz
  obtain ⟨Y, hY⟩ : ∃ Y, actE h s k v = Y := ⟨_, rfl⟩
  rw [hY]
  unfold actE nmE at hY
  cases hnb : isNm s with
  | false =>
    rw [hnb] at hY hN
    obtain rfl : Y = 8 := by rw [← hY]; simp [fstN]
    clear hY hnb
    go_enter Tryz.func15, Tryz.ntmps15
    go_wp2_with fail
    refine (hN _).mono ?_
    rintro e w2 ⟨rfl, rfl⟩
    go_wp2
    go_ret
    exact ⟨rfl, hb1⟩
  | true =>
    rw [hnb] at hY hN
    have H13 : Hid (kFound h k = false → Y = 13) := Lib.hid fun q => by rw [← hY, q]; simp [fstN]
    have HV : Hid (kFound h k = true → Y = rngE v 0 (kMost h k)) := Lib.hid fun q => by rw [← hY, q]; simp [fstN]; exact fun e => e.symm
    clear hY hnb
    by_cases k0 : k = sPass
    · subst k0
      have x0 : (sPass.toList == [112, 97, 115, 115]) = true := by rw [ByteArray.toList_eq]; decide
      have x1 : (sPass.toList == [114, 101, 116, 105, 114, 101]) = false := by rw [ByteArray.toList_eq]; decide
      have x2 : (sPass.toList == [109, 97, 114, 107]) = false := by rw [ByteArray.toList_eq]; decide
      have x3 : (sPass.toList == [102, 111, 117, 108]) = false := by rw [ByteArray.toList_eq]; decide
      have x4 : (sPass.toList == [99, 108, 101, 97, 114]) = false := by rw [ByteArray.toList_eq]; decide
      have x5 : (sPass.toList == [102, 97, 105, 108]) = false := by rw [ByteArray.toList_eq]; decide
      have hv := HV.out (by cases h <;> decide)
      rw [show kMost h sPass = 0 by cases h <;> decide] at hv
      clear HV H13
      by_cases v1 : v < 0
      · obtain rfl : Y = 3 := by rw [hv]; unfold rngE; rw [if_pos (.inl v1)]
        try clear hv
        go_enter Tryz.func15, Tryz.ntmps15
        go_wp2_with fail
        refine (hN _).mono ?_
        rintro e w2 ⟨rfl, rfl⟩
        go_wp2
        go_ret
        exact ⟨rfl, hb1⟩
      · by_cases v2 : 0 < v
        · obtain rfl : Y = 3 := by rw [hv]; unfold rngE; rw [if_pos (.inr v2)]
          try clear hv
          go_enter Tryz.func15, Tryz.ntmps15
          go_wp2_with fail
          refine (hN _).mono ?_
          rintro e w2 ⟨rfl, rfl⟩
          go_wp2
          go_ret
          exact ⟨rfl, hb1⟩
        · obtain rfl : Y = 0 := by rw [hv]; unfold rngE; rw [if_neg (by omega)]
          try clear hv
          go_enter Tryz.func15, Tryz.ntmps15
          go_wp2_with fail
          refine (hN _).mono ?_
          rintro e w2 ⟨rfl, rfl⟩
          go_wp2
          go_ret
          exact ⟨rfl, hb1⟩
    · skip
      by_cases k1 : k = sRetire
      · subst k1
        have x0 : (sRetire.toList == [112, 97, 115, 115]) = false := by rw [ByteArray.toList_eq]; decide
        have x1 : (sRetire.toList == [114, 101, 116, 105, 114, 101]) = true := by rw [ByteArray.toList_eq]; decide
        have x2 : (sRetire.toList == [109, 97, 114, 107]) = false := by rw [ByteArray.toList_eq]; decide
        have x3 : (sRetire.toList == [102, 111, 117, 108]) = false := by rw [ByteArray.toList_eq]; decide
        have x4 : (sRetire.toList == [99, 108, 101, 97, 114]) = false := by rw [ByteArray.toList_eq]; decide
        have x5 : (sRetire.toList == [102, 97, 105, 108]) = false := by rw [ByteArray.toList_eq]; decide
        have hv := HV.out (by cases h <;> decide)
        rw [show kMost h sRetire = 0 by cases h <;> decide] at hv
        clear HV H13
        by_cases v1 : v < 0
        · obtain rfl : Y = 3 := by rw [hv]; unfold rngE; rw [if_pos (.inl v1)]
          try clear hv
          go_enter Tryz.func15, Tryz.ntmps15
          go_wp2_with fail
          refine (hN _).mono ?_
          rintro e w2 ⟨rfl, rfl⟩
          go_wp2
          go_ret
          exact ⟨rfl, hb1⟩
        · by_cases v2 : 0 < v
          · obtain rfl : Y = 3 := by rw [hv]; unfold rngE; rw [if_pos (.inr v2)]
            try clear hv
            go_enter Tryz.func15, Tryz.ntmps15
            go_wp2_with fail
            refine (hN _).mono ?_
            rintro e w2 ⟨rfl, rfl⟩
            go_wp2
            go_ret
            exact ⟨rfl, hb1⟩
          · obtain rfl : Y = 0 := by rw [hv]; unfold rngE; rw [if_neg (by omega)]
            try clear hv
            go_enter Tryz.func15, Tryz.ntmps15
            go_wp2_with fail
            refine (hN _).mono ?_
            rintro e w2 ⟨rfl, rfl⟩
            go_wp2
            go_ret
            exact ⟨rfl, hb1⟩
      · skip
        by_cases k2 : k = sMark
        · subst k2
          have x0 : (sMark.toList == [112, 97, 115, 115]) = false := by rw [ByteArray.toList_eq]; decide
          have x1 : (sMark.toList == [114, 101, 116, 105, 114, 101]) = false := by rw [ByteArray.toList_eq]; decide
          have x2 : (sMark.toList == [109, 97, 114, 107]) = true := by rw [ByteArray.toList_eq]; decide
          have x3 : (sMark.toList == [102, 111, 117, 108]) = false := by rw [ByteArray.toList_eq]; decide
          have x4 : (sMark.toList == [99, 108, 101, 97, 114]) = false := by rw [ByteArray.toList_eq]; decide
          have x5 : (sMark.toList == [102, 97, 105, 108]) = false := by rw [ByteArray.toList_eq]; decide
          cases h with
          | true =>
            obtain rfl : Y = 13 := H13.out (by decide)
            clear HV H13
            try clear hv
            go_enter Tryz.func15, Tryz.ntmps15
            go_wp2_with fail
            refine (hN _).mono ?_
            rintro e w2 ⟨rfl, rfl⟩
            go_wp2
            go_ret
            exact ⟨rfl, hb1⟩
          | false =>
            have hv := HV.out (by decide)
            rw [show kMost false sMark = 999999 by decide] at hv
            clear HV H13
            by_cases v1 : v < 0
            · obtain rfl : Y = 3 := by rw [hv]; unfold rngE; rw [if_pos (.inl v1)]
              try clear hv
              go_enter Tryz.func15, Tryz.ntmps15
              go_wp2_with fail
              refine (hN _).mono ?_
              rintro e w2 ⟨rfl, rfl⟩
              go_wp2
              go_ret
              exact ⟨rfl, hb1⟩
            · by_cases v2 : 999999 < v
              · obtain rfl : Y = 3 := by rw [hv]; unfold rngE; rw [if_pos (.inr v2)]
                try clear hv
                go_enter Tryz.func15, Tryz.ntmps15
                go_wp2_with fail
                refine (hN _).mono ?_
                rintro e w2 ⟨rfl, rfl⟩
                go_wp2
                go_ret
                exact ⟨rfl, hb1⟩
              · obtain rfl : Y = 0 := by rw [hv]; unfold rngE; rw [if_neg (by omega)]
                try clear hv
                go_enter Tryz.func15, Tryz.ntmps15
                go_wp2_with fail
                refine (hN _).mono ?_
                rintro e w2 ⟨rfl, rfl⟩
                go_wp2
                go_ret
                exact ⟨rfl, hb1⟩
        · skip
          by_cases k3 : k = sFoul
          · subst k3
            have x0 : (sFoul.toList == [112, 97, 115, 115]) = false := by rw [ByteArray.toList_eq]; decide
            have x1 : (sFoul.toList == [114, 101, 116, 105, 114, 101]) = false := by rw [ByteArray.toList_eq]; decide
            have x2 : (sFoul.toList == [109, 97, 114, 107]) = false := by rw [ByteArray.toList_eq]; decide
            have x3 : (sFoul.toList == [102, 111, 117, 108]) = true := by rw [ByteArray.toList_eq]; decide
            have x4 : (sFoul.toList == [99, 108, 101, 97, 114]) = false := by rw [ByteArray.toList_eq]; decide
            have x5 : (sFoul.toList == [102, 97, 105, 108]) = false := by rw [ByteArray.toList_eq]; decide
            cases h with
            | true =>
              obtain rfl : Y = 13 := H13.out (by decide)
              clear HV H13
              try clear hv
              go_enter Tryz.func15, Tryz.ntmps15
              go_wp2_with fail
              refine (hN _).mono ?_
              rintro e w2 ⟨rfl, rfl⟩
              go_wp2
              go_ret
              exact ⟨rfl, hb1⟩
            | false =>
              have hv := HV.out (by decide)
              rw [show kMost false sFoul = 0 by decide] at hv
              clear HV H13
              by_cases v1 : v < 0
              · obtain rfl : Y = 3 := by rw [hv]; unfold rngE; rw [if_pos (.inl v1)]
                try clear hv
                go_enter Tryz.func15, Tryz.ntmps15
                go_wp2_with fail
                refine (hN _).mono ?_
                rintro e w2 ⟨rfl, rfl⟩
                go_wp2
                go_ret
                exact ⟨rfl, hb1⟩
              · by_cases v2 : 0 < v
                · obtain rfl : Y = 3 := by rw [hv]; unfold rngE; rw [if_pos (.inr v2)]
                  try clear hv
                  go_enter Tryz.func15, Tryz.ntmps15
                  go_wp2_with fail
                  refine (hN _).mono ?_
                  rintro e w2 ⟨rfl, rfl⟩
                  go_wp2
                  go_ret
                  exact ⟨rfl, hb1⟩
                · obtain rfl : Y = 0 := by rw [hv]; unfold rngE; rw [if_neg (by omega)]
                  try clear hv
                  go_enter Tryz.func15, Tryz.ntmps15
                  go_wp2_with fail
                  refine (hN _).mono ?_
                  rintro e w2 ⟨rfl, rfl⟩
                  go_wp2
                  go_ret
                  exact ⟨rfl, hb1⟩
          · skip
            by_cases k4 : k = sClear
            · subst k4
              have x0 : (sClear.toList == [112, 97, 115, 115]) = false := by rw [ByteArray.toList_eq]; decide
              have x1 : (sClear.toList == [114, 101, 116, 105, 114, 101]) = false := by rw [ByteArray.toList_eq]; decide
              have x2 : (sClear.toList == [109, 97, 114, 107]) = false := by rw [ByteArray.toList_eq]; decide
              have x3 : (sClear.toList == [102, 111, 117, 108]) = false := by rw [ByteArray.toList_eq]; decide
              have x4 : (sClear.toList == [99, 108, 101, 97, 114]) = true := by rw [ByteArray.toList_eq]; decide
              have x5 : (sClear.toList == [102, 97, 105, 108]) = false := by rw [ByteArray.toList_eq]; decide
              cases h with
              | false =>
                obtain rfl : Y = 13 := H13.out (by decide)
                clear HV H13
                try clear hv
                go_enter Tryz.func15, Tryz.ntmps15
                go_wp2_with fail
                refine (hN _).mono ?_
                rintro e w2 ⟨rfl, rfl⟩
                go_wp2
                go_ret
                exact ⟨rfl, hb1⟩
              | true =>
                have hv := HV.out (by decide)
                rw [show kMost true sClear = 0 by decide] at hv
                clear HV H13
                by_cases v1 : v < 0
                · obtain rfl : Y = 3 := by rw [hv]; unfold rngE; rw [if_pos (.inl v1)]
                  try clear hv
                  go_enter Tryz.func15, Tryz.ntmps15
                  go_wp2_with fail
                  refine (hN _).mono ?_
                  rintro e w2 ⟨rfl, rfl⟩
                  go_wp2
                  go_ret
                  exact ⟨rfl, hb1⟩
                · by_cases v2 : 0 < v
                  · obtain rfl : Y = 3 := by rw [hv]; unfold rngE; rw [if_pos (.inr v2)]
                    try clear hv
                    go_enter Tryz.func15, Tryz.ntmps15
                    go_wp2_with fail
                    refine (hN _).mono ?_
                    rintro e w2 ⟨rfl, rfl⟩
                    go_wp2
                    go_ret
                    exact ⟨rfl, hb1⟩
                  · obtain rfl : Y = 0 := by rw [hv]; unfold rngE; rw [if_neg (by omega)]
                    try clear hv
                    go_enter Tryz.func15, Tryz.ntmps15
                    go_wp2_with fail
                    refine (hN _).mono ?_
                    rintro e w2 ⟨rfl, rfl⟩
                    go_wp2
                    go_ret
                    exact ⟨rfl, hb1⟩
            · skip
              by_cases k5 : k = sFail
              · subst k5
                have x0 : (sFail.toList == [112, 97, 115, 115]) = false := by rw [ByteArray.toList_eq]; decide
                have x1 : (sFail.toList == [114, 101, 116, 105, 114, 101]) = false := by rw [ByteArray.toList_eq]; decide
                have x2 : (sFail.toList == [109, 97, 114, 107]) = false := by rw [ByteArray.toList_eq]; decide
                have x3 : (sFail.toList == [102, 111, 117, 108]) = false := by rw [ByteArray.toList_eq]; decide
                have x4 : (sFail.toList == [99, 108, 101, 97, 114]) = false := by rw [ByteArray.toList_eq]; decide
                have x5 : (sFail.toList == [102, 97, 105, 108]) = true := by rw [ByteArray.toList_eq]; decide
                cases h with
                | false =>
                  obtain rfl : Y = 13 := H13.out (by decide)
                  clear HV H13
                  try clear hv
                  go_enter Tryz.func15, Tryz.ntmps15
                  go_wp2_with fail
                  refine (hN _).mono ?_
                  rintro e w2 ⟨rfl, rfl⟩
                  go_wp2
                  go_ret
                  exact ⟨rfl, hb1⟩
                | true =>
                  have hv := HV.out (by decide)
                  rw [show kMost true sFail = 0 by decide] at hv
                  clear HV H13
                  by_cases v1 : v < 0
                  · obtain rfl : Y = 3 := by rw [hv]; unfold rngE; rw [if_pos (.inl v1)]
                    try clear hv
                    go_enter Tryz.func15, Tryz.ntmps15
                    go_wp2_with fail
                    refine (hN _).mono ?_
                    rintro e w2 ⟨rfl, rfl⟩
                    go_wp2
                    go_ret
                    exact ⟨rfl, hb1⟩
                  · by_cases v2 : 0 < v
                    · obtain rfl : Y = 3 := by rw [hv]; unfold rngE; rw [if_pos (.inr v2)]
                      try clear hv
                      go_enter Tryz.func15, Tryz.ntmps15
                      go_wp2_with fail
                      refine (hN _).mono ?_
                      rintro e w2 ⟨rfl, rfl⟩
                      go_wp2
                      go_ret
                      exact ⟨rfl, hb1⟩
                    · obtain rfl : Y = 0 := by rw [hv]; unfold rngE; rw [if_neg (by omega)]
                      try clear hv
                      go_enter Tryz.func15, Tryz.ntmps15
                      go_wp2_with fail
                      refine (hN _).mono ?_
                      rintro e w2 ⟨rfl, rfl⟩
                      go_wp2
                      go_ret
                      exact ⟨rfl, hb1⟩
              · skip
                have x0 : (k.toList == [112, 97, 115, 115]) = false := by rw [key_eq k sPass (by rw [ByteArray.toList_eq]; rfl)]; exact decide_eq_false k0
                have x1 : (k.toList == [114, 101, 116, 105, 114, 101]) = false := by rw [key_eq k sRetire (by rw [ByteArray.toList_eq]; rfl)]; exact decide_eq_false k1
                have x2 : (k.toList == [109, 97, 114, 107]) = false := by rw [key_eq k sMark (by rw [ByteArray.toList_eq]; rfl)]; exact decide_eq_false k2
                have x3 : (k.toList == [102, 111, 117, 108]) = false := by rw [key_eq k sFoul (by rw [ByteArray.toList_eq]; rfl)]; exact decide_eq_false k3
                have x4 : (k.toList == [99, 108, 101, 97, 114]) = false := by rw [key_eq k sClear (by rw [ByteArray.toList_eq]; rfl)]; exact decide_eq_false k4
                have x5 : (k.toList == [102, 97, 105, 108]) = false := by rw [key_eq k sFail (by rw [ByteArray.toList_eq]; rfl)]; exact decide_eq_false k5
                obtain rfl : Y = 13 := H13.out (by unfold kFound; cases h <;> simp [k0, k1, k2, k3, k4, k5])
                clear HV H13
                try clear hv
                go_enter Tryz.func15, Tryz.ntmps15
                go_wp2_with fail
                refine (hN _).mono ?_
                rintro e w2 ⟨rfl, rfl⟩
                go_wp2
                go_ret
                exact ⟨rfl, hb1⟩
/-- The error of acts. -/
def lstE (h : Bool) : List ActR → Int
  | [] => 0
  | a :: l => if actE h a.s a.k a.v = 0 then lstE h l else actE h a.s a.k a.v
def actsE (h : Bool) (L : List ActR) : Int := if 1000 < L.length then 5 else lstE h L
theorem lstE_drop {h : Bool} {L : List ActR} {k : Nat} {a : ActR} (e : L[k]? = some a) : lstE h (L.drop k) = if actE h a.s a.k a.v = 0 then lstE h (L.drop (k + 1)) else actE h a.s a.k a.v := by
  obtain ⟨hk, rfl⟩ := List.getElem?_eq_some_iff.1 e
  rw [List.drop_eq_getElem_cons hk, lstE]
set_option maxHeartbeats 4000000 in
theorem r6CheckActs_any (h : Bool) (L : List ActR) (n cap : Nat) (A : Option Addr) (w : World) (hZ : Acts w A n L) (hn : (n : Int) ≤ 9223372036854775807) (hs : ∀ a ∈ L, a.s.size ≤ maxLen) :
    Calls Tryz.prog 19 #[.slice A n cap, .bool h] w (RetPost (.int .i64 (actsE h L)) w) := by
  by_cases h3 : 1000 < n
  · have hy : actsE h L = 5 := by unfold actsE; rw [hZ.1, if_pos h3]
    rw [hy]
    have hi : (1000 : Int) < (n : Int) := by omega
    clear hZ hs hy
    go_enter Tryz.func19, Tryz.ntmps19
    go_wp2
    go_ret
    exact ⟨rfl, Below.refl _ _⟩
  · have hy : actsE h L = lstE h L := by unfold actsE; rw [hZ.1, if_neg h3]
    rw [hy]
    have hi : ¬ (1000 : Int) < (n : Int) := by omega
    have hni : (n : Int) ≤ 1000 := by omega
    have H := Lib.hid hZ
    have Hn := Lib.hid hZ.1
    have HS := Lib.hid hs
    clear hy
    obtain ⟨y, hy⟩ : ∃ y, lstE h L = y := ⟨_, rfl⟩
    rw [hy]
    have HY : Hid (lstE h (L.drop 0) = y) := by rw [← hy]; rfl
    clear hZ hy hs hn
    go_enter Tryz.func19, Tryz.ntmps19
    go_wp2
    go_loopw [5] (fun i wr => ∃ k : Nat, k ≤ n ∧ i = .int .i64 k ∧ Hid (lstE h (L.drop k) = y) ∧ Below w.heap.size w wr) (fun i _ => n - (intOf i).toNat)
    case atStart => exact ⟨0, by omega, rfl, HY, Below.refl _ _⟩
    case round =>
      obtain ⟨k, hk, rfl, HK, hb⟩ := hrel
      by_cases hlt : k < n
      · obtain ⟨b, off, a, rfl, _, ha, q0, q1, q2⟩ := (H.out.below hb).at_ hlt
        have hst := lstE_drop (h := h) ha
        rw [HK.out] at hst
        have hki : (k : Int) < (n : Int) := by omega
        have hk0 : (0 : Int) ≤ (k : Int) := by omega
        have hkt : ((k : Int)).toNat = k := by omega
        have hC := r6CheckAct_any h a.s a.k a.v wr (HS.out a (List.mem_of_getElem? ha))
        obtain ⟨z, hz⟩ : ∃ z, actE h a.s a.k a.v = z := ⟨_, rfl⟩
        rw [hz] at hst hC
        clear hz ha
        by_cases h0 : z = 0
        · subst h0
          rw [if_pos rfl] at hst
          have Hst : Hid (lstE h (L.drop (k + 1)) = y) := hst.symm
          clear hst HK
          go_wp2_with fail
          refine hC.mono ?_
          rintro e w' ⟨rfl, hb2⟩
          have hb3 := bstep hb hb2
          clear q0 q1 q2
          go_wp2
          exact ⟨⟨k + 1, by omega, by go_num, Hst, hb3⟩, by simp [intOf]; omega⟩
        · rw [if_neg h0] at hst
          subst hst
          have hb' : (y != 0) = true := by rw [bne_iff_ne]; exact h0
          clear HK HY
          go_wp2_with fail
          refine hC.mono ?_
          rintro e w' ⟨rfl, hb2⟩
          have hb3 := bstep hb hb2
          clear q0 q1 q2
          go_wp2
          go_ret
          exact ⟨rfl, hb3⟩
      · have hkn : k = n := by omega
        have h0 := HK.out
        rw [hkn, List.drop_of_length_le (by rw [Hn.out]; omega), lstE] at h0
        have h0' : 0 = y := h0
        subst h0'
        go_wp2
        go_ret
        exact ⟨rfl, hb⟩
/-- Are acts few, or too many, and short? -/
def shAct (L : List ActR) (m : Nat) : Bool := (decide (L.length ≤ m) || (decide (1000 < L.length) && decide (L.length ≤ 1003))) && L.all fun a => decide (a.s.size ≤ 40) && decide (a.k.size ≤ 40)
theorem shAct_all {L : List ActR} {m : Nat} (h : shAct L m = true) : (L.length ≤ m ∨ (1000 < L.length ∧ L.length ≤ 1003)) ∧ ∀ a ∈ L, a.s.size ≤ 40 ∧ a.k.size ≤ 40 := by
  unfold shAct at h
  simp only [Bool.and_eq_true, Bool.or_eq_true, decide_eq_true_eq, List.all_eq_true] at h
  exact h
set_option maxHeartbeats 4000000 in
theorem r6ShortActs_any (L : List ActR) (n cap m : Nat) (A : Option Addr) (w : World) (hZ : Acts w A n L) (hn : (n : Int) ≤ 9223372036854775807) (hm : m ≤ 100) :
    Calls Tryz.prog 13 #[.slice A n cap, .int .i64 (m : Int)] w (RetSame (.bool (shAct L m)) w) := by
  have hmi : (m : Int) ≤ 100 := by omega
  by_cases h3 : n ≤ m ∨ (1000 < n ∧ n ≤ 1003)
  · have hy : shAct L m = L.all fun a => decide (a.s.size ≤ 40) && decide (a.k.size ≤ 40) := by
      unfold shAct; rw [hZ.1]
      have : (decide (n ≤ m) || (decide (1000 < n) && decide (n ≤ 1003))) = true := by
        simp only [Bool.or_eq_true, Bool.and_eq_true, decide_eq_true_eq]; exact h3
      rw [this]; rfl
    rw [hy]
    have hni : (n : Int) ≤ 1003 := by omega
    have H := Lib.hid hZ
    have Hn := Lib.hid hZ.1
    clear hy
    obtain ⟨y, hy⟩ : ∃ y, (L.all fun a => decide (a.s.size ≤ 40) && decide (a.k.size ≤ 40)) = y := ⟨_, rfl⟩
    rw [hy]
    have HY := Lib.hid hy
    have hA : (m : Int) < (n : Int) ∧ (1000 : Int) < (n : Int) ∨ ¬ (m : Int) < (n : Int) := by omega
    have h1003 : ¬ (1003 : Int) < (n : Int) := by omega
    clear hZ hy hn h3
    rcases hA with ⟨a1, a2⟩ | a1
    all_goals
      go_enter Tryz.func13, Tryz.ntmps13
      go_wp2
      go_loop [5] (fun i => ∃ k : Nat, k ≤ n ∧ i = .int .i64 k ∧ Hid (((L.take k).all fun a => decide (a.s.size ≤ 40) && decide (a.k.size ≤ 40)) = true)) (fun i => n - (intOf i).toNat)
      case atStart => exact ⟨0, by omega, rfl, Lib.hid rfl⟩
      case round =>
        obtain ⟨k, hk, rfl, HK⟩ := hrel
        by_cases hlt : k < n
        · obtain ⟨b, off, a, rfl, _, ha, q0, q1, q2⟩ := H.out.at_ hlt
          have hki : (k : Int) < (n : Int) := by omega
          have hk0 : (0 : Int) ≤ (k : Int) := by omega
          have hkt : ((k : Int)).toNat = k := by omega
          have hfalse : ¬ (a.s.size ≤ 40 ∧ a.k.size ≤ 40) → false = y := fun g => by
            rw [← HY.out]
            symm
            rw [Bool.eq_false_iff]
            intro q
            have := List.all_eq_true.1 q a (List.mem_of_getElem? ha)
            simp only [Bool.and_eq_true, decide_eq_true_eq] at this
            exact g this
          by_cases g1 : a.s.size ≤ 40
          · have gi1 : ¬ (40 : Int) < (a.s.size : Int) := by omega
            by_cases g2 : a.k.size ≤ 40
            · have gi2 : ¬ (40 : Int) < (a.k.size : Int) := by omega
              have HK2 : Hid (((L.take (k + 1)).all fun a => decide (a.s.size ≤ 40) && decide (a.k.size ≤ 40)) = true) := (show _ = _ by rw [List.take_add_one, ha, Option.toList_some, List.all_append, HK.out]; simp [g1, g2])
              clear ha HK hfalse
              go_wp2
              exact ⟨⟨k + 1, by omega, by go_num, HK2⟩, by simp [intOf]; omega⟩
            · have gi2 : (40 : Int) < (a.k.size : Int) := by omega
              obtain rfl := hfalse (fun q => g2 q.2)
              clear ha HK hfalse
              go_wp2
              go_ret
              exact ⟨rfl, rfl⟩
          · have gi1 : (40 : Int) < (a.s.size : Int) := by omega
            obtain rfl := hfalse (fun q => g1 q.1)
            clear ha HK hfalse
            go_wp2
            go_ret
            exact ⟨rfl, rfl⟩
        · have hkn : k = n := by omega
          have h0 := HK.out
          rw [hkn, List.take_of_length_le (by rw [Hn.out]; omega), HY.out] at h0
          subst h0
          go_wp2
          go_ret
          exact ⟨rfl, rfl⟩
  · have hy : shAct L m = false := by
      unfold shAct; rw [hZ.1]
      have : (decide (n ≤ m) || (decide (1000 < n) && decide (n ≤ 1003))) = false := by
        rw [Bool.eq_false_iff]; intro q
        simp only [Bool.or_eq_true, Bool.and_eq_true, decide_eq_true_eq] at q
        exact h3 q
      rw [this]; rfl
    rw [hy]
    have a1 : (m : Int) < (n : Int) := by omega
    have hA : (n : Int) ≤ 1000 ∨ (¬ (n : Int) ≤ 1000 ∧ (1003 : Int) < (n : Int)) := by omega
    clear hZ hy h3
    rcases hA with a2 | ⟨a2, a3⟩
    all_goals
      go_enter Tryz.func13, Tryz.ntmps13
      go_wp2
      go_ret
      exact ⟨rfl, rfl⟩
end Go.Mk
