/-
  Proved: PrintCard of package field returns the error of the form of a card, or its words with blanks between them. Conditions: the texts lie where the slices say; there are at most 1,000 of at most 5,000 bytes; the name has at most 300 bytes.
-/
import Derived.Test.YthpcmhcokblglaaGreatDoorFce
import Derived.Test.YthpcmhcokblglaaGreatDoorFcf
set_option linter.unusedVariables false
set_option linter.unusedSimpArgs false
open Go Go.Proofs Go.RowKit Go.Shelf
set_option maxRecDepth 100000
namespace Go.Mk
def sColon : ByteArray := ⟨#[58]⟩
def sBar : ByteArray := ⟨#[124]⟩
def sRetired : ByteArray := ⟨#[114, 101, 116, 105, 114, 101, 100]⟩
/-- The words of a card. -/
def wordsP (s : ByteArray) (H O : List ByteArray) (rt : Bool) : List ByteArray :=
  (([s ++ sColon] ++ H) ++ (if O = [] then [] else [sBar] ++ O)) ++ (if rt then [sRetired] else [])
/-- The text of a card, and its error. -/
def prC (s : ByteArray) (H O : List ByteArray) (rt : Bool) : Value :=
  if frmE s (bls H) (bls O) = 0 then .tuple #[.string (joinB (wordsP s H O rt)), .int .i64 0] else .tuple #[.string ⟨#[]⟩, .int .i64 (frmE s (bls H) (bls O))]
theorem wordsP_size (s : ByteArray) (H O : List ByteArray) (rt : Bool) (hz : s.size ≤ 300) (hs : ∀ x ∈ H, x.size ≤ 5000) (hs2 : ∀ x ∈ O, x.size ≤ 5000) : ∀ x ∈ wordsP s H O rt, x.size ≤ 5000 := by
  intro x hx
  unfold wordsP at hx
  rw [List.mem_append, List.mem_append, List.mem_append] at hx
  rcases hx with ((hx | hx) | hx) | hx
  · rw [List.mem_singleton] at hx
    subst hx
    rw [ByteArray.size_append]
    show s.size + 1 ≤ _
    omega
  · exact hs x hx
  · split at hx
    · simp at hx
    · rw [List.mem_append, List.mem_singleton] at hx
      rcases hx with rfl | hx
      · decide
      · exact hs2 x hx
  · split at hx
    · rw [List.mem_singleton] at hx; subst hx; decide
    · simp at hx
theorem wordsP_len (s : ByteArray) (H O : List ByteArray) (rt : Bool) : (wordsP s H O rt).length = 1 + H.length + (if O = [] then 0 else 1 + O.length) + (if rt then 1 else 0) := by
  unfold wordsP
  rw [List.length_append, List.length_append, List.length_append]
  split <;> split <;> simp <;> omega
set_option maxHeartbeats 4000000 in
theorem print_bad (s : ByteArray) (H O : List ByteArray) (nh ch no co : Nat) (AH AO : Option Addr) (rt : Bool) (w : World) (hz : s.size ≤ 300) (hZ : TextsZ w AH nh H) (hn : nh ≤ 1000) (hcap : nh ≤ ch) (hs : ∀ x ∈ H, x.size ≤ 5000) (hZ2 : TextsZ w AO no O) (hn2 : no ≤ 1000) (hs2 : ∀ x ∈ O, x.size ≤ 5000) (hA1 : AH = none → ch = 0) (hA2 : AO = none → co = 0) (h0 : frmE s (bls H) (bls O) ≠ 0) :
    Calls Tryz.prog 22 #[.agg #[.string s, .slice AH nh ch, .slice AO no co, .bool rt]] w (RetPost (.tuple #[.string ⟨#[]⟩, .int .i64 (frmE s (bls H) (bls O))]) w) := by
  obtain ⟨g, hg⟩ : ∃ g, w.heap.size = g := ⟨_, rfl⟩
  obtain ⟨w1, hw1⟩ : ∃ w1, w.alloc (.cells #[.string s, .slice AH nh ch, .slice AO no co, .bool rt] 61) = w1 := ⟨_, rfl⟩
  have hb1 : Below w.heap.size w w1 := by rw [← hw1]; exact balloc _ (Below.refl _ _)
  have hs1 : w1.heap.size = w.heap.size + 1 := by rw [← hw1]; simp
  have c0 : w1.cell? ⟨g, 0, none⟩ = some (.string s) := by rw [← hw1, ← hg]; simp
  have c1 : w1.cell? ⟨g, 1, none⟩ = some (.slice AH nh ch) := by rw [← hw1, ← hg]; simp
  have c2 : w1.cell? ⟨g, 2, none⟩ = some (.slice AO no co) := by rw [← hw1, ← hg]; simp
  have c3 : w1.cell? ⟨g, 3, none⟩ = some (.bool rt) := by rw [← hw1, ← hg]; simp
  have hC := fdFormError_any s H O nh ch no co AH AO rt w1 (by unfold maxLen; omega) (hZ.below hb1) (by omega) hcap hs (hZ2.below hb1) (by omega) hs2
  have HB1 := Lib.hid hb1
  generalize frmE s (bls H) (bls O) = e0 at *
  have hbn : (e0 != 0) = true := by rw [bne_iff_ne]; exact h0
  clear hZ hZ2 hs hs2 h0 hb1 hs1
  go_enter Tryz.func22, Tryz.ntmps22
  go_wp2_with fail
  with_reducible refine hC.mono ?_
  rintro e w2 ⟨rfl, hb2⟩
  have hb3 := bstep HB1.out hb2
  clear hb2 c0 c1 c2 c3 hw1
  go_wp2
  go_ret2
  exact ⟨rfl, hb3⟩
set_option maxHeartbeats 16000000 in
theorem print_ok0 (s : ByteArray) (H O : List ByteArray) (nh ch no co : Nat) (AH AO : Option Addr) (rt : Bool) (w : World) (hz : s.size ≤ 300) (hZ : TextsZ w AH nh H) (hn : nh ≤ 1000) (hcap : nh ≤ ch) (hs : ∀ x ∈ H, x.size ≤ 5000) (hZ2 : TextsZ w AO no O) (hn2 : no ≤ 1000) (hs2 : ∀ x ∈ O, x.size ≤ 5000) (hA1 : AH = none → ch = 0) (hA2 : AO = none → co = 0) (h0 : frmE s (bls H) (bls O) = 0) (hno : O = []) (hrt : rt = false) :
    Calls Tryz.prog 22 #[.agg #[.string s, .slice AH nh ch, .slice AO no co, .bool rt]] w (RetPost (.tuple #[.string (joinB (wordsP s H O rt)), .int .i64 0]) w) := by
  obtain ⟨i0, hi, hz0, hz1, hz2⟩ := info_parts infoStr
  obtain ⟨g, hg⟩ : ∃ g, w.heap.size = g := ⟨_, rfl⟩
  obtain ⟨w1, hw1⟩ : ∃ w1, w.alloc (.cells #[.string s, .slice AH nh ch, .slice AO no co, .bool rt] 61) = w1 := ⟨_, rfl⟩
  have hb1 : Below w.heap.size w w1 := by rw [← hw1]; exact balloc _ (Below.refl _ _)
  have hs1 : w1.heap.size = w.heap.size + 1 := by rw [← hw1]; simp
  have c0 : w1.cell? ⟨g, 0, none⟩ = some (.string s) := by rw [← hw1, ← hg]; simp
  have c1 : w1.cell? ⟨g, 1, none⟩ = some (.slice AH nh ch) := by rw [← hw1, ← hg]; simp
  have c2 : w1.cell? ⟨g, 2, none⟩ = some (.slice AO no co) := by rw [← hw1, ← hg]; simp
  have c3 : w1.cell? ⟨g, 3, none⟩ = some (.bool rt) := by rw [← hw1, ← hg]; simp
  have hC := fdFormError_any s H O nh ch no co AH AO rt w1 (by unfold maxLen; omega) (hZ.below hb1) (by omega) hcap hs (hZ2.below hb1) (by omega) hs2
  have HB1 := Lib.hid hb1
  rw [h0] at hC
  have HX : Hid (∀ w', Below w1.heap.size w1 w' → w'.cell? ⟨g, 0, none⟩ = some (.string s) ∧ w'.cell? ⟨g, 1, none⟩ = some (.slice AH nh ch) ∧ w'.cell? ⟨g, 2, none⟩ = some (.slice AO no co) ∧ w'.cell? ⟨g, 3, none⟩ = some (.bool rt) ∧ g < w'.heap.size) := Lib.hid fun w' hb => ⟨(hb.cell (p := ⟨g, 0, none⟩) (by show g < _; omega)).trans c0, (hb.cell (p := ⟨g, 1, none⟩) (by show g < _; omega)).trans c1, (hb.cell (p := ⟨g, 2, none⟩) (by show g < _; omega)).trans c2, (hb.cell (p := ⟨g, 3, none⟩) (by show g < _; omega)).trans c3, by have := hb.size; omega⟩
  have HZ1 : Hid (∀ w', Below w1.heap.size w1 w' → TextsZ w' AH nh H) := Lib.hid fun w' hb => (hZ.below hb1).below hb
  have HZ2 : Hid (∀ w', Below w1.heap.size w1 w' → TextsZ w' AO no O) := Lib.hid fun w' hb => (hZ2.below hb1).below hb
  have HL1 := Lib.hid hZ.1
  have HL2 := Lib.hid hZ2.1
  have hni : (nh : Int) ≤ 1000 := by omega
  have hnoi : (no : Int) ≤ 1000 := by omega
  have hAn1 : AH = none → nh = 0 ∧ ch = 0 := fun q => ⟨by have := hA1 q; omega, hA1 q⟩
  have hAn2 : AO = none → no = 0 ∧ co = 0 := fun q => by
    refine ⟨?_, hA2 q⟩
    refine Classical.byContradiction fun hne => ?_
    obtain ⟨_, _, e, _⟩ := hZ2.2 (by omega)
    rw [q] at e
    cases e
  have HA1 := Lib.hid hAn1
  have HA2 := Lib.hid hAn2
  have HWS := Lib.hid (wordsP_size s H O rt hz hs hs2)
  have HWL := Lib.hid (wordsP_len s H O rt)
  have HNO := Lib.hid hno
  have hnv : no = 0 := by have := hZ2.1; rw [hno] at this; simpa using this.symm
  have HNV := Lib.hid hnv
  have hnvi : ¬ (0 : Int) < (no : Int) := by omega
  clear hZ hZ2 hs hs2 h0 hb1 hs1 hA1 hA2 hAn1 hAn2 hno hnv
  subst hrt
  go_enter Tryz.func22, Tryz.ntmps22
  go_wp2_with fail
  with_reducible refine hC.mono ?_
  rintro e w2 ⟨rfl, hb2⟩
  have HB2 := Lib.hid hb2
  clear hb2 c0 c1 c2 c3 hw1
  obtain ⟨c0, c1, c2, c3, hgl⟩ := HX.out _ HB2.out
  have hrow0 : (w2.alloc (.cells #[.string (s ++ ⟨#[58]⟩)] 9)).ownsRow w2.heap.size 9 1 (.slice (some ⟨w2.heap.size, 0, none⟩) 1 1) 1 [.string (s ++ ⟨#[58]⟩)] := World.ownsRow_lit w2 #[.string (s ++ ⟨#[58]⟩)] 1 (Nat.le_refl _) (by decide) rfl
  have hb13 : Below w2.heap.size w2 (w2.alloc (.cells #[.string (s ++ ⟨#[58]⟩)] 9)) := (Below.refl _ _).alloc (Nat.le_refl _) _
  have HB13 := Lib.hid hb13
  have HROW0 := Lib.hid hrow0
  clear hb13 hrow0
  go_wp2_with (at_builtin; refine wpList_append_src _ rfl _ _ 22 rfl w2.heap.size 9 i0 (.string ⟨#[]⟩) 1 16 Tryz.underlying22 hi hz0 hz1 hz2 rfl (by decide) _ _ _ rfl HROW0.out _ _ _ (H.map Value.string) rfl (by rw [List.length_map, HL1.out]; omega) HA1.out (fun ad had j u hu => texts_cell ((HZ1.out _ (HB2.out.trans (HB13.out.mono HB2.out.size)))) ad had j u hu) (strs_one _) (by unfold maxLen; omega) (by omega) HB13.out.size ?_)
  intro v8 w8 hrow hgrow _
  have hb8 : Below w2.heap.size w2 w8 := HB13.out.grown hgrow HB13.out.size (fun r hr => (World.ownsRow.lt HROW0.out r hr).1)
  have hO8 : OwnNames w8 w2.heap.size v8 ([s ++ sColon] ++ H) := by
    unfold OwnNames
    rw [List.length_append, HL1.out, List.map_append]
    exact hrow
  have HB8 := Lib.hid hb8
  have HT : Hid (∀ w', Below w2.heap.size w2 w' → Below w1.heap.size w1 w') := Lib.hid fun w' hb => HB2.out.trans (hb.mono HB2.out.size)
  clear hgrow hrow hb8 c0 c1 c2 c3 HROW0 HB13 hgl
  obtain ⟨c0, c1, c2, c3, hgl⟩ := HX.out _ (HT.out _ HB8.out)
  have hO9 : OwnNames w8 w2.heap.size v8 (wordsP s H O false) := by
    have e : wordsP s H O false = [s ++ sColon] ++ H := by unfold wordsP; rw [if_pos HNO.out]; simp
    rw [e]
    exact hO8
  have hb15 := HB8.out
  clear hO8
  have hJ := naJoin_any _ w2.heap.size _ _ hO9 (by rw [HWL.out]; omega) (by rw [HWL.out, HL1.out, HL2.out]; split <;> split <;> omega) HWS.out
  generalize joinB (wordsP s H O false) = jt at *
  have hbz := bstep HB1.out (HT.out _ hb15)
  clear hO9 hb15
  go_wp2_with fail
  refine hJ.mono ?_
  rintro e wz ⟨rfl, hbj⟩
  have hfin := bstep hbz hbj
  clear hbz hbj hJ
  go_wp2
  go_ret2
  exact ⟨rfl, hfin⟩
set_option maxHeartbeats 16000000 in
theorem print_ok0r (s : ByteArray) (H O : List ByteArray) (nh ch no co : Nat) (AH AO : Option Addr) (rt : Bool) (w : World) (hz : s.size ≤ 300) (hZ : TextsZ w AH nh H) (hn : nh ≤ 1000) (hcap : nh ≤ ch) (hs : ∀ x ∈ H, x.size ≤ 5000) (hZ2 : TextsZ w AO no O) (hn2 : no ≤ 1000) (hs2 : ∀ x ∈ O, x.size ≤ 5000) (hA1 : AH = none → ch = 0) (hA2 : AO = none → co = 0) (h0 : frmE s (bls H) (bls O) = 0) (hno : O = []) (hrt : rt = true) :
    Calls Tryz.prog 22 #[.agg #[.string s, .slice AH nh ch, .slice AO no co, .bool rt]] w (RetPost (.tuple #[.string (joinB (wordsP s H O rt)), .int .i64 0]) w) := by
  obtain ⟨i0, hi, hz0, hz1, hz2⟩ := info_parts infoStr
  obtain ⟨g, hg⟩ : ∃ g, w.heap.size = g := ⟨_, rfl⟩
  obtain ⟨w1, hw1⟩ : ∃ w1, w.alloc (.cells #[.string s, .slice AH nh ch, .slice AO no co, .bool rt] 61) = w1 := ⟨_, rfl⟩
  have hb1 : Below w.heap.size w w1 := by rw [← hw1]; exact balloc _ (Below.refl _ _)
  have hs1 : w1.heap.size = w.heap.size + 1 := by rw [← hw1]; simp
  have c0 : w1.cell? ⟨g, 0, none⟩ = some (.string s) := by rw [← hw1, ← hg]; simp
  have c1 : w1.cell? ⟨g, 1, none⟩ = some (.slice AH nh ch) := by rw [← hw1, ← hg]; simp
  have c2 : w1.cell? ⟨g, 2, none⟩ = some (.slice AO no co) := by rw [← hw1, ← hg]; simp
  have c3 : w1.cell? ⟨g, 3, none⟩ = some (.bool rt) := by rw [← hw1, ← hg]; simp
  have hC := fdFormError_any s H O nh ch no co AH AO rt w1 (by unfold maxLen; omega) (hZ.below hb1) (by omega) hcap hs (hZ2.below hb1) (by omega) hs2
  have HB1 := Lib.hid hb1
  rw [h0] at hC
  have HX : Hid (∀ w', Below w1.heap.size w1 w' → w'.cell? ⟨g, 0, none⟩ = some (.string s) ∧ w'.cell? ⟨g, 1, none⟩ = some (.slice AH nh ch) ∧ w'.cell? ⟨g, 2, none⟩ = some (.slice AO no co) ∧ w'.cell? ⟨g, 3, none⟩ = some (.bool rt) ∧ g < w'.heap.size) := Lib.hid fun w' hb => ⟨(hb.cell (p := ⟨g, 0, none⟩) (by show g < _; omega)).trans c0, (hb.cell (p := ⟨g, 1, none⟩) (by show g < _; omega)).trans c1, (hb.cell (p := ⟨g, 2, none⟩) (by show g < _; omega)).trans c2, (hb.cell (p := ⟨g, 3, none⟩) (by show g < _; omega)).trans c3, by have := hb.size; omega⟩
  have HZ1 : Hid (∀ w', Below w1.heap.size w1 w' → TextsZ w' AH nh H) := Lib.hid fun w' hb => (hZ.below hb1).below hb
  have HZ2 : Hid (∀ w', Below w1.heap.size w1 w' → TextsZ w' AO no O) := Lib.hid fun w' hb => (hZ2.below hb1).below hb
  have HL1 := Lib.hid hZ.1
  have HL2 := Lib.hid hZ2.1
  have hni : (nh : Int) ≤ 1000 := by omega
  have hnoi : (no : Int) ≤ 1000 := by omega
  have hAn1 : AH = none → nh = 0 ∧ ch = 0 := fun q => ⟨by have := hA1 q; omega, hA1 q⟩
  have hAn2 : AO = none → no = 0 ∧ co = 0 := fun q => by
    refine ⟨?_, hA2 q⟩
    refine Classical.byContradiction fun hne => ?_
    obtain ⟨_, _, e, _⟩ := hZ2.2 (by omega)
    rw [q] at e
    cases e
  have HA1 := Lib.hid hAn1
  have HA2 := Lib.hid hAn2
  have HWS := Lib.hid (wordsP_size s H O rt hz hs hs2)
  have HWL := Lib.hid (wordsP_len s H O rt)
  have HNO := Lib.hid hno
  have hnv : no = 0 := by have := hZ2.1; rw [hno] at this; simpa using this.symm
  have HNV := Lib.hid hnv
  have hnvi : ¬ (0 : Int) < (no : Int) := by omega
  clear hZ hZ2 hs hs2 h0 hb1 hs1 hA1 hA2 hAn1 hAn2 hno hnv
  subst hrt
  go_enter Tryz.func22, Tryz.ntmps22
  go_wp2_with fail
  with_reducible refine hC.mono ?_
  rintro e w2 ⟨rfl, hb2⟩
  have HB2 := Lib.hid hb2
  clear hb2 c0 c1 c2 c3 hw1
  obtain ⟨c0, c1, c2, c3, hgl⟩ := HX.out _ HB2.out
  have hrow0 : (w2.alloc (.cells #[.string (s ++ ⟨#[58]⟩)] 9)).ownsRow w2.heap.size 9 1 (.slice (some ⟨w2.heap.size, 0, none⟩) 1 1) 1 [.string (s ++ ⟨#[58]⟩)] := World.ownsRow_lit w2 #[.string (s ++ ⟨#[58]⟩)] 1 (Nat.le_refl _) (by decide) rfl
  have hb13 : Below w2.heap.size w2 (w2.alloc (.cells #[.string (s ++ ⟨#[58]⟩)] 9)) := (Below.refl _ _).alloc (Nat.le_refl _) _
  have HB13 := Lib.hid hb13
  have HROW0 := Lib.hid hrow0
  clear hb13 hrow0
  go_wp2_with (at_builtin; refine wpList_append_src _ rfl _ _ 22 rfl w2.heap.size 9 i0 (.string ⟨#[]⟩) 1 16 Tryz.underlying22 hi hz0 hz1 hz2 rfl (by decide) _ _ _ rfl HROW0.out _ _ _ (H.map Value.string) rfl (by rw [List.length_map, HL1.out]; omega) HA1.out (fun ad had j u hu => texts_cell ((HZ1.out _ (HB2.out.trans (HB13.out.mono HB2.out.size)))) ad had j u hu) (strs_one _) (by unfold maxLen; omega) (by omega) HB13.out.size ?_)
  intro v8 w8 hrow hgrow _
  have hb8 : Below w2.heap.size w2 w8 := HB13.out.grown hgrow HB13.out.size (fun r hr => (World.ownsRow.lt HROW0.out r hr).1)
  have hO8 : OwnNames w8 w2.heap.size v8 ([s ++ sColon] ++ H) := by
    unfold OwnNames
    rw [List.length_append, HL1.out, List.map_append]
    exact hrow
  have HB8 := Lib.hid hb8
  have HT : Hid (∀ w', Below w2.heap.size w2 w' → Below w1.heap.size w1 w') := Lib.hid fun w' hb => HB2.out.trans (hb.mono HB2.out.size)
  clear hgrow hrow hb8 c0 c1 c2 c3 HROW0 HB13 hgl
  obtain ⟨c0, c1, c2, c3, hgl⟩ := HX.out _ (HT.out _ HB8.out)
  have hlenL : ([s ++ sColon] ++ H).length ≤ 2100 := by simp only [List.length_append, List.length_singleton, HL1.out, HL2.out]; omega
  have HLL := Lib.hid hlenL
  have hb14 : Below w2.heap.size w2 (w8.alloc (.cells #[.string ⟨#[114, 101, 116, 105, 114, 101, 100]⟩] 9)) := HB8.out.alloc HB8.out.size _
  have HB14 := Lib.hid hb14
  have HRO := Lib.hid (World.ownsRow.alloc hO8 (.cells #[.string ⟨#[114, 101, 116, 105, 114, 101, 100]⟩] 9))
  clear hb14 hlenL hO8
  go_wp2_with (at_builtin; refine wpList_append_src _ rfl _ _ 22 rfl w2.heap.size 9 i0 (.string ⟨#[]⟩) 1 16 Tryz.underlying22 hi hz0 hz1 hz2 rfl (by decide) _ _ _ rfl HRO.out _ _ _ [.string ⟨#[114, 101, 116, 105, 114, 101, 100]⟩] rfl rfl (fun q => by cases q) (fun ad had i u hu => by cases had; match i, hu with | 0, hu => (simp at hu; subst hu; simp [Addr.add])) (by intro u hu; rw [List.mem_singleton] at hu; subst hu; rfl) (by unfold maxLen; have := HLL.out; omega) (by have := HLL.out; omega) HB14.out.size ?_)
  intro v10 w10 hrow hgrow _
  have hb15 : Below w2.heap.size w2 w10 := HB14.out.grown hgrow HB14.out.size (fun r hr => (World.ownsRow.lt HRO.out r hr).1)
  have hO9 : OwnNames w10 w2.heap.size v10 (wordsP s H O true) := by
    unfold OwnNames
    have e : wordsP s H O true = ([s ++ sColon] ++ H) ++ [sRetired] := by unfold wordsP; rw [if_pos HNO.out]; simp
    rw [e, List.length_append, List.map_append]
    first
      | exact hrow
      | simpa [sBar, sRetired, Nat.add_assoc, Nat.add_comm, Nat.add_left_comm] using hrow
  clear hrow hgrow HRO HLL
  have hJ := naJoin_any _ w2.heap.size _ _ hO9 (by rw [HWL.out]; omega) (by rw [HWL.out, HL1.out, HL2.out]; split <;> split <;> omega) HWS.out
  generalize joinB (wordsP s H O true) = jt at *
  have hbz := bstep HB1.out (HT.out _ hb15)
  clear hO9 hb15
  go_wp2_with fail
  refine hJ.mono ?_
  rintro e wz ⟨rfl, hbj⟩
  have hfin := bstep hbz hbj
  clear hbz hbj hJ
  go_wp2
  go_ret2
  exact ⟨rfl, hfin⟩
set_option maxHeartbeats 16000000 in
theorem print_okN (s : ByteArray) (H O : List ByteArray) (nh ch no co : Nat) (AH AO : Option Addr) (rt : Bool) (w : World) (hz : s.size ≤ 300) (hZ : TextsZ w AH nh H) (hn : nh ≤ 1000) (hcap : nh ≤ ch) (hs : ∀ x ∈ H, x.size ≤ 5000) (hZ2 : TextsZ w AO no O) (hn2 : no ≤ 1000) (hs2 : ∀ x ∈ O, x.size ≤ 5000) (hA1 : AH = none → ch = 0) (hA2 : AO = none → co = 0) (h0 : frmE s (bls H) (bls O) = 0) (hno : O ≠ []) (hrt : rt = false) :
    Calls Tryz.prog 22 #[.agg #[.string s, .slice AH nh ch, .slice AO no co, .bool rt]] w (RetPost (.tuple #[.string (joinB (wordsP s H O rt)), .int .i64 0]) w) := by
  obtain ⟨i0, hi, hz0, hz1, hz2⟩ := info_parts infoStr
  obtain ⟨g, hg⟩ : ∃ g, w.heap.size = g := ⟨_, rfl⟩
  obtain ⟨w1, hw1⟩ : ∃ w1, w.alloc (.cells #[.string s, .slice AH nh ch, .slice AO no co, .bool rt] 61) = w1 := ⟨_, rfl⟩
  have hb1 : Below w.heap.size w w1 := by rw [← hw1]; exact balloc _ (Below.refl _ _)
  have hs1 : w1.heap.size = w.heap.size + 1 := by rw [← hw1]; simp
  have c0 : w1.cell? ⟨g, 0, none⟩ = some (.string s) := by rw [← hw1, ← hg]; simp
  have c1 : w1.cell? ⟨g, 1, none⟩ = some (.slice AH nh ch) := by rw [← hw1, ← hg]; simp
  have c2 : w1.cell? ⟨g, 2, none⟩ = some (.slice AO no co) := by rw [← hw1, ← hg]; simp
  have c3 : w1.cell? ⟨g, 3, none⟩ = some (.bool rt) := by rw [← hw1, ← hg]; simp
  have hC := fdFormError_any s H O nh ch no co AH AO rt w1 (by unfold maxLen; omega) (hZ.below hb1) (by omega) hcap hs (hZ2.below hb1) (by omega) hs2
  have HB1 := Lib.hid hb1
  rw [h0] at hC
  have HX : Hid (∀ w', Below w1.heap.size w1 w' → w'.cell? ⟨g, 0, none⟩ = some (.string s) ∧ w'.cell? ⟨g, 1, none⟩ = some (.slice AH nh ch) ∧ w'.cell? ⟨g, 2, none⟩ = some (.slice AO no co) ∧ w'.cell? ⟨g, 3, none⟩ = some (.bool rt) ∧ g < w'.heap.size) := Lib.hid fun w' hb => ⟨(hb.cell (p := ⟨g, 0, none⟩) (by show g < _; omega)).trans c0, (hb.cell (p := ⟨g, 1, none⟩) (by show g < _; omega)).trans c1, (hb.cell (p := ⟨g, 2, none⟩) (by show g < _; omega)).trans c2, (hb.cell (p := ⟨g, 3, none⟩) (by show g < _; omega)).trans c3, by have := hb.size; omega⟩
  have HZ1 : Hid (∀ w', Below w1.heap.size w1 w' → TextsZ w' AH nh H) := Lib.hid fun w' hb => (hZ.below hb1).below hb
  have HZ2 : Hid (∀ w', Below w1.heap.size w1 w' → TextsZ w' AO no O) := Lib.hid fun w' hb => (hZ2.below hb1).below hb
  have HL1 := Lib.hid hZ.1
  have HL2 := Lib.hid hZ2.1
  have hni : (nh : Int) ≤ 1000 := by omega
  have hnoi : (no : Int) ≤ 1000 := by omega
  have hAn1 : AH = none → nh = 0 ∧ ch = 0 := fun q => ⟨by have := hA1 q; omega, hA1 q⟩
  have hAn2 : AO = none → no = 0 ∧ co = 0 := fun q => by
    refine ⟨?_, hA2 q⟩
    refine Classical.byContradiction fun hne => ?_
    obtain ⟨_, _, e, _⟩ := hZ2.2 (by omega)
    rw [q] at e
    cases e
  have HA1 := Lib.hid hAn1
  have HA2 := Lib.hid hAn2
  have HWS := Lib.hid (wordsP_size s H O rt hz hs hs2)
  have HWL := Lib.hid (wordsP_len s H O rt)
  have HNO := Lib.hid hno
  have hnv : 0 < no := by have := hZ2.1; cases O with | nil => exact absurd rfl hno | cons a l => (simp at this; omega)
  have HNV := Lib.hid hnv
  have hnvi : (0 : Int) < (no : Int) := by omega
  clear hZ hZ2 hs hs2 h0 hb1 hs1 hA1 hA2 hAn1 hAn2 hno hnv
  subst hrt
  go_enter Tryz.func22, Tryz.ntmps22
  go_wp2_with fail
  with_reducible refine hC.mono ?_
  rintro e w2 ⟨rfl, hb2⟩
  have HB2 := Lib.hid hb2
  clear hb2 c0 c1 c2 c3 hw1
  obtain ⟨c0, c1, c2, c3, hgl⟩ := HX.out _ HB2.out
  have hrow0 : (w2.alloc (.cells #[.string (s ++ ⟨#[58]⟩)] 9)).ownsRow w2.heap.size 9 1 (.slice (some ⟨w2.heap.size, 0, none⟩) 1 1) 1 [.string (s ++ ⟨#[58]⟩)] := World.ownsRow_lit w2 #[.string (s ++ ⟨#[58]⟩)] 1 (Nat.le_refl _) (by decide) rfl
  have hb13 : Below w2.heap.size w2 (w2.alloc (.cells #[.string (s ++ ⟨#[58]⟩)] 9)) := (Below.refl _ _).alloc (Nat.le_refl _) _
  have HB13 := Lib.hid hb13
  have HROW0 := Lib.hid hrow0
  clear hb13 hrow0
  go_wp2_with (at_builtin; refine wpList_append_src _ rfl _ _ 22 rfl w2.heap.size 9 i0 (.string ⟨#[]⟩) 1 16 Tryz.underlying22 hi hz0 hz1 hz2 rfl (by decide) _ _ _ rfl HROW0.out _ _ _ (H.map Value.string) rfl (by rw [List.length_map, HL1.out]; omega) HA1.out (fun ad had j u hu => texts_cell ((HZ1.out _ (HB2.out.trans (HB13.out.mono HB2.out.size)))) ad had j u hu) (strs_one _) (by unfold maxLen; omega) (by omega) HB13.out.size ?_)
  intro v8 w8 hrow hgrow _
  have hb8 : Below w2.heap.size w2 w8 := HB13.out.grown hgrow HB13.out.size (fun r hr => (World.ownsRow.lt HROW0.out r hr).1)
  have hO8 : OwnNames w8 w2.heap.size v8 ([s ++ sColon] ++ H) := by
    unfold OwnNames
    rw [List.length_append, HL1.out, List.map_append]
    exact hrow
  have HB8 := Lib.hid hb8
  have HT : Hid (∀ w', Below w2.heap.size w2 w' → Below w1.heap.size w1 w') := Lib.hid fun w' hb => HB2.out.trans (hb.mono HB2.out.size)
  clear hgrow hrow hb8 c0 c1 c2 c3 HROW0 HB13 hgl
  obtain ⟨c0, c1, c2, c3, hgl⟩ := HX.out _ (HT.out _ HB8.out)
  have hrow := hO8
  have hlen8 : ([s ++ sColon] ++ H).length = 1 + nh := by rw [List.length_append, HL1.out]; rfl
  unfold OwnNames at hrow
  rw [hlen8] at hrow
  clear hO8
  go_wp2_with fail
  have hrow := hrow.drew
  have HX2 : Hid (∀ w', Below w2.heap.size w2 w' → w'.cell? ⟨g, 2, none⟩ = some (.slice AO no co) ∧ Below w2.heap.size w2 w') := Lib.hid fun w' hb => ⟨(HX.out _ (HT.out _ hb)).2.2.1, hb⟩
  refine wp_region_held_drew (S := (fun w' => w'.cell? ⟨g, 2, none⟩ = some (.slice AO no co) ∧ Below w2.heap.size w2 w')) (by kernel_rfl) ?_ (fun hHeld => ?_)
  · exact HX2.out _ HB8.out.drew
  generalize World.drew w8 = wd at hHeld hrow ⊢
  refine wpAnyH_take (i := 0) (oi := _) (v := ?_) rfl (by kernel_rfl) (by kernel_rfl) (by kernel_rfl) (fun _ _ _ h => h) (Or.inl ⟨by kernel_rfl, ?_⟩) (by assumption) ?_
  rotate_left
  · rintro w ⟨s1, s2⟩
    go_simp
    try with_reducible rfl
  try simp only [Act.put, List.setIfInBounds_toArray, List.set_cons_zero, List.set_cons_succ, List.getElem_toArray, List.getElem_cons_zero, List.getElem_cons_succ]
  refine wpAnyH_take (i := 3) (oi := _) (v := ?_) rfl (by kernel_rfl) (by kernel_rfl) (by kernel_rfl) (fun _ _ _ h => h) (Or.inl ⟨by kernel_rfl, ?_⟩) (by assumption) ?_
  rotate_left
  · rintro w ⟨s1, s2⟩
    go_simp
    try with_reducible rfl
  try simp only [Act.put, List.setIfInBounds_toArray, List.set_cons_zero, List.set_cons_succ, List.getElem_toArray, List.getElem_cons_zero, List.getElem_cons_succ]
  refine wpAnyH_take (i := 4) (oi := _) (v := ?_) rfl (by kernel_rfl) (by kernel_rfl) (by kernel_rfl) (fun _ _ _ h => h) (Or.inl ⟨by kernel_rfl, ?_⟩) (by assumption) ?_
  rotate_left
  · rintro w ⟨s1, s2⟩
    go_simp
    try with_reducible rfl
  try simp only [Act.put, List.setIfInBounds_toArray, List.set_cons_zero, List.set_cons_succ, List.getElem_toArray, List.getElem_cons_zero, List.getElem_cons_succ]
  refine wpAnyH_ready (rs := [1]) (by kernel_rfl) (by simp) ?_
  refine AllReadyH.cons (o := _) rfl (fun K hKK => ?_) AllReadyH.nil
  go_simp
  have hc2 : (wd.alloc (.cells #[.string ⟨#[124]⟩] 9)).cell? ⟨wd.heap.size, 0, none⟩ = some (.string ⟨#[124]⟩) := by simp
  have hrow := World.ownsRow.alloc hrow (.cells #[.string ⟨#[124]⟩] 9)
  have hN := HX2.out _ (hHeld.2.alloc hHeld.2.size (.cells #[.string ⟨#[124]⟩] 9))
  clear hHeld
  refine hKK.out _ _ ?_ (fun hHeld => ?_)
  · exact hN
  clear hKK K hN
  try simp only [Act.put, List.setIfInBounds_toArray, List.set_cons_zero, List.set_cons_succ, List.getElem_toArray, List.getElem_cons_zero, List.getElem_cons_succ]
  refine wpAnyH_ready (rs := [2]) (by kernel_rfl) (by simp) ?_
  refine AllReadyH.cons (o := _) rfl (fun K hKK => ?_) AllReadyH.nil
  refine step_append_src rfl (.tmp 22) (.tmp 23) 22 rfl w2.heap.size 9 i0 (.string ⟨#[]⟩) 1 16 Tryz.underlying22 hi hz0 hz1 hz2 rfl (by decide) _ _ _ rfl hrow _ _ _ [.string ⟨#[124]⟩] rfl rfl (fun q => by cases q) (fun ad had i u hu => by cases had; match i, hu with | 0, hu => (simp at hu; subst hu; rw [add_atX]; exact hc2)) (by intro u hu; rw [List.mem_singleton] at hu; subst hu; rfl) (by unfold maxLen; omega) (by omega) hHeld.2.size ?_
  intro v9 w9 hown9 hgrow hat
  have hN := HX2.out _ (hHeld.2.grown hgrow hHeld.2.size (fun r hr => (World.ownsRow.lt hrow r hr).1))
  clear hHeld hrow hat hgrow hc2
  have hrow := hown9
  clear hown9
  refine hKK.out _ _ ?_ (fun hHeld => ?_)
  · exact hN
  clear hKK K hN
  try simp only [Act.put, List.setIfInBounds_toArray, List.set_cons_zero, List.set_cons_succ, List.getElem_toArray, List.getElem_cons_zero, List.getElem_cons_succ]
  refine wpAnyH_ready (rs := [5]) (by kernel_rfl) (by simp) ?_
  refine AllReadyH.cons (o := _) rfl (fun K hKK => ?_) AllReadyH.nil
  refine step_append_src rfl (.tmp 24) (.tmp 26) 22 rfl w2.heap.size 9 i0 (.string ⟨#[]⟩) 1 16 Tryz.underlying22 hi hz0 hz1 hz2 rfl (by decide) _ _ _ rfl hrow _ _ _ (O.map Value.string) rfl (by rw [List.length_map, HL2.out]; omega) HA2.out (fun ad had j u hu => texts_cell (HZ2.out _ (HT.out _ hHeld.2)) ad had j u hu) (strs_one _) (by unfold maxLen; omega) (by omega) hHeld.2.size ?_
  intro v9 w9 hown9 hgrow hat
  have hN := HX2.out _ (hHeld.2.grown hgrow hHeld.2.size (fun r hr => (World.ownsRow.lt hrow r hr).1))
  clear hHeld hrow hat hgrow
  have hrow := hown9
  clear hown9
  refine hKK.out _ _ ?_ (fun hHeld => ?_)
  · exact hN
  clear hKK K hN
  try simp only [Act.put, List.setIfInBounds_toArray, List.set_cons_zero, List.set_cons_succ, List.getElem_toArray, List.getElem_cons_zero, List.getElem_cons_succ]
  refine wpAnyH_ready (rs := [6]) (by kernel_rfl) (by simp) ?_
  refine AllReadyH.cons (o := _) rfl (fun K hKK => ?_) AllReadyH.nil
  go_simp
  refine hKK.out _ _ ?_ (fun hHeld => ?_)
  · exact hHeld
  clear hKK K
  try simp only [Act.put, List.setIfInBounds_toArray, List.set_cons_zero, List.set_cons_succ, List.getElem_toArray, List.getElem_cons_zero, List.getElem_cons_succ]
  refine wpAnyH_done (by kernel_rfl) ?_ _
  have hO8 : OwnNames w9 w2.heap.size v9 (([s ++ sColon] ++ H) ++ ([sBar] ++ O)) := by
    unfold OwnNames
    rw [List.length_append, hlen8, List.length_append, HL2.out, List.map_append, List.map_append]
    simpa [Nat.add_assoc, sBar] using hrow
  clear HB8
  have HB8 := Lib.hid hHeld.2
  clear hrow hHeld c0 c1 c2 c3 hgl
  obtain ⟨c0, c1, c2, c3, hgl⟩ := HX.out _ (HT.out _ HB8.out)
  have hO9 : OwnNames w9 w2.heap.size v9 (wordsP s H O false) := by
    have e : wordsP s H O false = ([s ++ sColon] ++ H) ++ ([sBar] ++ O) := by unfold wordsP; rw [if_neg HNO.out]; simp
    rw [e]
    exact hO8
  have hb15 := HB8.out
  clear hO8
  have hJ := naJoin_any _ w2.heap.size _ _ hO9 (by rw [HWL.out]; omega) (by rw [HWL.out, HL1.out, HL2.out]; split <;> split <;> omega) HWS.out
  generalize joinB (wordsP s H O false) = jt at *
  have hbz := bstep HB1.out (HT.out _ hb15)
  clear hO9 hb15
  go_wp2_with fail
  refine hJ.mono ?_
  rintro e wz ⟨rfl, hbj⟩
  have hfin := bstep hbz hbj
  clear hbz hbj hJ
  go_wp2
  go_ret2
  exact ⟨rfl, hfin⟩
set_option maxHeartbeats 16000000 in
theorem print_okNr (s : ByteArray) (H O : List ByteArray) (nh ch no co : Nat) (AH AO : Option Addr) (rt : Bool) (w : World) (hz : s.size ≤ 300) (hZ : TextsZ w AH nh H) (hn : nh ≤ 1000) (hcap : nh ≤ ch) (hs : ∀ x ∈ H, x.size ≤ 5000) (hZ2 : TextsZ w AO no O) (hn2 : no ≤ 1000) (hs2 : ∀ x ∈ O, x.size ≤ 5000) (hA1 : AH = none → ch = 0) (hA2 : AO = none → co = 0) (h0 : frmE s (bls H) (bls O) = 0) (hno : O ≠ []) (hrt : rt = true) :
    Calls Tryz.prog 22 #[.agg #[.string s, .slice AH nh ch, .slice AO no co, .bool rt]] w (RetPost (.tuple #[.string (joinB (wordsP s H O rt)), .int .i64 0]) w) := by
  obtain ⟨i0, hi, hz0, hz1, hz2⟩ := info_parts infoStr
  obtain ⟨g, hg⟩ : ∃ g, w.heap.size = g := ⟨_, rfl⟩
  obtain ⟨w1, hw1⟩ : ∃ w1, w.alloc (.cells #[.string s, .slice AH nh ch, .slice AO no co, .bool rt] 61) = w1 := ⟨_, rfl⟩
  have hb1 : Below w.heap.size w w1 := by rw [← hw1]; exact balloc _ (Below.refl _ _)
  have hs1 : w1.heap.size = w.heap.size + 1 := by rw [← hw1]; simp
  have c0 : w1.cell? ⟨g, 0, none⟩ = some (.string s) := by rw [← hw1, ← hg]; simp
  have c1 : w1.cell? ⟨g, 1, none⟩ = some (.slice AH nh ch) := by rw [← hw1, ← hg]; simp
  have c2 : w1.cell? ⟨g, 2, none⟩ = some (.slice AO no co) := by rw [← hw1, ← hg]; simp
  have c3 : w1.cell? ⟨g, 3, none⟩ = some (.bool rt) := by rw [← hw1, ← hg]; simp
  have hC := fdFormError_any s H O nh ch no co AH AO rt w1 (by unfold maxLen; omega) (hZ.below hb1) (by omega) hcap hs (hZ2.below hb1) (by omega) hs2
  have HB1 := Lib.hid hb1
  rw [h0] at hC
  have HX : Hid (∀ w', Below w1.heap.size w1 w' → w'.cell? ⟨g, 0, none⟩ = some (.string s) ∧ w'.cell? ⟨g, 1, none⟩ = some (.slice AH nh ch) ∧ w'.cell? ⟨g, 2, none⟩ = some (.slice AO no co) ∧ w'.cell? ⟨g, 3, none⟩ = some (.bool rt) ∧ g < w'.heap.size) := Lib.hid fun w' hb => ⟨(hb.cell (p := ⟨g, 0, none⟩) (by show g < _; omega)).trans c0, (hb.cell (p := ⟨g, 1, none⟩) (by show g < _; omega)).trans c1, (hb.cell (p := ⟨g, 2, none⟩) (by show g < _; omega)).trans c2, (hb.cell (p := ⟨g, 3, none⟩) (by show g < _; omega)).trans c3, by have := hb.size; omega⟩
  have HZ1 : Hid (∀ w', Below w1.heap.size w1 w' → TextsZ w' AH nh H) := Lib.hid fun w' hb => (hZ.below hb1).below hb
  have HZ2 : Hid (∀ w', Below w1.heap.size w1 w' → TextsZ w' AO no O) := Lib.hid fun w' hb => (hZ2.below hb1).below hb
  have HL1 := Lib.hid hZ.1
  have HL2 := Lib.hid hZ2.1
  have hni : (nh : Int) ≤ 1000 := by omega
  have hnoi : (no : Int) ≤ 1000 := by omega
  have hAn1 : AH = none → nh = 0 ∧ ch = 0 := fun q => ⟨by have := hA1 q; omega, hA1 q⟩
  have hAn2 : AO = none → no = 0 ∧ co = 0 := fun q => by
    refine ⟨?_, hA2 q⟩
    refine Classical.byContradiction fun hne => ?_
    obtain ⟨_, _, e, _⟩ := hZ2.2 (by omega)
    rw [q] at e
    cases e
  have HA1 := Lib.hid hAn1
  have HA2 := Lib.hid hAn2
  have HWS := Lib.hid (wordsP_size s H O rt hz hs hs2)
  have HWL := Lib.hid (wordsP_len s H O rt)
  have HNO := Lib.hid hno
  have hnv : 0 < no := by have := hZ2.1; cases O with | nil => exact absurd rfl hno | cons a l => (simp at this; omega)
  have HNV := Lib.hid hnv
  have hnvi : (0 : Int) < (no : Int) := by omega
  clear hZ hZ2 hs hs2 h0 hb1 hs1 hA1 hA2 hAn1 hAn2 hno hnv
  subst hrt
  go_enter Tryz.func22, Tryz.ntmps22
  go_wp2_with fail
  with_reducible refine hC.mono ?_
  rintro e w2 ⟨rfl, hb2⟩
  have HB2 := Lib.hid hb2
  clear hb2 c0 c1 c2 c3 hw1
  obtain ⟨c0, c1, c2, c3, hgl⟩ := HX.out _ HB2.out
  have hrow0 : (w2.alloc (.cells #[.string (s ++ ⟨#[58]⟩)] 9)).ownsRow w2.heap.size 9 1 (.slice (some ⟨w2.heap.size, 0, none⟩) 1 1) 1 [.string (s ++ ⟨#[58]⟩)] := World.ownsRow_lit w2 #[.string (s ++ ⟨#[58]⟩)] 1 (Nat.le_refl _) (by decide) rfl
  have hb13 : Below w2.heap.size w2 (w2.alloc (.cells #[.string (s ++ ⟨#[58]⟩)] 9)) := (Below.refl _ _).alloc (Nat.le_refl _) _
  have HB13 := Lib.hid hb13
  have HROW0 := Lib.hid hrow0
  clear hb13 hrow0
  go_wp2_with (at_builtin; refine wpList_append_src _ rfl _ _ 22 rfl w2.heap.size 9 i0 (.string ⟨#[]⟩) 1 16 Tryz.underlying22 hi hz0 hz1 hz2 rfl (by decide) _ _ _ rfl HROW0.out _ _ _ (H.map Value.string) rfl (by rw [List.length_map, HL1.out]; omega) HA1.out (fun ad had j u hu => texts_cell ((HZ1.out _ (HB2.out.trans (HB13.out.mono HB2.out.size)))) ad had j u hu) (strs_one _) (by unfold maxLen; omega) (by omega) HB13.out.size ?_)
  intro v8 w8 hrow hgrow _
  have hb8 : Below w2.heap.size w2 w8 := HB13.out.grown hgrow HB13.out.size (fun r hr => (World.ownsRow.lt HROW0.out r hr).1)
  have hO8 : OwnNames w8 w2.heap.size v8 ([s ++ sColon] ++ H) := by
    unfold OwnNames
    rw [List.length_append, HL1.out, List.map_append]
    exact hrow
  have HB8 := Lib.hid hb8
  have HT : Hid (∀ w', Below w2.heap.size w2 w' → Below w1.heap.size w1 w') := Lib.hid fun w' hb => HB2.out.trans (hb.mono HB2.out.size)
  clear hgrow hrow hb8 c0 c1 c2 c3 HROW0 HB13 hgl
  obtain ⟨c0, c1, c2, c3, hgl⟩ := HX.out _ (HT.out _ HB8.out)
  have hrow := hO8
  have hlen8 : ([s ++ sColon] ++ H).length = 1 + nh := by rw [List.length_append, HL1.out]; rfl
  unfold OwnNames at hrow
  rw [hlen8] at hrow
  clear hO8
  go_wp2_with fail
  have hrow := hrow.drew
  have HX2 : Hid (∀ w', Below w2.heap.size w2 w' → w'.cell? ⟨g, 2, none⟩ = some (.slice AO no co) ∧ Below w2.heap.size w2 w') := Lib.hid fun w' hb => ⟨(HX.out _ (HT.out _ hb)).2.2.1, hb⟩
  refine wp_region_held_drew (S := (fun w' => w'.cell? ⟨g, 2, none⟩ = some (.slice AO no co) ∧ Below w2.heap.size w2 w')) (by kernel_rfl) ?_ (fun hHeld => ?_)
  · exact HX2.out _ HB8.out.drew
  generalize World.drew w8 = wd at hHeld hrow ⊢
  refine wpAnyH_take (i := 0) (oi := _) (v := ?_) rfl (by kernel_rfl) (by kernel_rfl) (by kernel_rfl) (fun _ _ _ h => h) (Or.inl ⟨by kernel_rfl, ?_⟩) (by assumption) ?_
  rotate_left
  · rintro w ⟨s1, s2⟩
    go_simp
    try with_reducible rfl
  try simp only [Act.put, List.setIfInBounds_toArray, List.set_cons_zero, List.set_cons_succ, List.getElem_toArray, List.getElem_cons_zero, List.getElem_cons_succ]
  refine wpAnyH_take (i := 3) (oi := _) (v := ?_) rfl (by kernel_rfl) (by kernel_rfl) (by kernel_rfl) (fun _ _ _ h => h) (Or.inl ⟨by kernel_rfl, ?_⟩) (by assumption) ?_
  rotate_left
  · rintro w ⟨s1, s2⟩
    go_simp
    try with_reducible rfl
  try simp only [Act.put, List.setIfInBounds_toArray, List.set_cons_zero, List.set_cons_succ, List.getElem_toArray, List.getElem_cons_zero, List.getElem_cons_succ]
  refine wpAnyH_take (i := 4) (oi := _) (v := ?_) rfl (by kernel_rfl) (by kernel_rfl) (by kernel_rfl) (fun _ _ _ h => h) (Or.inl ⟨by kernel_rfl, ?_⟩) (by assumption) ?_
  rotate_left
  · rintro w ⟨s1, s2⟩
    go_simp
    try with_reducible rfl
  try simp only [Act.put, List.setIfInBounds_toArray, List.set_cons_zero, List.set_cons_succ, List.getElem_toArray, List.getElem_cons_zero, List.getElem_cons_succ]
  refine wpAnyH_ready (rs := [1]) (by kernel_rfl) (by simp) ?_
  refine AllReadyH.cons (o := _) rfl (fun K hKK => ?_) AllReadyH.nil
  go_simp
  have hc2 : (wd.alloc (.cells #[.string ⟨#[124]⟩] 9)).cell? ⟨wd.heap.size, 0, none⟩ = some (.string ⟨#[124]⟩) := by simp
  have hrow := World.ownsRow.alloc hrow (.cells #[.string ⟨#[124]⟩] 9)
  have hN := HX2.out _ (hHeld.2.alloc hHeld.2.size (.cells #[.string ⟨#[124]⟩] 9))
  clear hHeld
  refine hKK.out _ _ ?_ (fun hHeld => ?_)
  · exact hN
  clear hKK K hN
  try simp only [Act.put, List.setIfInBounds_toArray, List.set_cons_zero, List.set_cons_succ, List.getElem_toArray, List.getElem_cons_zero, List.getElem_cons_succ]
  refine wpAnyH_ready (rs := [2]) (by kernel_rfl) (by simp) ?_
  refine AllReadyH.cons (o := _) rfl (fun K hKK => ?_) AllReadyH.nil
  refine step_append_src rfl (.tmp 22) (.tmp 23) 22 rfl w2.heap.size 9 i0 (.string ⟨#[]⟩) 1 16 Tryz.underlying22 hi hz0 hz1 hz2 rfl (by decide) _ _ _ rfl hrow _ _ _ [.string ⟨#[124]⟩] rfl rfl (fun q => by cases q) (fun ad had i u hu => by cases had; match i, hu with | 0, hu => (simp at hu; subst hu; rw [add_atX]; exact hc2)) (by intro u hu; rw [List.mem_singleton] at hu; subst hu; rfl) (by unfold maxLen; omega) (by omega) hHeld.2.size ?_
  intro v9 w9 hown9 hgrow hat
  have hN := HX2.out _ (hHeld.2.grown hgrow hHeld.2.size (fun r hr => (World.ownsRow.lt hrow r hr).1))
  clear hHeld hrow hat hgrow hc2
  have hrow := hown9
  clear hown9
  refine hKK.out _ _ ?_ (fun hHeld => ?_)
  · exact hN
  clear hKK K hN
  try simp only [Act.put, List.setIfInBounds_toArray, List.set_cons_zero, List.set_cons_succ, List.getElem_toArray, List.getElem_cons_zero, List.getElem_cons_succ]
  refine wpAnyH_ready (rs := [5]) (by kernel_rfl) (by simp) ?_
  refine AllReadyH.cons (o := _) rfl (fun K hKK => ?_) AllReadyH.nil
  refine step_append_src rfl (.tmp 24) (.tmp 26) 22 rfl w2.heap.size 9 i0 (.string ⟨#[]⟩) 1 16 Tryz.underlying22 hi hz0 hz1 hz2 rfl (by decide) _ _ _ rfl hrow _ _ _ (O.map Value.string) rfl (by rw [List.length_map, HL2.out]; omega) HA2.out (fun ad had j u hu => texts_cell (HZ2.out _ (HT.out _ hHeld.2)) ad had j u hu) (strs_one _) (by unfold maxLen; omega) (by omega) hHeld.2.size ?_
  intro v9 w9 hown9 hgrow hat
  have hN := HX2.out _ (hHeld.2.grown hgrow hHeld.2.size (fun r hr => (World.ownsRow.lt hrow r hr).1))
  clear hHeld hrow hat hgrow
  have hrow := hown9
  clear hown9
  refine hKK.out _ _ ?_ (fun hHeld => ?_)
  · exact hN
  clear hKK K hN
  try simp only [Act.put, List.setIfInBounds_toArray, List.set_cons_zero, List.set_cons_succ, List.getElem_toArray, List.getElem_cons_zero, List.getElem_cons_succ]
  refine wpAnyH_ready (rs := [6]) (by kernel_rfl) (by simp) ?_
  refine AllReadyH.cons (o := _) rfl (fun K hKK => ?_) AllReadyH.nil
  go_simp
  refine hKK.out _ _ ?_ (fun hHeld => ?_)
  · exact hHeld
  clear hKK K
  try simp only [Act.put, List.setIfInBounds_toArray, List.set_cons_zero, List.set_cons_succ, List.getElem_toArray, List.getElem_cons_zero, List.getElem_cons_succ]
  refine wpAnyH_done (by kernel_rfl) ?_ _
  have hO8 : OwnNames w9 w2.heap.size v9 (([s ++ sColon] ++ H) ++ ([sBar] ++ O)) := by
    unfold OwnNames
    rw [List.length_append, hlen8, List.length_append, HL2.out, List.map_append, List.map_append]
    simpa [Nat.add_assoc, sBar] using hrow
  clear HB8
  have HB8 := Lib.hid hHeld.2
  clear hrow hHeld c0 c1 c2 c3 hgl
  obtain ⟨c0, c1, c2, c3, hgl⟩ := HX.out _ (HT.out _ HB8.out)
  have hlenL : (([s ++ sColon] ++ H) ++ ([sBar] ++ O)).length ≤ 2100 := by simp only [List.length_append, List.length_singleton, HL1.out, HL2.out]; omega
  have HLL := Lib.hid hlenL
  have hb14 : Below w2.heap.size w2 (w9.alloc (.cells #[.string ⟨#[114, 101, 116, 105, 114, 101, 100]⟩] 9)) := HB8.out.alloc HB8.out.size _
  have HB14 := Lib.hid hb14
  have HRO := Lib.hid (World.ownsRow.alloc hO8 (.cells #[.string ⟨#[114, 101, 116, 105, 114, 101, 100]⟩] 9))
  clear hb14 hlenL hO8
  go_wp2_with (at_builtin; refine wpList_append_src _ rfl _ _ 22 rfl w2.heap.size 9 i0 (.string ⟨#[]⟩) 1 16 Tryz.underlying22 hi hz0 hz1 hz2 rfl (by decide) _ _ _ rfl HRO.out _ _ _ [.string ⟨#[114, 101, 116, 105, 114, 101, 100]⟩] rfl rfl (fun q => by cases q) (fun ad had i u hu => by cases had; match i, hu with | 0, hu => (simp at hu; subst hu; simp [Addr.add])) (by intro u hu; rw [List.mem_singleton] at hu; subst hu; rfl) (by unfold maxLen; have := HLL.out; omega) (by have := HLL.out; omega) HB14.out.size ?_)
  intro v10 w10 hrow hgrow _
  have hb15 : Below w2.heap.size w2 w10 := HB14.out.grown hgrow HB14.out.size (fun r hr => (World.ownsRow.lt HRO.out r hr).1)
  have hO9 : OwnNames w10 w2.heap.size v10 (wordsP s H O true) := by
    unfold OwnNames
    have e : wordsP s H O true = (([s ++ sColon] ++ H) ++ ([sBar] ++ O)) ++ [sRetired] := by unfold wordsP; rw [if_neg HNO.out]; simp
    rw [e, List.length_append, List.map_append]
    first
      | exact hrow
      | simpa [sBar, sRetired, Nat.add_assoc, Nat.add_comm, Nat.add_left_comm] using hrow
  clear hrow hgrow HRO HLL
  have hJ := naJoin_any _ w2.heap.size _ _ hO9 (by rw [HWL.out]; omega) (by rw [HWL.out, HL1.out, HL2.out]; split <;> split <;> omega) HWS.out
  generalize joinB (wordsP s H O true) = jt at *
  have hbz := bstep HB1.out (HT.out _ hb15)
  clear hO9 hb15
  go_wp2_with fail
  refine hJ.mono ?_
  rintro e wz ⟨rfl, hbj⟩
  have hfin := bstep hbz hbj
  clear hbz hbj hJ
  go_wp2
  go_ret2
  exact ⟨rfl, hfin⟩
theorem fdPrintCard_any (s : ByteArray) (H O : List ByteArray) (nh ch no co : Nat) (AH AO : Option Addr) (rt : Bool) (w : World) (hz : s.size ≤ 300) (hZ : TextsZ w AH nh H) (hn : nh ≤ 1000) (hcap : nh ≤ ch) (hs : ∀ x ∈ H, x.size ≤ 5000) (hZ2 : TextsZ w AO no O) (hn2 : no ≤ 1000) (hs2 : ∀ x ∈ O, x.size ≤ 5000) (hA1 : AH = none → ch = 0) (hA2 : AO = none → co = 0) :
    Calls Tryz.prog 22 #[.agg #[.string s, .slice AH nh ch, .slice AO no co, .bool rt]] w (RetPost (prC s H O rt) w) := by
  unfold prC
  by_cases h0 : frmE s (bls H) (bls O) = 0
  · rw [if_pos h0]
    by_cases hno : O = []
    · cases rt with
      | false => exact print_ok0 s H O nh ch no co AH AO false w hz hZ hn hcap hs hZ2 hn2 hs2 hA1 hA2 h0 hno rfl
      | true => exact print_ok0r s H O nh ch no co AH AO true w hz hZ hn hcap hs hZ2 hn2 hs2 hA1 hA2 h0 hno rfl
    · cases rt with
      | false => exact print_okN s H O nh ch no co AH AO false w hz hZ hn hcap hs hZ2 hn2 hs2 hA1 hA2 h0 hno rfl
      | true => exact print_okNr s H O nh ch no co AH AO true w hz hZ hn hcap hs hZ2 hn2 hs2 hA1 hA2 h0 hno rfl
  · rw [if_neg h0]
    exact print_bad s H O nh ch no co AH AO rt w hz hZ hn hcap hs hZ2 hn2 hs2 hA1 hA2 h0
end Go.Mk
