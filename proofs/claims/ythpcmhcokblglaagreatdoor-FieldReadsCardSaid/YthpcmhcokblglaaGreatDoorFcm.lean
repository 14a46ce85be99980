/-
  Proved: ParseCard of package field as a plain function of the text. Conditions: the heap holds the program's variables; the text has at most 5,000 bytes.
-/
import Derived.Test.YthpcmhcokblglaaGreatDoorFcl
set_option linter.unusedVariables false
set_option linter.unusedSimpArgs false
open Go Go.Proofs Go.RowKit Go.Shelf
set_option maxRecDepth 100000
namespace Go.Mk
abbrev CardP := List UInt8 × List (List UInt8) × List (List UInt8) × Bool
def noCard : CardP := ([], [], [], false)
/-- The card of a text, and the error. -/
def parV (l : List UInt8) : CardP × Int :=
  if 4096 < l.length then (noCard, 26) else
  match readP l with
  | none => (noCard, 25)
  | some c => if frmE (mkB c.1) c.2.1 c.2.2.1 = 0 then (c, 0) else (noCard, frmE (mkB c.1) c.2.1 c.2.2.1)
theorem barIx_eq : ∀ {L H O : List (List UInt8)}, barIx L = some (H, O) → L = H ++ [124] :: O
  | [], _, _, h => by cases h
  | t :: l, H, O, h => by
    rw [barIx] at h
    by_cases ht : t = [124]
    · rw [if_pos ht] at h
      obtain ⟨rfl, rfl⟩ : [] = H ∧ l = O := by simpa using h
      rw [ht]; rfl
    · rw [if_neg ht] at h
      cases hb : barIx l with
      | none => rw [hb] at h; cases h
      | some p =>
        rw [hb] at h
        obtain ⟨rfl, rfl⟩ : t :: p.1 = H ∧ p.2 = O := by simpa using h
        have := barIx_eq (L := l) (H := p.1) (O := p.2) hb
        rw [this]; rfl
theorem readB_sub {nm : List UInt8} {b : List (List UInt8)} {c : CardP} (h : readB nm b = some c) : c.1 = nm ∧ c.2.1.length ≤ b.length ∧ c.2.2.1.length ≤ b.length ∧ (∀ t ∈ c.2.1, t ∈ b) ∧ (∀ t ∈ c.2.2.1, t ∈ b) := by
  unfold readB at h
  have hl := dropRet_len b
  cases hb : barIx (dropRet b) with
  | none =>
    rw [hb] at h
    simp only at h
    split at h
    · obtain rfl := Option.some.inj h
      exact ⟨rfl, hl, by simp, fun t ht => dropRet_sub ht, fun t ht => by cases ht⟩
    · cases h
  | some p =>
    rw [hb] at h
    simp only at h
    have he := barIx_eq (H := p.1) (O := p.2) hb
    have hl2 := congrArg List.length he
    rw [List.length_append, List.length_cons] at hl2
    split at h
    · cases h
    · split at h
      · obtain rfl := Option.some.inj h
        refine ⟨rfl, by show p.1.length ≤ _; omega, by show p.2.length ≤ _; omega, fun t ht => dropRet_sub ?_, fun t ht => dropRet_sub ?_⟩
        · rw [he]; exact List.mem_append_left _ ht
        · rw [he]; exact List.mem_append_right _ (List.mem_cons_of_mem _ ht)
      · cases h
theorem readP_size {l : List UInt8} {c : CardP} (h : readP l = some c) : c.1.length ≤ l.length ∧ c.2.1.length ≤ l.length ∧ c.2.2.1.length ≤ l.length ∧ (∀ t ∈ c.2.1, t.length ≤ l.length) ∧ (∀ t ∈ c.2.2.1, t.length ≤ l.length) := by
  unfold readP at h
  cases hc : cutC l with
  | none => rw [hc] at h; cases h
  | some p =>
    rw [hc] at h
    have he := (cutC_some (x := p.1) (y := p.2) hc).1
    have hl := congrArg List.length he
    rw [List.length_append, List.length_cons] at hl
    have h' : readW p.1 (splitS p.2) = some c := h
    have s1 := splitGo_len 32 p.2 []
    have s2 := splitGo_size 32 p.2 [] p.2.length (by simp)
    cases hs : splitS p.2 with
    | nil => rw [hs] at h'; cases h'
    | cons t b =>
      have hs' : splitGo 32 [] p.2 = t :: b := hs
      rw [hs'] at s1 s2
      rw [hs, readW] at h'
      rw [List.length_cons] at s1
      split at h'
      · obtain ⟨e1, e2, e3, e4, e5⟩ := readB_sub h'
        refine ⟨by rw [e1]; omega, by omega, by omega, fun t ht => ?_, fun t ht => ?_⟩
        · have := s2 t (List.mem_cons_of_mem _ (e4 t ht)); omega
        · have := s2 t (List.mem_cons_of_mem _ (e5 t ht)); omega
      · cases h'
/-- What ParseCard leaves. -/
def ParPost (V : CardP × Int) (w : World) (e : Ending) (w' : World) : Prop :=
  ∃ (nm : ByteArray) (AH : Option Addr) (nh ch : Nat) (AO : Option Addr) (no co : Nat) (rt : Bool) (er : Int) (H O : List ByteArray), e = .returned (.tuple #[.agg #[.string nm, .slice AH nh ch, .slice AO no co, .bool rt], .int .i64 er]) ∧ Below w.heap.size w w' ∧
    V = ((bl nm, bls H, bls O, rt), er) ∧ (TextsZ w' AH nh H ∧ nh ≤ ch ∧ (AH = none → ch = 0)) ∧ TextsZ w' AO no O ∧ no ≤ co ∧ (AO = none → co = 0)
theorem no_texts (w : World) : TextsZ w none 0 [] ∧ 0 ≤ 0 ∧ ((none : Option Addr) = none → (0 : Nat) = 0) := ⟨⟨rfl, fun q => absurd q (by decide)⟩, by decide, fun _ => rfl⟩
set_option maxHeartbeats 8000000 in
theorem fdParseCard_any (s : ByteArray) (hz : s.size ≤ 5000) (w : World) (hG : GL w) : Calls Tryz.prog 23 #[.string s] w (ParPost (parV (bl s)) w) := by
  obtain ⟨g, hg⟩ : ∃ g, w.heap.size = g := ⟨_, rfl⟩
  obtain ⟨w1, hw1⟩ : ∃ w1, w.alloc (.cells #[.string ⟨#[]⟩, .slice none 0 0, .slice none 0 0, .bool false] 61) = w1 := ⟨_, rfl⟩
  have hb1 : Below w.heap.size w w1 := by rw [← hw1]; exact balloc _ (Below.refl _ _)
  have k0 : w1.heap[g]? = some (.cells #[.string ⟨#[]⟩, .slice none 0 0, .slice none 0 0, .bool false] 61 (0, 0)) := by rw [← hw1, ← hg]; exact Array.getElem?_push_size
  have HB1 := Lib.hid hb1
  have HG0 : Hid (w.heap.size ≤ g) := Lib.hid (by omega)
  have HK : Hid (∀ w', Below w1.heap.size w1 w' → w'.heap[g]? = some (.cells #[.string ⟨#[]⟩, .slice none 0 0, .slice none 0 0, .bool false] 61 (0, 0))) := Lib.hid fun w' hb => (hb.block _ (Array.getElem?_eq_some_iff.1 k0).1).trans k0
  have HGL : Hid (GL w1) := Lib.hid (hG.below hb1)
  have HE : Hid (∀ (er : Int) w', parV (bl s) = (noCard, er) → Below w.heap.size w w' → ParPost (parV (bl s)) w (.returned (.tuple #[.agg #[.string ⟨#[]⟩, .slice none 0 0, .slice none 0 0, .bool false], .int .i64 er])) w') := Lib.hid fun er w' hv hb => by
    rw [hv]
    exact ⟨_, _, _, _, _, _, _, _, _, [], [], rfl, hb, rfl, no_texts w', no_texts w'⟩
  have hlen := bl_len s
  have hzi : (s.size : Int) ≤ 5000 := by omega
  by_cases h4 : 4096 < s.size
  · have hv : Hid (parV (bl s) = (noCard, 26)) := Lib.hid (by unfold parV; rw [if_pos (by omega)])
    have h4i : (4096 : Int) < (s.size : Int) := by omega
    have q0 := Go.Joins.cell_of_block k0 0
    have q1 := Go.Joins.cell_of_block k0 1
    have q2 := Go.Joins.cell_of_block k0 2
    have q3 := Go.Joins.cell_of_block k0 3
    have r0 := Go.Joins.unfrozen_of_block k0 0
    have r1 := Go.Joins.unfrozen_of_block k0 1
    have r2 := Go.Joins.unfrozen_of_block k0 2
    have r3 := Go.Joins.unfrozen_of_block k0 3
    have K0 := Lib.hid k0
    clear k0 hb1 hG
    go_enter Tryz.func23, Tryz.ntmps23
    go_wp2_with fail
    have k4 := four_set K0.out (.string ⟨#[]⟩) (.slice none 0 0) (.slice none 0 0) (.bool false)
    have hfin := HE.out 26 _ hv.out (four_below HB1.out HG0.out (.string ⟨#[]⟩) (.slice none 0 0) (.slice none 0 0) (.bool false))
    have z0 := Go.Joins.cell_of_block k4 0
    have z1 := Go.Joins.cell_of_block k4 1
    have z2 := Go.Joins.cell_of_block k4 2
    have z3 := Go.Joins.cell_of_block k4 3
    exact bodyPost_ret (v := .tuple #[.agg #[.string ⟨#[]⟩, .slice none 0 0, .slice none 0 0, .bool false], .int .i64 26]) (by simp [results, Tryz.results23, go_sem, z0, z1, z2, z3]) rfl hfin
  · have h4i : ¬ (4096 : Int) < (s.size : Int) := by omega
    have hR := fdReadCard_any s (by omega) w1 HGL.out
    have HL4 : Hid (¬ 4096 < (bl s).length) := Lib.hid (by omega)
    clear k0 hb1 hG h4
    go_enter Tryz.func23, Tryz.ntmps23
    go_wp2_with fail
    refine hR.mono ?_
    rintro e w2 ⟨nm, AH, nh, ch, AO, no, co, rt, ok, rfl, hb2, hno, hyes⟩
    obtain ⟨p, hp⟩ : ∃ p, w2.heap.size = p := ⟨_, rfl⟩
    obtain ⟨w3, hw3⟩ : ∃ w3, w2.alloc (.cells #[.string nm, .slice AH nh ch, .slice AO no co, .bool rt] 61) = w3 := ⟨_, rfl⟩
    have hb3 : Below w2.heap.size w2 w3 := by rw [← hw3]; exact balloc _ (Below.refl _ _)
    have hkp : w3.heap[p]? = some (.cells #[.string nm, .slice AH nh ch, .slice AO no co, .bool rt] 61 (0, 0)) := by rw [← hw3, ← hp]; exact Array.getElem?_push_size
    have HB3 := Lib.hid (hb2.trans (hb3.mono hb2.size))
    have kg := HK.out _ HB3.out
    cases ok with
    | false =>
      have hv : Hid (parV (bl s) = (noCard, 25)) := Lib.hid (by unfold parV; rw [if_neg HL4.out, hno rfl])
      have q0 := Go.Joins.cell_of_block kg 0
      have q1 := Go.Joins.cell_of_block kg 1
      have q2 := Go.Joins.cell_of_block kg 2
      have q3 := Go.Joins.cell_of_block kg 3
      have r0 := Go.Joins.unfrozen_of_block kg 0
      have r1 := Go.Joins.unfrozen_of_block kg 1
      have r2 := Go.Joins.unfrozen_of_block kg 2
      have r3 := Go.Joins.unfrozen_of_block kg 3
      have K0 := Lib.hid kg
      clear hno hyes hb2 hb3 kg hkp
      go_wp2_with fail
      have k4 := four_set K0.out (.string ⟨#[]⟩) (.slice none 0 0) (.slice none 0 0) (.bool false)
      have hfin := HE.out 25 _ hv.out (four_below (HB1.out.trans (HB3.out.mono HB1.out.size)) HG0.out (.string ⟨#[]⟩) (.slice none 0 0) (.slice none 0 0) (.bool false))
      have z0 := Go.Joins.cell_of_block k4 0
      have z1 := Go.Joins.cell_of_block k4 1
      have z2 := Go.Joins.cell_of_block k4 2
      have z3 := Go.Joins.cell_of_block k4 3
      exact bodyPost_ret (v := .tuple #[.agg #[.string ⟨#[]⟩, .slice none 0 0, .slice none 0 0, .bool false], .int .i64 25]) (by simp [results, Tryz.results23, go_sem, z0, z1, z2, z3]) rfl hfin
    | true =>
      obtain ⟨H, O, hrp, ⟨t1, le1, no1, fr1⟩, t2, le2, no2, fr2⟩ := hyes rfl
      obtain ⟨s1, s2, s3, s4, s5⟩ := readP_size hrp
      simp only at s1 s2 s3 s4 s5
      rw [bls_len] at s2 s3
      have l4 := HL4.out
      have HZ1 := bls_sizes (L := H) (m := 5000) rfl (fun t ht => by have := s4 t ht; omega)
      have HZ2 := bls_sizes (L := O) (m := 5000) rfl (fun t ht => by have := s5 t ht; omega)
      have T1 := t1.below hb3
      have T2 := t2.below hb3
      have hF := fdFormError_any nm H O nh ch no co AH AO rt w3 (by rw [bl_len] at s1; unfold maxLen; omega) T1 (by rw [← t1.1]; omega) le1 HZ1 T2 (by rw [← t2.1]; omega) HZ2
      have x0 := Go.Joins.cell_of_block hkp 0
      have x1 := Go.Joins.cell_of_block hkp 1
      have x2 := Go.Joins.cell_of_block hkp 2
      have x3 := Go.Joins.cell_of_block hkp 3
      have HGP : Hid (p ≠ g) := Lib.hid (by
        have h1 := (Array.getElem?_eq_some_iff.1 (HK.out _ hb2)).1
        omega)
      have HKP := Lib.hid hkp
      have HT1 := Lib.hid T1
      have HT2 := Lib.hid T2
      have HGH : Hid ((0 < nh → ∀ ad : Addr, AH = some ad → ad.block ≠ g) ∧ (0 < no → ∀ ad : Addr, AO = some ad → ad.block ≠ g)) := Lib.hid (by
        have h1 := (Array.getElem?_eq_some_iff.1 (HK.out _ (Below.refl _ _))).1
        exact ⟨fun h0 ad had q => by have := fr1 h0 ad had; omega, fun h0 ad had q => by have := fr2 h0 ad had; omega⟩)
      have HLE := Lib.hid (And.intro le1 (And.intro no1 (And.intro le2 no2)))
      obtain ⟨er, her⟩ : ∃ er, frmE nm (bls H) (bls O) = er := ⟨_, rfl⟩
      rw [her] at hF
      have hpv : parV (bl s) = if er = 0 then ((bl nm, bls H, bls O, rt), 0) else (noCard, er) := by
        unfold parV
        rw [if_neg HL4.out, hrp]
        simp only
        rw [mkB_bl, her]
      have HPV := Lib.hid hpv
      clear hno hyes hb2 hb3 kg hrp s1 s2 s3 s4 s5 HZ1 HZ2 T1 T2 t1 t2 her hpv hkp hlen fr1 fr2 le1 le2 no1 no2 l4
      go_wp2_with fail
      refine hF.mono ?_
      rintro e w4 ⟨rfl, hb4⟩
      have HB4 := Lib.hid (HB3.out.trans (hb4.mono HB3.out.size))
      have HKP4 : Hid (w4.heap[p]? = some (.cells #[.string nm, .slice AH nh ch, .slice AO no co, .bool rt] 61 (0, 0))) := Lib.hid ((hb4.block _ (Array.getElem?_eq_some_iff.1 HKP.out).1).trans HKP.out)
      have HTT1 := Lib.hid (HT1.out.below hb4)
      have HTT2 := Lib.hid (HT2.out.below hb4)
      have kg := HK.out _ HB4.out
      have q0 := Go.Joins.cell_of_block kg 0
      have q1 := Go.Joins.cell_of_block kg 1
      have q2 := Go.Joins.cell_of_block kg 2
      have q3 := Go.Joins.cell_of_block kg 3
      have r0 := Go.Joins.unfrozen_of_block kg 0
      have r1 := Go.Joins.unfrozen_of_block kg 1
      have r2 := Go.Joins.unfrozen_of_block kg 2
      have r3 := Go.Joins.unfrozen_of_block kg 3
      have KG := Lib.hid kg
      clear x0 x1 x2 x3 kg hb4 hF
      by_cases he : er = 0
      · subst he
        have hv : Hid (parV (bl s) = ((bl nm, bls H, bls O, rt), 0)) := Lib.hid (by rw [HPV.out, if_pos rfl])
        have x0 := Go.Joins.cell_of_block HKP4.out 0
        have x1 := Go.Joins.cell_of_block HKP4.out 1
        have x2 := Go.Joins.cell_of_block HKP4.out 2
        have x3 := Go.Joins.cell_of_block HKP4.out 3
        go_wp2_with fail
        have k4 := four_set KG.out (.string nm) (.slice AH nh ch) (.slice AO no co) (.bool rt)
        have hfin := four_below (HB1.out.trans (HB4.out.mono HB1.out.size)) HG0.out (.string nm) (.slice AH nh ch) (.slice AO no co) (.bool rt)
        have z0 := Go.Joins.cell_of_block k4 0
        have z1 := Go.Joins.cell_of_block k4 1
        have z2 := Go.Joins.cell_of_block k4 2
        have z3 := Go.Joins.cell_of_block k4 3
        refine bodyPost_ret (v := .tuple #[.agg #[.string nm, .slice AH nh ch, .slice AO no co, .bool rt], .int .i64 0]) (by simp [results, Tryz.results23, go_sem, z0, z1, z2, z3]) rfl ⟨_, _, _, _, _, _, _, _, _, H, O, rfl, hfin, hv.out, ⟨?_, HLE.out.1, HLE.out.2.1⟩, ?_, HLE.out.2.2.1, HLE.out.2.2.2⟩
        · exact four_texts HTT1.out HGH.out.1 _ _ _ _
        · exact four_texts HTT2.out HGH.out.2 _ _ _ _
      · have hv : Hid (parV (bl s) = (noCard, er)) := Lib.hid (by rw [HPV.out, if_neg he])
        have heb : (er != 0) = true := by rw [bne_iff_ne]; exact he
        clear he
        go_wp2_with fail
        have k4 := four_set KG.out (.string ⟨#[]⟩) (.slice none 0 0) (.slice none 0 0) (.bool false)
        have hfin := HE.out er _ hv.out (four_below (HB1.out.trans (HB4.out.mono HB1.out.size)) HG0.out (.string ⟨#[]⟩) (.slice none 0 0) (.slice none 0 0) (.bool false))
        have z0 := Go.Joins.cell_of_block k4 0
        have z1 := Go.Joins.cell_of_block k4 1
        have z2 := Go.Joins.cell_of_block k4 2
        have z3 := Go.Joins.cell_of_block k4 3
        exact bodyPost_ret (v := .tuple #[.agg #[.string ⟨#[]⟩, .slice none 0 0, .slice none 0 0, .bool false], .int .i64 er]) (by simp [results, Tryz.results23, go_sem, z0, z1, z2, z3]) rfl hfin
end Go.Mk
