/-
  Proved: CheckForm of the reference of chapter 6 returns the same plain function of a card as formError of package field. Conditions: the texts lie where the slices say; there are at most 5,000 of at most 5,000 bytes; the name is no longer than an int says.
-/
import Derived.Test.YthpcmhcokblglaaGreatDoorFcn
import Derived.Test.YthpcmhcokblglaaGreatDoorFce
set_option linter.unusedVariables false
set_option linter.unusedSimpArgs false
open Go Go.Proofs Go.RowKit
set_option maxRecDepth 100000
namespace Go.Mk
theorem nx_split : ∀ t : List UInt8, t = List.replicate (nxL t) 120 ++ endL t
  | [] => rfl
  | c :: t => by
    by_cases hc : c = 120
    · subst hc
      have he : endL (120 :: t) = endL t := by unfold endL; rw [nxL, if_pos rfl]; rfl
      rw [he, nxL, if_pos rfl, List.replicate_succ, List.cons_append, ← nx_split t]
    · have he : endL (c :: t) = c :: t := by unfold endL; rw [nxL, if_neg hc]; rfl
      rw [he, nxL, if_neg hc]
      rfl
theorem cx_rep (n : Nat) (e : List UInt8) : cx (List.replicate n 120 ++ e) = n + cx e := by
  induction n with
  | zero => simp
  | succ n ih => rw [List.replicate_succ, List.cons_append, cx, if_pos rfl, ih]; omega
theorem shaped_facts {t : List UInt8} (h : htE t = 0) : cx t = nxL t ∧ (lastB t = 120 ↔ endL t = []) ∧ (lastB t = 111 ↔ endL t = [111]) := by
  unfold htE at h
  split at h
  · rename_i q
    obtain ⟨q, h1, _⟩ := q
    have hs := nx_split t
    generalize nxL t = n at *
    rcases q with q | q | q
    · rw [q] at hs ⊢
      rw [List.append_nil] at hs
      have hn : 0 < n := by have := congrArg List.length hs; rw [List.length_replicate] at this; omega
      have hl : lastB t = 120 := by
        rw [hs]; unfold lastB
        rw [List.getLast?_replicate, if_neg (by omega)]; rfl
      refine ⟨?_, ⟨fun _ => rfl, fun _ => hl⟩, ⟨fun e => ?_, fun e => by cases e⟩⟩
      · have := cx_rep n []
        rw [List.append_nil, ← hs] at this
        simpa [cx] using this
      · rw [hl] at e; cases e
    · rw [q] at hs ⊢
      have hl : lastB t = 111 := by rw [hs]; unfold lastB; simp
      refine ⟨?_, ⟨fun e => ?_, fun e => by cases e⟩, ⟨fun _ => rfl, fun _ => hl⟩⟩
      · have := cx_rep n [111]
        rw [← hs] at this
        rw [this]; rfl
      · rw [hl] at e; cases e
    · rw [q] at hs ⊢
      have hl : lastB t = 45 := by rw [hs]; unfold lastB; simp
      refine ⟨?_, ⟨fun e => ?_, fun e => by cases e⟩, ⟨fun e => ?_, fun e => by cases e⟩⟩
      · have := cx_rep n [45]
        rw [← hs] at this
        rw [this]; rfl
      · rw [hl] at e; cases e
      · rw [hl] at e; cases e
  · cases h
theorem rowGo_snoc : ∀ (l : List (List UInt8)) (r : Nat) (t : List UInt8), rowGo r (l ++ [t]) = if endL t = [111] then 0 else rowGo r l + nxL t
  | [], r, t => rfl
  | a :: l, r, t => by rw [List.cons_append, rowGo, rowGo_snoc l _ t, rowGo]
theorem htE_01 (t : List UInt8) : htE t = 0 ∨ htE t = 1 := by unfold htE; split <;> simp
theorem ofE_01 (t : List UInt8) : ofE t = 0 ∨ ofE t = 1 := by unfold ofE; split <;> simp
theorem fstT_drop (f : List UInt8 → Int) {L : List ByteArray} {k : Nat} {x : ByteArray} (h : L[k]? = some x) : fstT f ((bls L).drop k) = if f (bl x) = 0 then fstT f ((bls L).drop (k + 1)) else f (bl x) := by rw [bls_at h, fstT]
theorem fstT_all (f : List UInt8 → Int) : ∀ {l : List (List UInt8)}, fstT f l = 0 → ∀ t ∈ l, f t = 0
  | [], _, t, ht => by cases ht
  | a :: l, h, t, ht => by
    rw [fstT] at h
    split at h
    · rename_i q
      rcases List.mem_cons.1 ht with rfl | ht
      · exact q
      · exact fstT_all f h t ht
    · rename_i q; exact absurd h q
theorem n120 (c : UInt8) : ((c.toNat : Int) == 120) = decide (c = 120) := by
  by_cases q : c = 120
  · subst q; rfl
  · rw [decide_eq_false q]; exact u8_ne q
theorem n111 (c : UInt8) : ((c.toNat : Int) == 111) = decide (c = 111) := by
  by_cases q : c = 111
  · subst q; rfl
  · rw [decide_eq_false q]; exact u8_ne q
set_option maxHeartbeats 16000000 in
theorem r6CheckForm_any (s : ByteArray) (H O : List ByteArray) (nh ch no co : Nat) (AH AO : Option Addr) (rt : Bool) (w : World) (hz : s.size ≤ maxLen) (hZ : TextsZ w AH nh H) (hn : nh ≤ 5000) (hs : ∀ x ∈ H, x.size ≤ 5000) (hZ2 : TextsZ w AO no O) (hn2 : no ≤ 5000) (hs2 : ∀ x ∈ O, x.size ≤ 5000) :
    Calls Tryz.prog 24 #[.agg #[.string s, .slice AH nh ch, .slice AO no co, .bool rt]] w (RetPost (.int .i64 (frmE s (bls H) (bls O))) w) := by
  obtain ⟨g, hg⟩ : ∃ g, w.heap.size = g := ⟨_, rfl⟩
  obtain ⟨w1, hw1⟩ : ∃ w1, w.alloc (.cells #[.string s, .slice AH nh ch, .slice AO no co, .bool rt] 54) = w1 := ⟨_, rfl⟩
  have hb1 : Below w.heap.size w w1 := by rw [← hw1]; exact balloc _ (Below.refl _ _)
  have c0 : w1.cell? ⟨g, 0, none⟩ = some (.string s) := by rw [← hw1, ← hg]; simp
  have c1 : w1.cell? ⟨g, 1, none⟩ = some (.slice AH nh ch) := by rw [← hw1, ← hg]; simp
  have c2 : w1.cell? ⟨g, 2, none⟩ = some (.slice AO no co) := by rw [← hw1, ← hg]; simp
  have hN := fun w' => refIsName_any s w' hz
  have HZ1 := Lib.hid (hZ.below hb1)
  have HZ2 := Lib.hid (hZ2.below hb1)
  have HS1 := Lib.hid hs
  have HS2 := Lib.hid hs2
  have HB1 := Lib.hid hb1
  have hni : (nh : Int) ≤ 5000 := by omega
  have hno : (no : Int) ≤ 5000 := by omega
  have HL1 : Hid (H.length = nh) := hZ.1
  have HL2 : Hid (O.length = no) := hZ2.1
  obtain ⟨y, hy⟩ : ∃ y, frmE s (bls H) (bls O) = y := ⟨_, rfl⟩
  rw [hy]
  have l1 : (bls H).length = nh := by unfold bls; rw [List.length_map]; exact hZ.1
  have l2 : (bls O).length = no := by unfold bls; rw [List.length_map]; exact hZ2.1
  unfold frmE at hy
  rw [l1, l2] at hy
  clear hZ hZ2 hs hs2 hb1 hz l1 l2
  cases hnm : isNm s with
  | false =>
    obtain rfl : (8 : Int) = y := by rw [← hy]; unfold nmE; rw [hnm]; simp [fstN]
    rw [hnm] at hN
    clear hy hnm
    go_enter Tryz.func24, Tryz.ntmps24
    go_wp2_with fail
    refine (hN _).mono ?_
    rintro e w2 ⟨rfl, rfl⟩
    go_wp2
    go_ret
    exact ⟨rfl, HB1.out⟩
  | true =>
    rw [hnm] at hN
    have hnz : nmE s = 0 := by unfold nmE; rw [hnm]; rfl
    rw [hnz] at hy
    by_cases q : 24 < nh ∨ 24 < no
    · obtain rfl : (5 : Int) = y := by rw [← hy, if_pos q]; simp [fstN]
      have hq : (24 : Int) < (nh : Int) ∨ (¬ (24 : Int) < (nh : Int) ∧ (24 : Int) < (no : Int)) := by omega
      clear hy hnm hnz q
      rcases hq with q1 | ⟨q1, q2⟩
      all_goals
        go_enter Tryz.func24, Tryz.ntmps24
        go_wp2_with fail
        refine (hN _).mono ?_
        rintro e w2 ⟨rfl, rfl⟩
        go_wp2
        go_ret
        exact ⟨rfl, HB1.out⟩
    · rw [if_neg q] at hy
      have hy2 : fstN [fstT htE (bls H), fstT ofE (bls O), fstP (bls H) 0 (bls H)] = y := by simpa [fstN] using hy
      have q1 : ¬ (24 : Int) < (nh : Int) := by omega
      have q2 : ¬ (24 : Int) < (no : Int) := by omega
      have HY1 : Hid (fstT htE (bls H) = 1 → y = 1) := Lib.hid fun e => by rw [← hy2, e]; simp [fstN]
      have HY2 : Hid (fstT htE (bls H) = 0 → fstT ofE (bls O) = 1 → y = 1) := Lib.hid fun e1 e2 => by rw [← hy2, e1, e2]; simp [fstN]
      have HY3 : Hid (fstT htE (bls H) = 0 → fstT ofE (bls O) = 0 → fstP (bls H) 0 (bls H) = y) := Lib.hid fun e1 e2 => by
        rw [← hy2, e1, e2]
        simp only [fstN, if_true]
        split
        · rename_i q; exact q
        · rfl
      clear hy hy2 hnm hnz q
      go_enter Tryz.func24, Tryz.ntmps24
      go_wp2_with fail
      refine (hN _).mono ?_
      rintro e w2 ⟨rfl, rfl⟩
      clear hN
      go_wp2_with fail
      go_loop [3] (fun i => ∃ k : Nat, k ≤ nh ∧ i = .int .i64 k ∧ Hid (fstT htE ((bls H).drop k) = fstT htE (bls H))) (fun i => nh - (intOf i).toNat)
      case atStart => exact ⟨0, by omega, rfl, Lib.hid rfl⟩
      case round =>
        obtain ⟨k, hk, rfl, HK⟩ := hrel
        by_cases hlt : k < nh
        · obtain ⟨b, off, x, rfl, hbl, hx, hcx⟩ := HZ1.out.at_ hlt
          have hki : (k : Int) < (nh : Int) := by omega
          have hk0 : (0 : Int) ≤ (k : Int) := by omega
          have hkt : ((k : Int)).toNat = k := by omega
          have hSh := fun w => r6shaped_any x w (by have := HS1.out x (List.mem_of_getElem? hx); unfold maxLen; omega)
          have hst := HK.out
          rw [fstT_drop htE hx] at hst
          rcases htE_01 (bl x) with h0 | h0
          · rw [h0, if_pos rfl] at hst
            rw [h0] at hSh
            have HST : Hid (fstT htE ((bls H).drop (k + 1)) = fstT htE (bls H)) := Lib.hid hst
            clear hst h0 hx HK
            go_wp2_with fail
            refine (hSh _).mono ?_
            rintro e w3 ⟨rfl, rfl⟩
            go_wp2
            exact ⟨⟨k + 1, by omega, by go_num, HST⟩, by simp [intOf]; omega⟩
          · rw [h0, if_neg (by decide)] at hst
            rw [h0] at hSh
            obtain rfl := HY1.out hst.symm
            clear hst h0 hx HK HY1 HY2 HY3
            go_wp2_with fail
            refine (hSh _).mono ?_
            rintro e w3 ⟨rfl, rfl⟩
            go_wp2
            go_ret
            exact ⟨rfl, HB1.out⟩
        · have hE1 := HK.out
          rw [bls_end HL1.out (by omega), fstT] at hE1
          have HE1 : Hid (fstT htE (bls H) = 0) := Lib.hid hE1.symm
          clear hE1 HK HY1
          have hkf : ¬ (k : Int) < (nh : Int) := by omega
          go_wp2_with fail
          clear hkf hlt hk
          go_loop [4] (fun i => ∃ k : Nat, k ≤ no ∧ i = .int .i64 k ∧ Hid (fstT ofE ((bls O).drop k) = fstT ofE (bls O))) (fun i => no - (intOf i).toNat)
          case atStart => exact ⟨0, by omega, rfl, Lib.hid rfl⟩
          case round =>
            obtain ⟨k, hk, rfl, HK⟩ := hrel
            by_cases hlt : k < no
            · obtain ⟨b, off, x, rfl, hbl, hx, hcx⟩ := HZ2.out.at_ hlt
              have hki : (k : Int) < (no : Int) := by omega
              have hk0 : (0 : Int) ≤ (k : Int) := by omega
              have hkt : ((k : Int)).toNat = k := by omega
              have e1 : (x.toList == [111]) = decide (bl x = [111]) := by rw [ByteArray.toList_eq, list_beq]
              have e2 : (x.toList == [120]) = decide (bl x = [120]) := by rw [ByteArray.toList_eq, list_beq]
              have hst := HK.out
              rw [fstT_drop ofE hx] at hst
              by_cases g1 : bl x = [111]
              · rw [show ofE (bl x) = 0 from if_pos (.inl g1), if_pos rfl] at hst
                have HST : Hid (fstT ofE ((bls O).drop (k + 1)) = fstT ofE (bls O)) := Lib.hid hst
                rw [decide_eq_true g1] at e1
                clear hst g1 hx HK e2
                go_wp2
                exact ⟨⟨k + 1, by omega, by go_num, HST⟩, by simp [intOf]; omega⟩
              · rw [decide_eq_false g1] at e1
                by_cases g2 : bl x = [120]
                · rw [show ofE (bl x) = 0 from if_pos (.inr g2), if_pos rfl] at hst
                  have HST : Hid (fstT ofE ((bls O).drop (k + 1)) = fstT ofE (bls O)) := Lib.hid hst
                  rw [decide_eq_true g2] at e2
                  clear hst g1 g2 hx HK
                  go_wp2
                  exact ⟨⟨k + 1, by omega, by go_num, HST⟩, by simp [intOf]; omega⟩
                · rw [show ofE (bl x) = 1 from if_neg (by rintro (q | q); exact g1 q; exact g2 q), if_neg (by decide)] at hst
                  rw [decide_eq_false g2] at e2
                  obtain rfl := HY2.out HE1.out hst.symm
                  clear hst g1 g2 hx HK HY2 HY3
                  go_wp2
                  go_ret
                  exact ⟨rfl, HB1.out⟩
            · have hE2 := HK.out
              rw [bls_end HL2.out (by omega), fstT] at hE2
              have HY := Lib.hid (HY3.out HE1.out hE2.symm)
              have HSH := Lib.hid (fstT_all htE HE1.out)
              clear hE2 HK HY2 HY3 HE1
              have hkf : ¬ (k : Int) < (no : Int) := by omega
              go_wp2_with fail
              clear hkf hlt hk
              go_loop [5, 6] (fun rv i => ∃ k r : Nat, k ≤ nh ∧ i = .int .i64 k ∧ rv = .int .i64 r ∧ r ≤ 3 ∧ Hid (r = rowGo 0 ((bls H).take k)) ∧ Hid (fstP (bls H) k ((bls H).drop k) = y)) (fun _ i => nh - (intOf i).toNat)
              case atStart => exact ⟨0, 0, by omega, rfl, rfl, by omega, Lib.hid rfl, HY⟩
              case round =>
                obtain ⟨k, r, hk, rfl, rfl, hr, HR, HK⟩ := hrel
                by_cases hlt : k < nh
                · obtain ⟨b, off, x, rfl, hbl, hx, hcx⟩ := HZ1.out.at_ hlt
                  have hki : (k : Int) < (nh : Int) := by omega
                  have hk0 : (0 : Int) ≤ (k : Int) := by omega
                  have hkt : ((k : Int)).toNat = k := by omega
                  have hxs : x.size ≤ maxLen := by have := HS1.out x (List.mem_of_getElem? hx); unfold maxLen; omega
                  have hmem : bl x ∈ bls H := by unfold bls; exact List.mem_map_of_mem (List.mem_of_getElem? hx)
                  have hsh := HSH.out _ hmem
                  obtain ⟨f1, f2, f3⟩ := shaped_facts hsh
                  have hlen : (bl x).length ≤ 3 := ((htE_zero _).1 hsh).2.1
                  have hF := fun w => r6failures_any x w hxs
                  have hLa := fun w => r6last_any x w hxs
                  have hst := HK.out
                  rw [bls_at hx, fstP] at hst
                  have hrow : rowGo 0 ((bls H).take (k + 1)) = if endL (bl x) = [111] then 0 else rowGo 0 ((bls H).take k) + nxL (bl x) := by
                    rw [show (bls H).take (k + 1) = (bls H).take k ++ [bl x] from by
                      have h1 : (bls H)[k]? = some (bl x) := by unfold bls; rw [List.getElem?_map, hx]; rfl
                      rw [List.take_add_one, h1, Option.toList_some]]
                    exact rowGo_snoc _ _ _
                  have hfl := nxL_le (bl x)
                  rw [f1] at hF
                  have hpl : plE (bls H) k (bl x) = if 3 < r + nxL (bl x) ∨ (r + nxL (bl x) = 3 ∧ ¬ endL (bl x) = []) ∨ (endL (bl x) = [] ∧ k < nh - 1) then 19 else 0 := by
                    unfold plE
                    rw [← HR.out]
                    have : (bls H).length = nh := by unfold bls; rw [List.length_map]; exact HL1.out
                    rw [this]
                  rw [← HR.out] at hrow
                  rw [hpl] at hst
                  have e120 := n120 (lastB (bl x))
                  have e111 := n111 (lastB (bl x))
                  rw [show decide (lastB (bl x) = 120) = decide (endL (bl x) = []) from by simp [f2]] at e120
                  rw [show decide (lastB (bl x) = 111) = decide (endL (bl x) = [111]) from by simp [f3]] at e111
                  have e120n : ((lastB (bl x)).toNat != (120 : Int)) = !decide (endL (bl x) = []) := by show (!(_ == _)) = _; rw [e120]
                  have hfi : nxL (bl x) ≤ 3 := by omega
                  clear hpl f1 f2 f3 hsh hmem hlen hfl HK
                  generalize nxL (bl x) = f at *
                  generalize ((lastB (bl x)).toNat : Int) = lb at *
                  have hfz : (f : Int) ≤ 3 := by omega
                  have hf0 : (0 : Int) ≤ (f : Int) := by omega
                  have hrz : (r : Int) ≤ 3 := by omega
                  have hr0 : (0 : Int) ≤ (r : Int) := by omega
                  have hkw : IntKind.i64.wrap ((k : Int) + 1) = (k : Int) + 1 := IntWalk.i64_in _ (by omega)
                  have hRR : (decide ((3 : Int) < (r : Int) + f) = true ∧ 3 < r + f) ∨ (decide ((3 : Int) < (r : Int) + f) = false ∧ (((r : Int) + f) == 3) = true ∧ r + f = 3) ∨ (decide ((3 : Int) < (r : Int) + f) = false ∧ (((r : Int) + f) == 3) = false ∧ r + f < 3) := by
                    by_cases h1 : (3 : Int) < (r : Int) + f
                    · exact .inl ⟨decide_eq_true h1, by omega⟩
                    · by_cases h2 : (r : Int) + f = 3
                      · exact .inr (.inl ⟨decide_eq_false h1, beq_iff_eq.2 h2, by omega⟩)
                      · exact .inr (.inr ⟨decide_eq_false h1, beq_eq_false_iff_ne.2 h2, by omega⟩)
                  have hKK : (decide ((k : Int) + 1 < (nh : Int)) = true ∧ k < nh - 1) ∨ (decide ((k : Int) + 1 < (nh : Int)) = false ∧ ¬ k < nh - 1) := by
                    by_cases h1 : (k : Int) + 1 < (nh : Int)
                    · exact .inl ⟨decide_eq_true h1, by omega⟩
                    · exact .inr ⟨decide_eq_false h1, by omega⟩
                  obtain ⟨b0, hb0⟩ : ∃ b0, decide (endL (bl x) = []) = b0 := ⟨_, rfl⟩
                  obtain ⟨b1, hb1⟩ : ∃ b1, decide (endL (bl x) = [111]) = b1 := ⟨_, rfl⟩
                  have e : (3 < r + f ∨ (r + f = 3 ∧ b0 = false) ∨ (b0 = true ∧ k < nh - 1)) ↔ (3 < r + f ∨ (r + f = 3 ∧ ¬ endL (bl x) = []) ∨ (endL (bl x) = [] ∧ k < nh - 1)) := by
                    rw [← hb0]; simp
                  have HS19 : Hid ((3 < r + f ∨ (r + f = 3 ∧ b0 = false) ∨ (b0 = true ∧ k < nh - 1)) → 19 = y) := Lib.hid fun q => by
                    rw [if_pos (e.1 q), if_neg (by decide)] at hst
                    exact hst
                  have HS0 : Hid (¬ (3 < r + f ∨ (r + f = 3 ∧ b0 = false) ∨ (b0 = true ∧ k < nh - 1)) → fstP (bls H) (k + 1) ((bls H).drop (k + 1)) = y) := Lib.hid fun q => by
                    rw [if_neg (fun q' => q (e.2 q')), if_pos rfl] at hst
                    exact hst
                  clear e
                  have hrow2 : rowGo 0 ((bls H).take (k + 1)) = if b1 = true then 0 else r + f := by
                    rw [hrow, ← hb1]; simp
                  have HROW := Lib.hid hrow2
                  rw [hb0] at e120 e120n
                  rw [hb1] at e111
                  have hidt : (bl x) = bl x := rfl
                  clear hst hrow hb0 hb1 hx hrow2 hidt
                  have HKN := Lib.hid hlt
                  have hrf : ((r + f : Nat) : Int) = (r : Int) + (f : Int) := by omega
                  have HRF := Lib.hid hrf
                  clear hrf
                  cases b0 <;> cases b1 <;> rcases hRR with ⟨r1, r3⟩ | ⟨r1, r2, r3⟩ | ⟨r1, r2, r3⟩ <;> rcases hKK with ⟨k1, k2⟩ | ⟨k1, k2⟩
                  all_goals
                    first
                      | (obtain rfl := HS19.out (by simp; omega)
                         clear r3 k2 HS19 HS0 HROW
                         go_wp2_with fail
                         refine (hF _).mono ?_
                         rintro e w4 ⟨rfl, rfl⟩
                         go_wp2_with fail
                         repeat (first | (refine (hLa _).mono ?_; rintro e w4 ⟨rfl, rfl⟩; go_wp2_with fail))
                         go_ret
                         exact ⟨rfl, HB1.out⟩)
                      | (have HC2 := Lib.hid (HS0.out (by simp; omega))
                         have HRW := HROW.out
                         simp only [if_true, if_false, Bool.false_eq_true] at HRW
                         have HRW2 := Lib.hid HRW.symm
                         have HR3 := Lib.hid r3
                         clear HRW k2 HS19 HS0 HROW r3
                         go_wp2_with fail
                         refine (hF _).mono ?_
                         rintro e w4 ⟨rfl, rfl⟩
                         go_wp2_with fail
                         repeat (first | (refine (hLa _).mono ?_; rintro e w4 ⟨rfl, rfl⟩; go_wp2_with fail))
                         first
                           | exact ⟨⟨k + 1, 0, by have := HKN.out; omega, by go_num, rfl, by omega, HRW2, HC2⟩, by simp [intOf]; have := HKN.out; omega⟩
                           | exact ⟨⟨k + 1, r + f, by have := HKN.out; omega, by go_num, by rw [HRF.out], by have := HR3.out; omega, HRW2, HC2⟩, by simp [intOf]; have := HKN.out; omega⟩)
                · have h0 := HK.out
                  rw [bls_end HL1.out (by omega), fstP] at h0
                  subst h0
                  go_wp2
                  go_ret
                  exact ⟨rfl, HB1.out⟩
end Go.Mk
