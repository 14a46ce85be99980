/-
  Proved: the law MarkRanks returns true and leaves all that was there, for any list of marks. Conditions: the tables that awake reads lie where the program lays them; the list lies where the slice says, its texts no longer than an int says.
-/
import Derived.Test.YtgcofpejbjfhaaaGreatDoorMs
set_option linter.unusedVariables false
set_option linter.unusedSimpArgs false
open Go Go.Proofs Go.RowKit
set_option maxRecDepth 100000
namespace Go.Mk
set_option maxHeartbeats 1000000 in
theorem ranks_exit (n cap : Nat) (A : Option Addr) (w : World) (ht : Tabs w) (h : 260 < (n : Int)) (hm : (n : Int) ≤ 9223372036854775807) : Calls Tryz.prog 5 #[.slice A n cap] w (Yes w) := by
  go_enter Tryz.func5, Tryz.ntmps5
  go_wp2_with fail
  refine (aw _ ht).mono ?_
  rintro e w1 ⟨rfl, hb1⟩
  have ht1 := ht.grow hb1
  go_wp2_with fail
  refine (aw _ ht1).mono ?_
  rintro e w2 ⟨rfl, hb2⟩
  go_wp2
  go_ret
  exact ⟨rfl, hb1.trans (hb2.mono hb1.size)⟩

/-- What the law needs of the program's Ranks and of the reference's, behind the loop. -/
def Tail (L : List (ByteArray × Int × ByteArray)) (n cap : Nat) (A : Option Addr) (W : World) : Prop :=
  (∃ b : Int, (b != 0) = true ∧ (b == 0) = false ∧ (∀ w, Below W.heap.size W w → Calls Tryz.prog 28 #[.slice A n cap] w (RetPost (.int .i64 b) w)) ∧ (∀ w, Below W.heap.size W w → Calls Tryz.prog 29 #[.slice A n cap] w (RetPost (.tuple #[.slice none 0 0, .int .i64 b]) w))) ∨
  ((∀ w, Below W.heap.size W w → Calls Tryz.prog 28 #[.slice A n cap] w (RetPost (.int .i64 0) w)) ∧ 30 < (n : Int)) ∨
  ((∀ w, Below W.heap.size W w → Calls Tryz.prog 28 #[.slice A n cap] w (RetPost (.int .i64 0) w)) ∧ ¬ 30 < (n : Int) ∧ ∃ b, (∀ w, Below W.heap.size W w → Calls Tryz.prog 29 #[.slice A n cap] w (Ranked b L n w)) ∧ ∀ w, Below W.heap.size W w → Calls Tryz.prog 30 #[.slice A n cap] w (Ranked2 b L n w))

theorem tail_of (L : List (ByteArray × Int × ByteArray)) (n cap : Nat) (A : Option Addr) (B : Nat) (W : World) (hM : Marks W B A n L) (hg : 15 ≤ W.heap.size) (hn : n ≤ 260) : Tail L n cap A W := by
  have hMM : ∀ w, Below W.heap.size W w → Marks w B A n L := fun w hb => hM.below hb hM.2.1
  have hgg : ∀ w, Below W.heap.size W w → 15 ≤ w.heap.size := fun w hb => Nat.le_trans hg hb.size
  by_cases h1 : 256 < (n : Int)
  · exact .inl ⟨5, by decide, by decide, fun w _ => refCheckMarks_many n cap A w h1 (by omega), fun w _ => Ranks_many n cap A w h1 (by omega)⟩
  · have hsm : n ≤ 256 := by omega
    have hK := refK_comK L sNone ⟨#[]⟩ (.inl ⟨rfl, by rw [ByteArray.toList_eq]; rfl⟩)
    have hC : ∀ w, Below W.heap.size W w → Calls Tryz.prog 28 #[.slice A n cap] w (RetPost (.int .i64 (refK ⟨#[]⟩ L)) w) := fun w hb => refCheckMarks_any L n cap A B w (hMM w hb) hsm
    by_cases h2 : refK ⟨#[]⟩ L = 0
    · rw [h2] at hC
      by_cases h3 : 30 < (n : Int)
      · exact .inr (.inl ⟨hC, h3⟩)
      · obtain ⟨y, hy⟩ : ∃ y, (comK sNone L).1 = y := ⟨_, rfl⟩
        have he : comK sNone L = (y, 0) := by rw [← hy, ← h2, hK]
        obtain ⟨hall, _⟩ := comK_all L sNone y he
        have hky : y = sNone ∨ y = sTime ∨ y = sLength ∨ y = sPoints := by
          by_cases q : y = sNone
          · exact .inl q
          · have hne : ∃ m ∈ L, m.1 = y := by
              refine Classical.byContradiction fun hx => q ?_
              have hno : ∀ m ∈ L, m.1 = sNone := fun m hm => by
                rcases (hall m hm).2 with h | h
                · exact h
                · exact absurd ⟨m, hm, h⟩ hx
              have hcom : ∀ l : List (ByteArray × Int × ByteArray), (∀ m ∈ l, chk m.1 m.2.1 m.2.2 = 0 ∧ m.1 = sNone) → comK sNone l = (sNone, 0) := by
                intro l
                induction l with
                | nil => intro _; rfl
                | cons m l ih =>
                  intro hl
                  obtain ⟨s, v, r⟩ := m
                  obtain ⟨a, b⟩ := hl (s, v, r) (List.mem_cons_self)
                  unfold comK
                  rw [if_neg (by simpa using a), if_pos b]
                  exact ih fun m hm => hl m (List.mem_cons_of_mem _ hm)
              have := hcom L fun m hm => ⟨(hall m hm).1, hno m hm⟩
              rw [he] at this
              exact congrArg Prod.fst this
            obtain ⟨m, hm, e⟩ := hne
            have := chk_kind m.1 m.2.1 m.2.2 (hall m hm).1
            rw [e] at this
            exact this
        refine .inr (.inr ⟨hC, h3, decide (y = sTime), fun w hb => ?_, fun w hb => refRanks_any L n cap A B w (hMM w hb) (by omega) y hall _ fun _ => rfl⟩)
        rcases hky with rfl | rfl | rfl | rfl
        · rw [show decide (sNone = sTime) = false by decide]
          exact Ranks_greater L n cap A B w (hMM w hb) (hgg w hb) hsm sNone he _ _ _ _ _ _ entryNone
        · rw [show decide (sTime = sTime) = true by decide]
          exact Ranks_less L n cap A B w (hMM w hb) (hgg w hb) hsm sTime he _ _ _ _ _ _ entryTime
        · rw [show decide (sLength = sTime) = false by decide]
          exact Ranks_greater L n cap A B w (hMM w hb) (hgg w hb) hsm sLength he _ _ _ _ _ _ entryLength
        · rw [show decide (sPoints = sTime) = false by decide]
          exact Ranks_greater L n cap A B w (hMM w hb) (hgg w hb) hsm sPoints he _ _ _ _ _ _ entryPoints
    · refine .inl ⟨refK ⟨#[]⟩ L, by rw [bne_iff_ne]; exact h2, beq_eq_false_iff_ne.2 h2, hC, fun w hb => ?_⟩
      exact Ranks_bad L n cap A B w (hMM w hb) (hgg w hb) hsm (comK sNone L).1 _ (by rw [hK]) (by rw [bne_iff_ne]; exact h2)

set_option maxHeartbeats 4000000 in
theorem ranks_law (L : List (ByteArray × Int × ByteArray)) (n cap : Nat) (A : Option Addr) (B : Nat) (w : World) (ht : Tabs w) (hM : Marks w B A n L) (hn : n ≤ 260) (hz : ∀ m ∈ L, m.1.size ≤ maxLen ∧ m.2.2.size ≤ maxLen) :
    Calls Tryz.prog 5 #[.slice A n cap] w (Yes w) := by
  have hn0 : (n : Int) ≤ 260 := by omega
  have HT := Lib.hid (tail_of L n cap A B w hM ht.1 hn)
  have HM : Hid (∀ w', Below w.heap.size w w' → Marks w' B A n L) := fun w' hb => hM.below hb hM.2.1
  have HZ := Lib.hid hz
  clear hM hz hn
  go_enter Tryz.func5, Tryz.ntmps5
  go_wp2_with fail
  refine (aw _ ht).mono ?_
  rintro e w1 ⟨rfl, hb1⟩
  clear ht
  go_wp2
  go_loopw [3] (fun i wr => ∃ k : Nat, k ≤ n ∧ i = .int .i64 k ∧ Below w.heap.size w wr) (fun i _ => n - (intOf i).toNat)
  case atStart => exact ⟨0, by omega, rfl, hb1⟩
  case round =>
    obtain ⟨k, hk, rfl, hb⟩ := hrel
    by_cases hlt : k < n
    · obtain ⟨b, off, s, v, r, rfl, hbl, hL, c0, c1, c2⟩ := (HM.out _ hb).at_ hlt
      obtain ⟨z1, z2⟩ := HZ.out _ (List.mem_of_getElem? hL)
      have hB := Brief_any s r v wr z1 z2
      clear hL z1 z2
      cases hx : brief s r with
      | true =>
        rw [hx] at hB
        clear hx
        go_wp2_with fail
        refine hB.mono ?_
        rintro e w2 ⟨rfl, hb2⟩
        have hb3 := hb.trans (hb2.mono hb.size)
        go_wp2
        exact ⟨⟨k + 1, by omega, by go_num, hb3⟩, by simp [intOf]; omega⟩
      | false =>
        rw [hx] at hB
        clear hx
        go_wp2_with fail
        refine hB.mono ?_
        rintro e w2 ⟨rfl, hb2⟩
        have hb3 := hb.trans (hb2.mono hb.size)
        go_wp2
        go_ret
        exact ⟨rfl, hb3⟩
    · rcases HT.out with ⟨bad, g1, g2, hC, hR⟩ | ⟨hC, g1⟩ | ⟨hC, g1, bt, hR, hRR⟩
      · go_wp2_with fail
        refine (hC _ hb).mono ?_
        rintro e w2 ⟨rfl, hb2⟩
        have hb3 := hb.trans (hb2.mono hb.size)
        clear hC hb2 hb
        go_wp2_with fail
        refine (hR _ hb3).mono ?_
        rintro e w4 ⟨rfl, hb4⟩
        have hb5 := hb3.trans (hb4.mono hb3.size)
        clear hR hb3 hb4
        go_wp2_with fail
        refine (list_bad bad g1 _).mono ?_
        rintro e w6 ⟨rfl, hb6⟩
        go_wp2
        go_ret
        exact ⟨rfl, hb5.trans (hb6.mono hb5.size)⟩
      · go_wp2_with fail
        refine (hC _ hb).mono ?_
        rintro e w2 ⟨rfl, hb2⟩
        have hb3 := hb.trans (hb2.mono hb.size)
        clear hC hb2 hb
        go_wp2
        go_ret
        exact ⟨rfl, hb3⟩
      · go_wp2_with fail
        refine (hC _ hb).mono ?_
        rintro e w2 ⟨rfl, hb2⟩
        have hb3 := hb.trans (hb2.mono hb.size)
        clear hC hb2 hb
        go_wp2_with fail
        refine (hR _ hb3).mono ?_
        rintro e w4 ⟨g, rfl, hrow, hgw, hb4⟩
        have hb5 := hb3.trans (hb4.mono hb3.size)
        have hlen : (L.map (rankM bt L)).length = n := by rw [List.length_map]; exact (HM.out _ hb3).1
        have hI := IntsAt.of_row hrow n hlen
        clear hR hb3 hb4 hrow hgw
        go_wp2_with fail
        refine (hRR _ hb5).mono ?_
        rintro e w6 ⟨x, rfl, hown, hb6⟩
        obtain ⟨A2, c2, rfl, hI2⟩ := IntsAt.of_own hown
        have hI1 := hI.below hb6
        have hb7 := hb5.trans (hb6.mono hb5.size)
        have hls := list_ok (L.map (rankM bt L)) (some ⟨g, 0, none⟩) A2 n n c2 w6 (by omega) hI1 hI2
        clear hRR hown hI hI1 hI2 hb5 hb6 hlen
        go_wp2_with fail
        refine hls.mono ?_
        rintro e w8 ⟨rfl, hb8⟩
        go_wp2
        go_ret
        exact ⟨rfl, hb7.trans (hb8.mono hb7.size)⟩
end Go.Mk
