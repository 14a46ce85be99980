/-
  Proved: seed.Heats and the reference's Heats return the entrants of each heat, in new memory; the first error. Conditions: the entrants lie where the slice says, at most 40 where there is no error; the texts are no longer than an int says; the heap holds the program's variables.
  Proved: the reference's Heats returns the entrants of each heat, in new memory. Conditions: the entrants lie where the slice says, have no error, and are at most 40; from 1 to 16 heats; the key is that of a drawn order.
-/
import Derived.Test.YtccgahkoekcefaaGreatDoorQq
import Derived.Test.YtccgahkoekcefaaGreatDoorQp
section
set_option linter.unusedVariables false
set_option linter.unusedSimpArgs false
open Go Go.Proofs Go.RowKit Go.Sort
set_option maxRecDepth 100000
namespace Go.Mk
def htsE (L : List Ent) (h key : Int) : Int := if fstN [chkEnts L, rngE h 1 16] ≠ 0 then fstN [chkEnts L, rngE h 1 16] else drwE key L.length
theorem fst2z {a b : Int} (h : ¬ fstN [a, b] ≠ 0) : a = 0 ∧ b = 0 := by
  simp only [fstN] at h
  by_cases q : a = 0
  · by_cases q2 : b = 0
    · exact ⟨q, q2⟩
    · simp [q, q2] at h
  · simp [q] at h
set_option maxHeartbeats 1000000 in
theorem seedHeats_bad (L : List Ent) (n cap : Nat) (A : Option Addr) (B : Nat) (h key e : Int) (w : World) (hZ : Ents w B A n L) (hn : n ≤ 1000) (hs : ∀ x ∈ L, x.ok) (hg : 13 ≤ w.heap.size) (he : htsE L h key = e) (hne : (e != 0) = true) :
    Calls Tryz.prog 14 #[.slice A n cap, .int .i64 h, .int .i64 key] w (RetPost (.tuple #[.slice none 0 0, .int .i64 e]) w) := by
  have hl := hZ.1
  have HO : Hid (Calls Tryz.prog 57 #[.slice A n cap, .int .i64 h, .int .i64 key] w (RetPost (.tuple #[.slice none 0 0, .int .i64 e]) w)) := by
    refine Lib.hid ?_
    unfold htsE at he
    by_cases h1 : fstN [chkEnts L, rngE h 1 16] ≠ 0
    · rw [if_pos h1] at he
      exact orderInHeats_bad L n cap A B h key e w hZ hn hs hg he hne
    · rw [if_neg h1] at he
      obtain ⟨z1, z2⟩ := fst2z h1
      have hd : drwE key n ≠ 0 := by rw [← hl, he]; simpa using hne
      have he3 : e = 3 := by
        rw [← he]
        rw [← hl] at hd
        unfold drwE at hd ⊢
        split
        · rfl
        · rename_i q; rw [if_neg q] at hd; exact absurd rfl hd
      refine (orderInHeats_pass L n cap A B h key w hZ hn hs hg z1 z2 (fun w1 v z w2 => v = .slice none 0 0 ∧ z = 3 ∧ Below w1.heap.size w1 w2) (fun w' hb => (seedOrder_bad1 L n cap A B key w' (hZ.below hb hZ.2.1) hn hs (Nat.le_trans hg hb.size) hd).mono ?_)).mono ?_
      · rintro x w2 ⟨rfl, hb2⟩
        refine ⟨_, _, rfl, rfl, ?_, hb2⟩
        rw [z1]; rfl
      · rintro x w2 ⟨v, z, w1, rfl, hb1, rfl, rfl, hb2⟩
        exact ⟨by rw [he3], bstep hb1 hb2⟩
  clear he hZ hs hg hl
  go_enter Tryz.func14, Tryz.ntmps14
  go_wp2_with fail
  refine HO.out.mono ?_
  rintro x w1 ⟨rfl, hb1⟩
  go_wp2
  go_ret2
  exact ⟨rfl, hb1⟩
def HtsPost (O : List Int) (h n : Nat) (w : World) (e : Ending) (w' : World) : Prop :=
  ∃ g, e = .returned (.tuple #[.slice (some ⟨g, 0, none⟩) h h, .int .i64 0]) ∧ GrowR w' w.heap.size g h (heatsR O h n) ∧ Below w.heap.size w w'
theorem GrowR.low {w : World} {B B' g h : Nat} {R : Nat → List Nat} (hR : GrowR w B g h R) (hB : B' ≤ B) : GrowR w B' g h R := by
  obtain ⟨hg, hB2, V, hV, hD⟩ := hR
  exact ⟨hg, Nat.le_trans hB hB2, V, fun i hi => ⟨(hV i hi).1, (hV i hi).2.1, own_low (hV i hi).2.2.1 hB, (hV i hi).2.2.2⟩, hD⟩
set_option maxHeartbeats 4000000 in
theorem seedHeats_ok (L : List Ent) (n cap h : Nat) (A : Option Addr) (B : Nat) (key : Nat) (w : World) (hZ : Ents w B A n L) (hn : n ≤ 40) (hs : ∀ x ∈ L, x.ok) (hg : 13 ≤ w.heap.size) (h1 : 1 ≤ key) (h2 : key ≤ 2147483646) (hx : chkEnts L = 0) (hh1 : 1 ≤ h) (hh2 : h ≤ 16) :
    Calls Tryz.prog 14 #[.slice A n cap, .int .i64 (h : Nat), .int .i64 (key : Nat)] w (HtsPost (ordZ L key) h n w) := by
  have hl := hZ.1
  have hni : (n : Int) ≤ 40 := by omega
  have hhi : (h : Int) ≤ 16 := by omega
  have r2 : rngE (h : Int) 1 16 = 0 := by unfold rngE; rw [if_neg (by omega)]
  have HO := Lib.hid (orderInHeats_pass L n cap A B h key w hZ (by omega) hs hg hx r2 (fun w1 v z w2 => ∃ go, v = .slice (some ⟨go, 0, none⟩) n n ∧ z = 0 ∧ RowZ w2 w1.heap.size go n n (ordZ L key) ∧ Below w1.heap.size w1 w2) (fun w' hb => (seedOrder_ok L n cap A B key w' (hZ.below hb hZ.2.1) hn hs (Nat.le_trans hg hb.size) h1 h2 hx).mono (by
    rintro x w2 ⟨go, rfl, hr, hb2⟩
    exact ⟨_, _, rfl, go, rfl, rfl, hr, hb2⟩)))
  have HZ : Hid (∀ w', Calls Tryz.prog 22 #[.int .i64 (n : Int), .int .i64 (h : Int)] w' (Zigged h n w')) := Lib.hid fun w' => Zigzag_any n h w' (by omega) hh1 hh2
  have HON : Hid (∀ r, r < n → 0 ≤ ga (ordZ L key) r ∧ ga (ordZ L key) r < n) := Lib.hid fun r hr => by
    have hm : ga (ordZ L key) r ∈ ordZ L key := List.mem_of_getElem? (ga_at (by rw [ordZ_len hx, hl]; exact hr))
    have := ordZ_mem hx key hm
    rw [hl] at this
    exact this
  have HRN : Hid (∀ i k r : Nat, (rowsZ h n i)[k]? = some r → r < n) := Lib.hid fun i k r hr => ((rowsZ_mem h i r n).1 (List.mem_of_getElem? hr)).1
  have HRL : Hid (∀ i : Nat, i < h → (rowsZ h n i).length ≤ 160) := Lib.hid fun i hi => by
    rw [rowsZ_closed h i hh1 hi n]
    have : n / h ≤ n := Nat.div_le_self _ _
    simp only [List.length_map, List.length_range, zLen]
    split <;> omega
  have HRC : Hid (∀ (w' : World) (C g : Nat), GrowR w' C g h (mixR (fun r => (ga (ordZ L key) r).toNat) (rowsZ h n) h 0) → GrowR w' C g h (heatsR (ordZ L key) h n)) := Lib.hid fun w' C g hR => hR.congr fun j hj => mixR_all _ _ h j hj
  unfold HtsPost
  generalize ordZ L key = O at *
  generalize hRR : rowsZ h n = R at *
  generalize hff : (fun r => (ga O r).toNat) = f at *
  have HFF := Lib.hid hff
  have HRR := Lib.hid hRR
  clear hZ hs hg hx h1 h2 r2 hl hRR hff
  go_enter Tryz.func14, Tryz.ntmps14
  go_wp2_with fail
  refine HO.out.mono ?_
  rintro x w2 ⟨v, z, w1, rfl, hb1, go, rfl, rfl, hr2, hb2⟩
  have hB2 := bstep hb1 hb2
  clear hb1 hb2
  go_wp2_with fail
  refine (HZ.out _).mono ?_
  rintro x w3 ⟨g, rfl, hR3, hb3⟩
  have HB2 := Lib.hid hB2
  have hl2 := hB2.size
  have HRO : Hid (∀ w', Below w2.heap.size w2 w' → ∀ r : Nat, r < n → w'.cell? ⟨go, r, none⟩ = some (.int .i64 (ga O r))) := Lib.hid fun w' hb r hr => (hb.cell (p := ⟨go, r, none⟩) (RowZ.lt hr2).2).trans (RowZ.cell hr2 hr)
  rw [HRR.out] at hR3
  rw [← mixR_zero f R] at hR3
  clear hr2 hB2
  go_wp2
  go_loopw [34] (fun i wr => ∃ k : Nat, k ≤ h ∧ i = .int .i64 k ∧ Hid (GrowR wr w2.heap.size g h (mixR f R k 0)) ∧ Hid (Below w2.heap.size w2 wr)) (fun i _ => h - (intOf i).toNat)
  case atStart => exact ⟨0, by omega, rfl, Lib.hid hR3, Lib.hid hb3⟩
  case round =>
    obtain ⟨k, hk, rfl, HR, HB⟩ := hrel
    by_cases hlt : k < h
    · obtain ⟨a, c, hc, _⟩ := HR.out.at_ hlt
      rw [mixR_len] at hc
      obtain ⟨m, hm⟩ : ∃ m, (R k).length = m := ⟨_, rfl⟩
      rw [hm] at hc
      have HM := Lib.hid hm
      have hml : m ≤ 160 := by rw [← hm]; exact HRL.out k hlt
      have hmi : (m : Int) ≤ 160 := by omega
      have hki : (k : Int) < (h : Int) := by omega
      obtain ⟨wy, rfl⟩ : ∃ wy : World, wy = wr := ⟨_, rfl⟩
      have HCY := Lib.hid hc
      clear hm
      go_wp2
      go_loopw [40] (fun i wr => ∃ j : Nat, j ≤ m ∧ i = .int .i64 j ∧ Hid (wr.cell? ⟨g, k, none⟩ = some (.slice a m c)) ∧ Hid (GrowR wr w2.heap.size g h (mixR f R k j)) ∧ Hid (Below w2.heap.size w2 wr)) (fun i _ => m - (intOf i).toNat)
      case atStart => exact ⟨0, by omega, rfl, HCY, HR, HB⟩
      case round =>
        obtain ⟨j, hj, rfl, HC, HR, HB⟩ := hrel
        by_cases hjm : j < m
        · obtain ⟨a', c', hc', hall⟩ := HR.out.at_ hlt
          rw [mixR_len, HM.out] at hc'
          obtain ⟨rfl, rfl⟩ : a' = a ∧ c' = c := by
            have := hc'.symm.trans HC.out
            injection this with this
            injection this with q1 _ q2
            exact ⟨q1, q2⟩
          obtain ⟨r, hrj⟩ : ∃ r, (R k)[j]? = some r := ⟨_, List.getElem?_eq_getElem (by rw [HM.out]; exact hjm)⟩
          have hrn := HRN.out k j r hrj
          obtain ⟨g', rfl, hg1, hg2, hg3, hc1, hz1⟩ := hall j r (by rw [mixR_at]; exact hrj)
          have hco := HRO.out _ HB.out r hrn
          obtain ⟨o1, o2⟩ := HON.out r hrn
          obtain ⟨o, ho⟩ : ∃ o : Nat, ga O r = (o : Int) := ⟨(ga O r).toNat, by omega⟩
          rw [ho] at hco
          have hfr : f r = o := by rw [← HFF.out]; simp only; rw [ho]; omega
          have hst := HR.out.set_ (k := j) (x := o) (R' := mixR f R k (j + 1)) hlt hc' (by rw [mixR_step f R k j r hrj, hfr]) (fun i hi => mixR_other f R k j i hi)
          have hcn : (wr.setCell ⟨g', j, none⟩ (.int .i64 (o : Int))).cell? ⟨g, k, none⟩ = some (.slice (some ⟨g', 0, none⟩) m c') := by
            rw [World.cell?_setCell_other _ _ _ _ (by intro e2; injection e2 with e3; exact hg3 e3)]
            exact hc'
          have hbn : Below w2.heap.size w2 (wr.setCell ⟨g', j, none⟩ (.int .i64 (o : Int))) := HB.out.setCell hg1 _
          have HN := Lib.hid (And.intro hst (And.intro hcn hbn))
          have hji : (j : Int) < (m : Int) := by omega
          have hj0 : (0 : Int) ≤ (j : Int) := by omega
          have hjt : ((j : Int)).toNat = j := by omega
          have hr0 : (0 : Int) ≤ (r : Int) := by omega
          have hri : (r : Int) < (n : Int) := by omega
          have hrt : ((r : Int)).toNat = r := by omega
          clear hall hst hcn hbn hrj hfr ho o1 o2 hc' hg1 hg2 hg3
          go_wp2
          go_roundw
          case rel => exact ⟨j + 1, by omega, by go_num, Lib.hid HN.out.2.1, Lib.hid HN.out.1, Lib.hid HN.out.2.2⟩
          case measure => simp [intOf]; omega
        · have hjm2 : j = m := by omega
          have HN : Hid (GrowR wr w2.heap.size g h (mixR f R (k + 1) 0)) := Lib.hid (by
            have := HR.out
            rw [hjm2, ← HM.out, mixR_next] at this
            exact this)
          clear hjm2
          go_wp2
          go_roundw
          case rel => exact ⟨k + 1, by omega, by go_num, HN, HB⟩
          case measure => simp [intOf]; omega
    · have hkn : k = h := by omega
      have HN : Hid (GrowR wr w.heap.size g h (heatsR O h n) ∧ Below w.heap.size w wr) := Lib.hid (by
        have := HR.out
        rw [hkn] at this
        exact ⟨HRC.out _ _ _ (this.low hl2), bstep HB2.out HB.out⟩)
      clear hkn
      go_wp2
      go_ret2
      exact ⟨g, rfl, HN.out.1, HN.out.2⟩
end Go.Mk
end
section
set_option linter.unusedVariables false
set_option linter.unusedSimpArgs false
open Go Go.Proofs Go.RowKit Go.Sort
set_option maxRecDepth 100000
namespace Go.Mk
def RHtsPost (O : List Int) (h n : Nat) (w : World) (e : Ending) (w' : World) : Prop :=
  ∃ g, e = .returned (.slice (some ⟨g, 0, none⟩) h h) ∧ GrowR w' w.heap.size g h (heatsR O h n) ∧ Below w.heap.size w w'
set_option maxHeartbeats 4000000 in
theorem r4Heats_ok (L : List Ent) (n cap h : Nat) (A : Option Addr) (B : Nat) (key : Nat) (w : World) (hZ : Ents w B A n L) (hn : n ≤ 40) (h1 : 1 ≤ (key : Int)) (h2 : (key : Int) ≤ 2147483646) (hx : chkEnts L = 0) (hh1 : 1 ≤ h) (hh2 : h ≤ 16) :
    Calls Tryz.prog 20 #[.slice A n cap, .int .i64 (h : Nat), .int .i64 (key : Nat)] w (RHtsPost (ordZ L key) h n w) := by
  have hl := hZ.1
  have hni : (n : Int) ≤ 40 := by omega
  have hhi : (h : Int) ≤ 16 := by omega
  have HO := Lib.hid (r4Order_any L n cap A B key w hZ hn h1 h2 hx)
  have HZ : Hid (∀ w', Calls Tryz.prog 23 #[.int .i64 (n : Int), .int .i64 (h : Int)] w' (ZiggedR h n w')) := Lib.hid fun w' => r4Zigzag_any n h w' (by omega) hh1 hh2
  have HOL : Hid ((ordZ L key).length = n) := Lib.hid ((ordZ_len hx key).trans hl)
  have HON : Hid (∀ r, r < n → 0 ≤ ga (ordZ L key) r ∧ ga (ordZ L key) r < n) := Lib.hid fun r hr => by
    have hm : ga (ordZ L key) r ∈ ordZ L key := List.mem_of_getElem? (ga_at (by rw [ordZ_len hx, hl]; exact hr))
    have := ordZ_mem hx key hm
    rw [hl] at this
    exact this
  have HRN : Hid (∀ i k r : Nat, (rowsZ h n i)[k]? = some r → r < n) := Lib.hid fun i k r hr => ((rowsZ_mem h i r n).1 (List.mem_of_getElem? hr)).1
  have HRL : Hid (∀ i : Nat, i < h → (rowsZ h n i).length ≤ 160) := Lib.hid fun i hi => by
    rw [rowsZ_closed h i hh1 hi n]
    have : n / h ≤ n := Nat.div_le_self _ _
    simp only [List.length_map, List.length_range, zLen]
    split <;> omega
  have HRC : Hid (∀ (w' : World) (C g : Nat), GrowR w' C g h (mixR (fun r => (ga (ordZ L key) r).toNat) (rowsZ h n) h 0) → GrowR w' C g h (heatsR (ordZ L key) h n)) := Lib.hid fun w' C g hR => hR.congr fun j hj => mixR_all _ _ h j hj
  unfold RHtsPost
  unfold ROrdPost at HO
  generalize ordZ L key = O at *
  generalize hRR : rowsZ h n = R at *
  generalize hff : (fun r => (ga O r).toNat) = f at *
  have HFF := Lib.hid hff
  have HRR := Lib.hid hRR
  clear hZ hx h1 h2 hl hRR hff
  go_enter Tryz.func20, Tryz.ntmps20
  go_wp2_with fail
  refine HO.out.mono ?_
  rintro x w2 ⟨v, rfl, hv2, hb2⟩
  go_wp2_with fail
  refine (HZ.out _).mono ?_
  rintro x w3 ⟨g, rfl, hR3, hb3⟩
  have HB2 := Lib.hid hb2
  have hl2 := hb2.size
  obtain ⟨a0, c0, rfl⟩ := hv2.shape
  have HRO : Hid (∀ w', Below w2.heap.size w2 w' → ∀ r : Nat, r < n → ∃ go, a0 = some ⟨go, 0, none⟩ ∧ w'.cell? ⟨go, r, none⟩ = some (.int .i64 (ga O r))) := Lib.hid fun w' hb r hr => by
    obtain ⟨go, e, _, q2, _, _, q3⟩ := OwnZ.at_ hv2 rfl (j := r) (by rw [HOL.out]; exact hr)
    exact ⟨go, e, (hb.cell (p := ⟨go, r, none⟩) q2).trans q3⟩
  rw [HRR.out] at hR3
  rw [← mixR_zero f R] at hR3
  rw [HOL.out]
  clear hv2
  go_wp2
  go_loopw [9] (fun i wr => ∃ k : Nat, k ≤ h ∧ i = .int .i64 k ∧ Hid (GrowR wr w2.heap.size g h (mixR f R k 0)) ∧ Hid (Below w2.heap.size w2 wr)) (fun i _ => h - (intOf i).toNat)
  case atStart => exact ⟨0, by omega, rfl, Lib.hid hR3, Lib.hid hb3⟩
  case round =>
    obtain ⟨k, hk, rfl, HR, HB⟩ := hrel
    by_cases hlt : k < h
    · obtain ⟨a, c, hc, _⟩ := HR.out.at_ hlt
      rw [mixR_len] at hc
      obtain ⟨m, hm⟩ : ∃ m, (R k).length = m := ⟨_, rfl⟩
      rw [hm] at hc
      have HM := Lib.hid hm
      have hml : m ≤ 160 := by rw [← hm]; exact HRL.out k hlt
      have hmi : (m : Int) ≤ 160 := by omega
      have hki : (k : Int) < (h : Int) := by omega
      have hk0 : (0 : Int) ≤ (k : Int) := by omega
      have hkt : ((k : Int)).toNat = k := by omega
      obtain ⟨wy, rfl⟩ : ∃ wy : World, wy = wr := ⟨_, rfl⟩
      have HCY := Lib.hid hc
      clear hm hc
      go_wp2
      go_loopw [10] (fun i wr => ∃ j : Nat, j ≤ m ∧ i = .int .i64 j ∧ Hid (wr.cell? ⟨g, k, none⟩ = some (.slice a m c)) ∧ Hid (GrowR wr w2.heap.size g h (mixR f R k j)) ∧ Hid (Below w2.heap.size w2 wr)) (fun i _ => m - (intOf i).toNat)
      case atStart => exact ⟨0, by omega, rfl, HCY, HR, HB⟩
      case round =>
        obtain ⟨j, hj, rfl, HC, HR, HB⟩ := hrel
        have hcc := HC.out
        by_cases hjm : j < m
        · obtain ⟨a', c', hc', hall⟩ := HR.out.at_ hlt
          rw [mixR_len, HM.out] at hc'
          obtain ⟨rfl, rfl⟩ : a' = a ∧ c' = c := by
            have := hc'.symm.trans HC.out
            injection this with this
            injection this with q1 _ q2
            exact ⟨q1, q2⟩
          obtain ⟨r, hrj⟩ : ∃ r, (R k)[j]? = some r := ⟨_, List.getElem?_eq_getElem (by rw [HM.out]; exact hjm)⟩
          have hrn := HRN.out k j r hrj
          obtain ⟨g', rfl, hg1, hg2, hg3, hc1, hz1⟩ := hall j r (by rw [mixR_at]; exact hrj)
          obtain ⟨go, rfl, hco⟩ := HRO.out _ HB.out r hrn
          obtain ⟨o1, o2⟩ := HON.out r hrn
          obtain ⟨o, ho⟩ : ∃ o : Nat, ga O r = (o : Int) := ⟨(ga O r).toNat, by omega⟩
          rw [ho] at hco
          have hfr : f r = o := by rw [← HFF.out]; simp only; rw [ho]; omega
          have hst := HR.out.set_ (k := j) (x := o) (R' := mixR f R k (j + 1)) hlt hc' (by rw [mixR_step f R k j r hrj, hfr]) (fun i hi => mixR_other f R k j i hi)
          have hcn : (wr.setCell ⟨g', j, none⟩ (.int .i64 (o : Int))).cell? ⟨g, k, none⟩ = some (.slice (some ⟨g', 0, none⟩) m c') := by
            rw [World.cell?_setCell_other _ _ _ _ (by intro e2; injection e2 with e3; exact hg3 e3)]
            exact hc'
          have hbn : Below w2.heap.size w2 (wr.setCell ⟨g', j, none⟩ (.int .i64 (o : Int))) := HB.out.setCell hg1 _
          have HN := Lib.hid (And.intro hst (And.intro hcn hbn))
          have hji : (j : Int) < (m : Int) := by omega
          have hj0 : (0 : Int) ≤ (j : Int) := by omega
          have hjt : ((j : Int)).toNat = j := by omega
          have hr0 : (0 : Int) ≤ (r : Int) := by omega
          have hri : (r : Int) < (n : Int) := by omega
          have hrt : ((r : Int)).toNat = r := by omega
          clear hall hst hcn hbn hrj hfr ho o1 o2 hc' hg1 hg2 hg3
          go_wp2
          go_region
          all_goals
            go_wp2
            go_roundw
            case rel => exact ⟨j + 1, by omega, by go_num, Lib.hid HN.out.2.1, Lib.hid (HN.out.1.below (Below.refl _ _).drew), Lib.hid (HN.out.2.2.drew)⟩
            case measure => simp [intOf]; omega
        · have hjm2 : j = m := by omega
          have HN : Hid (GrowR wr w2.heap.size g h (mixR f R (k + 1) 0)) := Lib.hid (by
            have := HR.out
            rw [hjm2, ← HM.out, mixR_next] at this
            exact this)
          clear hjm2
          go_wp2
          go_roundw
          case rel => exact ⟨k + 1, by omega, by go_num, HN, HB⟩
          case measure => simp [intOf]; omega
    · have hkn : k = h := by omega
      have HN : Hid (GrowR wr w.heap.size g h (heatsR O h n) ∧ Below w.heap.size w wr) := Lib.hid (by
        have := HR.out
        rw [hkn] at this
        exact ⟨HRC.out _ _ _ (this.low hl2), bstep HB2.out HB.out⟩)
      clear hkn
      go_wp2
      go_ret
      exact ⟨g, rfl, HN.out.1, HN.out.2⟩
end Go.Mk
end
