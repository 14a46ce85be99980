/-
  Proved: the error of acts by package field (actsError), and a copy of acts with another one in the place of one (slices.Clone, with). Conditions: the heap holds the program's variables; the acts lie where the slice says; there are at most 2,000 of them, each name no longer than an int says.
-/
import Derived.Test.YthpcmhcokblglaaGreatDoorFo
import Derived.Test.YthpcmhcokblglaaGreatDoorXga
import Derived.Lib.AppendZeros
set_option linter.unusedVariables false
set_option linter.unusedSimpArgs false
open Go Go.Proofs Go.RowKit
set_option maxRecDepth 100000
namespace Go.Mk
set_option maxHeartbeats 2000000 in
theorem fdActsC_any (h : Bool) (a : ActR) (k : Int) (g : Nat) (w : World) (hc : w.cell? ⟨g, 0, none⟩ = some (.bool h)) (hg : g < w.heap.size) (hG : 15 ≤ w.heap.size) (hz : a.s.size ≤ maxLen) :
    Calls Tryz.prog 109 #[.int .i64 k, .agg #[.string a.s, .string a.k, .int .i64 a.v], .pointer (some ⟨g, 0, none⟩)] w (RetPost (.int .i64 (actE h a.s a.k a.v)) w) := by
  obtain ⟨w1, hw1⟩ : ∃ w1, w.alloc (.cells #[.string a.s, .string a.k, .int .i64 a.v] 44) = w1 := ⟨_, rfl⟩
  have hb1 : Below w.heap.size w w1 := by rw [← hw1]; exact balloc _ (Below.refl _ _)
  have c0 : w1.cell? ⟨w.heap.size, 0, none⟩ = some (.string a.s) := by rw [← hw1]; simp
  have c1 : w1.cell? ⟨w.heap.size, 1, none⟩ = some (.string a.k) := by rw [← hw1]; simp
  have c2 : w1.cell? ⟨w.heap.size, 2, none⟩ = some (.int .i64 a.v) := by rw [← hw1]; simp
  have c3 : w1.cell? ⟨g, 0, none⟩ = some (.bool h) := (hb1.cell (p := ⟨g, 0, none⟩) hg).trans hc
  have hC := fdCheckAct_any h a.s a.k a.v w1 hz (by have := hb1.size; omega)
  generalize actE h a.s a.k a.v = y at *
  clear hc
  go_enter Tryz.func109, Tryz.ntmps109
  go_wp2_with fail
  refine hC.mono ?_
  rintro e w2 ⟨rfl, hb2⟩
  have hb3 := bstep hb1 hb2
  clear hw1
  go_wp2
  go_ret
  exact ⟨rfl, hb3⟩
/-- The closure of actsError. -/
def ActF (g : Nat) : Value := .func (.func 109) #[] #[.pointer (some ⟨g, 0, none⟩)]
set_option maxHeartbeats 4000000 in
theorem fdFirstOfA_any (h : Bool) (L : List ActR) (n cap g : Nat) (A : Option Addr) (w : World) (hc : w.cell? ⟨g, 0, none⟩ = some (.bool h)) (hg : g < w.heap.size) (hG : 15 ≤ w.heap.size) (hZ : Acts w A n L) (hn : n ≤ 2000) (hs : ∀ a ∈ L, a.s.size ≤ maxLen) :
    Calls Tryz.prog 180 #[.slice A n cap, ActF g] w (RetPost (.int .i64 (lstE h L)) w) := by
  unfold ActF
  have hni : (n : Int) ≤ 2000 := by omega
  have H := Lib.hid hZ
  have Hn := Lib.hid hZ.1
  have HS := Lib.hid hs
  have HG : Hid (∀ w', Below w.heap.size w w' → w'.cell? ⟨g, 0, none⟩ = some (.bool h) ∧ g < w'.heap.size ∧ 15 ≤ w'.heap.size) := Lib.hid fun w' hb => ⟨(hb.cell (p := ⟨g, _, none⟩) hg).trans hc, Nat.lt_of_lt_of_le hg hb.size, Nat.le_trans hG hb.size⟩
  obtain ⟨y, hy⟩ : ∃ y, lstE h L = y := ⟨_, rfl⟩
  rw [hy]
  have HY : Hid (lstE h (L.drop 0) = y) := by rw [← hy]; rfl
  clear hZ hy hc hs hg hG
  go_enter Tryz.func180, Tryz.ntmps180
  go_wp2
  go_loopw [10] (fun i wr => ∃ k : Nat, k ≤ n ∧ i = .int .i64 k ∧ Hid (lstE h (L.drop k) = y) ∧ Below w.heap.size w wr) (fun i _ => n - (intOf i).toNat)
  case atStart => exact ⟨0, by omega, rfl, HY, Below.refl _ _⟩
  case round =>
    obtain ⟨k, hk, rfl, HK, hb⟩ := hrel
    by_cases hlt : k < n
    · obtain ⟨b, off, a, rfl, _, ha, q0, q1, q2⟩ := (H.out.below hb).at_ hlt
      have hst := lstE_drop (h := h) ha
      rw [HK.out] at hst
      have hki : (k : Int) < (n : Int) := by omega
      have hk0 : (0 : Int) ≤ (k : Int) := by omega
      have hkt : ((k : Int)).toNat = k := by omega
      have HB := Lib.hid hb
      have hC := fun w' (hb' : Below wr.heap.size wr w') => fdActsC_any h a k g w' (HG.out w' (bstep hb hb')).1 (HG.out w' (bstep hb hb')).2.1 (HG.out w' (bstep hb hb')).2.2 (HS.out a (List.mem_of_getElem? ha))
      obtain ⟨z, hz⟩ : ∃ z, actE h a.s a.k a.v = z := ⟨_, rfl⟩
      rw [hz] at hst hC
      clear hz ha HK
      by_cases h0 : z = 0
      · subst h0
        rw [if_pos rfl] at hst
        have Hst : Hid (lstE h (L.drop (k + 1)) = y) := hst.symm
        clear hst
        go_wp2_with fail
        refine (hC _ (balloc _ (Below.refl _ _))).mono ?_
        rintro e w' ⟨rfl, hb2⟩
        have hb3 := HB.out.trans ((bstep (balloc _ (Below.refl _ _)) hb2).mono HB.out.size)
        clear hb2 hC q0 q1 q2
        go_wp2
        go_roundw
        case rel => exact ⟨k + 1, by omega, by go_num, Hst, hb3⟩
        case measure => simp [intOf]; omega
      · rw [if_neg h0] at hst
        subst hst
        have hb' : (y != 0) = true := by rw [bne_iff_ne]; exact h0
        clear HY
        go_wp2_with fail
        refine (hC _ (balloc _ (Below.refl _ _))).mono ?_
        rintro e w' ⟨rfl, hb2⟩
        have hb3 := HB.out.trans ((bstep (balloc _ (Below.refl _ _)) hb2).mono HB.out.size)
        clear hb2 hC q0 q1 q2
        go_wp2
        go_ret
        exact ⟨rfl, hb3⟩
    · have hkn : k = n := by omega
      have h0 := HK.out
      rw [hkn, List.drop_of_length_le (by rw [Hn.out]; omega), lstE] at h0
      have h0' : 0 = y := h0
      subst h0'
      go_wp2
      go_ret
      exact ⟨rfl, hb⟩
set_option maxHeartbeats 2000000 in
theorem fdListA_any (h : Bool) (L : List ActR) (n cap g : Nat) (A : Option Addr) (w : World) (hc : w.cell? ⟨g, 0, none⟩ = some (.bool h)) (hg : g < w.heap.size) (hG : 15 ≤ w.heap.size) (hZ : Acts w A n L) (hn : n ≤ 2000) (hs : ∀ a ∈ L, a.s.size ≤ maxLen) :
    Calls Tryz.prog 108 #[.slice A n cap, .int .i64 1000, ActF g] w (RetPost (.int .i64 (actsE h L)) w) := by
  have hC := fdFirstOfA_any h L n cap g A w hc hg hG hZ hn hs
  unfold ActF at *
  unfold actsE
  rw [hZ.1]
  by_cases h3 : 1000 < n
  · have hi : (1000 : Int) < (n : Int) := by omega
    rw [if_pos h3]
    clear hC hZ hc hs
    go_enter Tryz.func108, Tryz.ntmps108
    go_wp2
    go_ret
    exact ⟨rfl, Below.refl _ _⟩
  · have hi : ¬ (1000 : Int) < (n : Int) := by omega
    rw [if_neg h3]
    generalize lstE h L = y at *
    clear hZ hc hs
    go_enter Tryz.func108, Tryz.ntmps108
    go_wp2_with fail
    refine hC.mono ?_
    rintro e w1 ⟨rfl, hb1⟩
    go_wp2
    go_ret
    exact ⟨rfl, hb1⟩
set_option maxHeartbeats 2000000 in
theorem fdActs_any (h : Bool) (L : List ActR) (n cap : Nat) (A : Option Addr) (w : World) (hG : 15 ≤ w.heap.size) (hZ : Acts w A n L) (hn : n ≤ 2000) (hs : ∀ a ∈ L, a.s.size ≤ maxLen) :
    Calls Tryz.prog 54 #[.slice A n cap, .bool h] w (RetPost (.int .i64 (actsE h L)) w) := by
  obtain ⟨w1, hw1⟩ : ∃ w1, w.alloc (.cells #[.bool h] 4) = w1 := ⟨_, rfl⟩
  have hb1 : Below w.heap.size w w1 := by rw [← hw1]; exact balloc _ (Below.refl _ _)
  have hs1 : w1.heap.size = w.heap.size + 1 := by rw [← hw1]; simp
  have hC := fdListA_any h L n cap w.heap.size A w1 (by rw [← hw1]; simp) (by omega) (by omega) (hZ.below hb1) hn hs
  unfold ActF at hC
  generalize actsE h L = y at *
  clear hZ hs
  go_enter Tryz.func54, Tryz.ntmps54
  go_wp2_with fail
  refine hC.mono ?_
  rintro e w2 ⟨rfl, hb2⟩
  have hb3 := bstep hb1 hb2
  clear hw1
  go_wp2
  go_ret
  exact ⟨rfl, hb3⟩
theorem acts_len (L : List ActR) : (L.flatMap actC).length = L.length * 3 := by
  induction L with
  | nil => rfl
  | cons p l ih => rw [List.flatMap_cons, List.length_append, ih, List.length_cons]; simp [actC]; omega
theorem actC_at : ∀ (L : List ActR) (k : Nat) (a : ActR) (j : Nat), L[k]? = some a → j < 3 → (L.flatMap actC)[k * 3 + j]? = (actC a)[j]?
  | [], k, p, j, h, _ => by simp at h
  | x :: L, 0, p, j, h, hj => by
    obtain rfl : x = p := by simpa using h
    rw [List.flatMap_cons, List.getElem?_append_left (by simp [actC]; omega)]
    simp
  | x :: L, k + 1, p, j, h, hj => by
    rw [List.flatMap_cons, List.getElem?_append_right (by simp [actC]; omega), show (k + 1) * 3 + j - (actC x).length = k * 3 + j by simp [actC]; omega]
    exact actC_at L k p j (by simpa using h) hj
theorem acts_cell {w : World} {E : Option Addr} {m : Nat} {L : List ActR} (h : Acts w E m L) (ad : Addr) (hE : E = some ad) (j : Nat) (u : Value) (hj : (L.flatMap actC)[j]? = some u) : w.cell? (ad.add j) = some u := by
  have hl := (List.getElem?_eq_some_iff.1 hj).1
  rw [acts_len] at hl
  obtain ⟨be, oe, e, _, hc⟩ := h.2 (by have := h.1; omega)
  rw [hE] at e
  obtain rfl : ad = ⟨be, oe, none⟩ := by injection e
  have hk : j / 3 < L.length := by omega
  have hq := List.getElem?_eq_getElem hk
  obtain ⟨q0, q1, q2⟩ := hc (j / 3) _ hq
  have hat := actC_at L (j / 3) _ (j % 3) hq (by omega)
  rw [show j / 3 * 3 + j % 3 = j by omega, hj] at hat
  rw [show (⟨be, oe, none⟩ : Addr).add j = ⟨be, oe + j, none⟩ from by unfold Addr.add; split <;> simp_all]
  rcases (by omega : j % 3 = 0 ∨ j % 3 = 1 ∨ j % 3 = 2) with e0 | e0 | e0
  · rw [e0] at hat
    have : u = .string (L[j / 3]).s := by simpa [actC] using hat
    rw [this, show oe + j = oe + j / 3 * 3 by omega]
    exact q0
  · rw [e0] at hat
    have : u = .string (L[j / 3]).k := by simpa [actC] using hat
    rw [this, show oe + j = oe + j / 3 * 3 + 1 by omega]
    exact q1
  · rw [e0] at hat
    have : u = .int .i64 (L[j / 3]).v := by simpa [actC] using hat
    rw [this, show oe + j = oe + j / 3 * 3 + 2 by omega]
    exact q2
theorem acts_one (L : List ActR) : ∀ u ∈ L.flatMap actC, u.oneCell' = true := by
  intro u hu
  rw [List.mem_flatMap] at hu
  obtain ⟨p, _, hp⟩ := hu
  simp [actC] at hp
  rcases hp with rfl | rfl | rfl <;> rfl
theorem acts_set : ∀ (L : List ActR) (i : Nat) (a b : ActR), L[i]? = some a → (((L.flatMap actC).set (i * 3) (.string b.s)).set (i * 3 + 1) (.string b.k)).set (i * 3 + 2) (.int .i64 b.v) = (L.set i b).flatMap actC
  | [], i, a, b, h => by simp at h
  | p :: L, 0, a, b, h => by simp [actC]
  | p :: L, i + 1, a, b, h => by
    rw [List.flatMap_cons, List.set_cons_succ, List.flatMap_cons, ← acts_set L i a b (by simpa using h)]
    simp [actC, show (i + 1) * 3 = i * 3 + 1 + 1 + 1 by omega]
/-- A row of acts in new memory. -/
def OwnActs (w : World) (T : TypeId) (B : Nat) (v : Value) (L : List ActR) : Prop := w.ownsRow B T 3 v L.length (L.flatMap actC)
theorem Acts.of_own {w : World} {T : TypeId} {base : Nat} {v : Value} {L : List ActR} (h : OwnActs w T base v L) : ∃ A c, v = .slice A L.length c ∧ Acts w A L.length L := by
  by_cases h0 : 0 < L.length
  · obtain ⟨g, c, rfl, hg1, hg2⟩ := ownSome h h0
    refine ⟨_, _, rfl, rfl, fun _ => ⟨g, 0, rfl, hg2, fun i p hp => ?_⟩⟩
    have hi := (List.getElem?_eq_some_iff.1 hp).1
    refine ⟨?_, ?_, ?_⟩
    · rw [Nat.zero_add, World.ownsRow.cellAt h (i * 3) (by omega)]
      exact (actC_at L i p 0 hp (by decide)).trans rfl
    · rw [Nat.zero_add, World.ownsRow.cellAt h (i * 3 + 1) (by omega)]
      exact (actC_at L i p 1 hp (by decide)).trans rfl
    · rw [Nat.zero_add, World.ownsRow.cellAt h (i * 3 + 2) (by omega)]
      exact (actC_at L i p 2 hp (by decide)).trans rfl
  · obtain rfl : L = [] := List.length_eq_zero_iff.1 (by omega)
    rcases h.2 with ⟨e, _⟩ | ⟨g, c, cur, e, _⟩
    · exact ⟨none, 0, e, rfl, fun q => absurd q (by simp)⟩
    · exact ⟨_, c, e, rfl, fun q => absurd q (by simp)⟩
theorem infoAct : (Tryz.prog.info? 44).map (fun i => (i.zero, i.size, i.bytes)) = some (some (.agg #[.string ⟨#[]⟩, .string ⟨#[]⟩, .int .i64 0]), 3, 40) := by kernel_rfl
set_option maxHeartbeats 4000000 in
theorem slCloneA_any (L : List ActR) (n cap g off : Nat) (w : World) (hZ : Acts w (some ⟨g, off, none⟩) n L) (h0 : 0 < n) (hn : n ≤ 2000) :
    Calls Tryz.prog 110 #[.slice (some ⟨g, off, none⟩) n cap] w (fun e w' => ∃ v, e = .returned v ∧ OwnActs w' 44 w.heap.size v L ∧ Below w.heap.size w w') := by
  obtain ⟨i0, hi, hz0, hz1, hz2⟩ := info_parts infoAct
  have hni : (n : Int) ≤ 2000 := by omega
  have hq : ∀ W, (binOp .eql 46 (.slice (some ⟨g, off, none⟩) n cap) (.slice none 0 0)).run Tryz.prog W = .ok (.bool false) W := fun W => Lib.run_eql_slice_nil W _ _ (some ⟨g, off, none⟩) n cap 0 0 Tryz.underlying46
  have hb1 : Below w.heap.size w (w.alloc (.cells #[] 44)) := (Below.refl _ _).alloc (Nat.le_refl _) _
  have HRow0 : Hid ((w.alloc (.cells #[] 44)).ownsRow w.heap.size 44 3 (.slice (some ⟨w.heap.size, 0, none⟩) 0 0) 0 []) := Lib.hid (World.ownsRow_lit w #[] 0 (Nat.le_refl _) (by decide) rfl)
  have HNEWS : Hid (∀ ad, some (⟨g, off, none⟩ : Addr) = some ad → ∀ (j : Nat) (u : Value), (L.flatMap actC)[j]? = some u → (w.alloc (.cells #[] 44)).cell? (ad.add j) = some u) := Lib.hid fun ad e j u h => acts_cell (hZ.below hb1) ad e j u h
  have HLEN : Hid ((L.flatMap actC).length = n * 3) := Lib.hid (by rw [acts_len, hZ.1])
  have HL := Lib.hid hZ.1
  have HB1 := Lib.hid hb1
  clear hZ hb1
  go_enter Tryz.func110, Tryz.ntmps110
  go_wp2_with (at_builtin; refine wpList_append_src _ rfl _ _ 46 rfl w.heap.size 44 i0 (.agg #[.string ⟨#[]⟩, .string ⟨#[]⟩, .int .i64 0]) 3 40 Tryz.underlying46 hi hz0 hz1 hz2 rfl (by decide) _ _ _ rfl HRow0.out (some ⟨g, off, none⟩) n cap (L.flatMap actC) rfl HLEN.out (fun q => by cases q) HNEWS.out (acts_one _) ?c3 ?c4 ?c5 ?_)
  case c3 => unfold maxLen; omega
  case c4 => omega
  case c5 => exact HB1.out.size
  intro v8 w8 hrow hgrow _
  have hb8 := HB1.out.grown hgrow HB1.out.size (fun r hr => (World.ownsRow.lt HRow0.out r hr).1)
  have hro : OwnActs w8 44 w.heap.size v8 L := by unfold OwnActs; rw [HL.out]; simpa using hrow
  clear hrow hgrow
  go_wp2
  go_ret
  exact ⟨_, rfl, hro, hb8⟩
end Go.Mk
