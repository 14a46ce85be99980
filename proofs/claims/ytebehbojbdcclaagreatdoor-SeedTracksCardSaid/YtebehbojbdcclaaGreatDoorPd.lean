/-
  Proved: the lanes of all groups in their drawn order (seed.drawnLanes), as a plain function, in new memory. Conditions: the lanes lie where the slices say, at most 12 groups of at most 12 lanes; the key is an int.
-/
import Derived.Test.YtebehbojbdcclaaGreatDoorPb
import Derived.Test.YtebehbojbdcclaaGreatDoorDw
set_option linter.unusedVariables false
set_option linter.unusedSimpArgs false
open Go Go.Proofs Go.RowKit Go.Sort
set_option maxRecDepth 100000
namespace Go.Mk
/-- The lanes of a group in their drawn order. -/
def picked (key : Int) (l : List Int) : List Int := (Sh.order key.toNat l.length).map fun j => l.getD j 0
/-- More in front of a list, if there is no error. -/
def preL (l : List Int) (x : List Int × Int) : List Int × Int := if x.2 = 0 then (l ++ x.1, 0) else ([], x.2)
/-- The lanes of all groups, or an error. -/
def drawnE : Int → List (List Int) → List Int × Int
  | _, [] => ([], 0)
  | key, l :: LL => if key < 1 ∨ 2147483646 < key then ([], 3) else preL (picked key l) (drawnE (key + 1) LL)
theorem finN_preL (P l : List Int) (x : List Int × Int) : finN P (preL l x) = finN (P ++ l) x := by
  obtain ⟨a, b⟩ := x
  unfold finN preL
  by_cases h : b = 0 <;> simp [h]
theorem drawnE_bad (LL : List (List Int)) : ∀ key, (drawnE key LL).2 ≠ 0 → (drawnE key LL).1 = [] := by
  cases LL with
  | nil => intro k h; simp [drawnE] at h
  | cons l LL =>
    intro k h
    rw [drawnE] at h ⊢
    split
    · rfl
    · rename_i h1
      rw [if_neg h1] at h
      unfold preL at h ⊢
      split
      · rename_i h2; rw [if_pos h2] at h; simp at h
      · rfl
theorem picked_len (key : Int) (l : List Int) : (picked key l).length = l.length := by simp [picked, Sh.order_length]
theorem drawnE_len (LL : List (List Int)) (m : Nat) (hm : ∀ l ∈ LL, l.length ≤ m) : ∀ key, (drawnE key LL).1.length ≤ LL.length * m := by
  induction LL with
  | nil => intro k; simp [drawnE]
  | cons l LL ih =>
    intro k
    rw [drawnE]
    split
    · simp
    · unfold preL
      split
      · have := ih (fun x hx => hm x (List.mem_cons_of_mem _ hx)) (k + 1)
        have := hm l List.mem_cons_self
        simp only [List.length_append, picked_len, List.length_cons, Nat.add_mul]
        omega
      · simp
theorem Row.grown {w w' : World} {g : Nat} {L : List Nat} {row : Option Nat} (h : Row w g L) (hg : w.grownBy w' row) (hne : some g ≠ row) : Row w' g L :=
  h.keep hg.size (fun p hp => hg.cell_far p (by rw [hp]; exact h.1) (by rw [hp]; exact hne)) (fun p hp => hg.frozen_far p (by rw [hp]; exact h.1) (by rw [hp]; exact hne))
/-- A group of the lists, in all later worlds. -/
theorem Zss.fix {w : World} {B n : Nat} {A : Option Addr} {LL : List (List Int)} (h : Zss w B A n LL) {k : Nat} (hk : k < n) :
    ∃ b off l A' c', A = some ⟨b, off, none⟩ ∧ b < B ∧ LL[k]? = some l ∧ ∀ w', Below w.heap.size w w' → w'.cell? ⟨b, off + k, none⟩ = some (.slice A' l.length c') ∧ Zi w' B A' l.length l := by
  obtain ⟨b, off, l, A', c', e, hb, hl, hc, hz⟩ := h.at_ hk
  exact ⟨b, off, l, A', c', e, hb, hl, fun w' hbw => ⟨(hbw.cell (p := ⟨b, _, none⟩) (Nat.lt_of_lt_of_le hb h.2.1)).trans hc, hz.below hbw h.2.1⟩⟩
theorem OwnInts.lt {w : World} {B : Nat} {v : Value} {L : List Int} (h : OwnInts w B v L) : ∀ k, v.ownBlock = some k → B ≤ k ∧ k < w.heap.size := World.ownsRow.lt h
set_option maxHeartbeats 4000000 in
theorem drawnLanes_any (LL : List (List Int)) (n cap : Nat) (A : Option Addr) (B : Nat) (key : Int) (w : World) (hZ : Zss w B A n LL) (hn : n ≤ 12) (hs : ∀ l ∈ LL, l.length ≤ 12) (hk1 : -9223372036854775808 ≤ key) (hk2 : key ≤ 9223372036854775807) :
    Calls Tryz.prog 42 #[.slice A n cap, .int .i64 key] w (NumPost (drawnE key LL) w) := by
  obtain ⟨i0, hi, hz0, hz1, hz2⟩ := info_parts infoInt
  have hni : (n : Int) ≤ 12 := by omega
  have HM : Hid (∀ k, k < n → ∃ b off l A' c', A = some ⟨b, off, none⟩ ∧ b < B ∧ LL[k]? = some l ∧ ∀ w', Below w.heap.size w w' → w'.cell? ⟨b, off + k, none⟩ = some (.slice A' l.length c') ∧ Zi w' B A' l.length l) := fun k hk => hZ.fix hk
  have Hlen : Hid (LL.length = n) := hZ.1
  have HS := Lib.hid hs
  obtain ⟨X, hX⟩ : ∃ X, drawnE key LL = X := ⟨_, rfl⟩
  rw [hX]
  have HX : Hid (finN [] (drawnE (key + (0 : Nat)) (LL.drop 0)) = X) := (show _ = _ by rw [List.drop_zero, show key + ((0 : Nat) : Int) = key from by omega, hX, finN_nil]; rw [← hX]; exact drawnE_bad LL key)
  clear hX hZ hs
  go_enter Tryz.func42, Tryz.ntmps42
  go_wp2
  go_loopw [15, 6] (fun i v wr => ∃ (k : Nat) (P : List Int), i = .int .i64 k ∧ k ≤ n ∧ P.length ≤ 12 * k ∧ (k = 0 ∨ (1 ≤ key ∧ key ≤ 2147483646)) ∧ Hid (finN P (drawnE (key + k) (LL.drop k)) = X) ∧ OwnInts wr w.heap.size v P ∧ Below w.heap.size w wr) (fun i _ _ => n - (intOf i).toNat)
  case atStart => exact ⟨0, [], rfl, by omega, by simp, .inl rfl, HX, World.ownsRow_nil _ _ _ _, Below.refl _ _⟩
  case round =>
    obtain ⟨k, P, rfl, hk, hP, hkey, HK, hown, hb⟩ := hrel
    by_cases hlt : k < n
    · obtain ⟨b, off, l, A', c', rfl, hbl, hL, hall⟩ := HM.out k hlt
      obtain ⟨hc, _⟩ := hall wr hb
      have hD : LL.drop k = l :: LL.drop (k + 1) := by
        have hkl := (List.getElem?_eq_some_iff.1 hL).1
        rw [List.drop_eq_getElem_cons hkl, (List.getElem?_eq_some_iff.1 hL).2]
      have hst := HK.out
      rw [hD, drawnE] at hst
      have hki : (k : Int) < (n : Int) := by omega
      have hll := HS.out l (List.mem_of_getElem? hL)
      obtain ⟨m, hm⟩ : ∃ m, l.length = m := ⟨_, rfl⟩
      have Hm := Lib.hid hm
      rw [hm] at hc hll hall
      have HA := Lib.hid hall
      have HL := Lib.hid hL
      have hmi : (m : Int) ≤ 12 := by omega
      have hwk : IntKind.i64.wrap (key + (k : Int)) = key + (k : Int) := IntWalk.i64_in _ (by omega)
      obtain ⟨kk, hkk⟩ : ∃ kk, key + (k : Int) = kk := ⟨_, rfl⟩
      rw [hkk] at hwk hst
      have Hkk := Lib.hid hkk
      clear hD hL HK hall hm
      by_cases hr : kk < 1 ∨ 2147483646 < kk
      · rw [if_pos hr] at hst
        unfold finN at hst
        rw [if_neg (by decide)] at hst
        subst hst
        have hC := fun w => draw_bad kk (m : Int) w (by omega)
        clear hr
        go_wp2_with fail
        refine (hC _).mono ?_
        rintro e w2 ⟨rfl, hb2⟩
        go_wp2
        go_ret2
        exact ⟨_, rfl, fun _ => rfl, World.ownsRow_nil _ _ _ _, hb.trans (hb2.mono hb.size)⟩
      · rw [if_neg hr, finN_preL] at hst
        obtain ⟨kn, rfl⟩ : ∃ kn : Nat, kk = (kn : Int) := ⟨kk.toNat, by omega⟩
        have hst2 : finN (P ++ (Sh.order kn m).map fun j => l.getD j 0) (drawnE (key + ((k + 1 : Nat) : Int)) (LL.drop (k + 1))) = X := by
          rw [← hst, show key + ((k + 1 : Nat) : Int) = (kn : Int) + 1 from by have := Hkk.out; omega]
          unfold picked
          rw [Hm.out]
          rfl
        have Hst := Lib.hid hst2
        have hC := fun w => draw_any kn m w (by omega) (by omega) (by omega)
        have hkr : 1 ≤ key ∧ key ≤ 2147483646 := by
          have := Hkk.out
          rcases hkey with h | h
          · subst h; omega
          · exact h
        clear hr hst hst2
        go_wp2_with fail
        refine (hC _).mono ?_
        rintro e w2 ⟨g, rfl, hrow, hg, hb2⟩
        have hvg : u6.ownBlock ≠ some g := fun q => by
          have := (OwnInts.lt hown g q).2
          omega
        replace hown : OwnInts w2 w.heap.size u6 P := ownB hown hb2
        replace hb := hb.trans (hb2.mono hb.size)
        have hgl := hrow.1
        clear hg hb2 hC
        go_wp2
        go_loopw [34, 6] (fun i v wr => ∃ (q : Nat) (R : List Int), i = .int .i64 q ∧ q ≤ m ∧ Hid (R.length = P.length + q) ∧ R.length ≤ 200 ∧ Hid (R = P ++ ((Sh.order kn m).take q).map fun j => l.getD j 0) ∧ OwnInts wr w.heap.size v R ∧ v.ownBlock ≠ some g ∧ Row wr g (Sh.order kn m) ∧ Below w.heap.size w wr) (fun i _ _ => m - (intOf i).toNat)
        case atStart => exact ⟨0, P, rfl, by omega, (show _ = _ by omega), by omega, (show _ = _ by simp), hown, hvg, hrow, hb⟩
        case round =>
          obtain ⟨q, R, rfl, hq, HRl, hRb, HR, hownR, hvR, hrowR, hbR⟩ := hrel
          by_cases hqm : q < m
          · obtain ⟨d1, _⟩ := hrowR.at_ (j := q) (by rw [Sh.order_length]; exact hqm)
            have hzl : (Sh.order kn m).getD q 0 < m := by
              refine Sh.order_lt kn m _ ?_
              rw [List.getD_eq_getElem?_getD, List.getElem?_eq_getElem (by rw [Sh.order_length]; exact hqm)]
              exact List.getElem_mem _
            have htk : (Sh.order kn m).take (q + 1) = (Sh.order kn m).take q ++ [(Sh.order kn m).getD q 0] := by
              have hl : q < (Sh.order kn m).length := by rw [Sh.order_length]; exact hqm
              rw [List.take_succ_eq_append_getElem hl, List.getD_eq_getElem?_getD, List.getElem?_eq_getElem hl]
              rfl
            obtain ⟨z, hz⟩ : ∃ z, (Sh.order kn m).getD q 0 = z := ⟨_, rfl⟩
            rw [hz] at d1 hzl htk
            obtain ⟨_, hZ2⟩ := HA.out _ hbR
            obtain ⟨b2, off2, x, rfl, _, hx, hcx⟩ := hZ2.at_ hzl
            have hgx : l.getD z 0 = x := by rw [List.getD_eq_getElem?_getD, hx]; rfl
            have hR2 : R ++ [x] = P ++ ((Sh.order kn m).take (q + 1)).map fun j => l.getD j 0 := by
              rw [htk, List.map_append, ← List.append_assoc, ← HR.out, List.map_cons, List.map_nil, hgx]
            have HR2 := Lib.hid hR2
            have hqi : (q : Int) < (m : Int) := by omega
            have hzi : (z : Int) < (m : Int) := by omega
            have hzn : (0 : Int) ≤ (z : Int) := by omega
            clear hZ2 hx hgx htk hR2 HR hz
            go_wp2_with (at_builtin; refine wpList_append_lies _ rfl _ _ 28 rfl w.heap.size 3 i0 (.int .i64 0) 1 8 Tryz.underlying28 hi hz0 hz1 hz2 rfl (by decide) _ _ _ rfl (World.ownsRow.alloc hownR _) ⟨wr.heap.size, 0, none⟩ 1 1 [.int .i64 x] rfl rfl ?c1 ?c2 (by decide) ?c3 ?c4 ?c5 _ rfl ?_)
            case c1 =>
              intro j u hj
              match j, hj with
              | 0, hj => simp at hj; subst hj; simp [Addr.add]
            case c2 => intro u hu; simp at hu; subst hu; rfl
            case c3 => unfold maxLen; omega
            case c4 => omega
            case c5 => have := hbR.size; simp; omega
            intro g' cap' w1 hown' hgrow hat hlt1
            have hb1 : Below w.heap.size w w1 := (hbR.alloc hbR.size _).grown hgrow (by have := hbR.size; simp; omega) (fun r hr => (World.ownsRow.lt hownR r hr).1)
            have ho1 : OwnInts w1 w.heap.size (.slice (some ⟨g', 0, none⟩) (R.length + 1) cap') (R ++ [x]) := OwnInts.next hown'
            have hgl2 := hrowR.1
            have hrow1 : Row w1 g (Sh.order kn m) := (hrowR.alloc _).grown hgrow (fun q => hvR q.symm)
            have hv1 : (Value.slice (some ⟨g', 0, none⟩) (R.length + 1) cap').ownBlock ≠ some g := by
              intro q
              simp only [Value.ownBlock, Option.some.injEq] at q
              rcases hat with e | e
              · exact hvR (by rw [e, q])
              · omega
            clear hown' hgrow hat hownR hrowR
            go_wp2
            go_roundw
            case rel => exact ⟨q + 1, R ++ [x], by go_num, by omega, (show _ = _ by have := HRl.out; simp; omega), by have := HRl.out; simp; omega, HR2, ho1, hv1, hrow1, hb1⟩
            case measure => simp [intOf]; omega
          · have hqe : q = m := by omega
            have hRe := HR.out
            rw [hqe, List.take_of_length_le (by rw [Sh.order_length]; exact Nat.le_refl _)] at hRe
            rw [← hRe] at Hst
            go_wp2
            go_roundw
            case rel => exact ⟨k + 1, R, by go_num, by omega, by have := HRl.out; omega, .inr hkr, Hst, hownR, hbR⟩
            case measure => simp [intOf]; omega
    · have hke : k = n := by omega
      have hz := HK.out
      rw [List.drop_of_length_le (by rw [Hlen.out]; omega), drawnE, finN, if_pos rfl, List.append_nil] at hz
      subst hz
      go_wp2
      go_ret2
      exact ⟨_, rfl, fun h => absurd rfl h, hown, hb⟩
end Go.Mk
