/-
  Proved: Results of package field: the first error of the rows, or the athletes and marks of their places in the order of their ranks, in new memory. Conditions: those of Ranking.
-/
import Derived.Test.YtclapdfkgafenaaGreatDoorFrc
set_option linter.unusedVariables false
set_option linter.unusedSimpArgs false
open Go Go.Proofs Go.RowKit
set_option maxRecDepth 100000
namespace Go.Mk
def resC (p : Plc) : List Value := [.string p.nm, .string p.kd, .int .i64 p.vl, .string p.rs]
def OwnRes (w : World) (B : Nat) (v : Value) (L : List Plc) : Prop := w.ownsRow B 43 4 v L.length (L.flatMap resC)
theorem OwnRes.next {w1 : World} {B : Nat} {v' : Value} {L : List Plc} {p : Plc} (h : w1.ownsRow B 43 4 v' (L.length + 1) (L.flatMap resC ++ resC p)) : OwnRes w1 B v' (L ++ [p]) := by
  unfold OwnRes
  rw [List.length_append, List.flatMap_append]
  simpa using h
theorem infoRes : (Tryz.prog.info? 43).map (fun i => (i.zero, i.size, i.bytes)) = some (some (.agg #[.string ⟨#[]⟩, .string ⟨#[]⟩, .int .i64 0, .string ⟨#[]⟩]), 4, 56) := by kernel_rfl
set_option maxHeartbeats 1000000 in
theorem fdResultsC_any (p : Plc) (w : World) : Calls Tryz.prog 40 #[.agg #[.string p.nm, .int .i64 p.rk, .string p.kd, .int .i64 p.vl, .string p.rs]] w (RetPost (.agg #[.string p.nm, .string p.kd, .int .i64 p.vl, .string p.rs]) w) := by
  obtain ⟨n1, r1, k1, v1, t1⟩ := p
  have hB : Below w.heap.size w ((w.alloc (.cells #[.string n1, .int .i64 r1, .string k1, .int .i64 v1, .string t1] 63)).alloc (.cells #[.string n1, .string k1, .int .i64 v1, .string t1] 43)) := balloc _ (balloc _ (Below.refl _ _))
  have HB := Lib.hid hB
  dsimp only
  go_enter Tryz.func40, Tryz.ntmps40
  go_wp2
  exact bodyPost_ret (v := .agg #[.string n1, .string k1, .int .i64 v1, .string t1]) (by simp [results, Tryz.results40, go_sem]) rfl ⟨rfl, HB.out⟩
theorem PlcsZ.at_ {w : World} {A : Option Addr} {n : Nat} {L : List Plc} (h : PlcsZ w A n L) {k : Nat} (hk : k < n) : ∃ b off p, A = some ⟨b, off, none⟩ ∧ b < w.heap.size ∧ L[k]? = some p ∧ Cel5 w b (off + k * 5) p := by
  obtain ⟨b, off, e, hlt, hc⟩ := h.2 (by omega)
  have hl : k < L.length := by rw [h.1]; exact hk
  exact ⟨b, off, L[k], e, hlt, List.getElem?_eq_getElem hl, hc k _ (List.getElem?_eq_getElem hl)⟩
set_option maxHeartbeats 4000000 in
theorem fdEachPR_any (L : List Plc) (n cap : Nat) (A : Option Addr) (w : World) (hZ : PlcsZ w A n L) (hn : n ≤ 1000) :
    Calls Tryz.prog 39 #[.slice A n cap, .func (.func 40) #[] #[]] w (fun e w' => ∃ v, e = .returned v ∧ OwnRes w' w.heap.size v L ∧ Below w.heap.size w w') := by
  obtain ⟨i0, hi, hz0, hz1, hz2⟩ := info_parts infoRes
  have hni : (n : Int) ≤ 1000 := by omega
  have H := Lib.hid hZ
  have HL := Lib.hid hZ.1
  clear hZ
  go_enter Tryz.func39, Tryz.ntmps39
  go_wp2
  go_loopw [5, 10] (fun v i wr => ∃ k : Nat, k ≤ n ∧ i = .int .i64 k ∧ OwnRes wr w.heap.size v (L.take k) ∧ Below w.heap.size w wr) (fun _ i _ => n - (intOf i).toNat)
  case atStart => exact ⟨0, by omega, rfl, World.ownsRow_nil _ _ _ _, Below.refl _ _⟩
  case round =>
    obtain ⟨k, hk, rfl, hown, hb⟩ := hrel
    by_cases hlt : k < n
    · obtain ⟨b', off, r, rfl, hbl, hx, hc0, hc1, hc2, hc3, hc4⟩ := (H.out.below hb).at_ hlt
      have hki : (k : Int) < (n : Int) := by omega
      have hk0 : (0 : Int) ≤ (k : Int) := by omega
      have hkt : ((k : Int)).toNat = k := by omega
      have hlen : (L.take k).length = k := by rw [List.length_take, HL.out]; omega
      have hst : L.take (k + 1) = L.take k ++ [r] := by rw [List.take_add_one, hx]; rfl
      have Hst := Lib.hid hst
      have Hlen := Lib.hid hlen
      have hN := fun w => fdResultsC_any r w
      obtain ⟨p, hp⟩ : ∃ p, wr.heap.size = p := ⟨_, rfl⟩
      obtain ⟨wx, hwx⟩ : ∃ wx, wr.alloc (.cells #[.string r.nm, .int .i64 r.rk, .string r.kd, .int .i64 r.vl, .string r.rs] 63) = wx := ⟨_, rfl⟩
      have hbx : Below w.heap.size w wx := by rw [← hwx]; exact hb.alloc hb.size _
      have x0 : wx.cell? ⟨p, 0, none⟩ = some (.string r.nm) := by rw [← hwx, ← hp]; simp
      have x1 : wx.cell? ⟨p, 1, none⟩ = some (.int .i64 r.rk) := by rw [← hwx, ← hp]; simp
      have x2 : wx.cell? ⟨p, 2, none⟩ = some (.string r.kd) := by rw [← hwx, ← hp]; simp
      have x3 : wx.cell? ⟨p, 3, none⟩ = some (.int .i64 r.vl) := by rw [← hwx, ← hp]; simp
      have x4 : wx.cell? ⟨p, 4, none⟩ = some (.string r.rs) := by rw [← hwx, ← hp]; simp
      have HBX := Lib.hid hbx
      have HOX : Hid (OwnRes wx w.heap.size _ (L.take k)) := Lib.hid (by rw [← hwx]; exact World.ownsRow.alloc hown _)
      obtain ⟨n1, r1, k1, v1, t1⟩ := r
      dsimp only at *
      clear hst hlen hx hown hb hbx
      go_wp2_with fail
      refine (hN _).mono ?_
      rintro e w5 ⟨rfl, hb5⟩
      have hb15 := bstep HBX.out hb5
      have hown5 := ownN HOX.out hb5
      clear hb5
      go_wp2_with (at_builtin; refine wpList_append_own _ rfl _ _ 31 rfl w.heap.size 43 i0 (.agg #[.string ⟨#[]⟩, .string ⟨#[]⟩, .int .i64 0, .string ⟨#[]⟩]) 4 56 Tryz.underlying31 hi hz0 hz1 hz2 rfl (by decide) _ _ _ rfl (World.ownsRow.alloc hown5 _) ⟨w5.heap.size, 0, none⟩ 1 1 (resC ⟨n1, r1, k1, v1, t1⟩) rfl rfl ?c1 ?c2 ?c3 ?c4 ?c5 ?_)
      case c1 =>
        intro j u hj
        match j, hj with
        | 0, hj => simp [resC] at hj; subst hj; simp [Addr.add]
        | 1, hj => simp [resC] at hj; subst hj; simp [Addr.add]
        | 2, hj => simp [resC] at hj; subst hj; simp [Addr.add]
        | 3, hj => simp [resC] at hj; subst hj; simp [Addr.add]
      case c2 => intro u hu; simp [resC] at hu; rcases hu with rfl | rfl | rfl | rfl <;> rfl
      case c3 => unfold maxLen; have := Hlen.out; omega
      case c4 => have := Hlen.out; omega
      case c5 => have := hb15.size; simp; omega
      intro v' w2 hown' hgrow _
      have hb2 : Below w.heap.size w w2 := (hb15.alloc hb15.size _).grown hgrow (by have := hb15.size; simp; omega) (fun r hr => (World.ownsRow.lt hown5 r hr).1)
      have ho2 : OwnRes w2 w.heap.size v' (L.take (k + 1)) := by
        rw [Hst.out]
        refine OwnRes.next ?_
        rw [List.length_take]
        exact hown'
      clear hown' hgrow hown5 hb15 hc0 hc1 hc2 hc3 hc4
      go_wp2
      go_roundw
      case rel => exact ⟨k + 1, by omega, by go_num, ho2, hb2⟩
      case measure => simp [intOf]; omega
    · have hkn : k = n := by omega
      rw [hkn, List.take_of_length_le (by rw [HL.out]; omega)] at hown
      have HO := Lib.hid hown
      clear hown
      go_wp2
      go_ret
      exact ⟨_, rfl, HO.out, hb⟩
theorem arrL_len {n : Nat} {L : List Plc} (hn : L.length = n) (hr : ∀ p ∈ L, 0 ≤ p.rk ∧ p.rk ≤ n) : (arrL n L).length = n := by
  rw [← byKey_arr L n hn, List.length_map, (byKey_perm (fun i => bhd n (plF L i)) n (n + 1) (fun x hx => by
    have h3 := toks_mem.1 hx
    have h4 : x.toNat < L.length := by omega
    have h5 : plF L x ∈ L := by unfold plF; rw [List.getD_eq_getElem?_getD, List.getElem?_eq_getElem h4]; exact List.getElem_mem h4
    have h6 := hr _ h5
    unfold bhd
    split <;> omega)).length_eq, toks_len]
theorem rankL_len (L : List RowR) : (rankL L).length = L.length := by
  unfold rankL
  exact arrL_len (plcs_len L) (plcs_rk L)
set_option maxHeartbeats 2000000 in
theorem fdResults_any (L : List RowR) (n cap : Nat) (A : Option Addr) (w : World) (hZ : Rows w A n L) (hn : n ≤ 1000) (hs : ∀ r ∈ L, r.s.size ≤ maxLen ∧ r.n ≤ 1000 ∧ r.T.length = r.n) :
    Calls Tryz.prog 10 #[.slice A n cap] w (fun e w' => ∃ v, e = .returned (.tuple #[v, .int .i64 (rowsE L)]) ∧ OwnRes w' w.heap.size v (if rowsE L = 0 then rankL L else []) ∧ Below w.heap.size w w') := by
  have hR := fdRanking_any L n cap A w hZ hn hs
  have hl : (if rowsE L = 0 then rankL L else []).length ≤ 1000 := by
    split
    · rw [rankL_len, hZ.1]; exact hn
    · simp
  generalize (if rowsE L = 0 then rankL L else []) = M at *
  generalize rowsE L = y at *
  have Hl := Lib.hid hl
  clear hZ hs hl
  go_enter Tryz.func10, Tryz.ntmps10
  go_wp2_with fail
  refine hR.mono ?_
  rintro e w2 ⟨v, rfl, ho, hb⟩
  obtain ⟨A2, c2, rfl, hP⟩ := PlcsZ.of_own ho
  have hE := fdEachPR_any M M.length c2 A2 w2 hP Hl.out
  have HB := Lib.hid hb
  generalize M.length = m at *
  clear hP ho hb hR
  go_wp2_with fail
  refine hE.mono ?_
  rintro e w3 ⟨v3, rfl, ho3, hb3⟩
  have HF := Lib.hid (And.intro ho3 hb3)
  clear ho3 hb3 hE
  go_wp2
  go_ret2
  refine ⟨_, rfl, ?_, bstep HB.out HF.out.2⟩
  refine ⟨HF.out.1.1, ?_⟩
  rcases HF.out.1.2 with q | ⟨g, cap, cur, a, b, c⟩
  · exact .inl q
  · exact .inr ⟨g, cap, cur, a, Nat.le_trans HB.out.size b, c⟩
end Go.Mk
