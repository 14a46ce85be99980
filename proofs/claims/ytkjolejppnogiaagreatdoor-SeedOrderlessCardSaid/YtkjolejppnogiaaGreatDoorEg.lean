/-
  Proved: CheckRunners of package seed, as a plain function. Conditions: the runners lie where the slices say; the texts are no longer than an int says; the heap holds the program's variables.
  Proved: CheckRunners of package seed (heats and all), as a plain function. Conditions: the runners lie where the slices say; the texts are no longer than an int says; the heap holds the program's variables.
-/
import Derived.Test.YtkjolejppnogiaaGreatDoorEf
section
set_option linter.unusedVariables false
set_option linter.unusedSimpArgs false
open Go Go.Proofs Go.RowKit Go.Maps Go.WideMaps
set_option maxRecDepth 100000
namespace Go.Mk
/-- The runners of a list lie in the cells of a slice, in a block below a bound. -/
def Runs (w : World) (B : Nat) (A : Option Addr) (n : Nat) (L : List Run) : Prop :=
  L.length = n ∧ B ≤ w.heap.size ∧ (0 < n → ∃ b off, A = some ⟨b, off, none⟩ ∧ b < B ∧ ∀ (i : Nat) (x : Run), L[i]? = some x →
    w.cell? ⟨b, off + i * 4, none⟩ = some (.string x.name) ∧ w.cell? ⟨b, off + i * 4 + 1, none⟩ = some (.string x.kind) ∧
    w.cell? ⟨b, off + i * 4 + 2, none⟩ = some (.int .i64 x.value) ∧ w.cell? ⟨b, off + i * 4 + 3, none⟩ = some (.string x.reason))
theorem Runs.below {w w' : World} {B K n : Nat} {A : Option Addr} {L : List Run} (h : Runs w B A n L) (hb : Below K w w') (hB : B ≤ K) : Runs w' B A n L := by
  refine ⟨h.1, Nat.le_trans h.2.1 hb.size, fun hn => ?_⟩
  obtain ⟨b, off, e, hlt, hc⟩ := h.2.2 hn
  refine ⟨b, off, e, hlt, fun i m hm => ?_⟩
  obtain ⟨h0, h1, h2, h3⟩ := hc i m hm
  have hk : b < K := Nat.lt_of_lt_of_le hlt hB
  exact ⟨(hb.cell (p := ⟨b, _, none⟩) hk).trans h0, (hb.cell (p := ⟨b, _, none⟩) hk).trans h1, (hb.cell (p := ⟨b, _, none⟩) hk).trans h2, (hb.cell (p := ⟨b, _, none⟩) hk).trans h3⟩
theorem Runs.up {w : World} {B B' n : Nat} {A : Option Addr} {L : List Run} (h : Runs w B A n L) (hB : B ≤ B') (hw : B' ≤ w.heap.size) : Runs w B' A n L :=
  ⟨h.1, hw, fun hn => by obtain ⟨b, off, e, hlt, hc⟩ := h.2.2 hn; exact ⟨b, off, e, Nat.lt_of_lt_of_le hlt hB, hc⟩⟩
theorem Runs.at_ {w : World} {B n : Nat} {A : Option Addr} {L : List Run} (h : Runs w B A n L) {k : Nat} (hk : k < n) :
    ∃ b off x, A = some ⟨b, off, none⟩ ∧ b < B ∧ L[k]? = some x ∧ w.cell? ⟨b, off + k * 4, none⟩ = some (.string x.name) ∧ w.cell? ⟨b, off + k * 4 + 1, none⟩ = some (.string x.kind) ∧
      w.cell? ⟨b, off + k * 4 + 2, none⟩ = some (.int .i64 x.value) ∧ w.cell? ⟨b, off + k * 4 + 3, none⟩ = some (.string x.reason) := by
  obtain ⟨b, off, e, hlt, hc⟩ := h.2.2 (by omega)
  have hl : k < L.length := by rw [h.1]; exact hk
  exact ⟨b, off, L[k], e, hlt, List.getElem?_eq_getElem hl, hc k L[k] (List.getElem?_eq_getElem hl)⟩
/-- The heats of runners lie in the cells of slices. -/
def RHeats (w : World) (B : Nat) (A : Option Addr) (n : Nat) (LL : List (List Run)) : Prop :=
  LL.length = n ∧ B ≤ w.heap.size ∧ (0 < n → ∃ b off, A = some ⟨b, off, none⟩ ∧ b < B ∧ ∀ (i : Nat) (l : List Run), LL[i]? = some l →
    ∃ A' c', w.cell? ⟨b, off + i, none⟩ = some (.slice A' l.length c') ∧ Runs w B A' l.length l)
theorem RHeats.below {w w' : World} {B K n : Nat} {A : Option Addr} {LL : List (List Run)} (h : RHeats w B A n LL) (hb : Below K w w') (hB : B ≤ K) : RHeats w' B A n LL := by
  refine ⟨h.1, Nat.le_trans h.2.1 hb.size, fun hn => ?_⟩
  obtain ⟨b, off, e, hlt, hc⟩ := h.2.2 hn
  refine ⟨b, off, e, hlt, fun i m hm => ?_⟩
  obtain ⟨A', c', h0, h1⟩ := hc i m hm
  exact ⟨A', c', (hb.cell (p := ⟨b, _, none⟩) (Nat.lt_of_lt_of_le hlt hB)).trans h0, h1.below hb hB⟩
theorem RHeats.up {w : World} {B B' n : Nat} {A : Option Addr} {LL : List (List Run)} (h : RHeats w B A n LL) (hB : B ≤ B') (hw : B' ≤ w.heap.size) : RHeats w B' A n LL :=
  ⟨h.1, hw, fun hn => by
    obtain ⟨b, off, e, hlt, hc⟩ := h.2.2 hn
    refine ⟨b, off, e, Nat.lt_of_lt_of_le hlt hB, fun i l hl => ?_⟩
    obtain ⟨A', c', h0, h1⟩ := hc i l hl
    exact ⟨A', c', h0, h1.up hB hw⟩⟩
theorem RHeats.at_ {w : World} {B n : Nat} {A : Option Addr} {LL : List (List Run)} (h : RHeats w B A n LL) {k : Nat} (hk : k < n) :
    ∃ b off l A' c', A = some ⟨b, off, none⟩ ∧ b < B ∧ LL[k]? = some l ∧ w.cell? ⟨b, off + k, none⟩ = some (.slice A' l.length c') ∧ Runs w B A' l.length l := by
  obtain ⟨b, off, e, hlt, hc⟩ := h.2.2 (by omega)
  have hl : k < LL.length := by rw [h.1]; exact hk
  obtain ⟨A', c', h0, h1⟩ := hc k LL[k] (List.getElem?_eq_getElem hl)
  exact ⟨b, off, LL[k], A', c', e, hlt, List.getElem?_eq_getElem hl, h0, h1⟩
/-- The first error of the runners of a heat behind names that have been there. -/
def runsE : List ByteArray → List Run → Int
  | _, [] => 0
  | P, x :: l => if runE P x = 0 then runsE (P ++ [x.name]) l else runE P x
def heatE (P : List ByteArray) (l : List Run) : Int := if 160 < l.length then 5 else runsE P l
/-- The first error of heats. -/
def heatsE : List ByteArray → List (List Run) → Int
  | _, [] => 0
  | P, l :: LL => if heatE P l = 0 then heatsE (P ++ l.map Run.name) LL else heatE P l
/-- The error of the heats of a round. -/
def chkRuns (LL : List (List Run)) : Int := if 16 < LL.length then 5 else heatsE [] LL
def RunF (t : Nat) : Value := .func (.func 86) #[.map (some t)] #[]
def HeatF (t : Nat) : Value := .func (.func 81) #[.map (some t)] #[]
/-- What the check of the runners of a heat leaves. -/
def RunsPost (t : Nat) (E : Int) (P' : List ByteArray) (m : Nat) (w : World) (e : Ending) (w' : World) : Prop :=
  e = .returned (.int .i64 E) ∧ (E = 0 → Named w' t m P') ∧ Below t w w'
set_option maxHeartbeats 2000000 in
theorem firstOfRunner_any (t m : Nat) (P : List ByteArray) (L : List Run) (n cap : Nat) (A : Option Addr) (w : World) (hZ : Runs w t A n L) (hS : Named w t m P) (hn : n ≤ 1000) (hm : m ≤ 900000) (hs : ∀ x ∈ L, x.ok) (hg : 13 ≤ w.heap.size) :
    Calls Tryz.prog 113 #[.slice A n cap, RunF t] w (RunsPost t (runsE P L) (P ++ L.map Run.name) (m + n) w) := by
  unfold RunF
  have hni : (n : Int) ≤ 1000 := by omega
  have HM : Hid (∀ w', Below t w w' → Runs w' t A n L) := fun w' hb => hZ.below hb (Nat.le_refl _)
  have Hlen : Hid (L.length = n) := hZ.1
  have HS := Lib.hid hs
  have HPL : Hid (P ++ L.map Run.name = P ++ L.map Run.name) := (show _ = _ from rfl)
  obtain ⟨X, hX⟩ : ∃ X, runsE P L = X := ⟨_, rfl⟩
  obtain ⟨R, hR⟩ : ∃ R, P ++ L.map Run.name = R := ⟨_, rfl⟩
  rw [hX, hR]
  have HX : Hid (runsE P (L.drop 0) = X) := (show _ = _ by rw [List.drop_zero, hX])
  have HR : Hid (P ++ (L.drop 0).map Run.name = R) := (show _ = _ by rw [List.drop_zero, hR])
  clear hX hZ hs hR HPL
  go_enter Tryz.func113, Tryz.ntmps113
  go_wp2
  go_loopw [10] (fun i wr => ∃ (k : Nat) (Q : List ByteArray), k ≤ n ∧ i = .int .i64 k ∧ Hid (runsE Q (L.drop k) = X) ∧ Hid (Q ++ (L.drop k).map Run.name = R) ∧ Named wr t (m + k) Q ∧ Below t w wr) (fun i _ => n - (intOf i).toNat)
  case atStart => exact ⟨0, P, by omega, rfl, HX, HR, hS, Below.refl _ _⟩
  case round =>
    obtain ⟨k, Q, hk, rfl, HK, HQ, hSk, hb⟩ := hrel
    by_cases hlt : k < n
    · obtain ⟨b, off, x, rfl, hbl, hL, c0, c1, c2, c3⟩ := (HM.out _ hb).at_ hlt
      have hD := drop_cons hL
      have hst := HK.out
      rw [hD, runsE] at hst
      have hq := HQ.out
      rw [hD, List.map_cons, List.append_cons] at hq
      have HQ2 := Lib.hid hq
      have hok := HS.out x (List.mem_of_getElem? hL)
      obtain ⟨nm, kd, v, r⟩ := x
      have hbx : Below wr.heap.size wr (wr.alloc (.cells #[.string nm, .string kd, .int .i64 v, .string r] 79)) := (Below.refl _ _).alloc (Nat.le_refl _) _
      have hC := runnerError_any t (m + k) Q ⟨nm, kd, v, r⟩ _ hok (hSk.below hbx) (by omega) (Nat.le_trans hg (Nat.le_trans hb.size hbx.size))
      have ht := hSk.lt
      have hki : (k : Int) < (n : Int) := by omega
      unfold RunPost Run.agg at hC
      simp only at hC c0 c1 c2 c3
      have hbx2 := hb.trans (hbx.mono (Nat.le_of_lt ht))
      have ht2 : t ≤ (wr.alloc (.cells #[.string nm, .string kd, .int .i64 v, .string r] 79)).heap.size := Nat.le_trans (Nat.le_of_lt ht) hbx.size
      clear hD hL HK hok hq HQ
      by_cases hx : runE Q ⟨nm, kd, v, r⟩ = 0
      · rw [if_pos hx] at hst
        rw [hx] at hC
        have Hst := Lib.hid hst
        clear hx hst hSk
        go_wp2_with fail
        refine hC.mono ?_
        rintro e w2 ⟨rfl, hS2, hg2⟩
        have hb2 := hbx2.grown hg2 ht2 (fun j hj => by cases hj; exact Nat.le_refl _)
        clear hbx2 hbx hg2 ht2
        go_wp2
        go_roundw
        case rel => exact ⟨k + 1, _, by omega, by go_num, Hst, HQ2, hS2, hb2⟩
        case measure => simp [intOf]; omega
      · rw [if_neg hx] at hst
        have hxb : (runE Q ⟨nm, kd, v, r⟩ != 0) = true := by rw [bne_iff_ne]; exact hx
        have HX0 := Lib.hid hx
        generalize runE Q ⟨nm, kd, v, r⟩ = e4 at *
        subst hst
        clear hx hSk
        go_wp2_with fail
        refine hC.mono ?_
        rintro e w2 ⟨rfl, hS2, hg2⟩
        have hb2 := hbx2.grown hg2 ht2 (fun j hj => by cases hj; exact Nat.le_refl _)
        clear hbx2 hbx hg2 ht2
        go_wp2
        go_ret
        exact ⟨rfl, fun q => absurd q HX0.out, hb2⟩
    · have hz := HK.out
      have hq := HQ.out
      rw [List.drop_of_length_le (by rw [Hlen.out]; omega)] at hz hq
      rw [runsE] at hz
      rw [List.map_nil, List.append_nil] at hq
      subst hz hq
      obtain rfl : k = n := by omega
      have HSk := Lib.hid hSk
      clear hSk HK HQ
      go_wp2
      go_ret
      exact ⟨rfl, fun _ => HSk.out, hb⟩
end Go.Mk
end
section
set_option linter.unusedVariables false
set_option linter.unusedSimpArgs false
open Go Go.Proofs Go.RowKit Go.Maps Go.WideMaps
set_option maxRecDepth 100000
namespace Go.Mk
set_option maxHeartbeats 2000000 in
theorem heatError_any (t m : Nat) (P : List ByteArray) (L : List Run) (n cap : Nat) (A : Option Addr) (w : World) (hZ : Runs w t A n L) (hS : Named w t m P) (hn : n ≤ 100000) (hm : m ≤ 900000) (hs : ∀ x ∈ L, x.ok) (hg : 13 ≤ w.heap.size) :
    Calls Tryz.prog 81 #[.map (some t), .slice A n cap] w (RunsPost t (heatE P L) (P ++ L.map Run.name) (m + n) w) := by
  have hlen := hZ.1
  by_cases h1 : 160 < n
  · have hni : 160 < (n : Int) := by omega
    have hni2 : (n : Int) ≤ 100000 := by omega
    rw [show heatE P L = 5 by unfold heatE; rw [if_pos (by omega)]]
    clear hZ hS hs
    go_enter Tryz.func81, Tryz.ntmps81
    go_wp2
    go_ret
    exact ⟨rfl, fun q => absurd q (by decide), Below.refl _ _⟩
  · have hni : ¬ 160 < (n : Int) := by omega
    have hni0 : (n : Int) ≤ 160 := by omega
    have hO := fun cap => firstOfRunner_any t m P L n cap A w hZ hS (by omega) hm hs hg
    rw [show heatE P L = runsE P L by unfold heatE; rw [if_neg (by omega)]]
    unfold RunF RunsPost at hO
    unfold RunsPost
    generalize runsE P L = E at *
    generalize P ++ L.map Run.name = P' at *
    generalize m + n = m' at *
    clear hZ hS hs hlen
    go_enter Tryz.func81, Tryz.ntmps81
    go_wp2_with fail
    refine (hO _).mono ?_
    rintro e w2 ⟨rfl, hN, hb⟩
    have HN := Lib.hid hN
    clear hN
    go_wp2
    go_ret
    exact ⟨rfl, HN.out, hb⟩
set_option maxHeartbeats 2000000 in
theorem firstOfHeat_any (t : Nat) (LL : List (List Run)) (n cap : Nat) (A : Option Addr) (w : World) (hZ : RHeats w t A n LL) (hS : Named w t 0 []) (hn : n ≤ 100) (hs : ∀ l ∈ LL, l.length ≤ 1000 ∧ ∀ x ∈ l, x.ok) (hg : 13 ≤ w.heap.size) :
    Calls Tryz.prog 80 #[.slice A n cap, HeatF t] w fun e w' => e = .returned (.int .i64 (heatsE [] LL)) ∧ Below t w w' := by
  unfold HeatF
  have hni : (n : Int) ≤ 100 := by omega
  have HM : Hid (∀ w', Below t w w' → RHeats w' t A n LL) := fun w' hb => hZ.below hb (Nat.le_refl _)
  have Hlen : Hid (LL.length = n) := hZ.1
  have HS := Lib.hid hs
  obtain ⟨X, hX⟩ : ∃ X, heatsE [] LL = X := ⟨_, rfl⟩
  rw [hX]
  have HX : Hid (heatsE [] (LL.drop 0) = X) := (show _ = _ by rw [List.drop_zero, hX])
  clear hX hZ hs
  go_enter Tryz.func80, Tryz.ntmps80
  go_wp2
  go_loopw [10] (fun i wr => ∃ (k m : Nat) (Q : List ByteArray), k ≤ n ∧ i = .int .i64 k ∧ Hid (heatsE Q (LL.drop k) = X) ∧ Named wr t m Q ∧ m ≤ 1000 * k ∧ Below t w wr) (fun i _ => n - (intOf i).toNat)
  case atStart => exact ⟨0, 0, [], by omega, rfl, HX, hS, by omega, Below.refl _ _⟩
  case round =>
    obtain ⟨k, m, Q, hk, rfl, HK, hSk, hmk, hb⟩ := hrel
    by_cases hlt : k < n
    · obtain ⟨b, off, l, A', c', rfl, hbl, hL, hc, hZl⟩ := (HM.out _ hb).at_ hlt
      have hD := drop_cons hL
      have hst := HK.out
      rw [hD, heatsE] at hst
      obtain ⟨hok1, hok2⟩ := HS.out l (List.mem_of_getElem? hL)
      have hC := heatError_any t m Q l l.length c' A' wr hZl hSk (by omega) (by omega) hok2 (Nat.le_trans hg hb.size)
      have hki : (k : Int) < (n : Int) := by omega
      unfold RunsPost at hC
      obtain ⟨q, hq⟩ : ∃ q, l.length = q := ⟨_, rfl⟩
      rw [hq] at hC hc hok1
      have hmk2 : m + q ≤ 1000 * (k + 1) := by omega
      clear hD hL HK hZl hq hok2 hok1
      generalize Q ++ l.map Run.name = Q2 at *
      generalize m + q = m2 at *
      by_cases hx : heatE Q l = 0
      · rw [if_pos hx] at hst
        rw [hx] at hC
        have Hst := Lib.hid hst
        clear hx hSk hst hmk
        go_wp2_with fail
        refine hC.mono ?_
        rintro e w2 ⟨rfl, hS2, hb2⟩
        have hS3 := hS2 (by simp)
        clear hS2
        go_wp2
        go_roundw
        case rel => exact ⟨k + 1, m2, Q2, by omega, by go_num, Hst, hS3, hmk2, hb.trans hb2⟩
        case measure => simp [intOf]; omega
      · rw [if_neg hx] at hst
        have hxb : (heatE Q l != 0) = true := by rw [bne_iff_ne]; exact hx
        generalize heatE Q l = e4 at *
        subst hst
        clear hx hSk hmk hmk2
        go_wp2_with fail
        refine hC.mono ?_
        rintro e w2 ⟨rfl, hS2, hb2⟩
        clear hS2
        go_wp2
        go_ret
        exact ⟨rfl, hb.trans hb2⟩
    · have hz := HK.out
      rw [List.drop_of_length_le (by rw [Hlen.out]; omega), heatsE] at hz
      subst hz
      go_wp2
      go_ret
      exact ⟨rfl, hb⟩
theorem seedCheckRunners_many (n cap : Nat) (A : Option Addr) (w : World) (h : 16 < (n : Int)) (hm : (n : Int) ≤ 9223372036854775807) :
    Calls Tryz.prog 38 #[.slice A n cap] w (RetPost (.int .i64 5) w) := by
  go_enter Tryz.func38, Tryz.ntmps38
  go_wp2
  go_ret
  exact ⟨rfl, Below.refl _ _⟩
set_option maxHeartbeats 2000000 in
theorem seedCheckRunners_any (LL : List (List Run)) (n cap : Nat) (A : Option Addr) (B : Nat) (w : World) (hZ : RHeats w B A n LL) (hn : n ≤ 16) (hs : ∀ l ∈ LL, l.length ≤ 1000 ∧ ∀ x ∈ l, x.ok) (hg : 13 ≤ w.heap.size) :
    Calls Tryz.prog 38 #[.slice A n cap] w (RetPost (.int .i64 (chkRuns LL)) w) := by
  have hni : (n : Int) ≤ 16 := by omega
  have hmm := @run_makeMap Tryz.prog
  have hb0 : Below w.heap.size w (w.alloc (.map #[] 0)) := (Below.refl _ _).alloc (Nat.le_refl _) _
  have hE : RHeats (w.alloc (.map #[] 0)) w.heap.size A n LL := (hZ.below hb0 hZ.2.1).up hZ.2.1 hb0.size
  have hA := fun cap => firstOfHeat_any w.heap.size LL n cap A (w.alloc (.map #[] 0)) hE (Named.made w) (by omega) hs (by simp; omega)
  have HB := Lib.hid hb0
  have hl : ¬ 16 < LL.length := by rw [hZ.1]; omega
  rw [show chkRuns LL = heatsE [] LL by unfold chkRuns; rw [if_neg hl]]
  generalize heatsE [] LL = y at *
  unfold HeatF at hA
  clear hl hE hZ hs hb0
  go_enter Tryz.func38, Tryz.ntmps38
  go_wp2_with fail
  refine (hA _).mono ?_
  rintro e w2 ⟨rfl, hb2⟩
  go_wp2
  go_ret
  exact ⟨rfl, HB.out.trans hb2⟩
end Go.Mk
end
