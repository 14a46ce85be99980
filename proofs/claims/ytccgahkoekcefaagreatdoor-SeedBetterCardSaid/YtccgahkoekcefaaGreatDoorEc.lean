/-
  Proved: the first error of entrants by package seed (CheckEntrants and what it calls), as a plain function. Conditions: the entrants lie where the slice says; the texts are no longer than an int says; the heap holds the program's variables.
  Proved: the error of two marks of different kinds, and CheckEntrants of package seed, as plain functions. Conditions: the entrants lie where the slice says; the texts are no longer than an int says; the heap holds the program's variables.
-/
import Derived.Test.YtccgahkoekcefaaGreatDoorEa
section
set_option linter.unusedVariables false
set_option linter.unusedSimpArgs false
open Go Go.Proofs Go.RowKit Go.Maps Go.WideMaps
set_option maxRecDepth 100000
namespace Go.Mk
def Ents (w : World) (B : Nat) (A : Option Addr) (n : Nat) (L : List Ent) : Prop :=
  L.length = n ∧ B ≤ w.heap.size ∧ (0 < n → ∃ b off, A = some ⟨b, off, none⟩ ∧ b < B ∧ ∀ (i : Nat) (x : Ent), L[i]? = some x →
    w.cell? ⟨b, off + i * 5, none⟩ = some (.string x.name) ∧ w.cell? ⟨b, off + i * 5 + 1, none⟩ = some (.string x.club) ∧ w.cell? ⟨b, off + i * 5 + 2, none⟩ = some (.string x.kind) ∧
    w.cell? ⟨b, off + i * 5 + 3, none⟩ = some (.int .i64 x.value) ∧ w.cell? ⟨b, off + i * 5 + 4, none⟩ = some (.string x.reason))
theorem Ents.below {w w' : World} {B K n : Nat} {A : Option Addr} {L : List Ent} (h : Ents w B A n L) (hb : Below K w w') (hB : B ≤ K) : Ents w' B A n L := by
  refine ⟨h.1, Nat.le_trans h.2.1 hb.size, fun hn => ?_⟩
  obtain ⟨b, off, e, hlt, hc⟩ := h.2.2 hn
  refine ⟨b, off, e, hlt, fun i m hm => ?_⟩
  obtain ⟨h0, h1, h2, h3, h4⟩ := hc i m hm
  have hk : b < K := Nat.lt_of_lt_of_le hlt hB
  exact ⟨(hb.cell (p := ⟨b, _, none⟩) hk).trans h0, (hb.cell (p := ⟨b, _, none⟩) hk).trans h1, (hb.cell (p := ⟨b, _, none⟩) hk).trans h2, (hb.cell (p := ⟨b, _, none⟩) hk).trans h3, (hb.cell (p := ⟨b, _, none⟩) hk).trans h4⟩
theorem Ents.wide {w w' : World} {B n : Nat} {A : Option Addr} {L : List Ent} (h : Ents w B A n L) (hb : Below w.heap.size w w') : Ents w' w.heap.size A n L := by
  have h' := h.below hb h.2.1
  refine ⟨h'.1, hb.size, fun hn => ?_⟩
  obtain ⟨b, off, e, hlt, hc⟩ := h'.2.2 hn
  exact ⟨b, off, e, Nat.lt_of_lt_of_le hlt h.2.1, hc⟩
theorem Ents.at_ {w : World} {B n : Nat} {A : Option Addr} {L : List Ent} (h : Ents w B A n L) {k : Nat} (hk : k < n) :
    ∃ b off x, A = some ⟨b, off, none⟩ ∧ b < B ∧ L[k]? = some x ∧ w.cell? ⟨b, off + k * 5, none⟩ = some (.string x.name) ∧ w.cell? ⟨b, off + k * 5 + 1, none⟩ = some (.string x.club) ∧ w.cell? ⟨b, off + k * 5 + 2, none⟩ = some (.string x.kind) ∧
      w.cell? ⟨b, off + k * 5 + 3, none⟩ = some (.int .i64 x.value) ∧ w.cell? ⟨b, off + k * 5 + 4, none⟩ = some (.string x.reason) := by
  obtain ⟨b, off, e, hlt, hc⟩ := h.2.2 (by omega)
  have hl : k < L.length := by rw [h.1]; exact hk
  exact ⟨b, off, L[k], e, hlt, List.getElem?_eq_getElem hl, hc k L[k] (List.getElem?_eq_getElem hl)⟩
def entsE : List ByteArray → List Ent → Int
  | _, [] => 0
  | P, x :: l => if entE P x = 0 then entsE (P ++ [x.name]) l else entE P x
def kindsE : ByteArray → List Ent → Int
  | _, [] => 0
  | c, x :: l => if x.kind = sNone then kindsE c l else if c ≠ sNone ∧ c ≠ x.kind then 13 else kindsE x.kind l
def chkEnts (L : List Ent) : Int := if 160 < L.length then 5 else fstN [entsE [] L, kindsE sNone L]
theorem drop_cons {α : Type} {L : List α} {k : Nat} {x : α} (h : L[k]? = some x) : L.drop k = x :: L.drop (k + 1) := by
  have hkl := (List.getElem?_eq_some_iff.1 h).1
  rw [List.drop_eq_getElem_cons hkl, (List.getElem?_eq_some_iff.1 h).2]
def EntF (t : Nat) : Value := .func (.func 51) #[.map (some t)] #[]
set_option maxHeartbeats 2000000 in
theorem firstOfEntrant_any (t : Nat) (L : List Ent) (n cap : Nat) (A : Option Addr) (w : World) (hZ : Ents w t A n L) (hS : Named w t 0 []) (hn : n ≤ 1000) (hs : ∀ x ∈ L, x.ok) (hg : 13 ≤ w.heap.size) :
    Calls Tryz.prog 50 #[.slice A n cap, EntF t] w fun e w' => e = .returned (.int .i64 (entsE [] L)) ∧ Below t w w' := by
  unfold EntF
  have hni : (n : Int) ≤ 1000 := by omega
  have HM : Hid (∀ w', Below t w w' → Ents w' t A n L) := fun w' hb => hZ.below hb (Nat.le_refl _)
  have Hlen : Hid (L.length = n) := hZ.1
  have HS := Lib.hid hs
  obtain ⟨X, hX⟩ : ∃ X, entsE [] L = X := ⟨_, rfl⟩
  rw [hX]
  have HX : Hid (entsE [] (L.drop 0) = X) := (show _ = _ by rw [List.drop_zero, hX])
  clear hX hZ hs
  go_enter Tryz.func50, Tryz.ntmps50
  go_wp2
  go_loopw [10] (fun i wr => ∃ (k : Nat) (Q : List ByteArray), k ≤ n ∧ i = .int .i64 k ∧ Hid (entsE Q (L.drop k) = X) ∧ Named wr t k Q ∧ Below t w wr) (fun i _ => n - (intOf i).toNat)
  case atStart => exact ⟨0, [], by omega, rfl, HX, hS, Below.refl _ _⟩
  case round =>
    obtain ⟨k, Q, hk, rfl, HK, hSk, hb⟩ := hrel
    by_cases hlt : k < n
    · obtain ⟨b, off, x, rfl, hbl, hL, c0, c1, c2, c3, c4⟩ := (HM.out _ hb).at_ hlt
      have hD := drop_cons hL
      have hst := HK.out
      rw [hD, entsE] at hst
      have hok := HS.out x (List.mem_of_getElem? hL)
      obtain ⟨nm, cl, kd, v, r⟩ := x
      have hbx : Below wr.heap.size wr (wr.alloc (.cells #[.string nm, .string cl, .string kd, .int .i64 v, .string r] 65)) := (Below.refl _ _).alloc (Nat.le_refl _) _
      have hC := entrantError_any t k Q ⟨nm, cl, kd, v, r⟩ _ hok (hSk.below hbx) (by omega) (Nat.le_trans hg (Nat.le_trans hb.size hbx.size))
      have ht := hSk.lt
      have hki : (k : Int) < (n : Int) := by omega
      unfold EntPost Ent.agg at hC
      simp only at hC c0 c1 c2 c3 c4
      have hbx2 := hb.trans (hbx.mono (Nat.le_of_lt ht))
      have ht2 : t ≤ (wr.alloc (.cells #[.string nm, .string cl, .string kd, .int .i64 v, .string r] 65)).heap.size := Nat.le_trans (Nat.le_of_lt ht) hbx.size
      clear hD hL HK hok
      by_cases hx : entE Q ⟨nm, cl, kd, v, r⟩ = 0
      · rw [if_pos hx] at hst
        rw [hx] at hC
        have Hst := Lib.hid hst
        clear hx hst hSk
        go_wp2_with fail
        refine hC.mono ?_
        rintro e w2 ⟨rfl, hS2, hg2⟩
        have hb2 := hbx2.grown hg2 ht2 (fun j hj => by cases hj; exact Nat.le_refl _)
        clear hbx2 hbx hg2 ht2
        go_wp2
        go_roundw
        case rel => exact ⟨k + 1, _, by omega, by go_num, Hst, hS2, hb2⟩
        case measure => simp [intOf]; omega
      · rw [if_neg hx] at hst
        have hxb : (entE Q ⟨nm, cl, kd, v, r⟩ != 0) = true := by rw [bne_iff_ne]; exact hx
        generalize entE Q ⟨nm, cl, kd, v, r⟩ = e4 at *
        subst hst
        clear hx hSk
        go_wp2_with fail
        refine hC.mono ?_
        rintro e w2 ⟨rfl, hS2, hg2⟩
        have hb2 := hbx2.grown hg2 ht2 (fun j hj => by cases hj; exact Nat.le_refl _)
        clear hbx2 hbx hg2 ht2
        go_wp2
        go_ret
        exact ⟨rfl, hb2⟩
    · have hz := HK.out
      rw [List.drop_of_length_le (by rw [Hlen.out]; omega), entsE] at hz
      subst hz
      go_wp2
      go_ret
      exact ⟨rfl, hb⟩
end Go.Mk
end
section
set_option linter.unusedVariables false
set_option linter.unusedSimpArgs false
open Go Go.Proofs Go.RowKit Go.Maps Go.WideMaps
set_option maxRecDepth 100000
namespace Go.Mk
theorem noneB (s : ByteArray) : (s.toList == [110, 111, 110, 101]) = decide (s = sNone) := by
  have e : sNone.toList = [110, 111, 110, 101] := by rw [ByteArray.toList_eq]; rfl
  rw [← e]
  by_cases h : s = sNone
  · subst h; simp
  · rw [tl_ne h]; simp [h]
set_option maxHeartbeats 2000000 in
theorem kindsError_any (L : List Ent) (n cap : Nat) (A : Option Addr) (B : Nat) (w : World) (hZ : Ents w B A n L) (hn : n ≤ 1000) :
    Calls Tryz.prog 52 #[.slice A n cap] w (RetPost (.int .i64 (kindsE sNone L)) w) := by
  have hni : (n : Int) ≤ 1000 := by omega
  have HM : Hid (∀ w', Below w.heap.size w w' → Ents w' B A n L) := fun w' hb => hZ.below hb hZ.2.1
  have Hlen : Hid (L.length = n) := hZ.1
  obtain ⟨X, hX⟩ : ∃ X, kindsE sNone L = X := ⟨_, rfl⟩
  rw [hX]
  have HX : Hid (kindsE sNone (L.drop 0) = X) := (show _ = _ by rw [List.drop_zero, hX])
  clear hX hZ
  go_enter Tryz.func52, Tryz.ntmps52
  go_wp2
  go_loopw [8, 3] (fun i c wr => ∃ (k : Nat) (s : ByteArray), k ≤ n ∧ i = .int .i64 k ∧ c = .string s ∧ Hid (kindsE s (L.drop k) = X) ∧ Below w.heap.size w wr) (fun i _ _ => n - (intOf i).toNat)
  case atStart => exact ⟨0, sNone, by omega, rfl, rfl, HX, Below.refl _ _⟩
  case round =>
    obtain ⟨k, c, hk, rfl, rfl, HK, hb⟩ := hrel
    by_cases hlt : k < n
    · obtain ⟨b, off, x, rfl, hbl, hL, c0, c1, c2, c3, c4⟩ := (HM.out _ hb).at_ hlt
      have hst := HK.out
      rw [drop_cons hL, kindsE] at hst
      obtain ⟨nm, cl, kd, v, r⟩ := x
      simp only at c0 c1 c2 c3 c4 hst
      have hki : (k : Int) < (n : Int) := by omega
      have hbx : Below w.heap.size w (wr.alloc (.cells #[.string nm, .string cl, .string kd, .int .i64 v, .string r] 65)) := balloc _ hb
      clear hL HK
      by_cases g1 : kd = sNone
      · rw [if_pos g1] at hst
        have HS := Lib.hid hst
        have k1 : (kd.toList == [110, 111, 110, 101]) = true := by rw [noneB]; simp [g1]
        clear g1 hst
        go_wp2
        go_roundw
        case rel => exact ⟨k + 1, c, by omega, by go_num, rfl, HS, hbx⟩
        case measure => simp [intOf]; omega
      · rw [if_neg g1] at hst
        have k1 : (kd.toList == [110, 111, 110, 101]) = false := by rw [noneB]; simp [g1]
        clear g1
        by_cases g2 : c ≠ sNone ∧ c ≠ kd
        · rw [if_pos g2] at hst
          subst hst
          have k2 : (c.toList == [110, 111, 110, 101]) = false := by rw [noneB]; simp [g2.1]
          have k3 : (c.toList == kd.toList) = false := tl_ne g2.2
          clear g2
          go_wp2
          go_ret
          exact ⟨rfl, hbx⟩
        · rw [if_neg g2] at hst
          have HS := Lib.hid hst
          clear hst
          by_cases g3 : c = sNone
          · have k2 : (c.toList == [110, 111, 110, 101]) = true := by rw [noneB]; simp [g3]
            clear g2 g3
            go_wp2
            go_roundw
            case rel => exact ⟨k + 1, kd, by omega, by go_num, rfl, HS, hbx⟩
            case measure => simp [intOf]; omega
          · have g4 : c = kd := Classical.byContradiction fun q => g2 ⟨g3, q⟩
            subst g4
            clear g2 g3
            go_wp2
            go_roundw
            case rel => exact ⟨k + 1, c, by omega, by go_num, rfl, HS, hbx⟩
            case measure => simp [intOf]; omega
    · have hz := HK.out
      rw [List.drop_of_length_le (by rw [Hlen.out]; omega), kindsE] at hz
      subst hz
      go_wp2
      go_ret
      exact ⟨rfl, hb⟩
theorem seedCheckEntrants_many (n cap : Nat) (A : Option Addr) (w : World) (h : 160 < (n : Int)) (hm : (n : Int) ≤ 9223372036854775807) :
    Calls Tryz.prog 12 #[.slice A n cap] w (RetPost (.int .i64 5) w) := by
  go_enter Tryz.func12, Tryz.ntmps12
  go_wp2
  go_ret
  exact ⟨rfl, Below.refl _ _⟩
set_option maxHeartbeats 2000000 in
theorem seedCheckEntrants_any (L : List Ent) (n cap : Nat) (A : Option Addr) (B : Nat) (w : World) (hZ : Ents w B A n L) (hn : n ≤ 160) (hs : ∀ x ∈ L, x.ok) (hg : 13 ≤ w.heap.size) :
    Calls Tryz.prog 12 #[.slice A n cap] w (RetPost (.int .i64 (chkEnts L)) w) := by
  have hni : (n : Int) ≤ 160 := by omega
  have hmm := @run_makeMap Tryz.prog
  have hE : Ents (w.alloc (.map #[] 0)) w.heap.size A n L := hZ.wide ((Below.refl _ _).alloc (Nat.le_refl _) _)
  have hA := fun cap => firstOfEntrant_any w.heap.size L n cap A (w.alloc (.map #[] 0)) hE (Named.made w) (by omega) hs (by simp; omega)
  have hK := fun w' hb cap => kindsError_any L n cap A w.heap.size w' (hE.below (w' := w') (K := w.heap.size) hb (Nat.le_refl _)) (by omega)
  have HB : Hid (Below w.heap.size w (w.alloc (.map #[] 0))) := (Below.refl _ _).alloc (Nat.le_refl _) _
  obtain ⟨y, hy⟩ : ∃ y, fstN [entsE [] L, kindsE sNone L] = y := ⟨_, rfl⟩
  have hl : ¬ 160 < L.length := by rw [hZ.1]; omega
  rw [show chkEnts L = y by unfold chkEnts; rw [if_neg hl, hy]]
  generalize entsE [] L = e1 at *
  generalize kindsE sNone L = e2 at *
  have hF := fun g w => seedFirst_any [e1, e2] 2 rfl (by decide) g w
  rw [hy] at hF
  unfold EntF at hA
  clear hy hl hE hZ hs
  go_enter Tryz.func12, Tryz.ntmps12
  go_wp2_with fail
  refine (hA _).mono ?_
  rintro e w2 ⟨rfl, hb2⟩
  go_wp2_with fail
  refine (hK _ hb2 _).mono ?_
  rintro e w3 ⟨rfl, hb3⟩
  go_wp2_with fail
  refine (hF _ _ (es2 _ _ _ _)).mono ?_
  rintro e w4 ⟨rfl, rfl⟩
  go_wp2
  go_ret
  exact ⟨rfl, balloc _ ((HB.out.trans hb2).trans (hb3.mono (HB.out.trans hb2).size))⟩
end Go.Mk
end
