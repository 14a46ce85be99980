/-
  Proved: the law's own copy of entrants, as those of the reference; and a list of entrants in new memory read as one in its cells. Conditions: the entrants lie where the slice says; at most 1,000.
  Proved: the reference's Short says whether entrants are few, or too many, and their texts moderate. Conditions: the entrants lie where the slice says, when they are read.
-/
import Derived.Test.YtccgahkoekcefaaGreatDoorEe
section
set_option linter.unusedVariables false
set_option linter.unusedSimpArgs false
open Go Go.Proofs Go.RowKit Go.Maps Go.WideMaps
set_option maxRecDepth 100000
namespace Go.Mk
def entC (x : Ent) : List Value := [.string x.name, .string x.club, .string x.kind, .int .i64 x.value, .string x.reason]
def OwnEnts (w : World) (B : Nat) (t : TypeId) (v : Value) (L : List Ent) : Prop := w.ownsRow B t 5 v L.length (L.flatMap entC)
theorem OwnEnts.next {w1 : World} {B t : Nat} {v' : Value} {L : List Ent} {r : Ent} (h : w1.ownsRow B t 5 v' (L.length + 1) (L.flatMap entC ++ entC r)) : OwnEnts w1 B t v' (L ++ [r]) := by
  unfold OwnEnts
  rw [List.length_append, List.flatMap_append]
  simpa using h
theorem entC_at : ∀ (l : List Ent) (i : Nat) (x : Ent) (j : Nat), l[i]? = some x → j < 5 → (l.flatMap entC)[i * 5 + j]? = (entC x)[j]?
  | [], i, x, j, h, _ => by simp at h
  | y :: l, 0, x, j, h, hj => by
    simp at h
    subst h
    rw [List.flatMap_cons, Nat.zero_mul, Nat.zero_add, List.getElem?_append_left (by simpa [entC] using hj)]
  | y :: l, i + 1, x, j, h, hj => by
    have ih := entC_at l i x j (by simpa using h) hj
    rw [List.flatMap_cons, List.getElem?_append_right (by simp [entC]; omega), ← ih]
    congr 1
    simp [entC]
    omega
theorem Ents.of_own {w : World} {base t n : Nat} {v : Value} {L : List Ent} (h : OwnEnts w base t v L) (hn : L.length = n) : ∃ A c, v = .slice A n c ∧ Ents w w.heap.size A n L := by
  subst hn
  by_cases h0 : 0 < L.length
  · obtain ⟨g, c, rfl, hgb, hgl⟩ := ownSome h h0
    refine ⟨_, _, rfl, rfl, Nat.le_refl _, fun _ => ⟨g, 0, rfl, hgl, fun i x hx => ?_⟩⟩
    have hcell : ∀ j, j < 5 → w.cell? ⟨g, i * 5 + j, none⟩ = (entC x)[j]? := fun j hj => by
      have e := entC_at L i x j hx hj
      obtain ⟨u, hu⟩ : ∃ u, (entC x)[j]? = some u := ⟨(entC x)[j]'(by simpa [entC] using hj), List.getElem?_eq_getElem _⟩
      rw [hu] at e ⊢
      have := World.ownsRow.cells h (g := g) rfl (i * 5 + j) u e
      rwa [show (⟨g, 0, none⟩ : Addr).add (i * 5 + j) = ⟨g, i * 5 + j, none⟩ from by unfold Addr.add; split <;> simp_all] at this
    have q0 := hcell 0 (by decide)
    have q1 := hcell 1 (by decide)
    have q2 := hcell 2 (by decide)
    have q3 := hcell 3 (by decide)
    have q4 := hcell 4 (by decide)
    rw [Nat.zero_add]
    exact ⟨q0, q1, q2, q3, q4⟩
  · have hl : L.length = 0 := by omega
    obtain ⟨a, c, rfl⟩ : ∃ a c, v = .slice a L.length c := by
      rcases h.2 with ⟨hv, h0⟩ | ⟨g, cap, cur, hv, _⟩
      · exact ⟨none, 0, by rw [hv, h0]⟩
      · exact ⟨_, _, hv⟩
    exact ⟨a, c, rfl, rfl, Nat.le_refl _, fun q => absurd q h0⟩
theorem infoREnt : (Tryz.prog.info? 67).map (fun i => (i.zero, i.size, i.bytes)) = some (some (.agg #[.string ⟨#[]⟩, .string ⟨#[]⟩, .string ⟨#[]⟩, .int .i64 0, .string ⟨#[]⟩]), 5, 72) := by kernel_rfl
set_option maxHeartbeats 4000000 in
theorem l4own_any (L : List Ent) (n cap : Nat) (A : Option Addr) (B : Nat) (w : World) (hM : Ents w B A n L) (hn2 : n ≤ 1000) :
    Calls Tryz.prog 8 #[.slice A n cap] w (fun e w' => ∃ v, e = .returned v ∧ OwnEnts w' w.heap.size 67 v L ∧ Below w.heap.size w w') := by
  obtain ⟨i0, hi, hz0, hz1, hz2⟩ := info_parts infoREnt
  have hni : (n : Int) ≤ 1000 := by omega
  have HM : Hid (∀ w', Below w.heap.size w w' → Ents w' B A n L) := fun w' hb => hM.below hb hM.2.1
  have Hlen : Hid (L.length = n) := hM.1
  clear hM
  go_enter Tryz.func8, Tryz.ntmps8
  go_wp2
  go_loopw [3, 4] (fun v i wr => ∃ (k : Nat) (P : List Ent), i = .int .i64 k ∧ k ≤ n ∧ P.length = k ∧ Hid (P ++ L.drop k = L) ∧ OwnEnts wr w.heap.size 67 v P ∧ Below w.heap.size w wr) (fun _ i _ => n - (intOf i).toNat)
  case atStart => exact ⟨0, [], rfl, by omega, rfl, Lib.hid rfl, World.ownsRow_nil _ _ _ _, Below.refl _ _⟩
  case round =>
    obtain ⟨k, P, rfl, hk, hP, HK, hown, hb⟩ := hrel
    by_cases hlt : k < n
    · obtain ⟨b, off, x, rfl, hbl, hL, c0, c1, c2, c3, c4⟩ := (HM.out _ hb).at_ hlt
      have hst := HK.out
      rw [drop_cons hL] at hst
      have Hst : Hid ((P ++ [x]) ++ L.drop (k + 1) = L) := (show _ = _ by rw [List.append_assoc]; exact hst)
      obtain ⟨nm, cl, kd, v, r⟩ := x
      simp only at c0 c1 c2 c3 c4
      have hki : (k : Int) < (n : Int) := by omega
      clear hst hL HK
      go_wp2_with (at_builtin; refine wpList_append_own _ rfl _ _ 23 rfl w.heap.size 67 i0 (.agg #[.string ⟨#[]⟩, .string ⟨#[]⟩, .string ⟨#[]⟩, .int .i64 0, .string ⟨#[]⟩]) 5 72 Tryz.underlying23 hi hz0 hz1 hz2 rfl (by decide) _ _ _ rfl (World.ownsRow.alloc hown _) ⟨wr.heap.size, 0, none⟩ 1 1 (entC ⟨nm, cl, kd, v, r⟩) rfl rfl ?c1 ?c2 ?c3 ?c4 ?c5 ?_)
      case c1 =>
        intro j u hj
        match j, hj with
        | 0, hj => simp [entC] at hj; subst hj; simp [Addr.add]
        | 1, hj => simp [entC] at hj; subst hj; simp [Addr.add]
        | 2, hj => simp [entC] at hj; subst hj; simp [Addr.add]
        | 3, hj => simp [entC] at hj; subst hj; simp [Addr.add]
        | 4, hj => simp [entC] at hj; subst hj; simp [Addr.add]
      case c2 => intro u hu; simp [entC] at hu; rcases hu with rfl | rfl | rfl | rfl | rfl <;> rfl
      case c3 => unfold maxLen; omega
      case c4 => omega
      case c5 => have := hb.size; simp; omega
      · intro v' w1 hown' hgrow _
        have hb1 : Below w.heap.size w w1 := (hb.alloc hb.size _).grown hgrow (by have := hb.size; simp; omega) (fun r hr => (World.ownsRow.lt hown r hr).1)
        have ho1 : OwnEnts w1 w.heap.size 67 v' (P ++ [⟨nm, cl, kd, v, r⟩]) := OwnEnts.next (by rw [hP]; exact hown')
        clear hown' hgrow hown
        go_wp2
        go_roundw
        case rel => exact ⟨k + 1, P ++ [⟨nm, cl, kd, v, r⟩], by go_num, by omega, by simp; omega, Hst, ho1, hb1⟩
        case measure => simp [intOf]; omega
    · have hk2 : k = n := by omega
      have hz := HK.out
      rw [List.drop_of_length_le (by rw [Hlen.out]; omega), List.append_nil] at hz
      subst hz
      go_wp2
      go_ret
      exact ⟨_, rfl, hown, hb⟩
end Go.Mk
end
section
set_option linter.unusedVariables false
set_option linter.unusedSimpArgs false
open Go Go.Proofs Go.RowKit Go.Maps Go.WideMaps
set_option maxRecDepth 100000
namespace Go.Mk
def shE (x : Ent) : Bool := decide (x.name.size ≤ 40) && (decide (x.club.size ≤ 40) && (decide (x.kind.size ≤ 20) && decide (x.reason.size ≤ 20)))
set_option maxHeartbeats 1000000 in
theorem r4Short_long (n cap : Nat) (m : Int) (A : Option Addr) (w : World) (h : 164 < (n : Int)) (hm : (n : Int) ≤ 9223372036854775807) :
    Calls Tryz.prog 10 #[.slice A n cap, .int .i64 m] w (RetPost (.bool false) w) := by
  have h2 : ¬ (n : Int) ≤ 160 := by omega
  by_cases h1 : m < (n : Int)
  · go_enter Tryz.func10, Tryz.ntmps10
    go_wp2
    go_ret
    exact ⟨rfl, Below.refl _ _⟩
  · go_enter Tryz.func10, Tryz.ntmps10
    go_wp2
    go_ret
    exact ⟨rfl, Below.refl _ _⟩
set_option maxHeartbeats 1000000 in
theorem r4Short_more (n cap : Nat) (m : Int) (A : Option Addr) (w : World) (h : m < (n : Int)) (hm : (n : Int) ≤ 160) :
    Calls Tryz.prog 10 #[.slice A n cap, .int .i64 m] w (RetPost (.bool false) w) := by
  go_enter Tryz.func10, Tryz.ntmps10
  go_wp2
  go_ret
  exact ⟨rfl, Below.refl _ _⟩
set_option maxHeartbeats 4000000 in
theorem r4Short_any (L : List Ent) (n cap : Nat) (m : Int) (A : Option Addr) (B : Nat) (w : World) (hZ : Ents w B A n L) (hs : ∀ x ∈ L, x.ok ∧ x.kind.size ≤ maxLen ∧ x.reason.size ≤ maxLen) (hn : (n : Int) ≤ 164) (hm : ¬ m < (n : Int) ∨ 160 < (n : Int)) :
    Calls Tryz.prog 10 #[.slice A n cap, .int .i64 m] w (RetPost (.bool (L.all shE)) w) := by
  have HM : Hid (∀ w', Below w.heap.size w w' → Ents w' B A n L) := fun w' hb => hZ.below hb hZ.2.1
  have Hlen : Hid (L.length = n) := hZ.1
  have HS := Lib.hid hs
  obtain ⟨X, hX⟩ : ∃ X, L.all shE = X := ⟨_, rfl⟩
  rw [hX]
  have HX : Hid ((L.drop 0).all shE = X) := (show _ = _ by rw [List.drop_zero, hX])
  have hml : maxLen = 9223372036854775807 := rfl
  clear hX hZ hs
  by_cases h1 : m < (n : Int)
  · have h2 : ¬ (n : Int) ≤ 160 := by omega
    clear hm
    go_enter Tryz.func10, Tryz.ntmps10
    go_wp2
    go_loopw [5] (fun i wr => ∃ k : Nat, k ≤ n ∧ i = .int .i64 k ∧ Hid ((L.drop k).all shE = X) ∧ Below w.heap.size w wr) (fun i _ => n - (intOf i).toNat)
    case atStart => exact ⟨0, by omega, rfl, HX, Below.refl _ _⟩
    case round =>
      obtain ⟨k, hk, rfl, HK, hb⟩ := hrel
      by_cases hlt : k < n
      · obtain ⟨b, off, x, rfl, hbl, hL, c0, c1, c2, c3, c4⟩ := (HM.out _ hb).at_ hlt
        have hst := HK.out
        rw [drop_cons hL, List.all_cons] at hst
        obtain ⟨⟨o1, o2⟩, o3, o4⟩ := HS.out x (List.mem_of_getElem? hL)
        have hki : (k : Int) < (n : Int) := by omega
        have hk0 : (0 : Int) ≤ (k : Int) := by omega
        have hkt : ((k : Int)).toNat = k := by omega
        have bad : shE x = false → false = X := fun q => by rw [q, Bool.false_and] at hst; exact hst
        have good : shE x = true → (L.drop (k + 1)).all shE = X := fun q => by rw [q, Bool.true_and] at hst; exact hst
        obtain ⟨nm, cl, kd, v, r⟩ := x
        simp only at c0 c1 c2 c3 c4 o1 o2 o3 o4
        have BAD := Lib.hid bad
        have GOOD := Lib.hid good
        clear hst hL HK bad good
        by_cases g1 : 40 < (nm.size : Int)
        · have hX := BAD.out (by unfold shE; rw [decide_eq_false (by simp only; omega)]; rfl)
          subst hX
          as_aux_lemma =>
            go_wp2_with fail
            go_wp2
            go_ret
            exact ⟨rfl, hb⟩
        · by_cases g2 : 40 < (cl.size : Int)
          · have hX := BAD.out (by unfold shE; rw [show decide ((⟨nm, cl, kd, v, r⟩ : Ent).club.size ≤ 40) = false from decide_eq_false (by simp only; omega)]; simp)
            subst hX
            as_aux_lemma =>
              go_wp2_with fail
              go_wp2
              go_ret
              exact ⟨rfl, hb⟩
          · by_cases g3 : 20 < (kd.size : Int)
            · have hX := BAD.out (by unfold shE; rw [show decide ((⟨nm, cl, kd, v, r⟩ : Ent).kind.size ≤ 20) = false from decide_eq_false (by simp only; omega)]; simp)
              subst hX
              as_aux_lemma =>
                go_wp2_with fail
                go_wp2
                go_ret
                exact ⟨rfl, hb⟩
            · by_cases g4 : 20 < (r.size : Int)
              · have hX := BAD.out (by unfold shE; rw [show decide ((⟨nm, cl, kd, v, r⟩ : Ent).reason.size ≤ 20) = false from decide_eq_false (by simp only; omega)]; simp)
                subst hX
                as_aux_lemma =>
                  go_wp2_with fail
                  go_wp2
                  go_ret
                  exact ⟨rfl, hb⟩
              · have HK2 : Hid ((L.drop (k + 1)).all shE = X) := GOOD.out (by unfold shE; simp only; rw [decide_eq_true (by omega), decide_eq_true (by omega), decide_eq_true (by omega), decide_eq_true (by omega)]; rfl)
                as_aux_lemma =>
                  go_wp2_with fail
                  go_wp2
                  go_roundw
                  case rel => exact ⟨k + 1, by omega, by go_num, HK2, hb⟩
                  case measure => simp [intOf]; omega
      · have hz := HK.out
        rw [List.drop_of_length_le (by rw [Hlen.out]; omega)] at hz
        have hz2 : true = X := hz
        subst hz2
        go_wp2
        go_ret
        exact ⟨rfl, hb⟩
  · clear hm
    go_enter Tryz.func10, Tryz.ntmps10
    go_wp2
    go_loopw [5] (fun i wr => ∃ k : Nat, k ≤ n ∧ i = .int .i64 k ∧ Hid ((L.drop k).all shE = X) ∧ Below w.heap.size w wr) (fun i _ => n - (intOf i).toNat)
    case atStart => exact ⟨0, by omega, rfl, HX, Below.refl _ _⟩
    case round =>
      obtain ⟨k, hk, rfl, HK, hb⟩ := hrel
      by_cases hlt : k < n
      · obtain ⟨b, off, x, rfl, hbl, hL, c0, c1, c2, c3, c4⟩ := (HM.out _ hb).at_ hlt
        have hst := HK.out
        rw [drop_cons hL, List.all_cons] at hst
        obtain ⟨⟨o1, o2⟩, o3, o4⟩ := HS.out x (List.mem_of_getElem? hL)
        have hki : (k : Int) < (n : Int) := by omega
        have hk0 : (0 : Int) ≤ (k : Int) := by omega
        have hkt : ((k : Int)).toNat = k := by omega
        have bad : shE x = false → false = X := fun q => by rw [q, Bool.false_and] at hst; exact hst
        have good : shE x = true → (L.drop (k + 1)).all shE = X := fun q => by rw [q, Bool.true_and] at hst; exact hst
        obtain ⟨nm, cl, kd, v, r⟩ := x
        simp only at c0 c1 c2 c3 c4 o1 o2 o3 o4
        have BAD := Lib.hid bad
        have GOOD := Lib.hid good
        clear hst hL HK bad good
        by_cases g1 : 40 < (nm.size : Int)
        · have hX := BAD.out (by unfold shE; rw [decide_eq_false (by simp only; omega)]; rfl)
          subst hX
          as_aux_lemma =>
            go_wp2_with fail
            go_wp2
            go_ret
            exact ⟨rfl, hb⟩
        · by_cases g2 : 40 < (cl.size : Int)
          · have hX := BAD.out (by unfold shE; rw [show decide ((⟨nm, cl, kd, v, r⟩ : Ent).club.size ≤ 40) = false from decide_eq_false (by simp only; omega)]; simp)
            subst hX
            as_aux_lemma =>
              go_wp2_with fail
              go_wp2
              go_ret
              exact ⟨rfl, hb⟩
          · by_cases g3 : 20 < (kd.size : Int)
            · have hX := BAD.out (by unfold shE; rw [show decide ((⟨nm, cl, kd, v, r⟩ : Ent).kind.size ≤ 20) = false from decide_eq_false (by simp only; omega)]; simp)
              subst hX
              as_aux_lemma =>
                go_wp2_with fail
                go_wp2
                go_ret
                exact ⟨rfl, hb⟩
            · by_cases g4 : 20 < (r.size : Int)
              · have hX := BAD.out (by unfold shE; rw [show decide ((⟨nm, cl, kd, v, r⟩ : Ent).reason.size ≤ 20) = false from decide_eq_false (by simp only; omega)]; simp)
                subst hX
                as_aux_lemma =>
                  go_wp2_with fail
                  go_wp2
                  go_ret
                  exact ⟨rfl, hb⟩
              · have HK2 : Hid ((L.drop (k + 1)).all shE = X) := GOOD.out (by unfold shE; simp only; rw [decide_eq_true (by omega), decide_eq_true (by omega), decide_eq_true (by omega), decide_eq_true (by omega)]; rfl)
                as_aux_lemma =>
                  go_wp2_with fail
                  go_wp2
                  go_roundw
                  case rel => exact ⟨k + 1, by omega, by go_num, HK2, hb⟩
                  case measure => simp [intOf]; omega
      · have hz := HK.out
        rw [List.drop_of_length_le (by rw [Hlen.out]; omega)] at hz
        have hz2 : true = X := hz
        subst hz2
        go_wp2
        go_ret
        exact ⟨rfl, hb⟩
end Go.Mk
end
