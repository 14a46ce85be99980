/-
  Proved: seed.split, as a plain function. Conditions: the runners lie where the slice says; there are at most 1,000.
-/
import Derived.Test.YtkjolejppnogiaaGreatDoorGc
set_option linter.unusedVariables false
set_option linter.unusedSimpArgs false
open Go Go.Proofs Go.RowKit Go.Sort
set_option maxRecDepth 100000
namespace Go.Mk
theorem infoSRun : (Tryz.prog.info? 79).map (fun i => (i.zero, i.size, i.bytes)) = some (some (.agg #[.string ⟨#[]⟩, .string ⟨#[]⟩, .int .i64 0, .string ⟨#[]⟩]), 4, 56) := by kernel_rfl
/-- A list of the program's runners in new memory. -/
def OwnS (w : World) (B : Nat) (v : Value) (L : List Run) : Prop := w.ownsRow B 79 4 v L.length (L.flatMap runC)
theorem OwnS.app {w1 : World} {B : Nat} {v' : Value} {L M : List Run} (h : w1.ownsRow B 79 4 v' (L.length + M.length) (L.flatMap runC ++ M.flatMap runC)) : OwnS w1 B v' (L ++ M) := by
  unfold OwnS
  rw [List.length_append, List.flatMap_append]
  exact h
theorem OwnS.low {w : World} {B B' : Nat} {v : Value} {L : List Run} (h : OwnS w B v L) (hB : B' ≤ B) : OwnS w B' v L := by
  refine ⟨h.1, ?_⟩
  rcases h.2 with ⟨a, b⟩ | ⟨g, cap, cur, a, b, c, d⟩
  · exact .inl ⟨a, b⟩
  · exact .inr ⟨g, cap, cur, a, Nat.le_trans hB b, c, d⟩
theorem runC_len (L : List Run) : (L.flatMap runC).length = L.length * 4 := by
  induction L with
  | nil => rfl
  | cons x l ih => rw [List.flatMap_cons, List.length_append, ih, List.length_cons]; simp [runC]; omega
theorem runC_one (L : List Run) : ∀ u ∈ L.flatMap runC, u.oneCell' = true := by
  intro u hu
  obtain ⟨x, _, hx⟩ := List.mem_flatMap.1 hu
  simp [runC] at hx
  rcases hx with rfl | rfl | rfl | rfl <;> rfl
/-- A row of one's own as a source of append. -/
theorem OwnS.src {w : World} {B : Nat} {v : Value} {L : List Run} (h : OwnS w B v L) : ∃ ao c, v = .slice ao L.length c ∧ (ao = none → L.length = 0 ∧ c = 0) ∧
    (∀ ad, ao = some ad → ∀ (j : Nat) (u : Value), (L.flatMap runC)[j]? = some u → w.cell? (ad.add j) = some u) := by
  rcases h.2 with ⟨rfl, h0⟩ | ⟨g, cap, cur, rfl, hrest⟩
  · exact ⟨none, 0, by rw [h0], fun _ => ⟨h0, rfl⟩, (fun ad e => by cases e)⟩
  · exact ⟨_, cap, rfl, (fun e => by cases e), (fun ad e => by cases e; exact World.ownsRow.cells h (g := g) rfl)⟩
theorem Runs.of_ownS {w : World} {base : Nat} {v : Value} {L : List Run} (h : OwnS w base v L) : ∃ A c, v = .slice A L.length c ∧ Runs w w.heap.size A L.length L := by
  by_cases h0 : 0 < L.length
  · obtain ⟨g, c, rfl, hgb, hgl⟩ := ownSome h h0
    refine ⟨_, _, rfl, rfl, Nat.le_refl _, fun _ => ⟨g, 0, rfl, hgl, fun i x hx => ?_⟩⟩
    have hcell : ∀ j, j < 4 → w.cell? ⟨g, i * 4 + j, none⟩ = (runC x)[j]? := fun j hj => by
      have e := runC_at L i x j hx hj
      obtain ⟨u, hu⟩ : ∃ u, (runC x)[j]? = some u := ⟨(runC x)[j]'(by simpa [runC] using hj), List.getElem?_eq_getElem _⟩
      rw [hu] at e ⊢
      have := World.ownsRow.cells h (g := g) rfl (i * 4 + j) u e
      rwa [show (⟨g, 0, none⟩ : Addr).add (i * 4 + j) = ⟨g, i * 4 + j, none⟩ from by unfold Addr.add; split <;> simp_all] at this
    have q0 := hcell 0 (by decide)
    have q1 := hcell 1 (by decide)
    have q2 := hcell 2 (by decide)
    have q3 := hcell 3 (by decide)
    rw [Nat.zero_add]
    exact ⟨q0, q1, q2, q3⟩
  · obtain ⟨a, c, rfl⟩ : ∃ a c, v = .slice a L.length c := by
      rcases h.2 with ⟨hv, h0⟩ | ⟨g, cap, cur, hv, _⟩
      · exact ⟨none, 0, by rw [hv, h0]⟩
      · exact ⟨_, _, hv⟩
    exact ⟨a, c, rfl, rfl, Nat.le_refl _, fun q => absurd q h0⟩
/-- Two values that own no block together. -/
def Apt (u v : Value) : Prop := ∀ g, u.ownBlock = some g → v.ownBlock ≠ some g
theorem Apt.symm {u v : Value} (h : Apt u v) : Apt v u := fun g h1 h2 => h g h2 h1
theorem Apt.kept {u v : Value} (h : Apt u v) : v.ownBlock = none ∨ v.ownBlock ≠ u.ownBlock := by
  cases hv : v.ownBlock with
  | none => exact .inl rfl
  | some g => exact .inr fun e => h g e.symm hv
theorem Apt.nil (v : Value) : Apt (.slice none 0 0) v := fun g h => by cases h
/-- Behind an append the row is still apart. -/
theorem Apt.next {u u' v : Value} {K : Nat} (h : Apt u v) (hat : u'.ownBlock = u.ownBlock ∨ u'.ownBlock = some K) (hv : ∀ g, v.ownBlock = some g → g < K) : Apt u' v := fun g h1 h2 => by
  rcases hat with e | e
  · exact h g (e ▸ h1) h2
  · rw [e] at h1
    cases h1
    exact Nat.lt_irrefl _ (hv _ h2)
/-- Is the place of a runner from 1 to the last one? -/
def inP (L : List Run) (last : Int) (x : Run) : Bool := decide (1 ≤ plcN L x) && decide ((plcN L x : Int) ≤ last)
theorem filter_take {α : Type} (f : α → Bool) {L : List α} {k : Nat} {x : α} (h : L[k]? = some x) : (L.take (k + 1)).filter f = (L.take k).filter f ++ (if f x then [x] else []) := by
  rw [List.take_add_one, h, Option.toList_some, List.filter_append]
  cases hf : f x <;> simp [hf]
theorem news4 {w : World} {t : TypeId} {nm kd r : ByteArray} {vv : Int} : ∀ ad, some (⟨w.heap.size, 0, none⟩ : Addr) = some ad → ∀ (j : Nat) (u : Value), (runC ⟨nm, kd, vv, r⟩)[j]? = some u → (w.alloc (.cells #[.string nm, .string kd, .int .i64 vv, .string r] t)).cell? (ad.add j) = some u := by
  intro ad e j u hj
  cases e
  match j, hj with
  | 0, hj => simp [runC] at hj; subst hj; simp [Addr.add]
  | 1, hj => simp [runC] at hj; subst hj; simp [Addr.add]
  | 2, hj => simp [runC] at hj; subst hj; simp [Addr.add]
  | 3, hj => simp [runC] at hj; subst hj; simp [Addr.add]
theorem one4 (x : Run) : ∀ u ∈ runC x, u.oneCell' = true := by
  intro u hu
  simp [runC] at hu
  rcases hu with rfl | rfl | rfl | rfl <;> rfl
theorem some_ne {α : Type} {x : α} {p : Prop} : some x = none → p := fun e => by cases e
/-- One of two rows that lie apart (and apart from a row of numbers) grows. -/
theorem pair_step {w wr w1 : World} {B g : Nat} {u v v' : Value} {P Q P' Q' M : List Run} {Z : List Nat} {o : Obj} (hu : OwnS wr B u P) (hv : OwnS wr B v Q) (hap : Apt u v) (hug : ∀ b, u.ownBlock = some b → b ≠ g) (hrw : Row wr g Z)
    (hb : Below B w wr) (hB : B ≤ wr.heap.size) (h1 : P' = P ++ M) (h2 : Q' = Q) (hown' : w1.ownsRow B 79 4 v' (P.length + M.length) (P.flatMap runC ++ M.flatMap runC)) (hgrow : (wr.alloc o).grownBy w1 u.ownBlock)
    (hat : v'.ownBlock = u.ownBlock ∨ v'.ownBlock = some (wr.alloc o).heap.size) :
    OwnS w1 B v' P' ∧ OwnS w1 B v Q' ∧ Apt v' v ∧ (∀ b, v'.ownBlock = some b → b ≠ g) ∧ Row w1 g Z ∧ Below B w w1 := by
  have hs : (wr.alloc o).heap.size = wr.heap.size + 1 := by simp
  have h9 := hrw.alloc o
  refine ⟨?_, ?_, hap.next hat (fun b h => by have := (World.ownsRow.lt hv b h).2; omega), ?_, ?_, (hb.alloc hB o).grown hgrow (by omega) (fun r hr => (World.ownsRow.lt hu r hr).1)⟩
  · rw [h1]
    exact OwnS.app hown'
  · rw [h2]
    exact (World.ownsRow.alloc hv _).kept hgrow hap.kept
  · intro b h
    have hgs := hrw.1
    rcases hat with e | e
    · exact hug b (e ▸ h)
    · rw [e, hs] at h
      cases h
      omega
  · refine h9.keep hgrow.size (fun p hp => ?_) (fun p hp => ?_)
    · exact World.cell?_of_block (hgrow.block p.block (by rw [hp]; exact h9.1) (fun e => hug g (by rw [← e, hp]) rfl))
    · exact World.frozen?_of_block (hgrow.block p.block (by rw [hp]; exact h9.1) (fun e => hug g (by rw [← e, hp]) rfl))
/-- What split leaves. -/
def SpPost (L : List Run) (last : Int) (w : World) (e : Ending) (w' : World) : Prop :=
  ∃ u v, e = .returned (.tuple #[u, v]) ∧ OwnS w' w.heap.size u (L.filter (inP L last)) ∧ OwnS w' w.heap.size v (L.filter fun x => !inP L last x) ∧ Below w.heap.size w w'
set_option maxHeartbeats 8000000 in
theorem split_any (L : List Run) (n cap : Nat) (A : Option Addr) (B : Nat) (last : Int) (w : World) (hZ : Runs w B A n L) (hn : n ≤ 1000) :
    Calls Tryz.prog 117 #[.slice A n cap, .int .i64 last] w (SpPost L last w) := by
  obtain ⟨i0, hi, hz0, hz1, hz2⟩ := info_parts infoSRun
  have hni : (n : Int) ≤ 1000 := by omega
  have HM : Hid (∀ w', Below w.heap.size w w' → Runs w' B A n L) := fun w' hb => hZ.below hb hZ.2.1
  have Hlen : Hid (L.length = n) := hZ.1
  have hP := placesOf_any L n cap A B w hZ hn
  clear hZ
  go_enter Tryz.func117, Tryz.ntmps117
  go_wp2_with fail
  refine hP.mono ?_
  rintro e w2 ⟨g, rfl, hg, hrow, hb2⟩
  have HR := Lib.hid hrow
  have HB2 := Lib.hid hb2
  have hg2 := hrow.1
  clear hP hrow hb2
  go_wp2
  go_loopw [6, 7, 13] (fun u v i wr => ∃ k : Nat, k ≤ n ∧ i = .int .i64 k ∧ OwnS wr w.heap.size u ((L.take k).filter (inP L last)) ∧ OwnS wr w.heap.size v ((L.take k).filter fun x => !inP L last x) ∧ Apt u v ∧ (∀ b, u.ownBlock = some b → b ≠ g) ∧ (∀ b, v.ownBlock = some b → b ≠ g) ∧ Row wr g (L.map (plcN L)) ∧ Below w.heap.size w wr) (fun _ _ i _ => n - (RowKit.intOf i).toNat)
  case atStart => exact ⟨0, by omega, rfl, World.ownsRow_nil _ _ _ _, World.ownsRow_nil _ _ _ _, Apt.nil _, (fun b h => by cases h), (fun b h => by cases h), HR.out, HB2.out⟩
  case round =>
    obtain ⟨k, hk, rfl, hu, hv, hap, hug, hvg, hrw, hb⟩ := hrel
    by_cases hlt : k < n
    · obtain ⟨b, off, x, rfl, hbl, hL, c0, c1, c2, c3⟩ := (HM.out _ hb).at_ hlt
      obtain ⟨p0, p1⟩ := hrw.2 k (plcN L x) (by rw [List.getElem?_map, hL]; rfl)
      have f1 := filter_take (inP L last) hL
      have f2 := filter_take (fun x => !inP L last x) hL
      have hki : (k : Int) < (n : Int) := by omega
      have hk0 : (0 : Int) ≤ (k : Int) := by omega
      have hkt : ((k : Int)).toNat = k := by omega
      have l1 : ((L.take k).filter (inP L last)).length ≤ 1000 := Nat.le_trans (List.length_filter_le _ _) (by rw [List.length_take, Hlen.out]; omega)
      have l2 : ((L.take k).filter fun x => !inP L last x).length ≤ 1000 := Nat.le_trans (List.length_filter_le _ _) (by rw [List.length_take, Hlen.out]; omega)
      have hx : inP L last x = (decide (1 ≤ plcN L x) && decide ((plcN L x : Int) ≤ last)) := rfl
      have hpl : plcN L x ≤ 1001 := by
        have := cntR_le x.value L
        unfold plcN
        rw [Hlen.out] at this
        split <;> omega
      obtain ⟨p, hp⟩ : ∃ p, plcN L x = p := ⟨_, rfl⟩
      rw [hp] at p0 hx hpl
      have hpi : (p : Int) ≤ 1001 := by omega
      obtain ⟨P, hP⟩ : ∃ P, (L.take k).filter (inP L last) = P := ⟨_, rfl⟩
      obtain ⟨Q, hQ⟩ : ∃ Q, ((L.take k).filter fun x => !inP L last x) = Q := ⟨_, rfl⟩
      rw [hP] at hu f1 l1
      rw [hQ] at hv f2 l2
      obtain ⟨nm, kd, vv, r⟩ := x
      simp only at c0 c1 c2 c3
      have LU := fun b h => (World.ownsRow.lt hu b h).2
      have LV := fun b h => (World.ownsRow.lt hv b h).2
      have HL := Lib.hid (And.intro l1 l2)
      clear hL hp hP hQ l1 l2
      by_cases q : 1 ≤ p ∧ (p : Int) ≤ last
      · have q1 : (1 : Int) ≤ (p : Int) := by omega
        have q2 : (p : Int) ≤ last := q.2
        rw [decide_eq_true q.1, decide_eq_true q.2] at hx
        rw [hx] at f1 f2
        have f2' := f2.trans (by simp : Q ++ (if (!(true && true)) = true then [_] else []) = Q)
        have F1 := Lib.hid f1
        have F2 := Lib.hid f2'
        have STEP := fun w1 v' h1 h2 h3 => pair_step (w := w) (w1 := w1) (v' := v') (M := [⟨nm, kd, vv, r⟩]) (o := .cells #[.string nm, .string kd, .int .i64 vv, .string r] 79) hu hv hap hug hrw hb hb.size F1.out F2.out h1 h2 h3
        have HST := Lib.hid STEP
        have HVG := Lib.hid hvg
        clear f1 f2 f2' hx q hap hug hvg hv hrw STEP LU LV
        as_aux_lemma =>
          go_wp2_with (at_builtin; refine wpList_append_src _ rfl _ _ 65 rfl w.heap.size 79 i0 (.agg #[.string ⟨#[]⟩, .string ⟨#[]⟩, .int .i64 0, .string ⟨#[]⟩]) 4 56 Tryz.underlying65 hi hz0 hz1 hz2 rfl (by decide) _ _ _ rfl (World.ownsRow.alloc hu _) (some ⟨wr.heap.size, 0, none⟩) 1 1 (runC ⟨nm, kd, vv, r⟩) rfl rfl some_ne news4 (one4 _) (by have := HL.out; unfold maxLen; omega) (by have := HL.out; omega) (by have := hb.size; simp; omega) ?_)
          · intro v' w1 hown' hgrow hat
            obtain ⟨ho1, ho2, ha2, hug2, hrw2, hb1⟩ := HST.out w1 v' (by simpa using hown') hgrow (by simpa using hat)
            clear hown' hgrow hat HST
            go_wp2
            go_roundw
            case rel => exact ⟨k + 1, by omega, by go_num, ho1, ho2, ha2, hug2, HVG.out, hrw2, hb1⟩
            case measure => simp [RowKit.intOf]; omega
      · have hx2 : inP L last ⟨nm, kd, vv, r⟩ = false := by
          rw [hx, Bool.and_eq_false_iff, decide_eq_false_iff_not, decide_eq_false_iff_not]
          omega
        rw [hx2] at f1 f2
        have f1' := f1.trans (by simp : P ++ (if false = true then [_] else []) = P)
        have F1 := Lib.hid f1'
        have F2 := Lib.hid f2
        have STEP := fun w1 v' h1 h2 h3 => pair_step (w := w) (w1 := w1) (v' := v') (M := [⟨nm, kd, vv, r⟩]) (o := .cells #[.string nm, .string kd, .int .i64 vv, .string r] 79) hv hu hap.symm hvg hrw hb hb.size F2.out F1.out h1 h2 h3
        have HST := Lib.hid STEP
        have HUG := Lib.hid hug
        have q0 : (¬ (1 : Int) ≤ (p : Int)) ∨ ((1 : Int) ≤ (p : Int) ∧ ¬ (p : Int) ≤ last) := by omega
        clear f1 f1' f2 hx hx2 q hap hug hvg hu hrw STEP LU LV
        rcases q0 with q1 | ⟨q1, q2⟩
        all_goals
          as_aux_lemma =>
            go_wp2_with (at_builtin; refine wpList_append_src _ rfl _ _ 65 rfl w.heap.size 79 i0 (.agg #[.string ⟨#[]⟩, .string ⟨#[]⟩, .int .i64 0, .string ⟨#[]⟩]) 4 56 Tryz.underlying65 hi hz0 hz1 hz2 rfl (by decide) _ _ _ rfl (World.ownsRow.alloc hv _) (some ⟨wr.heap.size, 0, none⟩) 1 1 (runC ⟨nm, kd, vv, r⟩) rfl rfl some_ne news4 (one4 _) (by have := HL.out; unfold maxLen; omega) (by have := HL.out; omega) (by have := hb.size; simp; omega) ?_)
            · intro v' w1 hown' hgrow hat
              obtain ⟨ho1, ho2, ha2, hug2, hrw2, hb1⟩ := HST.out w1 v' (by simpa using hown') hgrow (by simpa using hat)
              clear hown' hgrow hat HST
              go_wp2
              go_roundw
              case rel => exact ⟨k + 1, by omega, by go_num, ho2, ho1, ha2.symm, HUG.out, hug2, hrw2, hb1⟩
              case measure => simp [RowKit.intOf]; omega
    · obtain rfl : k = n := by omega
      have htk : L.take k = L := List.take_of_length_le (by rw [Hlen.out]; omega)
      rw [htk] at hu hv
      have HU := Lib.hid hu
      have HV := Lib.hid hv
      clear hu hv htk hrw hap hug hvg
      go_wp2
      go_ret2
      exact ⟨_, _, rfl, HU.out, HV.out, hb⟩
end Go.Mk
