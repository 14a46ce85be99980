/-
  Proved: an argument [][]seed.Runner opened to the lists of its runners in their cells, with what the form's reach says of their lengths. Nothing is assumed beyond that the argument reads.
  Proved: awake in a world of a law of chapter 4. Condition: the tables that awake reads lie where the program lays them.
  Proved: the law's runners returns a copy of heats of runners in new memory. Conditions: the runners lie where the slices say; no list is longer than the form's reach.
  Proved: the law SeedPlaces returns true and leaves all that was there. Conditions: the tables that awake reads lie where the program lays them; the runners lie where the slices say; no list is longer than the form's reach.
-/
import Derived.Test.YtkjolejppnogiaaGreatDoorEl
import Derived.ProofKit
import Derived.Test.YtkjolejppnogiaaGreatDoorAw
import Derived.Test.YtkjolejppnogiaaGreatDoorEt
import Derived.Test.YtkjolejppnogiaaGreatDoorGf
section
set_option linter.unusedVariables false
set_option linter.unusedSimpArgs false
open Go Go.Proofs Go.RowKit
set_option maxRecDepth 100000
namespace Go.Mk
open Go.ChangeShapes Go.WideShapes Go.Deep
theorem bRunner : Tryz.prog.bytesOf 79 = 56 := by kernel_rfl
theorem bRunners : Tryz.prog.bytesOf 65 = 24 := by kernel_rfl
theorem weightsAll_mem {H : Type} {P : Program} {e : TypeId} {x : DataW H} {l : List (DataW H)} (hx : x ∈ l) : ∀ q ∈ DataW.weights P e x, q ∈ DataW.weightsAll P e l := by
  induction l with
  | nil => cases hx
  | cons y l ih =>
    intro q hq
    rw [DataW.weightsAll]
    rcases List.mem_cons.1 hx with rfl | h
    · exact List.mem_append_left _ hq
    · exact List.mem_append_right _ (ih h q hq)
theorem weights_slice {H : Type} {P : Program} {t e : TypeId} {l s : List (DataW H)} (ht : P.underlying t = some (.slice e)) : DataW.weights P t (.slice l s) = (l.length + s.length) * P.bytesOf e :: (DataW.weightsAll P e l ++ DataW.weightsAll P e s) := by
  simp only [DataW.weights, ht]
/-- A slice of runners in one cell. -/
theorem runs_cellsW {H : Type} {enc : TypeId × Value → H} {W : World} {V : Value} {d : DataW H} {p : List MemPlace} {fuel : Nat}
    (hf : DataW.trod enc Tryz.prog W 0 (fun _ => true) true fuel 65 [V] = some (d, p)) :
    ∃ (A : Option Addr) (n cap : Nat) (L : List Run), V = .slice A n cap ∧ (n : Int) ≤ 9223372036854775807 ∧ Runs W W.heap.size A n L ∧ (∀ x ∈ L, x.ok ∧ x.kind.size ≤ maxLen ∧ x.reason.size ≤ maxLen) ∧ ((∀ q ∈ DataW.weights Tryz.prog 65 d, q ≤ reachBytes) → n * 56 ≤ reachBytes) ∧
      ∀ (spare : Nat → Bool) (W' : World), (∀ q, q < W.heap.size → spare q = true) → Below W.heap.size W W' → ∃ n', DataW.trod enc Tryz.prog W' 0 spare true n' 65 [V] = some (d, p) := by
  rcases open_slice Tryz.underlying65 hf with ⟨e, ex⟩ | ⟨a, len0, cap0, m, n, D, Pl, e, _, hl, hm, hmm, ex, hx⟩
  · obtain rfl : V = .slice none 0 0 := by simpa using e
    obtain ⟨rfl, rfl⟩ := Prod.mk.inj ex
    refine ⟨none, 0, 0, [], rfl, by decide, ⟨rfl, Nat.le_refl _, fun h => absurd h (by decide)⟩, by simp, fun _ => by omega, fun spare W' _ _ => ⟨1, ?_⟩⟩
    simp [DataW.trod, Tryz.underlying65]
  · obtain rfl : V = .slice (some a) len0 cap0 := by simpa using e
    obtain ⟨rfl, rfl⟩ := Prod.mk.inj ex
    replace hmm : m = cap0 := by simpa using hmm
    subst hmm
    obtain ⟨f, hF⟩ := choose_lt (α := Run) (p := fun i q => (q.ok ∧ q.kind.size ≤ maxLen ∧ q.reason.size ≤ maxLen) ∧ W.cells? 0 (a.add (i * Tryz.prog.cellsOf 79)) (Tryz.prog.cellsOf 79) = some [.string q.name, .string q.kind, .int .i64 q.value, .string q.reason] ∧
        ∀ (w' : World) (sp : Nat → Bool), ∃ n', DataW.trod enc Tryz.prog w' 0 sp true n' 79 [.string q.name, .string q.kind, .int .i64 q.value, .string q.reason] = some (D i, Pl i)) (fun i hi => by
      obtain ⟨cs', h1, h2⟩ := hx i hi
      obtain ⟨q, rfl, z0, z1, z2, hh⟩ := run_flat h2
      exact ⟨q, ⟨z0, z1, z2⟩, h1, hh⟩)
    have hcell : ∀ i, i < m → ∀ j, j < 4 → W.cell? (a.add (i * 4 + j)) = ([.string (f i).name, .string (f i).kind, .int .i64 (f i).value, .string (f i).reason] : List Value)[j]? := fun i hi j hj => by
      obtain ⟨_, hh, _⟩ := hF i hi
      rw [cRunner] at hh
      obtain ⟨_, _, hat⟩ := World.cells?_some hh
      rw [← add_add]
      exact hat j hj
    have hblk : 0 < m → a.spot = none ∧ a.block < W.heap.size := fun h0 => by
      have := hcell 0 h0 0 (by decide)
      exact cell_some (a := a) this
    refine ⟨some a, len0, m, (List.range len0).map f, rfl, by have : maxLen = 9223372036854775807 := rfl; omega, ⟨by simp, Nat.le_refl _, fun h0 => ?_⟩, ?_, fun hq => ?wt, fun spare W' hsp hb => ?_⟩
    case wt =>
      rw [weights_slice Tryz.underlying65, bRunner] at hq
      have := hq _ (List.mem_cons_self ..)
      simp at this
      omega
    · obtain ⟨hs, hlt⟩ := hblk (by omega)
      obtain ⟨b, off, sp⟩ := a
      obtain rfl : sp = none := hs
      refine ⟨b, off, rfl, hlt, fun i q hq => ?_⟩
      have hi : i < len0 := by
        have := (List.getElem?_eq_some_iff.1 hq).1
        simpa using this
      obtain rfl : f i = q := by simpa [hi] using hq
      have h0 := hcell i (by omega) 0 (by decide)
      have h1 := hcell i (by omega) 1 (by decide)
      have h2 := hcell i (by omega) 2 (by decide)
      have h3 := hcell i (by omega) 3 (by decide)
      rw [add_plain] at h0 h1 h2 h3
      exact ⟨h0, h1, h2, h3⟩
    · intro q hq
      obtain ⟨i, hi, rfl⟩ := List.mem_map.1 hq
      obtain ⟨z0, _⟩ := hF i (by have := List.mem_range.1 hi; omega)
      exact z0
    · have hel : ∀ i, i < m → ∃ cs n, W'.cells? 0 (a.add (i * Tryz.prog.cellsOf 79)) (Tryz.prog.cellsOf 79) = some cs ∧ DataW.trod enc Tryz.prog W' 0 spare true n 79 cs = some (D i, Pl i) := fun i hi => by
        obtain ⟨_, hh, ht⟩ := hF i hi
        obtain ⟨n', hn'⟩ := ht W' spare
        refine ⟨_, n', ?_, hn'⟩
        obtain ⟨hs, hlt⟩ := hblk (by omega)
        obtain ⟨_, hlen, hat⟩ := World.cells?_some hh
        refine World.cells?_of_each (Nat.zero_le _) hlen fun j hj => ?_
        rw [← hat j hj]
        refine hb.cell ?_
        rw [add_add]
        unfold Addr.add
        split
        · exact hlt
        · exact hlt
      cases hs : spare a.block with
      | true => exact shut_slice_whole Tryz.underlying65 (Nat.zero_le _) hl hm hs D Pl hel
      | false =>
        have h0 : m = 0 := by
          refine Classical.byContradiction fun hne => ?_
          have := hsp a.block (hblk (by omega)).2
          rw [hs] at this
          cases this
        subst h0
        obtain rfl : len0 = 0 := by omega
        have := shut_slice (enc := enc) (w := W') (base := 0) (spare := spare) (held := true) Tryz.underlying65 (Nat.zero_le a.block) hl hm hs D Pl (fun i hi => absurd hi (by omega))
        obtain ⟨n', hn'⟩ := this
        exact ⟨n', by simpa [Value.cells] using hn'⟩

theorem open_heatsW {H : Type} {enc : TypeId × Value → H} {W : World} {v : Value} {d : DataW H} {p : List MemPlace} {b : Nat}
    (hv : Value.okWide Tryz.prog W .any b 58 v) (h : DataW.Trod enc Tryz.prog W 0 (fun _ => true) true 58 v d p) :
    ∃ (A : Option Addr) (n cap : Nat) (LL : List (List Run)), v = .slice A n cap ∧ (n : Int) ≤ 9223372036854775807 ∧ RHeats W W.heap.size A n LL ∧ (∀ l ∈ LL, ∀ x ∈ l, x.ok ∧ x.kind.size ≤ maxLen ∧ x.reason.size ≤ maxLen) ∧ ((∀ q ∈ DataW.weights Tryz.prog 58 d, q ≤ reachBytes) → n * 24 ≤ reachBytes ∧ ∀ l ∈ LL, l.length * 56 ≤ reachBytes) ∧
      ∀ (spare : Nat → Bool) (W' : World), (∀ q, q < W.heap.size → spare q = true) → Below W.heap.size W W' → DataW.Trod enc Tryz.prog W' 0 spare true 58 v d p := by
  obtain ⟨a0, len0, cap0, rfl⟩ := okWide_slice Tryz.underlying58 hv
  obtain ⟨fuel, hf⟩ := h
  replace hf : DataW.trod enc Tryz.prog W 0 (fun _ => true) true fuel 58 [.slice a0 len0 cap0] = some (d, p) := by simpa [Value.cells] using hf
  rcases open_slice1 Tryz.underlying58 cRunners hf with ⟨e, ex⟩ | ⟨a, len, cap, m, n, V, D, Pl, e, _, hl, hm, hmm, ex, hx⟩
  · obtain ⟨rfl, rfl, rfl⟩ : a0 = none ∧ len0 = 0 ∧ cap0 = 0 := by simpa using e
    obtain ⟨rfl, rfl⟩ := Prod.mk.inj ex
    refine ⟨none, 0, 0, [], rfl, by decide, ⟨rfl, Nat.le_refl _, fun h => absurd h (by decide)⟩, by simp, fun _ => ⟨by omega, by simp⟩, fun spare W' _ _ => ⟨1, ?_⟩⟩
    simp [DataW.trod, Value.cells, Tryz.underlying58]
  · obtain ⟨rfl, rfl, rfl⟩ : a0 = some a ∧ len0 = len ∧ cap0 = cap := by simpa using e
    obtain ⟨rfl, rfl⟩ := Prod.mk.inj ex
    replace hmm : m = cap0 := by simpa using hmm
    subst hmm
    obtain ⟨f, hF⟩ := choose_lt (α := Option Addr × Nat × List Run) (p := fun i q => V i = .slice q.1 q.2.2.length q.2.1 ∧ Runs W W.heap.size q.1 q.2.2.length q.2.2 ∧ (∀ x ∈ q.2.2, x.ok ∧ x.kind.size ≤ maxLen ∧ x.reason.size ≤ maxLen) ∧
        ((∀ q ∈ DataW.weights Tryz.prog 65 (D i), q ≤ reachBytes) → q.2.2.length * 56 ≤ reachBytes) ∧
        ∀ (spare : Nat → Bool) (W' : World), (∀ q, q < W.heap.size → spare q = true) → Below W.heap.size W W' → ∃ n', DataW.trod enc Tryz.prog W' 0 spare true n' 65 [V i] = some (D i, Pl i)) (fun i hi => by
      obtain ⟨_, h2⟩ := hx i hi
      obtain ⟨A, n', c', L, e1, _, hZ, hs, hq, hh⟩ := runs_cellsW h2
      have hn := hZ.1
      subst hn
      exact ⟨(A, c', L), e1, hZ, hs, hq, hh⟩)
    have hblk : 0 < m → a.spot = none ∧ a.block < W.heap.size := fun h0 => by
      have := (hx 0 h0).1
      exact cell_some (a := a) this
    refine ⟨some a, len0, m, (List.range len0).map fun i => (f i).2.2, rfl, by have : maxLen = 9223372036854775807 := rfl; omega, ⟨by simp, Nat.le_refl _, fun h0 => ?_⟩, ?_, fun hq => ?wt, fun spare W' hsp hb => ?_⟩
    case wt =>
      rw [weights_slice Tryz.underlying58, bRunners] at hq
      have h9 := hq _ (List.mem_cons_self ..)
      simp at h9
      refine ⟨by omega, fun l hl => ?_⟩
      obtain ⟨i, hi, rfl⟩ := List.mem_map.1 hl
      have hi' := List.mem_range.1 hi
      refine (hF i (by omega)).2.2.2.1 fun q hqq => hq q (List.mem_cons_of_mem _ (List.mem_append_left _ (weightsAll_mem (List.mem_map.2 ⟨i, hi, rfl⟩) q hqq)))
    · obtain ⟨hs, hlt⟩ := hblk (by omega)
      obtain ⟨b, off, sp⟩ := a
      obtain rfl : sp = none := hs
      refine ⟨b, off, rfl, hlt, fun i l hq => ?_⟩
      have hi : i < len0 := by
        have := (List.getElem?_eq_some_iff.1 hq).1
        simpa using this
      obtain rfl : (f i).2.2 = l := by simpa [hi] using hq
      obtain ⟨e1, hZ, _⟩ := hF i (by omega)
      have h0 := (hx i (by omega)).1
      rw [add_plain, e1] at h0
      exact ⟨(f i).1, (f i).2.1, h0, hZ⟩
    · intro l hl
      obtain ⟨i, hi, rfl⟩ := List.mem_map.1 hl
      exact (hF i (by have := List.mem_range.1 hi; omega)).2.2.1
    · have hcell : ∀ i, i < m → W'.cell? (a.add i) = some (V i) := fun i hi => by
        rw [← (hx i hi).1]
        exact hb.cell (by rw [block_add]; exact (hblk (by omega)).2)
      have hel : ∀ i, i < m → ∃ n', DataW.trod enc Tryz.prog W' 0 spare true n' 65 [V i] = some (D i, Pl i) := fun i hi => (hF i hi).2.2.2.2 spare W' hsp hb
      have hel2 : ∀ i, i < m → ∃ cs n, W'.cells? 0 (a.add (i * Tryz.prog.cellsOf 65)) (Tryz.prog.cellsOf 65) = some cs ∧ DataW.trod enc Tryz.prog W' 0 spare true n 65 cs = some (D i, Pl i) := fun i hi => by
        obtain ⟨n', hn'⟩ := hel i hi
        refine ⟨[V i], n', ?_, hn'⟩
        rw [cRunners, Nat.mul_one]
        refine World.cells?_of_each (Nat.zero_le _) rfl fun j hj => ?_
        have : j = 0 := by omega
        subst this
        have := hcell i hi
        simpa [Addr.add] using this
      cases hs : spare a.block with
      | true =>
        have := shut_slice_whole (enc := enc) (w := W') (base := 0) (spare := spare) (held := true) Tryz.underlying58 (Nat.zero_le a.block) hl hm hs D Pl hel2
        simpa [cRunners] using this
      | false =>
        have h0 : m = 0 := by
          refine Classical.byContradiction fun hne => ?_
          have := hsp a.block (hblk (by omega)).2
          rw [hs] at this
          cases this
        subst h0
        obtain rfl : len0 = 0 := by omega
        have := shut_slice (enc := enc) (w := W') (base := 0) (spare := spare) (held := true) Tryz.underlying58 (Nat.zero_le a.block) hl hm hs D Pl (fun i hi => absurd hi (by omega))
        simpa using this
end Go.Mk
end
section
set_option linter.unusedVariables false
set_option linter.unusedSimpArgs false
open Go Go.Proofs Go.RowKit
set_option maxRecDepth 100000
namespace Go.Mk
/-- The tables lie where they are laid. -/
def Tabs (w : World) : Prop := 13 ≤ w.heap.size ∧ ∀ y ∈ Snap.tabs, y.1 < 13 ∧ ∀ (i : Nat) (v : Value), y.2[i]? = some v → w.cell? ⟨y.1, i, none⟩ = some v ∧ Ev.plainN 0 v = true
theorem Tabs.below {w w' : World} {B : Nat} (h : Tabs w) (hb : Below B w w') (hB : 13 ≤ B) : Tabs w' :=
  ⟨by have := hb.size; have := h.1; omega, fun y hy => by
    obtain ⟨h1, h2⟩ := h.2 y hy
    refine ⟨h1, fun i v hv => ?_⟩
    obtain ⟨h3, h4⟩ := h2 i v hv
    exact ⟨(hb.cell (p := ⟨y.1, i, none⟩) (by show y.1 < B; omega)).trans h3, h4⟩⟩
theorem aw (w : World) (h : Tabs w) : Calls Tryz.prog 10 #[] w (RetPost (.bool true) w) := Snap.awake_any w h.1 h.2
def Yes (w : World) (e : Ending) (w' : World) : Prop := e = .returned (.bool true) ∧ Below w.heap.size w w'
/-- A world below which the law's own begins: what was there is there still. -/
theorem Tabs.grow {w w' : World} (h : Tabs w) (hb : Below w.heap.size w w') : Tabs w' := h.below hb h.1
end Go.Mk
end
section
set_option linter.unusedVariables false
set_option linter.unusedSimpArgs false
open Go Go.Proofs Go.RowKit Go.Sort
set_option maxRecDepth 100000
namespace Go.Mk
set_option maxHeartbeats 8000000 in
theorem l4runners_big (LL : List (List Run)) (n cap : Nat) (A : Option Addr) (B : Nat) (w : World) (hZ : RHeats w B A n LL) (hn : n * 24 ≤ 140737488351232) (hs : ∀ l ∈ LL, l.length * 56 ≤ 140737488351232) :
    Calls Tryz.prog 35 #[.slice A n cap] w (fun e w' => ∃ v, e = .returned v ∧ OwnHeats w' w.heap.size v LL ∧ Below w.heap.size w w') := by
  obtain ⟨i0, hi, hz0, hz1, hz2⟩ := info_parts infoRRun
  obtain ⟨i1, hj', hy0, hy1, hy2⟩ := info_parts infoRRuns
  have hni : (n : Int) ≤ 140737488351232 := by omega
  have HM : Hid (∀ w', Below w.heap.size w w' → RHeats w' B A n LL) := fun w' hb => hZ.below hb hZ.2.1
  have Hlen : Hid (LL.length = n) := hZ.1
  have HS := Lib.hid hs
  clear hZ hs
  go_enter Tryz.func35, Tryz.ntmps35
  go_wp2
  go_loopw [3, 4] (fun v i wr => ∃ (k : Nat) (P : List (List Run)), i = .int .i64 k ∧ k ≤ n ∧ P.length = k ∧ Hid (P ++ LL.drop k = LL) ∧ OwnHeats wr w.heap.size v P ∧ Below w.heap.size w wr) (fun _ i _ => n - (RowKit.intOf i).toNat)
  case atStart => exact ⟨0, [], rfl, by omega, rfl, Lib.hid rfl, ⟨[], rfl, World.ownsRow_nil _ _ _ _, fun i l h => by simp at h⟩, Below.refl _ _⟩
  case round =>
    obtain ⟨k, P, rfl, hk, hP, HK, hown, hb⟩ := hrel
    by_cases hlt : k < n
    · obtain ⟨b, off, l, A', c', rfl, hbl, hL, hc, hZl⟩ := (HM.out _ hb).at_ hlt
      have hst := HK.out
      rw [drop_cons hL] at hst
      have Hst : Hid ((P ++ [l]) ++ LL.drop (k + 1) = LL) := (show _ = _ by rw [List.append_assoc]; exact hst)
      have HL := Lib.hid hL
      have hki : (k : Int) < (n : Int) := by omega
      obtain ⟨m, hm⟩ : ∃ m, l.length = m := ⟨_, rfl⟩
      have hm1 := HS.out l (List.mem_of_getElem? hL)
      rw [hm] at hc hm1
      have Hm := Lib.hid hm
      have hmi : (m : Int) ≤ 140737488351232 := by omega
      obtain ⟨wy, hwy⟩ : ∃ wy : World, wy = wr := ⟨_, rfl⟩
      have HO : Hid (OwnHeats wy w.heap.size _ P) := (show OwnHeats _ _ _ _ by rw [hwy]; exact hown)
      have HB : Hid (Below w.heap.size w wy) := (show Below _ _ _ by rw [hwy]; exact hb)
      have HP := Lib.hid hP
      clear hst hL HK hZl hm hown
      go_wp2
      go_loopw [5, 6] (fun v i wx => ∃ (j : Nat) (Q : List Run), i = .int .i64 j ∧ j ≤ m ∧ Q.length = j ∧ Hid (Q ++ l.drop j = l) ∧ OwnRuns wx wy.heap.size v Q ∧ Below wy.heap.size wy wx) (fun _ i _ => m - (RowKit.intOf i).toNat)
      case atStart => exact ⟨0, [], rfl, by omega, rfl, Lib.hid rfl, World.ownsRow_nil _ _ _ _, by rw [hwy]; exact Below.refl _ _⟩
      case round =>
        obtain ⟨j, Q, rfl, hj, hQ, HJ, hownx, hbx⟩ := hrel
        have hbw : Below w.heap.size w wr := HB.out.trans (hbx.mono HB.out.size)
        clear hc hwy hb
        obtain ⟨b', off', l', A2, c2, hAq, _, hLq, hc2, hZ2⟩ := (HM.out _ hbw).at_ hlt
        cases hAq
        cases HL.out.symm.trans hLq
        rw [Hm.out] at hc2 hZ2
        by_cases hjm : j < m
        · obtain ⟨b2, off2, x, rfl, _, hx, c0, c1, c2', c3⟩ := hZ2.at_ hjm
          have hst := HJ.out
          rw [drop_cons hx] at hst
          have HJ2 : Hid ((Q ++ [x]) ++ l.drop (j + 1) = l) := (show _ = _ by rw [List.append_assoc]; exact hst)
          obtain ⟨nm, kd, v, r⟩ := x
          simp only at c0 c1 c2' c3
          have hji : (j : Int) < (m : Int) := by omega
          clear hst hx HJ hLq hZ2
          as_aux_lemma =>
            go_wp2_with (at_builtin; refine wpList_append_own _ rfl _ _ 67 rfl wy.heap.size 83 i0 (.agg #[.string ⟨#[]⟩, .string ⟨#[]⟩, .int .i64 0, .string ⟨#[]⟩]) 4 56 Tryz.underlying67 hi hz0 hz1 hz2 rfl (by decide) _ _ _ rfl (World.ownsRow.alloc hownx _) ⟨wr.heap.size, 0, none⟩ 1 1 (runC ⟨nm, kd, v, r⟩) rfl rfl ?c1 ?c2 ?c3 ?c4 ?c5 ?_)
            case c1 =>
              intro j u hj
              match j, hj with
              | 0, hj => simp [runC] at hj; subst hj; simp [Addr.add]
              | 1, hj => simp [runC] at hj; subst hj; simp [Addr.add]
              | 2, hj => simp [runC] at hj; subst hj; simp [Addr.add]
              | 3, hj => simp [runC] at hj; subst hj; simp [Addr.add]
            case c2 => intro u hu; simp [runC] at hu; rcases hu with rfl | rfl | rfl | rfl <;> rfl
            case c3 => unfold maxLen; omega
            case c4 => omega
            case c5 => have := hbx.size; simp; omega
            · intro v' w1 hown' hgrow _
              have hb1 : Below wy.heap.size wy w1 := (hbx.alloc hbx.size _).grown hgrow (by have := hbx.size; simp; omega) (fun r hr => (World.ownsRow.lt hownx r hr).1)
              have ho1 : OwnRuns w1 wy.heap.size v' (Q ++ [⟨nm, kd, v, r⟩]) := OwnRuns.next (by rw [hQ]; exact hown')
              clear hown' hgrow hownx
              go_wp2
              go_roundw
              case rel => exact ⟨j + 1, Q ++ [⟨nm, kd, v, r⟩], by go_num, by omega, by simp; omega, HJ2, ho1, hb1⟩
              case measure => simp [RowKit.intOf]; omega
        · have hz := HJ.out
          rw [List.drop_of_length_le (by rw [Hm.out]; omega), List.append_nil] at hz
          subst hz
          obtain ⟨vs, hvl, hvo, hvi⟩ := OwnHeats.below HO.out hbx
          have hP2 := HP.out
          have hu : OwnRuns wr w.heap.size _ Q := OwnRuns.low hownx HB.out.size
          rw [hP2] at hvo
          clear HJ hLq hZ2
          obtain ⟨ua, uc, rfl⟩ := hu.shape
          have HU := Lib.hid hu
          have HV := Lib.hid hvi
          obtain ⟨q, hq⟩ : ∃ q, Q.length = q := ⟨_, rfl⟩
          rw [hq] at hownx
          have HUQ : Hid (OwnRuns wr w.heap.size (.slice ua q uc) Q) := (show OwnRuns _ _ _ _ by rw [← hq]; exact hu)
          rw [hq]
          clear hu hvi HU hownx hq hQ
          as_aux_lemma =>
            go_wp2_with (at_builtin; refine wpList_append_own _ rfl _ _ 59 rfl w.heap.size 67 i1 (.slice none 0 0) 1 24 Tryz.underlying59 hj' hy0 hy1 hy2 rfl (by decide) _ _ _ rfl (World.ownsRow.alloc hvo _) ⟨wr.heap.size, 0, none⟩ 1 1 [.slice ua q uc] rfl rfl ?c1 ?c2 ?c3 ?c4 ?c5 ?_)
            case c1 =>
              intro j u hj
              match j, hj with
              | 0, hj => simp at hj; subst hj; simp [Addr.add]
            case c2 => intro u hu; simp at hu; subst hu; rfl
            case c3 => unfold maxLen; omega
            case c4 => omega
            case c5 => have := hbw.size; simp; omega
            · intro v' w1 hown' hgrow _
              have hb1 : Below w.heap.size w w1 := (hbw.alloc hbw.size _).grown hgrow (by have := hbw.size; simp; omega) (fun r hr => (World.ownsRow.lt hvo r hr).1)
              have ho1 : OwnHeats w1 w.heap.size v' (P ++ [Q]) := heats_next hvl (by rw [hP2]; exact World.ownsRow.alloc hvo _) (fun i l hl => by obtain ⟨u, h1, h2⟩ := HV.out i l hl; exact ⟨u, h1, World.ownsRow.alloc h2 _⟩) (World.ownsRow.alloc HUQ.out _) (by rw [hP2]; exact hown') hgrow
              clear hown' hgrow hvo
              go_wp2
              go_roundw
              case rel => exact ⟨k + 1, P ++ [Q], by go_num, by omega, by simp; omega, Hst, ho1, hb1⟩
              case measure => simp [RowKit.intOf]; omega
    · have hk2 : k = n := by omega
      have hz := HK.out
      rw [List.drop_of_length_le (by rw [Hlen.out]; omega), List.append_nil] at hz
      subst hz
      have HO := Lib.hid hown
      clear hown
      go_wp2
      go_ret
      exact ⟨_, rfl, HO.out, hb⟩
theorem OwnHeats.cap {w : World} {B : Nat} {A : Option Addr} {n c : Nat} {LL : List (List Run)} (h : OwnHeats w B (.slice A n c) LL) : n = LL.length ∧ n ≤ c ∧ c ≤ maxLen := by
  obtain ⟨vs, _, ho, _⟩ := h
  rcases ho.2 with ⟨hv, h0⟩ | ⟨g, cap, cur, hv, _, _, h1, h2, _⟩
  · cases hv
    exact ⟨h0.symm, Nat.le_refl _, Nat.zero_le _⟩
  · cases hv
    exact ⟨rfl, h1, h2⟩
/-- One heat of a list, as a list of its own. -/
theorem RHeats.one {w : World} {B n b off k : Nat} {LL : List (List Run)} {l : List Run} (h : RHeats w B (some ⟨b, off, none⟩) n LL) (hl : LL[k]? = some l) : RHeats w B (some ⟨b, off + k, none⟩) 1 [l] := by
  have hk : k < LL.length := (List.getElem?_eq_some_iff.1 hl).1
  refine ⟨rfl, h.2.1, fun _ => ?_⟩
  obtain ⟨b', off', e, hlt, hc⟩ := h.2.2 (by have := h.1; omega)
  cases e
  refine ⟨b, off + k, rfl, hlt, fun i q hq => ?_⟩
  have hi : i = 0 := by
    have := (List.getElem?_eq_some_iff.1 hq).1
    simpa using this
  subst hi
  simp at hq
  subst hq
  exact hc k l hl
end Go.Mk
end
section
set_option linter.unusedVariables false
set_option linter.unusedSimpArgs false
open Go Go.Proofs Go.RowKit Go.Sort
set_option maxRecDepth 100000
namespace Go.Mk
/-- What the reference's check of short heats says. -/
def shortH (LL : List (List Run)) : Bool := decide (LL.length ≤ 18) && LL.all shH
theorem short_any (LL : List (List Run)) (n cap : Nat) (A : Option Addr) (B : Nat) (w : World) (hZ : RHeats w B A n LL) (hm : (n : Int) ≤ 9223372036854775807) :
    Calls Tryz.prog 36 #[.slice A n cap] w (RetPost (.bool (shortH LL)) w) := by
  have hl := hZ.1
  by_cases h : n ≤ 18
  · rw [show shortH LL = LL.all shH by unfold shortH; rw [decide_eq_true (by omega), Bool.true_and]]
    exact r4ShortRunners_any LL n cap A B w hZ (by omega)
  · rw [show shortH LL = false by unfold shortH; rw [decide_eq_false (by omega), Bool.false_and]]
    exact r4ShortRunners_long n cap A w (by omega) hm
theorem shortH_yes {LL : List (List Run)} (h : shortH LL = true) : LL.length ≤ 18 ∧ ∀ l ∈ LL, l.length ≤ 162 ∧ (l.length ≤ 12 ∨ 160 < l.length) := by
  unfold shortH at h
  rw [Bool.and_eq_true] at h
  refine ⟨by simpa using h.1, fun l hl => ?_⟩
  have := List.all_eq_true.1 h.2 l hl
  unfold shH at this
  rw [Bool.and_eq_true] at this
  have h1 := this.1
  simp at h1
  omega
set_option maxHeartbeats 2000000 in
theorem places_exit (LL : List (List Run)) (n cap : Nat) (A : Option Addr) (B : Nat) (p t : Int) (w : World) (ht : Tabs w) (hZ : RHeats w B A n LL) (hn : n * 24 ≤ 140737488351232) (hs : ∀ l ∈ LL, l.length * 56 ≤ 140737488351232) (hx : shortH LL = false) :
    Calls Tryz.prog 5 #[.slice A n cap, .int .i64 p, .int .i64 t] w (Yes w) := by
  have hR := l4runners_big LL n cap A B w hZ hn hs
  have hn2 : (n : Int) ≤ 9223372036854775807 := by omega
  have hl := hZ.1
  clear hZ
  go_enter Tryz.func5, Tryz.ntmps5
  go_wp2_with fail
  refine hR.mono ?_
  rintro e w1 ⟨v, rfl, hO, hb1⟩
  obtain ⟨A1, c1, rfl, hR1⟩ := RHeats.of_own hO
  rw [hl] at hR1 ⊢
  have HS : Hid (∀ w', Below w1.heap.size w1 w' → Calls Tryz.prog 36 #[.slice A1 n c1] w' (RetPost (.bool false) w')) := fun w' hb => by
    have := short_any LL n c1 A1 _ w' (hR1.below hb (Nat.le_refl _)) hn2
    rwa [hx] at this
  have ht1 := ht.grow hb1
  clear hO hR1 hR ht
  go_wp2_with fail
  refine (aw _ ht1).mono ?_
  rintro e w2 ⟨rfl, hb2⟩
  have hS := HS.out _ hb2
  have hb12 := hb1.trans (hb2.mono hb1.size)
  clear HS
  go_wp2_with fail
  refine hS.mono ?_
  rintro e w3 ⟨rfl, hb3⟩
  have ht3 := ht1.grow (bstep hb2 hb3)
  have hb13 := hb12.trans (hb3.mono hb12.size)
  go_wp2_with fail
  refine (aw _ ht3).mono ?_
  rintro e w4 ⟨rfl, hb4⟩
  go_wp2
  go_ret
  exact ⟨rfl, hb13.trans (hb4.mono hb13.size)⟩
theorem chk_one {LL : List (List Run)} (h : chkRuns LL = 0) : LL.length ≤ 16 ∧ ∀ l ∈ LL, l.length ≤ 160 := by
  unfold chkRuns at h
  by_cases h1 : 16 < LL.length
  · rw [if_pos h1] at h; cases h
  · rw [if_neg h1] at h
    refine ⟨by omega, ?_⟩
    clear h1
    have key : ∀ (LL : List (List Run)) (P : List ByteArray), heatsE P LL = 0 → ∀ l ∈ LL, l.length ≤ 160 := by
      intro LL
      induction LL with
      | nil => intro P _ l hl; cases hl
      | cons x LL ih =>
        intro P hP l hl
        rw [heatsE] at hP
        by_cases h0 : heatE P x = 0
        · rw [if_pos h0] at hP
          rcases List.mem_cons.1 hl with rfl | h2
          · unfold heatE at h0
            by_cases h3 : 160 < l.length
            · rw [if_pos h3] at h0; cases h0
            · omega
          · exact ih _ hP l h2
        · rw [if_neg h0] at hP
          exact absurd hP h0
    exact key LL [] h
theorem flatten_le (m : Nat) : ∀ (LL : List (List Run)), (∀ l ∈ LL, l.length ≤ m) → LL.flatten.length ≤ m * LL.length
  | [], _ => by simp
  | l :: LL, h => by
    have h1 := h l (by simp)
    have h2 := flatten_le m LL (fun q hq => h q (by simp [hq]))
    rw [List.flatten_cons, List.length_append, List.length_cons, Nat.mul_add]
    omega
end Go.Mk
end
