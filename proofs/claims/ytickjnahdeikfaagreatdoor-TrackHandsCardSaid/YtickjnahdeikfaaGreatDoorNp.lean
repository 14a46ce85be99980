/-
  Proved: an argument []track.Exchange opened to the list of its places and times in their cells (nil: none), and shut again in any later world that has kept the cells below. Nothing is assumed beyond that the argument reads.
  Proved: the law's copy of a list of exchanges is a list of the reference's exchanges in new memory. Conditions: the exchanges lie where the slice says; they have at most as many bytes as memory.
-/
import Derived.Test.YtickjnahdeikfaaGreatDoorXy
import Derived.Test.YtickjnahdeikfaaGreatDoorYh
import Derived.ProofKit
section
set_option linter.unusedVariables false
set_option linter.unusedSimpArgs false
open Go Go.Proofs Go.RowKit
set_option maxRecDepth 100000
namespace Go.Mk
open Go.ChangeShapes Go.WideShapes Go.Deep Go.Joins
theorem list2E {α : Type} {l : List α} (h : l.length = 2) : ∃ a b, l = [a, b] := by
  match l, h with
  | [a, b], _ => exact ⟨a, b, rfl⟩
theorem bExch : Tryz.prog.bytesOf 68 = 16 := by kernel_rfl
theorem weights_sliceX {H : Type} {P : Program} {t e : TypeId} {l s : List (DataW H)} (ht : P.underlying t = some (.slice e)) : DataW.weights P t (.slice l s) = (l.length + s.length) * P.bytesOf e :: (DataW.weightsAll P e l ++ DataW.weightsAll P e s) := by
  simp only [DataW.weights, ht]
theorem cExch : Tryz.prog.cellsOf 68 = 2 := by kernel_rfl
theorem exch_flat {H : Type} {enc : TypeId × Value → H} {w : World} {base : Nat} {spare : Nat → Bool} {held : Bool} {n : Nat} {cs : List Value} {x : DataW H × List MemPlace}
    (h : DataW.trod enc Tryz.prog w base spare held n 68 cs = some x) :
    ∃ s v : Int, cs = [.int .i64 s, .int .i64 v] ∧ ∀ (w' : World) (sp : Nat → Bool), ∃ n', DataW.trod enc Tryz.prog w' base sp held n' 68 cs = some x := by
  obtain ⟨y0, y1, m, rfl, hl, h0, h1⟩ := trod_struct2 Tryz.underlying68 h
  obtain ⟨c0, c1, rfl⟩ := list2E (hl.trans cExch)
  replace h0 : DataW.trod enc Tryz.prog w base spare held m 3 [c0] = some y0 := by
    have := h0
    simp only [cIntX] at this
    exact this
  replace h1 : DataW.trod enc Tryz.prog w base spare held m 3 [c1] = some y1 := by
    have := h1
    simp only [cIntX] at this
    exact this
  obtain ⟨s, e0, rfl, z0⟩ := DataW.trod_int Tryz.underlying3 h0
  obtain ⟨v, e1, rfl, z1⟩ := DataW.trod_int Tryz.underlying3 h1
  obtain rfl : c0 = .int .i64 s := by simpa using e0
  obtain rfl : c1 = .int .i64 v := by simpa using e1
  refine ⟨s, v, rfl, fun w' sp => ?_⟩
  refine ⟨1 + 1, trod_struct2_mk Tryz.underlying68 hl ?_ ?_⟩
  · simp only [cIntX]
    exact trod_int_mk 0 Tryz.underlying3 z0
  · simp only [cIntX]
    exact trod_int_mk 0 Tryz.underlying3 z1

/-- The argument's cells, as a list of exchanges; and the argument reads the same later. -/
theorem open_exchs {H : Type} {enc : TypeId × Value → H} {W : World} {v : Value} {d : DataW H} {p : List MemPlace} {b : Nat}
    (hv : Value.okWide Tryz.prog W .any b 25 v) (h : DataW.Trod enc Tryz.prog W 0 (fun _ => true) true 25 v d p) :
    ∃ (A : Option Addr) (n cap : Nat) (L : List (Int × Int)), v = .slice A n cap ∧ (n : Int) ≤ 9223372036854775807 ∧ Pairs W A n L ∧ ((∀ q ∈ DataW.weights Tryz.prog 25 d, q ≤ reachBytes) → n * 16 ≤ reachBytes) ∧ (A = none → n = 0 ∧ cap = 0) ∧
      ∀ (spare : Nat → Bool) (W' : World), (∀ q, q < W.heap.size → spare q = true) → Below W.heap.size W W' → DataW.Trod enc Tryz.prog W' 0 spare true 25 v d p := by
  obtain ⟨a0, len0, cap0, rfl⟩ := okWide_slice Tryz.underlying25 hv
  obtain ⟨fuel, hf⟩ := h
  replace hf : DataW.trod enc Tryz.prog W 0 (fun _ => true) true fuel 25 [.slice a0 len0 cap0] = some (d, p) := by simpa [Value.cells] using hf
  rcases open_slice Tryz.underlying25 hf with ⟨e, ex⟩ | ⟨a, len, cap, m, n, D, Pl, e, _, hl, hm, hmm, ex, hx⟩
  · obtain ⟨rfl, rfl, rfl⟩ : a0 = none ∧ len0 = 0 ∧ cap0 = 0 := by simpa using e
    obtain ⟨rfl, rfl⟩ := Prod.mk.inj ex
    refine ⟨none, 0, 0, [], rfl, by decide, ⟨rfl, fun h => absurd h (by decide)⟩, fun _ => by omega, fun _ => ⟨rfl, rfl⟩, fun spare W' _ _ => ⟨1, ?_⟩⟩
    simp [DataW.trod, Value.cells, Tryz.underlying25]
  · obtain ⟨rfl, rfl, rfl⟩ : a0 = some a ∧ len0 = len ∧ cap0 = cap := by simpa using e
    obtain ⟨rfl, rfl⟩ := Prod.mk.inj ex
    replace hmm : m = cap0 := by simpa using hmm
    subst hmm
    obtain ⟨f, hF⟩ := choose_lt (α := Int × Int) (p := fun i q => W.cells? 0 (a.add (i * Tryz.prog.cellsOf 68)) (Tryz.prog.cellsOf 68) = some [.int .i64 q.1, .int .i64 q.2] ∧
        ∀ (w' : World) (sp : Nat → Bool), ∃ n', DataW.trod enc Tryz.prog w' 0 sp true n' 68 [.int .i64 q.1, .int .i64 q.2] = some (D i, Pl i)) (fun i hi => by
      obtain ⟨cs', h1, h2⟩ := hx i hi
      obtain ⟨s, v, rfl, hh⟩ := exch_flat h2
      exact ⟨(s, v), h1, hh⟩)
    have hcell : ∀ i, i < m → ∀ j, j < 2 → W.cell? (a.add (i * 2 + j)) = ([.int .i64 (f i).1, .int .i64 (f i).2] : List Value)[j]? := fun i hi j hj => by
      obtain ⟨hh, _⟩ := hF i hi
      rw [cExch] at hh
      obtain ⟨_, _, hat⟩ := World.cells?_some hh
      rw [← add_add]
      exact hat j hj
    have hblk : 0 < m → a.spot = none ∧ a.block < W.heap.size := fun h0 => by
      have := hcell 0 h0 0 (by decide)
      exact cell_someX (a := a) this
    refine ⟨some a, len0, m, (List.range len0).map f, rfl, by have : maxLen = 9223372036854775807 := rfl; omega, ⟨by simp, fun h0 => ?_⟩, fun hq => ?wt, (fun q => nomatch q), fun spare W' hsp hb => ?_⟩
    case wt =>
      rw [weights_sliceX Tryz.underlying25, bExch] at hq
      have := hq _ (List.mem_cons_self ..)
      simp at this
      omega
    · obtain ⟨hs, hlt⟩ := hblk (by omega)
      obtain ⟨b, off, sp⟩ := a
      obtain rfl : sp = none := hs
      refine ⟨b, off, rfl, hlt, fun i q hq => ?_⟩
      have hi : i < len0 := by
        have := (List.getElem?_eq_some_iff.1 hq).1
        simpa using this
      obtain rfl : f i = q := by simpa [hi] using hq
      have h0 := hcell i (by omega) 0 (by decide)
      have h1 := hcell i (by omega) 1 (by decide)
      rw [add_plain] at h0 h1
      exact ⟨h0, h1⟩
    · have hel : ∀ i, i < m → ∃ cs n, W'.cells? 0 (a.add (i * Tryz.prog.cellsOf 68)) (Tryz.prog.cellsOf 68) = some cs ∧ DataW.trod enc Tryz.prog W' 0 spare true n 68 cs = some (D i, Pl i) := fun i hi => by
        obtain ⟨hh, ht⟩ := hF i hi
        obtain ⟨n', hn'⟩ := ht W' spare
        refine ⟨_, n', ?_, hn'⟩
        obtain ⟨hs, hlt⟩ := hblk (by omega)
        obtain ⟨_, hlen, hat⟩ := World.cells?_some hh
        refine World.cells?_of_each (Nat.zero_le _) hlen fun j hj => ?_
        rw [← hat j hj]
        refine hb.cell ?_
        rw [add_add]
        unfold Addr.add
        split
        · exact hlt
        · exact hlt
      cases hs : spare a.block with
      | true => exact shut_slice_whole Tryz.underlying25 (Nat.zero_le _) hl hm hs D Pl hel
      | false =>
        have h0 : m = 0 := by
          refine Classical.byContradiction fun hne => ?_
          have := hsp a.block (hblk (by omega)).2
          rw [hs] at this
          cases this
        subst h0
        obtain rfl : len0 = 0 := by omega
        have := shut_slice (enc := enc) (w := W') (base := 0) (spare := spare) (held := true) Tryz.underlying25 (Nat.zero_le a.block) hl hm hs D Pl (fun i hi => absurd hi (by omega))
        simpa using this
end Go.Mk
end
section
set_option linter.unusedVariables false
set_option linter.unusedSimpArgs false
open Go Go.Proofs Go.RowKit
set_option maxRecDepth 100000
namespace Go.Mk
theorem infoREx : (Tryz.prog.info? 77).map (fun i => (i.zero, i.size, i.bytes)) = some (some (.agg #[.int .i64 0, .int .i64 0]), 2, 16) := by kernel_rfl
/-- The reference's exchanges in new memory. -/
def OwnEx (w : World) (B : Nat) (v : Value) (L : List (Int × Int)) : Prop := w.ownsRow B 77 2 v L.length (L.flatMap pairC)
theorem OwnEx.next {w1 : World} {B : Nat} {v' : Value} {L : List (Int × Int)} {r : Int × Int} (h : w1.ownsRow B 77 2 v' (L.length + 1) (L.flatMap pairC ++ pairC r)) : OwnEx w1 B v' (L ++ [r]) := by
  unfold OwnEx
  rw [List.length_append, List.flatMap_append]
  simpa using h
set_option maxHeartbeats 4000000 in
theorem exchanges_any (L : List (Int × Int)) (n cap : Nat) (A : Option Addr) (w : World) (hZ : Pairs w A n L) (hn : n * 16 ≤ 140737488355328) :
    Calls Tryz.prog 7 #[.slice A n cap] w (fun e w' => ∃ v, e = .returned v ∧ OwnEx w' w.heap.size v L ∧ Below w.heap.size w w') := by
  have hni : (n : Int) ≤ 8796093022208 := by omega
  obtain ⟨i0, hi, he⟩ := Option.map_eq_some_iff.1 infoREx
  simp only [Prod.mk.injEq] at he
  obtain ⟨hz0, hz1, hz2⟩ := he
  have H := Lib.hid hZ
  have HL := Lib.hid hZ.1
  have hnn : n ≤ 8796093022208 := by omega
  clear hZ hn
  go_enter Tryz.func7, Tryz.ntmps7
  go_wp2
  go_loopw [3, 8] (fun v i wr => ∃ k : Nat, k ≤ n ∧ i = .int .i64 k ∧ OwnEx wr w.heap.size v (L.take k) ∧ Below w.heap.size w wr) (fun _ i _ => n - (intOf i).toNat)
  case atStart => exact ⟨0, by omega, rfl, World.ownsRow_nil _ _ _ _, Below.refl _ _⟩
  case round =>
    obtain ⟨k, hk, rfl, hown, hb⟩ := hrel
    by_cases hlt : k < n
    · obtain ⟨b', off, q, rfl, hbl, hx, hc0, hc1⟩ := (H.out.below hb).at_ hlt
      have hki : (k : Int) < (n : Int) := by omega
      have hk0 : (0 : Int) ≤ (k : Int) := by omega
      have hkt : ((k : Int)).toNat = k := by omega
      have hlen : (L.take k).length = k := by rw [List.length_take, HL.out]; omega
      have hst : L.take (k + 1) = L.take k ++ [q] := by rw [List.take_add_one, hx]; rfl
      have Hst := Lib.hid hst
      have Hlen := Lib.hid hlen
      clear hst hlen hx
      go_wp2_with (at_builtin; refine wpList_append_own _ rfl _ _ 27 rfl w.heap.size 77 i0 (.agg #[.int .i64 0, .int .i64 0]) 2 16 Tryz.underlying27 hi hz0 hz1 hz2 rfl (by decide) _ _ _ rfl (World.ownsRow.alloc (World.ownsRow.alloc hown _) _) ⟨wr.heap.size + 1, 0, none⟩ 1 1 (pairC q) rfl rfl ?c1 ?c2 ?c3 ?c4 ?c5 ?_)
      case c1 =>
        intro j u hj
        match j, hj with
        | 0, hj => simp [pairC] at hj; subst hj; simp [Addr.add]
        | 1, hj => simp [pairC] at hj; subst hj; simp [Addr.add]
      case c2 => intro u hu; simp [pairC] at hu; rcases hu with rfl | rfl <;> rfl
      case c3 => unfold maxLen; have := Hlen.out; omega
      case c4 => have := Hlen.out; omega
      case c5 => have := hb.size; simp; omega
      intro v' w2 hown' hgrow _
      have hb2 : Below w.heap.size w w2 := ((hb.alloc hb.size _).alloc (by have := hb.size; simp; omega) _).grown hgrow (by have := hb.size; simp; omega) (fun r hr => (World.ownsRow.lt hown r hr).1)
      have ho2 : OwnEx w2 w.heap.size v' (L.take (k + 1)) := by rw [Hst.out]; exact OwnEx.next (by rw [List.length_take]; exact hown')
      clear hown' hgrow hown hb
      go_wp2
      go_roundw
      case rel => exact ⟨k + 1, by omega, by go_num, ho2, hb2⟩
      case measure => simp [intOf]; omega
    · have hkn : k = n := by omega
      rw [hkn, List.take_of_length_le (by rw [HL.out]; omega)] at hown
      have HO := Lib.hid hown
      clear hown
      go_wp2
      go_ret
      exact ⟨_, rfl, HO.out, hb⟩
end Go.Mk
end
