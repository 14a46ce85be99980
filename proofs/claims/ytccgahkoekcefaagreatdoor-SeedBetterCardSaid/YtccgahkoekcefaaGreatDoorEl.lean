/-
  Proved: an argument []seed.Entrant opened to the list of its entrants in their cells (nil: none), and shut again in any later world that has kept the cells below. Nothing is assumed beyond that the argument reads.
  Proved: an argument []seed.Entrant opened to the list of its entrants in their cells, with what the form's reach says of its length; the law's own copies it, of any length within the reach. Nothing is assumed beyond that the argument reads.
-/
import Derived.Test.YtccgahkoekcefaaGreatDoorEe
import Derived.Deep.Slices
import Derived.Deep.Strs
import Derived.DataShut
import Derived.Test.YtccgahkoekcefaaGreatDoorEn
import Derived.ProofKit
section
set_option linter.unusedVariables false
set_option linter.unusedSimpArgs false
open Go Go.Proofs Go.RowKit
set_option maxRecDepth 100000
namespace Go.Mk
open Go.ChangeShapes Go.WideShapes Go.Deep
theorem list3 {α : Type} {l : List α} (h : l.length = 3) : ∃ a b c, l = [a, b, c] := by
  match l, h with
  | [a, b, c], _ => exact ⟨a, b, c, rfl⟩
theorem cMark : Tryz.prog.cellsOf 63 = 3 := by kernel_rfl
theorem cString : Tryz.prog.cellsOf 9 = 1 := by kernel_rfl
theorem cInt : Tryz.prog.cellsOf 3 = 1 := by kernel_rfl
instance : Inhabited Ent := ⟨⟨⟨#[]⟩, ⟨#[]⟩, ⟨#[]⟩, 0, ⟨#[]⟩⟩⟩
theorem list5 {α : Type} {l : List α} (h : l.length = 5) : ∃ a b c d e, l = [a, b, c, d, e] := by
  match l, h with
  | [a, b, c, d, e], _ => exact ⟨a, b, c, d, e, rfl⟩
theorem cEntrant : Tryz.prog.cellsOf 65 = 5 := by kernel_rfl
theorem mark_flat {H : Type} {enc : TypeId × Value → H} {w : World} {base : Nat} {spare : Nat → Bool} {held : Bool} {n : Nat} {cs : List Value} {x : DataW H × List MemPlace}
    (h : DataW.trod enc Tryz.prog w base spare held n 63 cs = some x) :
    ∃ (s r : ByteArray) (v : Int), cs = [.string s, .int .i64 v, .string r] ∧ s.size ≤ maxLen ∧ r.size ≤ maxLen ∧ ∀ (w' : World) (sp : Nat → Bool), ∃ n', DataW.trod enc Tryz.prog w' base sp held n' 63 cs = some x := by
  obtain ⟨y0, y1, y2, m, rfl, hl, h0, h1, h2⟩ := trod_struct3 Tryz.underlying63 h
  obtain ⟨c0, c1, c2, rfl⟩ := list3 (hl.trans cMark)
  replace h0 : DataW.trod enc Tryz.prog w base spare held m 9 [c0] = some y0 := by
    have := h0
    simp only [cString] at this
    exact this
  replace h1 : DataW.trod enc Tryz.prog w base spare held m 3 [c1] = some y1 := by
    have := h1
    simp only [cInt] at this
    exact this
  replace h2 : DataW.trod enc Tryz.prog w base spare held m 9 [c2] = some y2 := by
    have := h2
    simp only [cString] at this
    exact this
  obtain ⟨s, e0, rfl, z0⟩ := DataW.trod_string Tryz.underlying9 h0
  obtain ⟨v, e1, rfl, z1⟩ := DataW.trod_int Tryz.underlying3 h1
  obtain ⟨r, e2, rfl, z2⟩ := DataW.trod_string Tryz.underlying9 h2
  obtain rfl : c0 = .string s := by simpa using e0
  obtain rfl : c1 = .int .i64 v := by simpa using e1
  obtain rfl : c2 = .string r := by simpa using e2
  refine ⟨s, r, v, rfl, z0, z2, fun w' sp => ?_⟩
  have st : ∀ {t : ByteArray}, t.size ≤ maxLen → DataW.trod enc Tryz.prog w' base sp held 1 9 [.string t] = some (.lit (.string t.data.toList), []) := fun hz => by
    simp [DataW.trod, Tryz.underlying9, hz]
  refine ⟨1 + 1, trod_struct3_mk Tryz.underlying63 hl ?_ ?_ ?_⟩
  · simp only [cString]
    exact st z0
  · simp only [cInt]
    exact trod_int_mk 0 Tryz.underlying3 z1
  · simp only [cString]
    exact st z2

theorem cell_some {w : World} {a : Addr} {v : Value} (h : w.cell? a = some v) : a.spot = none ∧ a.block < w.heap.size := by
  unfold World.cell? at h
  split at h
  case h_1 c x y e =>
    split at h
    · cases h
    · rename_i hs
      exact ⟨by simpa using hs, (Array.getElem?_eq_some_iff.1 e).1⟩
  case h_2 => cases h

theorem ent_flat {H : Type} {enc : TypeId × Value → H} {w : World} {base : Nat} {spare : Nat → Bool} {held : Bool} {n : Nat} {cs : List Value} {x : DataW H × List MemPlace}
    (h : DataW.trod enc Tryz.prog w base spare held n 65 cs = some x) :
    ∃ q : Ent, cs = [.string q.name, .string q.club, .string q.kind, .int .i64 q.value, .string q.reason] ∧ q.ok ∧ q.kind.size ≤ maxLen ∧ q.reason.size ≤ maxLen ∧ ∀ (w' : World) (sp : Nat → Bool), ∃ n', DataW.trod enc Tryz.prog w' base sp held n' 65 cs = some x := by
  obtain ⟨y0, y1, y2, m, rfl, hl, h0, h1, h2⟩ := trod_struct3 Tryz.underlying65 h
  obtain ⟨c0, c1, c2, c3, c4, rfl⟩ := list5 (hl.trans cEntrant)
  replace h0 : DataW.trod enc Tryz.prog w base spare held m 9 [c0] = some y0 := by
    have := h0
    simp only [cString] at this
    exact this
  replace h1 : DataW.trod enc Tryz.prog w base spare held m 9 [c1] = some y1 := by
    have := h1
    simp only [cString] at this
    exact this
  replace h2 : DataW.trod enc Tryz.prog w base spare held m 63 [c2, c3, c4] = some y2 := by
    have := h2
    simp only [cMark] at this
    exact this
  obtain ⟨s, e0, rfl, z0⟩ := DataW.trod_string Tryz.underlying9 h0
  obtain ⟨t, e1, rfl, z1⟩ := DataW.trod_string Tryz.underlying9 h1
  obtain ⟨k, r, v, e2, z2, z3, hm⟩ := mark_flat h2
  obtain rfl : c0 = .string s := by simpa using e0
  obtain rfl : c1 = .string t := by simpa using e1
  obtain ⟨rfl, rfl, rfl⟩ : c2 = .string k ∧ c3 = .int .i64 v ∧ c4 = .string r := by simpa using e2
  refine ⟨⟨s, t, k, v, r⟩, rfl, ⟨z0, z1⟩, z2, z3, fun w' sp => ?_⟩
  obtain ⟨n', hn'⟩ := hm w' sp
  have st : ∀ {t : ByteArray} (f : Nat), t.size ≤ maxLen → DataW.trod enc Tryz.prog w' base sp held (f + 1) 9 [.string t] = some (.lit (.string t.data.toList), []) := fun f hz => by
    simp [DataW.trod, Tryz.underlying9, hz]
  have hn2 := DataW.trod_le (Nat.le_succ n') hn'
  refine ⟨n' + 1 + 1, trod_struct3_mk Tryz.underlying65 hl ?_ ?_ ?_⟩
  · simp only [cString]
    exact st _ z0
  · simp only [cString]
    exact st _ z1
  · simp only [cMark]
    exact hn2

theorem open_ents {H : Type} {enc : TypeId × Value → H} {W : World} {v : Value} {d : DataW H} {p : List MemPlace} {b : Nat}
    (hv : Value.okWide Tryz.prog W .any b 22 v) (h : DataW.Trod enc Tryz.prog W 0 (fun _ => true) true 22 v d p) :
    ∃ (A : Option Addr) (n cap : Nat) (L : List Ent), v = .slice A n cap ∧ (n : Int) ≤ 9223372036854775807 ∧ Ents W W.heap.size A n L ∧ (∀ x ∈ L, x.ok ∧ x.kind.size ≤ maxLen ∧ x.reason.size ≤ maxLen) ∧
      ∀ (spare : Nat → Bool) (W' : World), (∀ q, q < W.heap.size → spare q = true) → Below W.heap.size W W' → DataW.Trod enc Tryz.prog W' 0 spare true 22 v d p := by
  obtain ⟨a0, len0, cap0, rfl⟩ := okWide_slice Tryz.underlying22 hv
  obtain ⟨fuel, hf⟩ := h
  replace hf : DataW.trod enc Tryz.prog W 0 (fun _ => true) true fuel 22 [.slice a0 len0 cap0] = some (d, p) := by simpa [Value.cells] using hf
  rcases open_slice Tryz.underlying22 hf with ⟨e, ex⟩ | ⟨a, len, cap, m, n, D, Pl, e, _, hl, hm, hmm, ex, hx⟩
  · obtain ⟨rfl, rfl, rfl⟩ : a0 = none ∧ len0 = 0 ∧ cap0 = 0 := by simpa using e
    obtain ⟨rfl, rfl⟩ := Prod.mk.inj ex
    refine ⟨none, 0, 0, [], rfl, by decide, ⟨rfl, Nat.le_refl _, fun h => absurd h (by decide)⟩, by simp, fun spare W' _ _ => ⟨1, ?_⟩⟩
    simp [DataW.trod, Value.cells, Tryz.underlying22]
  · obtain ⟨rfl, rfl, rfl⟩ : a0 = some a ∧ len0 = len ∧ cap0 = cap := by simpa using e
    obtain ⟨rfl, rfl⟩ := Prod.mk.inj ex
    replace hmm : m = cap0 := by simpa using hmm
    subst hmm
    obtain ⟨f, hF⟩ := choose_lt (α := Ent) (p := fun i q => (q.ok ∧ q.kind.size ≤ maxLen ∧ q.reason.size ≤ maxLen) ∧ W.cells? 0 (a.add (i * Tryz.prog.cellsOf 65)) (Tryz.prog.cellsOf 65) = some [.string q.name, .string q.club, .string q.kind, .int .i64 q.value, .string q.reason] ∧
        ∀ (w' : World) (sp : Nat → Bool), ∃ n', DataW.trod enc Tryz.prog w' 0 sp true n' 65 [.string q.name, .string q.club, .string q.kind, .int .i64 q.value, .string q.reason] = some (D i, Pl i)) (fun i hi => by
      obtain ⟨cs', h1, h2⟩ := hx i hi
      obtain ⟨q, rfl, z0, z1, z2, hh⟩ := ent_flat h2
      exact ⟨q, ⟨z0, z1, z2⟩, h1, hh⟩)
    have hcell : ∀ i, i < m → ∀ j, j < 5 → W.cell? (a.add (i * 5 + j)) = ([.string (f i).name, .string (f i).club, .string (f i).kind, .int .i64 (f i).value, .string (f i).reason] : List Value)[j]? := fun i hi j hj => by
      obtain ⟨_, hh, _⟩ := hF i hi
      rw [cEntrant] at hh
      obtain ⟨_, _, hat⟩ := World.cells?_some hh
      rw [← add_add]
      exact hat j hj
    have hblk : 0 < m → a.spot = none ∧ a.block < W.heap.size := fun h0 => by
      have := hcell 0 h0 0 (by decide)
      exact cell_some (a := a) this
    refine ⟨some a, len0, m, (List.range len0).map f, rfl, by have : maxLen = 9223372036854775807 := rfl; omega, ⟨by simp, Nat.le_refl _, fun h0 => ?_⟩, ?_, fun spare W' hsp hb => ?_⟩
    · obtain ⟨hs, hlt⟩ := hblk (by omega)
      obtain ⟨b, off, sp⟩ := a
      obtain rfl : sp = none := hs
      refine ⟨b, off, rfl, hlt, fun i q hq => ?_⟩
      have hi : i < len0 := by
        have := (List.getElem?_eq_some_iff.1 hq).1
        simpa using this
      obtain rfl : f i = q := by simpa [hi] using hq
      have h0 := hcell i (by omega) 0 (by decide)
      have h1 := hcell i (by omega) 1 (by decide)
      have h2 := hcell i (by omega) 2 (by decide)
      have h3 := hcell i (by omega) 3 (by decide)
      have h4 := hcell i (by omega) 4 (by decide)
      rw [add_plain] at h0 h1 h2 h3 h4
      exact ⟨h0, h1, h2, h3, h4⟩
    · intro q hq
      obtain ⟨i, hi, rfl⟩ := List.mem_map.1 hq
      obtain ⟨z0, _⟩ := hF i (by have := List.mem_range.1 hi; omega)
      exact z0
    · have hel : ∀ i, i < m → ∃ cs n, W'.cells? 0 (a.add (i * Tryz.prog.cellsOf 65)) (Tryz.prog.cellsOf 65) = some cs ∧ DataW.trod enc Tryz.prog W' 0 spare true n 65 cs = some (D i, Pl i) := fun i hi => by
        obtain ⟨_, hh, ht⟩ := hF i hi
        obtain ⟨n', hn'⟩ := ht W' spare
        refine ⟨_, n', ?_, hn'⟩
        obtain ⟨hs, hlt⟩ := hblk (by omega)
        obtain ⟨_, hlen, hat⟩ := World.cells?_some hh
        refine World.cells?_of_each (Nat.zero_le _) hlen fun j hj => ?_
        rw [← hat j hj]
        refine hb.cell ?_
        rw [add_add]
        unfold Addr.add
        split
        · exact hlt
        · exact hlt
      cases hs : spare a.block with
      | true => exact shut_slice_whole Tryz.underlying22 (Nat.zero_le _) hl hm hs D Pl hel
      | false =>
        have h0 : m = 0 := by
          refine Classical.byContradiction fun hne => ?_
          have := hsp a.block (hblk (by omega)).2
          rw [hs] at this
          cases this
        subst h0
        obtain rfl : len0 = 0 := by omega
        have := shut_slice (enc := enc) (w := W') (base := 0) (spare := spare) (held := true) Tryz.underlying22 (Nat.zero_le a.block) hl hm hs D Pl (fun i hi => absurd hi (by omega))
        simpa using this

end Go.Mk
end
section
set_option linter.unusedVariables false
set_option linter.unusedSimpArgs false
open Go Go.Proofs Go.RowKit
set_option maxRecDepth 100000
namespace Go.Mk
open Go.ChangeShapes Go.WideShapes Go.Deep
theorem bEntrant : Tryz.prog.bytesOf 65 = 72 := by kernel_rfl
theorem weights_sliceE {H : Type} {P : Program} {t e : TypeId} {l s : List (DataW H)} (ht : P.underlying t = some (.slice e)) : DataW.weights P t (.slice l s) = (l.length + s.length) * P.bytesOf e :: (DataW.weightsAll P e l ++ DataW.weightsAll P e s) := by
  simp only [DataW.weights, ht]
theorem open_entsW {H : Type} {enc : TypeId × Value → H} {W : World} {v : Value} {d : DataW H} {p : List MemPlace} {b : Nat}
    (hv : Value.okWide Tryz.prog W .any b 22 v) (h : DataW.Trod enc Tryz.prog W 0 (fun _ => true) true 22 v d p) :
    ∃ (A : Option Addr) (n cap : Nat) (L : List Ent), v = .slice A n cap ∧ (n : Int) ≤ 9223372036854775807 ∧ Ents W W.heap.size A n L ∧ (∀ x ∈ L, x.ok ∧ x.kind.size ≤ maxLen ∧ x.reason.size ≤ maxLen) ∧ ((∀ q ∈ DataW.weights Tryz.prog 22 d, q ≤ reachBytes) → n * 72 ≤ reachBytes) ∧
      ∀ (spare : Nat → Bool) (W' : World), (∀ q, q < W.heap.size → spare q = true) → Below W.heap.size W W' → DataW.Trod enc Tryz.prog W' 0 spare true 22 v d p := by
  obtain ⟨a0, len0, cap0, rfl⟩ := okWide_slice Tryz.underlying22 hv
  obtain ⟨fuel, hf⟩ := h
  replace hf : DataW.trod enc Tryz.prog W 0 (fun _ => true) true fuel 22 [.slice a0 len0 cap0] = some (d, p) := by simpa [Value.cells] using hf
  rcases open_slice Tryz.underlying22 hf with ⟨e, ex⟩ | ⟨a, len, cap, m, n, D, Pl, e, _, hl, hm, hmm, ex, hx⟩
  · obtain ⟨rfl, rfl, rfl⟩ : a0 = none ∧ len0 = 0 ∧ cap0 = 0 := by simpa using e
    obtain ⟨rfl, rfl⟩ := Prod.mk.inj ex
    refine ⟨none, 0, 0, [], rfl, by decide, ⟨rfl, Nat.le_refl _, fun h => absurd h (by decide)⟩, by simp, fun _ => by omega, fun spare W' _ _ => ⟨1, ?_⟩⟩
    simp [DataW.trod, Value.cells, Tryz.underlying22]
  · obtain ⟨rfl, rfl, rfl⟩ : a0 = some a ∧ len0 = len ∧ cap0 = cap := by simpa using e
    obtain ⟨rfl, rfl⟩ := Prod.mk.inj ex
    replace hmm : m = cap0 := by simpa using hmm
    subst hmm
    obtain ⟨f, hF⟩ := choose_lt (α := Ent) (p := fun i q => (q.ok ∧ q.kind.size ≤ maxLen ∧ q.reason.size ≤ maxLen) ∧ W.cells? 0 (a.add (i * Tryz.prog.cellsOf 65)) (Tryz.prog.cellsOf 65) = some [.string q.name, .string q.club, .string q.kind, .int .i64 q.value, .string q.reason] ∧
        ∀ (w' : World) (sp : Nat → Bool), ∃ n', DataW.trod enc Tryz.prog w' 0 sp true n' 65 [.string q.name, .string q.club, .string q.kind, .int .i64 q.value, .string q.reason] = some (D i, Pl i)) (fun i hi => by
      obtain ⟨cs', h1, h2⟩ := hx i hi
      obtain ⟨q, rfl, z0, z1, z2, hh⟩ := ent_flat h2
      exact ⟨q, ⟨z0, z1, z2⟩, h1, hh⟩)
    have hcell : ∀ i, i < m → ∀ j, j < 5 → W.cell? (a.add (i * 5 + j)) = ([.string (f i).name, .string (f i).club, .string (f i).kind, .int .i64 (f i).value, .string (f i).reason] : List Value)[j]? := fun i hi j hj => by
      obtain ⟨_, hh, _⟩ := hF i hi
      rw [cEntrant] at hh
      obtain ⟨_, _, hat⟩ := World.cells?_some hh
      rw [← add_add]
      exact hat j hj
    have hblk : 0 < m → a.spot = none ∧ a.block < W.heap.size := fun h0 => by
      have := hcell 0 h0 0 (by decide)
      exact cell_some (a := a) this
    refine ⟨some a, len0, m, (List.range len0).map f, rfl, by have : maxLen = 9223372036854775807 := rfl; omega, ⟨by simp, Nat.le_refl _, fun h0 => ?_⟩, ?_, fun hq => ?wt, fun spare W' hsp hb => ?_⟩
    case wt =>
      rw [weights_sliceE Tryz.underlying22, bEntrant] at hq
      have := hq _ (List.mem_cons_self ..)
      simp at this
      omega
    · obtain ⟨hs, hlt⟩ := hblk (by omega)
      obtain ⟨b, off, sp⟩ := a
      obtain rfl : sp = none := hs
      refine ⟨b, off, rfl, hlt, fun i q hq => ?_⟩
      have hi : i < len0 := by
        have := (List.getElem?_eq_some_iff.1 hq).1
        simpa using this
      obtain rfl : f i = q := by simpa [hi] using hq
      have h0 := hcell i (by omega) 0 (by decide)
      have h1 := hcell i (by omega) 1 (by decide)
      have h2 := hcell i (by omega) 2 (by decide)
      have h3 := hcell i (by omega) 3 (by decide)
      have h4 := hcell i (by omega) 4 (by decide)
      rw [add_plain] at h0 h1 h2 h3 h4
      exact ⟨h0, h1, h2, h3, h4⟩
    · intro q hq
      obtain ⟨i, hi, rfl⟩ := List.mem_map.1 hq
      obtain ⟨z0, _⟩ := hF i (by have := List.mem_range.1 hi; omega)
      exact z0
    · have hel : ∀ i, i < m → ∃ cs n, W'.cells? 0 (a.add (i * Tryz.prog.cellsOf 65)) (Tryz.prog.cellsOf 65) = some cs ∧ DataW.trod enc Tryz.prog W' 0 spare true n 65 cs = some (D i, Pl i) := fun i hi => by
        obtain ⟨_, hh, ht⟩ := hF i hi
        obtain ⟨n', hn'⟩ := ht W' spare
        refine ⟨_, n', ?_, hn'⟩
        obtain ⟨hs, hlt⟩ := hblk (by omega)
        obtain ⟨_, hlen, hat⟩ := World.cells?_some hh
        refine World.cells?_of_each (Nat.zero_le _) hlen fun j hj => ?_
        rw [← hat j hj]
        refine hb.cell ?_
        rw [add_add]
        unfold Addr.add
        split
        · exact hlt
        · exact hlt
      cases hs : spare a.block with
      | true => exact shut_slice_whole Tryz.underlying22 (Nat.zero_le _) hl hm hs D Pl hel
      | false =>
        have h0 : m = 0 := by
          refine Classical.byContradiction fun hne => ?_
          have := hsp a.block (hblk (by omega)).2
          rw [hs] at this
          cases this
        subst h0
        obtain rfl : len0 = 0 := by omega
        have := shut_slice (enc := enc) (w := W') (base := 0) (spare := spare) (held := true) Tryz.underlying22 (Nat.zero_le a.block) hl hm hs D Pl (fun i hi => absurd hi (by omega))
        simpa using this

set_option maxHeartbeats 4000000 in
theorem l4own_big (L : List Ent) (n cap : Nat) (A : Option Addr) (B : Nat) (w : World) (hM : Ents w B A n L) (hn2 : n * 72 ≤ 140737488351232) :
    Calls Tryz.prog 8 #[.slice A n cap] w (fun e w' => ∃ v, e = .returned v ∧ OwnEnts w' w.heap.size 67 v L ∧ Below w.heap.size w w') := by
  obtain ⟨i0, hi, hz0, hz1, hz2⟩ := info_parts infoREnt
  have hni : (n : Int) ≤ 140737488351232 := by omega
  have HM : Hid (∀ w', Below w.heap.size w w' → Ents w' B A n L) := fun w' hb => hM.below hb hM.2.1
  have Hlen : Hid (L.length = n) := hM.1
  clear hM
  go_enter Tryz.func8, Tryz.ntmps8
  go_wp2
  go_loopw [3, 4] (fun v i wr => ∃ (k : Nat) (P : List Ent), i = .int .i64 k ∧ k ≤ n ∧ P.length = k ∧ Hid (P ++ L.drop k = L) ∧ OwnEnts wr w.heap.size 67 v P ∧ Below w.heap.size w wr) (fun _ i _ => n - (intOf i).toNat)
  case atStart => exact ⟨0, [], rfl, by omega, rfl, Lib.hid rfl, World.ownsRow_nil _ _ _ _, Below.refl _ _⟩
  case round =>
    obtain ⟨k, P, rfl, hk, hP, HK, hown, hb⟩ := hrel
    by_cases hlt : k < n
    · obtain ⟨b, off, x, rfl, hbl, hL, c0, c1, c2, c3, c4⟩ := (HM.out _ hb).at_ hlt
      have hst := HK.out
      rw [drop_cons hL] at hst
      have Hst : Hid ((P ++ [x]) ++ L.drop (k + 1) = L) := (show _ = _ by rw [List.append_assoc]; exact hst)
      obtain ⟨nm, cl, kd, v, r⟩ := x
      simp only at c0 c1 c2 c3 c4
      have hki : (k : Int) < (n : Int) := by omega
      clear hst hL HK
      go_wp2_with (at_builtin; refine wpList_append_own _ rfl _ _ 23 rfl w.heap.size 67 i0 (.agg #[.string ⟨#[]⟩, .string ⟨#[]⟩, .string ⟨#[]⟩, .int .i64 0, .string ⟨#[]⟩]) 5 72 Tryz.underlying23 hi hz0 hz1 hz2 rfl (by decide) _ _ _ rfl (World.ownsRow.alloc hown _) ⟨wr.heap.size, 0, none⟩ 1 1 (entC ⟨nm, cl, kd, v, r⟩) rfl rfl ?c1 ?c2 ?c3 ?c4 ?c5 ?_)
      case c1 =>
        intro j u hj
        match j, hj with
        | 0, hj => simp [entC] at hj; subst hj; simp [Addr.add]
        | 1, hj => simp [entC] at hj; subst hj; simp [Addr.add]
        | 2, hj => simp [entC] at hj; subst hj; simp [Addr.add]
        | 3, hj => simp [entC] at hj; subst hj; simp [Addr.add]
        | 4, hj => simp [entC] at hj; subst hj; simp [Addr.add]
      case c2 => intro u hu; simp [entC] at hu; rcases hu with rfl | rfl | rfl | rfl | rfl <;> rfl
      case c3 => unfold maxLen; omega
      case c4 => omega
      case c5 => have := hb.size; simp; omega
      · intro v' w1 hown' hgrow _
        have hb1 : Below w.heap.size w w1 := (hb.alloc hb.size _).grown hgrow (by have := hb.size; simp; omega) (fun r hr => (World.ownsRow.lt hown r hr).1)
        have ho1 : OwnEnts w1 w.heap.size 67 v' (P ++ [⟨nm, cl, kd, v, r⟩]) := OwnEnts.next (by rw [hP]; exact hown')
        clear hown' hgrow hown
        go_wp2
        go_roundw
        case rel => exact ⟨k + 1, P ++ [⟨nm, cl, kd, v, r⟩], by go_num, by omega, by simp; omega, Hst, ho1, hb1⟩
        case measure => simp [intOf]; omega
    · have hk2 : k = n := by omega
      have hz := HK.out
      rw [List.drop_of_length_le (by rw [Hlen.out]; omega), List.append_nil] at hz
      subst hz
      go_wp2
      go_ret
      exact ⟨_, rfl, hown, hb⟩
end Go.Mk
end
