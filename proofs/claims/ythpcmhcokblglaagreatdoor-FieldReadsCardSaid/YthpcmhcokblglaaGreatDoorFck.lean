/-
  Proved: readCard of package field returns the parts of a text, or says that they are no words. Conditions: the text has at most 4,096 bytes; the heap holds the program's variables.
-/
import Derived.Test.YthpcmhcokblglaaGreatDoorFci
import Derived.Test.YthpcmhcokblglaaGreatDoorFcj
import Derived.Test.YthpcmhcokblglaaGreatDoorFcg
set_option linter.unusedVariables false
set_option linter.unusedSimpArgs false
open Go Go.Proofs Go.RowKit Go.Shelf
set_option maxRecDepth 100000
namespace Go.Mk
def retL : List UInt8 := [114, 101, 116, 105, 114, 101, 100]
/-- The texts ahead of the first bar, and behind it. -/
def barIx : List (List UInt8) → Option (List (List UInt8) × List (List UInt8))
  | [] => none
  | t :: l => if t = [124] then some ([], l) else (barIx l).map fun p => (t :: p.1, p.2)
/-- The texts but the last one, if this one says that the athlete has retired. -/
def dropRet (b : List (List UInt8)) : List (List UInt8) := if b.getLast? = some retL then b.dropLast else b
/-- A card, if its parts are words. -/
def readB (nm : List UInt8) (b : List (List UInt8)) : Option (List UInt8 × List (List UInt8) × List (List UInt8) × Bool) :=
  match barIx (dropRet b) with
  | none => if goodW nm && (dropRet b).all goodW then some (nm, dropRet b, [], decide (b.getLast? = some retL)) else none
  | some p => if p.2 = [] then none else if goodW nm && (p.1.all goodW && p.2.all goodW) then some (nm, p.1, p.2, decide (b.getLast? = some retL)) else none
def readW (nm : List UInt8) : List (List UInt8) → Option (List UInt8 × List (List UInt8) × List (List UInt8) × Bool)
  | [] => none
  | h :: b => if h = [] then readB nm b else none
/-- The parts of the text of a card. -/
def readP (l : List UInt8) : Option (List UInt8 × List (List UInt8) × List (List UInt8) × Bool) :=
  match cutC l with
  | none => none
  | some p => readW p.1 (splitS p.2)
theorem readP_some {l x y : List UInt8} (h : cutC l = some (x, y)) : readP l = readW x (splitS y) := by unfold readP; rw [h]
theorem isIn_bls (L : List ByteArray) (s : ByteArray) : isIn L s = decide (bl s ∈ bls L) := by
  by_cases h : s ∈ L
  · rw [isIn_mem.2 h, decide_eq_true (by unfold bls; exact List.mem_map_of_mem h)]
  · have : isIn L s = false := by
      rw [Bool.eq_false_iff]
      intro q
      exact h (isIn_mem.1 q)
    rw [this, decide_eq_false]
    intro q
    obtain ⟨x, hx, e⟩ := List.mem_map.1 q
    rw [bl_inj e] at hx
    exact h hx
theorem barIx_none : ∀ {L : List (List UInt8)}, [124] ∉ L → barIx L = none
  | [], _ => rfl
  | t :: l, h => by
    rw [barIx, if_neg (fun e => h (by rw [e]; exact List.mem_cons_self ..)), barIx_none (fun q => h (List.mem_cons_of_mem _ q))]
    rfl
theorem barIx_some : ∀ {H O : List (List UInt8)}, [124] ∉ H → barIx (H ++ [124] :: O) = some (H, O)
  | [], O, _ => by rw [List.nil_append, barIx, if_pos rfl]
  | t :: H, O, h => by
    rw [List.cons_append, barIx, if_neg (fun e => h (by rw [e]; exact List.mem_cons_self ..)), barIx_some (fun q => h (List.mem_cons_of_mem _ q))]
    rfl
theorem barIx_no {L : List ByteArray} (h : isIn L ⟨#[124]⟩ = false) : barIx (bls L) = none := by
  rw [isIn_bls] at h
  exact barIx_none (of_decide_eq_false h)
theorem barIx_at {L : List ByteArray} {k : Nat} (h : L[k]? = some ⟨#[124]⟩) (h2 : isIn (L.take k) ⟨#[124]⟩ = false) : barIx (bls L) = some (bls (L.take k), bls (L.drop (k + 1))) := by
  obtain ⟨hk, e⟩ := List.getElem?_eq_some_iff.1 h
  have : L = L.take k ++ ⟨#[124]⟩ :: L.drop (k + 1) := by
    rw [← e, ← List.drop_eq_getElem_cons hk, List.take_append_drop]
  rw [isIn_bls] at h2
  have := congrArg bls this
  rw [this]
  unfold bls
  rw [List.map_append, List.map_cons]
  exact barIx_some (of_decide_eq_false h2)
/-- What readCard leaves. -/
def ReadPost (l : List UInt8) (w : World) (e : Ending) (w' : World) : Prop :=
  ∃ (nm : ByteArray) (AH : Option Addr) (nh ch : Nat) (AO : Option Addr) (no co : Nat) (rt ok : Bool), e = .returned (.tuple #[.agg #[.string nm, .slice AH nh ch, .slice AO no co, .bool rt], .bool ok]) ∧ Below w.heap.size w w' ∧
    (ok = false → readP l = none) ∧ (ok = true → ∃ H O : List ByteArray, readP l = some (bl nm, bls H, bls O, rt) ∧ (TextsZ w' AH nh H ∧ nh ≤ ch ∧ (AH = none → ch = 0) ∧ (0 < nh → ∀ ad : Addr, AH = some ad → w.heap.size ≤ ad.block)) ∧ TextsZ w' AO no O ∧ no ≤ co ∧ (AO = none → co = 0) ∧ (0 < no → ∀ ad : Addr, AO = some ad → w.heap.size ≤ ad.block))
theorem four_set {w : World} {g : Nat} {a b c d : Value} {t : TypeId} (k : w.heap[g]? = some (.cells #[a, b, c, d] t (0, 0))) (a' b' c' d' : Value) :
    ((((w.setCell ⟨g, 0, none⟩ a').setCell ⟨g, 1, none⟩ b').setCell ⟨g, 2, none⟩ c').setCell ⟨g, 3, none⟩ d').heap[g]? = some (.cells #[a', b', c', d'] t (0, 0)) := by
  have h0 := Go.Joins.block_setCell (i := 0) k a'
  have h1 := Go.Joins.block_setCell (i := 1) h0 b'
  have h2 := Go.Joins.block_setCell (i := 2) h1 c'
  have h3 := Go.Joins.block_setCell (i := 3) h2 d'
  exact h3
theorem four_below {B : Nat} {w w' : World} {g : Nat} (hb : Below B w w') (hg : B ≤ g) (a b c d : Value) : Below B w ((((w'.setCell ⟨g, 0, none⟩ a).setCell ⟨g, 1, none⟩ b).setCell ⟨g, 2, none⟩ c).setCell ⟨g, 3, none⟩ d) :=
  (((hb.setCell hg _).setCell hg _).setCell hg _).setCell hg _
theorem new_words (w : World) (L : List ByteArray) : ∀ (j : Nat) (x : ByteArray), L[j]? = some x → (w.alloc (.cells (L.map Value.string).toArray 9)).cell? ⟨w.heap.size, j, none⟩ = some (.string x) := by
  intro j x h
  simp [h]
set_option maxHeartbeats 4000000 in
theorem read_nocolon (s : ByteArray) (hc : cutC (bl s) = none) (hz : s.size ≤ 4096) (w : World) (hG : GL w) : Calls Tryz.prog 58 #[.string s] w (ReadPost (bl s) w) := by
  have hP : Hid (readP (bl s) = none) := Lib.hid (by unfold readP; rw [hc])
  obtain ⟨g, hg⟩ : ∃ g, w.heap.size = g := ⟨_, rfl⟩
  obtain ⟨w1, hw1⟩ : ∃ w1, w.alloc (.cells #[.string ⟨#[]⟩, .slice none 0 0, .slice none 0 0, .bool false] 61) = w1 := ⟨_, rfl⟩
  have hb1 : Below w.heap.size w w1 := by rw [← hw1]; exact balloc _ (Below.refl _ _)
  have k0 : w1.heap[g]? = some (.cells #[.string ⟨#[]⟩, .slice none 0 0, .slice none 0 0, .bool false] 61 (0, 0)) := by rw [← hw1, ← hg]; exact Array.getElem?_push_size
  have hC := stCut_none s (by omega) hc w1 (hG.below hb1)
  have HB1 := Lib.hid hb1
  have HG0 : Hid (w.heap.size ≤ g) := Lib.hid (by omega)
  have HK : Hid (∀ w', Below w1.heap.size w1 w' → w'.heap[g]? = some (.cells #[.string ⟨#[]⟩, .slice none 0 0, .slice none 0 0, .bool false] 61 (0, 0))) := Lib.hid fun w' hb => (hb.block _ (Array.getElem?_eq_some_iff.1 k0).1).trans k0
  have HGL : Hid (∀ w', Below w1.heap.size w1 w' → GL w') := Lib.hid fun w' hb => (hG.below hb1).below hb
  clear hG hb1 k0
  go_enter Tryz.func58, Tryz.ntmps58
  go_wp2_with fail
  refine hC.mono ?_
  rintro e w2 ⟨rfl, hb2⟩
  have HB2 := Lib.hid hb2
  have hS := stSplit_any (mkB []) (by decide) w2 (HGL.out _ hb2)
  clear hb2
  go_wp2_with fail
  refine hS.mono ?_
  rintro e w3 ⟨L, rfl, hL, hw3⟩
  have hb3 : Below w2.heap.size w2 w3 := by rw [hw3]; exact balloc _ (Below.refl _ _)
  have HB3 := Lib.hid (HB2.out.trans (hb3.mono HB2.out.size))
  have k0 := HK.out _ HB3.out
  have x0 := Go.Joins.cell_of_block k0 0
  have x1 := Go.Joins.cell_of_block k0 1
  have x2 := Go.Joins.cell_of_block k0 2
  have x3 := Go.Joins.cell_of_block k0 3
  have y0 := Go.Joins.unfrozen_of_block k0 0
  have y1 := Go.Joins.unfrozen_of_block k0 1
  have y2 := Go.Joins.unfrozen_of_block k0 2
  have y3 := Go.Joins.unfrozen_of_block k0 3
  clear hw3 hS hL hb3
  have HK0 := Lib.hid k0
  clear k0
  go_wp2_with fail
  have k4 := four_set HK0.out (.string ⟨#[]⟩) (.slice none 0 0) (.slice none 0 0) (.bool false)
  have hfin := four_below (HB1.out.trans (HB3.out.mono HB1.out.size)) HG0.out (.string ⟨#[]⟩) (.slice none 0 0) (.slice none 0 0) (.bool false)
  have z0 := Go.Joins.cell_of_block k4 0
  have z1 := Go.Joins.cell_of_block k4 1
  have z2 := Go.Joins.cell_of_block k4 2
  have z3 := Go.Joins.cell_of_block k4 3
  exact bodyPost_ret (v := .tuple #[.agg #[.string ⟨#[]⟩, .slice none 0 0, .slice none 0 0, .bool false], .bool false]) (by simp [results, Tryz.results58, go_sem, z0, z1, z2, z3]) rfl ⟨_, _, _, _, _, _, _, _, _, rfl, hfin, fun _ => hP.out, fun q => by cases q⟩
set_option maxHeartbeats 4000000 in
theorem read_badhead (s : ByteArray) (x y : List UInt8) (hc : cutC (bl s) = some (x, y)) (h0 : (splitS y).headD [] ≠ []) (hz : s.size ≤ 4096) (w : World) (hG : GL w) : Calls Tryz.prog 58 #[.string s] w (ReadPost (bl s) w) := by
  have hP : Hid (readP (bl s) = none) := Lib.hid (by
    rw [readP_some hc]
    cases h : splitS y with
    | nil => rfl
    | cons a b =>
      rw [h] at h0
      rw [readW]
      exact if_neg h0)
  obtain ⟨g, hg⟩ : ∃ g, w.heap.size = g := ⟨_, rfl⟩
  obtain ⟨w1, hw1⟩ : ∃ w1, w.alloc (.cells #[.string ⟨#[]⟩, .slice none 0 0, .slice none 0 0, .bool false] 61) = w1 := ⟨_, rfl⟩
  have hb1 : Below w.heap.size w w1 := by rw [← hw1]; exact balloc _ (Below.refl _ _)
  have k0 : w1.heap[g]? = some (.cells #[.string ⟨#[]⟩, .slice none 0 0, .slice none 0 0, .bool false] 61 (0, 0)) := by rw [← hw1, ← hg]; exact Array.getElem?_push_size
  have hC := stCut_some s x y (by omega) hc w1 (hG.below hb1)
  have HB1 := Lib.hid hb1
  have HG0 : Hid (w.heap.size ≤ g) := Lib.hid (by omega)
  have HK : Hid (∀ w', Below w1.heap.size w1 w' → w'.heap[g]? = some (.cells #[.string ⟨#[]⟩, .slice none 0 0, .slice none 0 0, .bool false] 61 (0, 0))) := Lib.hid fun w' hb => (hb.block _ (Array.getElem?_eq_some_iff.1 k0).1).trans k0
  have HGL : Hid (∀ w', Below w1.heap.size w1 w' → GL w') := Lib.hid fun w' hb => (hG.below hb1).below hb
  have HYL : Hid (y.length ≤ 5000) := Lib.hid (by
    have h1 := (cutC_some hc).1
    have h2 := congrArg List.length h1
    rw [bl_len, List.length_append, List.length_cons] at h2
    omega)
  clear hG hb1 k0
  go_enter Tryz.func58, Tryz.ntmps58
  go_wp2_with fail
  refine hC.mono ?_
  rintro e w2 ⟨rfl, hb2⟩
  have HB2 := Lib.hid hb2
  have hS := stSplit_any (mkB y) (by rw [mkB_size]; exact HYL.out) w2 (HGL.out _ hb2)
  clear hb2
  go_wp2_with fail
  refine hS.mono ?_
  rintro e w3 ⟨L, rfl, hL, hw3⟩
  have hb3 : Below w2.heap.size w2 w3 := by rw [hw3]; exact balloc _ (Below.refl _ _)
  have HB3 := Lib.hid (HB2.out.trans (hb3.mono HB2.out.size))
  have k0 := HK.out _ HB3.out
  have x0 := Go.Joins.cell_of_block k0 0
  have x1 := Go.Joins.cell_of_block k0 1
  have x2 := Go.Joins.cell_of_block k0 2
  have x3 := Go.Joins.cell_of_block k0 3
  have y0 := Go.Joins.unfrozen_of_block k0 0
  have y1 := Go.Joins.unfrozen_of_block k0 1
  have y2 := Go.Joins.unfrozen_of_block k0 2
  have y3 := Go.Joins.unfrozen_of_block k0 3
  rw [bl_mkB] at hL
  obtain ⟨t, L', rfl⟩ : ∃ t L', L = t :: L' := by
    cases L with
    | nil => exact absurd hL.symm (splitS_ne y)
    | cons t L' => exact ⟨t, L', rfl⟩
  have ht : t.toList.isEmpty = false := by
    rw [empty_list, decide_eq_false]
    rw [← hL] at h0
    exact h0
  have hcw : w3.cell? ⟨w2.heap.size, 0, none⟩ = some (.string t) := by rw [hw3]; exact new_words w2 _ 0 t rfl
  have hln : (0 : Int) < ((t :: L').length : Int) := by rw [List.length_cons]; omega
  generalize (t :: L').length = nn at *
  clear hw3 hS hL hb3
  have HK0 := Lib.hid k0
  clear k0
  go_wp2_with fail
  have k4 := four_set HK0.out (.string ⟨#[]⟩) (.slice none 0 0) (.slice none 0 0) (.bool false)
  have hfin := four_below (HB1.out.trans (HB3.out.mono HB1.out.size)) HG0.out (.string ⟨#[]⟩) (.slice none 0 0) (.slice none 0 0) (.bool false)
  have z0 := Go.Joins.cell_of_block k4 0
  have z1 := Go.Joins.cell_of_block k4 1
  have z2 := Go.Joins.cell_of_block k4 2
  have z3 := Go.Joins.cell_of_block k4 3
  exact bodyPost_ret (v := .tuple #[.agg #[.string ⟨#[]⟩, .slice none 0 0, .slice none 0 0, .bool false], .bool false]) (by simp [results, Tryz.results58, go_sem, z0, z1, z2, z3]) rfl ⟨_, _, _, _, _, _, _, _, _, rfl, hfin, fun _ => hP.out, fun q => by cases q⟩
end Go.Mk
