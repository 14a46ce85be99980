/-
  Proved: the error of a name by package seed, and that of a further name beside those that have been there (a map of the call's own). Conditions: the text is no longer than an int says; the map's block holds just the names that have been there.
  Proved: the error of an entrant beside the names that have been there (seed.names.entrantError), as a plain function. Conditions: the texts are no longer than an int says; the map's block holds just the names that have been there; the heap holds the program's variables.
-/
import Derived.Test.YtccgahkoekcefaaGreatDoorBa
import Derived.Test.YtccgahkoekcefaaGreatDoorCm
import Derived.Maps.OwnOps
import Derived.Maps.Views
import Derived.StringKeys
section
set_option linter.unusedVariables false
set_option linter.unusedSimpArgs false
open Go Go.Proofs Go.RowKit Go.Maps Go.WideMaps
set_option maxRecDepth 100000
namespace Go.Mk
def nmE (s : ByteArray) : Int := if isNm s then 0 else 8
set_option maxHeartbeats 1000000 in
theorem seedNameError_any (s : ByteArray) (w : World) (hz : s.size ≤ maxLen) : Calls Tryz.prog 87 #[.string s] w (RetPost (.int .i64 (nmE s)) w) := by
  have hN := fun w => IsName_any s w hz
  have hW := fun b w => seedWhen_any b 8 w
  unfold nmE
  cases hb : isNm s with
  | true =>
    rw [hb] at hN
    go_enter Tryz.func87, Tryz.ntmps87
    go_wp2_with fail
    refine (hN _).mono ?_
    rintro e w1 ⟨rfl, hb1⟩
    go_wp2_with fail
    refine (hW _ _).mono ?_
    rintro e w2 ⟨rfl, rfl⟩
    go_wp2
    go_ret
    exact ⟨rfl, hb1⟩
  | false =>
    rw [hb] at hN
    go_enter Tryz.func87, Tryz.ntmps87
    go_wp2_with fail
    refine (hN _).mono ?_
    rintro e w1 ⟨rfl, hb1⟩
    go_wp2_with fail
    refine (hW _ _).mono ?_
    rintro e w2 ⟨rfl, rfl⟩
    go_wp2
    go_ret
    exact ⟨rfl, hb1⟩
def isIn (P : List ByteArray) (s : ByteArray) : Bool := P.any fun t => decide (t = s)
theorem isIn_snoc (P : List ByteArray) (t s : ByteArray) : isIn (P ++ [t]) s = (isIn P s || decide (t = s)) := by simp [isIn]
def Named (w : World) (B n : Nat) (P : List ByteArray) : Prop :=
  ∃ D : DataW Unit, w.ownsMap Tryz.prog 9 (plainElem Tryz.prog 4) B n D ∧ IsMap D ∧
    ∀ s : ByteArray, D.atKey (.string s.data.toList) (.lit (.bool false)) = .lit (.bool (isIn P s))
theorem Named.lt {w : World} {B n : Nat} {P : List ByteArray} (h : Named w B n P) : B < w.heap.size := by
  obtain ⟨D, h, _⟩ := h
  exact h.lt
theorem Named.kept {w w' : World} {B n : Nat} {P : List ByteArray} (h : Named w B n P) (hg : w'.heap[B]? = w.heap[B]?) : Named w' B n P := by
  obtain ⟨D, ⟨es, clock, hb, F, hs, hD⟩, r⟩ := h
  exact ⟨D, ⟨es, clock, hg.trans hb, F, hs, hD⟩, r⟩
theorem Named.made (w : World) : Named (w.alloc (.map #[] 0)) w.heap.size 0 [] :=
  ⟨.map [], World.ownsMap_made _ _ _ _, ⟨[], rfl⟩, fun s => rfl⟩
theorem namesKeyed : Keyed Tryz.prog 9 := string_keyed Tryz.underlying9
theorem Named.look {w : World} {B n : Nat} {P : List ByteArray} (h : Named w B n P) (s : ByteArray) (hz : s.size ≤ maxLen) :
    (Instr.lookup 94 (.map (some B)) (.string s) false).run Tryz.prog w = .ok (.bool (isIn P s)) w := by
  obtain ⟨D, ho, _, hD⟩ := h
  obtain ⟨v, ps, hr, hv⟩ := ho.lookup namesKeyed Tryz.underlying94 (z := .bool false) (by rfl) (plainElem_bool Tryz.underlying4 false) (keyOf_string_mk Tryz.underlying9 hz)
  rw [hD s] at hv
  rw [hr]
  cases v <;> simp [plainElem, Tryz.underlying4] at hv
  rw [hv.1]
theorem Named.put {w : World} {B n : Nat} {P : List ByteArray} {D : DataW Unit} (hm : IsMap D) (hD : ∀ s : ByteArray, D.atKey (.string s.data.toList) (.lit (.bool false)) = .lit (.bool (isIn P s))) (s : ByteArray)
    (ho : w.ownsMap Tryz.prog 9 (plainElem Tryz.prog 4) B n (D.put (.string s.data.toList) (.lit (.bool true)))) : Named w B n (P ++ [s]) := by
  refine ⟨_, ho, ?_, fun t => ?_⟩
  · obtain ⟨es, rfl⟩ := hm
    exact ⟨_, rfl⟩
  · by_cases h : t = s
    · subst h
      rw [atKey_put_same (k := .string t.data.toList) hm trivial]
      simp [isIn_snoc]
    · have hne : (Lit.string t.data.toList) ≠ .string s.data.toList := by
        intro q
        injection q with q
        exact h (ByteArray.ext (Array.toList_inj.1 q))
      rw [atKey_put_other hne, hD t, isIn_snoc, decide_eq_false (fun q : s = t => h q.symm), Bool.or_false]
def twE (P : List ByteArray) (s : ByteArray) : Int := fstN [nmE s, if isIn P s then 9 else 0]
def NamePost (B n : Nat) (P : List ByteArray) (s : ByteArray) (w : World) (e : Ending) (w' : World) : Prop :=
  e = .returned (.int .i64 (twE P s)) ∧ Named w' B (n + 1) (P ++ [s]) ∧ w.grownBy w' (some B)
theorem bstep {w a b : World} (h1 : Below w.heap.size w a) (h2 : Below a.heap.size a b) : Below w.heap.size w b := h1.trans (h2.mono h1.size)
theorem balloc {w a : World} (o : Obj) (h1 : Below w.heap.size w a) : Below w.heap.size w (a.alloc o) := h1.alloc h1.size o
theorem grown_of {w a b : World} {B : Nat} (h : Below w.heap.size w a) (g : a.grownBy b (some B)) : w.grownBy b (some B) :=
  ⟨g.os.trans h.os, g.tape.trans h.tape, g.output.trans h.output, Nat.le_trans h.size g.size, fun i hi hne => (g.block i (Nat.lt_of_lt_of_le hi h.size) hne).trans (h.block i hi)⟩
theorem es2 (w : World) (x y : Int) (t : TypeId) : Es (w.alloc (.cells #[.int .i64 x, .int .i64 y] t)) w.heap.size [x, y] := by
  intro i v hv
  match i, hv with
  | 0, hv => simp at hv; subst hv; simp
  | 1, hv => simp at hv; subst hv; simp
set_option maxHeartbeats 4000000 in
theorem namesNameError_any (B n : Nat) (P : List ByteArray) (s : ByteArray) (w : World) (hz : s.size ≤ maxLen) (hM : Named w B n P) (hn : n ≤ 1000000) :
    Calls Tryz.prog 86 #[.map (some B), .string s] w (NamePost B n P s w) := by
  have hlt := hM.lt
  have hlook : ∀ w', Below w.heap.size w w' → (Instr.lookup 94 (.map (some B)) (.string s) false).run Tryz.prog w' = .ok (.bool (isIn P s)) w' := fun w' hb => (hM.kept (hb.block B hlt)).look s hz
  have HL := Lib.hid hlook
  have hN := fun w => seedNameError_any s w hz
  obtain ⟨y, hy⟩ : ∃ y, twE P s = y := ⟨_, rfl⟩
  have HY : Hid (fstN [nmE s, if isIn P s = true then 9 else 0] = y) := (show _ = _ by rw [← hy]; simp [twE])
  have HM := Lib.hid hM
  have HZ := Lib.hid hz
  unfold NamePost
  rw [hy]
  generalize isIn P s = bb at *
  generalize nmE s = e1 at *
  have hW := fun w => seedWhen_any bb 9 w
  generalize (if bb = true then (9 : Int) else 0) = e2 at *
  have hF := fun g w => seedFirst_any [e1, e2] 2 rfl (by decide) g w
  rw [HY.out] at hF
  clear hlook hy hM hz
  go_enter Tryz.func86, Tryz.ntmps86
  go_wp2_with fail
  go_region_held3 (fun w' => (Instr.lookup 94 (.map (some B)) (.string s) false).run Tryz.prog w' = .ok (.bool bb) w' ∧ Below w.heap.size w w') ((go_split_ands; (first | (refine ⟨HL.out _ (Below.drew (Below.refl _ _)), Below.drew (Below.refl _ _)⟩) | (refine ⟨by assumption, by assumption⟩) | (have hbn := bstep (by assumption) (by assumption); exact ⟨HL.out _ hbn, hbn⟩) | (exact ⟨HL.out _ (balloc _ (by assumption)), balloc _ (by assumption)⟩)))) ((first | (go_at_call 87; (with_reducible refine (hN _).mono ?_); rintro e w' ⟨rfl, hbw⟩) | (go_at_call 64; (with_reducible refine (hW _).mono ?_); rintro e w' ⟨rfl, rfl⟩) | (go_at_call 49; (refine (hF _ _ ?_).mono ?_); (exact es2 _ _ _ _); rintro e w' ⟨rfl, rfl⟩)))
  all_goals
    rename_i hH
    have hb3 := hH.2
    clear hH
    revert hb3
    generalize (World.alloc _ _) = w3
    intro hb3
    obtain ⟨D, ho, hm, hD⟩ := HM.out.kept (hb3.block B hlt)
    go_wp2_with (first
      | (at_mapUpdate; refine wpList_mapUpdate_own _ rfl _ _ _ 94 rfl 9 4 namesKeyed Tryz.underlying94 (plainElem (H := Unit) Tryz.prog 4) B n _ rfl ho (by unfold maxLen; omega) _ _ _ rfl rfl (keyOf_string_mk Tryz.underlying9 HZ.out) _ [] (plainElem_bool Tryz.underlying4 true) ?_; intro w1 hown1 hgrow1)
      | go_in)
    go_ret
    exact ⟨rfl, Named.put hm hD s hown1, grown_of hb3 hgrow1⟩
end Go.Mk
end
section
set_option linter.unusedVariables false
set_option linter.unusedSimpArgs false
open Go Go.Proofs Go.RowKit Go.Maps Go.WideMaps
set_option maxRecDepth 100000
namespace Go.Mk
theorem Named.below {w w' : World} {B n : Nat} {P : List ByteArray} (h : Named w B n P) (hb : Below w.heap.size w w') : Named w' B n P := h.kept (hb.block B h.lt)
structure Ent where
  name : ByteArray
  club : ByteArray
  kind : ByteArray
  value : Int
  reason : ByteArray
def Ent.agg (x : Ent) : Value := .agg #[.string x.name, .string x.club, .string x.kind, .int .i64 x.value, .string x.reason]
def Ent.ok (x : Ent) : Prop := x.name.size ≤ maxLen ∧ x.club.size ≤ maxLen
def entE (P : List ByteArray) (x : Ent) : Int := fstN [twE P x.name, nmE x.club, chk x.kind x.value x.reason]
@[reducible] def BoxE (W : World) (B b : Nat) (n c k : ByteArray) (v : Int) (r : ByteArray) (w' : World) : Prop :=
  w'.cell? ⟨b, 0, none⟩ = some (.string n) ∧ w'.cell? ⟨b, 1, none⟩ = some (.string c) ∧ w'.cell? ⟨b, 2, none⟩ = some (.string k) ∧ w'.cell? ⟨b, 3, none⟩ = some (.int .i64 v) ∧ w'.cell? ⟨b, 4, none⟩ = some (.string r) ∧ b < w'.heap.size ∧ B ≠ b ∧ W.grownBy w' (some B)
theorem gcell {a c : World} {B b o : Nat} (hg : a.grownBy c (some B)) (hlt : b < a.heap.size) (hne : some b ≠ some B) : c.cell? ⟨b, o, none⟩ = a.cell? ⟨b, o, none⟩ := World.cell?_of_block (w := a) (hg.block b hlt hne)
theorem BoxE.grown {W a c : World} {B b : Nat} {n cl k : ByteArray} {v : Int} {r : ByteArray} (h : BoxE W B b n cl k v r a) (hg : a.grownBy c (some B)) : BoxE W B b n cl k v r c := by
  obtain ⟨h0, h1, h2, h3, h4, h5, h6, h7⟩ := h
  have q : some b ≠ some B := fun q => h6 (Option.some.inj q).symm
  exact ⟨(gcell hg h5 q).trans h0, (gcell hg h5 q).trans h1, (gcell hg h5 q).trans h2, (gcell hg h5 q).trans h3, (gcell hg h5 q).trans h4, Nat.lt_of_lt_of_le h5 hg.size, h6, h7.trans hg⟩
theorem grown_below {a c : World} (h : Below a.heap.size a c) (B : Option Nat) : a.grownBy c B := ⟨h.os, h.tape, h.output, h.size, fun i hi _ => h.block i hi⟩
theorem BoxE.below {W a c : World} {B b : Nat} {n cl k : ByteArray} {v : Int} {r : ByteArray} (h : BoxE W B b n cl k v r a) (hb : Below a.heap.size a c) : BoxE W B b n cl k v r c := h.grown (grown_below hb _)
theorem BoxE.start (w : World) (B : Nat) (hB : B < w.heap.size) (n c k : ByteArray) (v : Int) (r : ByteArray) (t : TypeId) :
    BoxE w B w.heap.size n c k v r (w.alloc (.cells #[.string n, .string c, .string k, .int .i64 v, .string r] t)).drew := by
  refine ⟨?_, ?_, ?_, ?_, ?_, ?_, ?_, grown_below ((Below.refl _ _).alloc (Nat.le_refl _) _).drew _⟩
  all_goals first | (simp; done) | omega
theorem es3 (w : World) (x y z : Int) (t : TypeId) : Es (w.alloc (.cells #[.int .i64 x, .int .i64 y, .int .i64 z] t)) w.heap.size [x, y, z] := by
  intro i v hv
  match i, hv with
  | 0, hv => simp at hv; subst hv; simp
  | 1, hv => simp at hv; subst hv; simp
  | 2, hv => simp at hv; subst hv; simp
def EntPost (B n : Nat) (P : List ByteArray) (x : Ent) (w : World) (e : Ending) (w' : World) : Prop :=
  e = .returned (.int .i64 (entE P x)) ∧ Named w' B (n + 1) (P ++ [x.name]) ∧ w.grownBy w' (some B)
set_option maxHeartbeats 4000000 in
theorem entrantError_any (B n : Nat) (P : List ByteArray) (x : Ent) (w : World) (hz : x.ok) (hM : Named w B n P) (hn : n ≤ 1000000) (hg : 13 ≤ w.heap.size) :
    Calls Tryz.prog 51 #[.map (some B), x.agg] w (EntPost B n P x w) := by
  obtain ⟨nm, cl, k, v, r⟩ := x
  obtain ⟨hz1, hz2⟩ := hz
  unfold EntPost Ent.agg entE
  simp only at *
  have hlt := hM.lt
  have HM0 : Hid (∀ w', Below w.heap.size w w' → Named w' B n P) := fun w' hb => hM.kept (hb.block B hlt)
  have hA := fun w' hN => namesNameError_any B n P nm w' hz1 hN hn
  have hC := fun w => seedNameError_any cl w hz2
  have hK := fun w hg => CheckMark_any k r v w hg
  have HA : Hid (∀ w', Named w' B n P → Calls Tryz.prog 86 #[.map (some B), .string nm] w' (NamePost B n P nm w')) := hA
  have HS := fun t => BoxE.start w B hlt nm cl k v r t
  obtain ⟨y, hy⟩ : ∃ y, fstN [twE P nm, nmE cl, chk k v r] = y := ⟨_, rfl⟩
  rw [hy]
  unfold NamePost at HA
  generalize twE P nm = e1 at *
  generalize nmE cl = e2 at *
  generalize chk k v r = e3 at *
  have hF := fun g w => seedFirst_any [e1, e2, e3] 3 rfl (by decide) g w
  rw [hy] at hF
  have HS' := Lib.hid HS
  clear hy hM hz1 hz2 hA HS
  go_enter Tryz.func51, Tryz.ntmps51
  go_wp2_with fail
  go_region_held3 (BoxE w B w.heap.size nm cl k v r) ((first | (exact HS'.out _) | (assumption) | (exact BoxE.grown (by assumption) hg1) | (exact BoxE.below (by assumption) hb2) | (exact BoxE.below (by assumption) hb3) | (refine BoxE.below (by assumption) ?_; exact (Below.refl _ _).alloc (Nat.le_refl _) _))) ((first | (go_at_call 86; (with_reducible refine (HA.out _ (HM0.out _ ((Below.refl _ _).alloc (Nat.le_refl _) _).drew)).mono ?_); rintro e w1 ⟨rfl, hN1, hg1⟩) | (go_at_call 87; (with_reducible refine (hC _).mono ?_); rintro e w2 ⟨rfl, hb2⟩) | (go_at_call 88; (with_reducible refine (hK _ ?_).mono ?_); (have := hb2.size; have := hg1.size; simp at *; omega); rintro e w3 ⟨rfl, hb3⟩) | (go_at_call 49; (refine (hF _ _ ?_).mono ?_); (exact es3 _ _ _ _ _); rintro e w' ⟨rfl, rfl⟩)))
  all_goals
    rename_i hH
    have hN2 := (hN1.below hb2).below hb3
    have hN4 := hN2.below (balloc (.cells #[.int .i64 e1, .int .i64 e2, .int .i64 e3] 28) (Below.refl _ _))
    go_wp2
    go_ret
    exact ⟨rfl, hN4, hH.2.2.2.2.2.2.2⟩
end Go.Mk
end
