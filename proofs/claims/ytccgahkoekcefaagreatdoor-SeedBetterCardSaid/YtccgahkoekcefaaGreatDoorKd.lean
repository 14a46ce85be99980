/-
  Proved: mark.kinds returns a new map of the four kinds, and what is looked up in it. Conditions: the heap holds the program's variables; the map's block is as kinds made it.
  Proved: what a look-up in the map of the kinds gives, as a step of a walk; the functions isEmpty and isReason. Conditions: the map's block is as kinds made it.
-/
import Derived.Test.YtccgahkoekcefaaGreatDoorAwE
import Derived.Test.YtccgahkoekcefaaGreatDoorRow
import Derived.OwnWalk
import Derived.Lib.Hide
import Derived.Outline
import Derived.BigRegion
import Derived.BigQuiet
import Derived.Deep.QuietTactic
import Derived.WalkSpells
import Derived.WalkLawsBesides
section
set_option linter.unusedVariables false
set_option linter.unusedSimpArgs false
open Go Go.Proofs Go.RowKit
set_option maxRecDepth 100000
namespace Go.Mk
def str (l : List UInt8) : Value := .string ⟨l.toArray⟩
def fnV (k : Nat) : Value := .func (.func k) #[] #[]
def kTime : Value := .agg #[.int .i64 1, .int .i64 863999999, fnV 110, fnV 111, fnV 112, fnV 113, fnV 114]
def kLength : Value := .agg #[.int .i64 0, .int .i64 999999, fnV 110, fnV 115, fnV 116, fnV 117, fnV 118]
def kPoints : Value := .agg #[.int .i64 0, .int .i64 99999, fnV 110, fnV 115, fnV 116, fnV 119, fnV 120]
def kNone : Value := .agg #[.int .i64 0, .int .i64 0, fnV 121, fnV 115, fnV 116, fnV 122, fnV 123]
def sTime : ByteArray := ⟨#[116, 105, 109, 101]⟩
def sLength : ByteArray := ⟨#[108, 101, 110, 103, 116, 104]⟩
def sPoints : ByteArray := ⟨#[112, 111, 105, 110, 116, 115]⟩
def sNone : ByteArray := ⟨#[110, 111, 110, 101]⟩
def entries : Array MapEntry := #[⟨.string sTime, kTime, 0⟩, ⟨.string sLength, kLength, 1⟩, ⟨.string sPoints, kPoints, 2⟩, ⟨.string sNone, kNone, 3⟩]

def Kinds (w : World) (B : Nat) : Prop := w.heap[B]? = some (.map entries 4)

noncomputable def F90k : Ev.CF := ⟨90, 7, .leaf, [.code (Snap.at_ 90 [])], [], none⟩
theorem enterK : Ev.CF.enter Tryz.prog 90 #[] = some F90k := by kernel_rfl
theorem goK : (Ev.goF Snap.E0 (Ev.regC Snap.E0) 1000 F90k [] (Ev.startW 13 [])).map (fun x => (x.1, x.2.get 13)) = some (.map (some 13), some (true, .map entries 4)) := by kernel_rfl

theorem kinds_any (w : World) (hg : 13 ≤ w.heap.size) :
    Calls Tryz.prog 90 #[] w fun e w' => ∃ B, e = .returned (.map (some B)) ∧ w.heap.size ≤ B ∧ Kinds w' B ∧ Below w.heap.size w w' := by
  have hE := Snap.envOK w
  have hR := Ev.rel_start (E := Ev.withW Snap.E0 w) rfl (fun _ _ h => h) hg [] (fun y hy => by cases hy)
  obtain ⟨x, h1, h2⟩ := Option.map_eq_some_iff.1 goK
  obtain ⟨v, C'⟩ := x
  simp only [Prod.mk.injEq] at h2
  obtain ⟨rfl, h2⟩ := h2
  have hs := Ev.StepS.last hE h1
  refine (Ev.calls_of_steps (E := Ev.withW Snap.E0 w) (K := ⟨fun b => b, fun _ => 0, Ev.startW 13 []⟩) enterK hs hR (Ev.RA.empty _)).mono fun e w' hh => ?_
  obtain ⟨K', v', k1, k2, k3, k4, k5⟩ := hh
  cases k5 with
  | map r hr =>
    subst k1
    obtain ⟨o', ho, hro⟩ := k3.obj 13 _ _ h2
    refine ⟨K'.σ 13, k2, k3.own 13 _ (Nat.le_refl _) h2, ?_, k3.below⟩
    unfold Kinds
    rw [ho]
    cases hro with
    | map _ es' _ hs h =>
      have : es' = entries := by
        apply Array.ext_getElem?
        intro i
        by_cases hi : i < entries.size
        · obtain ⟨x', e1, e2, e3, e4⟩ := h i _ (Array.getElem?_eq_getElem hi)
          rw [e1, Array.getElem?_eq_getElem hi]
          have hp : ∀ (i : Nat) (h : i < entries.size), Ev.plainN 0 entries[i].key = true ∧ Ev.plainN 2 entries[i].val = true := by decide
          obtain ⟨p1, p2⟩ := hp i hi
          have q1 := Ev.RV.plain_eq K' 0 _ _ p1 e2
          have q2 := Ev.RV.plain_eq K' 2 _ _ p2 e3
          obtain ⟨a, b, c⟩ := x'
          simp only at q1 q2 e4
          rw [q1, q2, e4]
        · rw [Array.getElem?_eq_none (by omega), Array.getElem?_eq_none (by omega)]
      rw [this]
end Go.Mk
end
section
set_option linter.unusedVariables false
set_option linter.unusedSimpArgs false
open Go Go.Proofs Go.RowKit
set_option maxRecDepth 100000
namespace Go.Mk
def zeroKind : Value := .agg #[.int .i64 0, .int .i64 0, .nilFunc, .nilFunc, .nilFunc, .nilFunc, .nilFunc]
theorem zeroK (w : World) : (zeroValue 154).run Tryz.prog w = .ok zeroKind w := by kernel_rfl

theorem ba_beq (a b : ByteArray) : (a == b) = decide (a = b) := by
  obtain ⟨x⟩ := a
  obtain ⟨y⟩ := b
  show (x == y) = _
  rw [Bool.eq_iff_iff]
  simp
theorem ba_ne {a b : ByteArray} (h : a ≠ b) : (a == b) = false := by rw [ba_beq]; exact decide_eq_false h
theorem tl_inj {a b : ByteArray} (h : a.toList = b.toList) : a = b := by
  obtain ⟨x⟩ := a
  obtain ⟨y⟩ := b
  have h' : x.toList = y.toList := by rw [ByteArray.toList_eq, ByteArray.toList_eq] at h; exact h
  rw [Array.toList_inj.1 h']
theorem tl_ne {a b : ByteArray} (h : a ≠ b) : (a.toList == b.toList) = false := beq_eq_false_iff_ne.2 fun e => h (tl_inj e)
theorem ba_eq (a : ByteArray) : (a == a) = true := by rw [ba_beq]; exact decide_eq_true rfl

structure Entry (s : ByteArray) (v : Value) (b : Bool) : Prop where
  find : (Instr.findNow .string (.string s) entries.toList 0 = some none ∧ v = zeroKind ∧ b = false) ∨ ∃ i, Instr.findNow .string (.string s) entries.toList 0 = some (some (i, v)) ∧ b = true
theorem entryTime : Entry sTime kTime true := ⟨.inr ⟨0, by kernel_rfl, rfl⟩⟩
theorem entryLength : Entry sLength kLength true := ⟨.inr ⟨1, by kernel_rfl, rfl⟩⟩
theorem entryPoints : Entry sPoints kPoints true := ⟨.inr ⟨2, by kernel_rfl, rfl⟩⟩
theorem entryNone : Entry sNone kNone true := ⟨.inr ⟨3, by kernel_rfl, rfl⟩⟩
theorem entryOther (s : ByteArray) (h1 : s ≠ sTime) (h2 : s ≠ sLength) (h3 : s ≠ sPoints) (h4 : s ≠ sNone) : Entry s zeroKind false := by
  refine ⟨.inl ⟨?_, rfl, rfl⟩⟩
  have b1 : (s == sTime) = false := ba_ne h1
  have b2 : (s == sLength) = false := ba_ne h2
  have b3 : (s == sPoints) = false := ba_ne h3
  have b4 : (s == sNone) = false := ba_ne h4
  show Instr.findNow .string (.string s) [⟨.string sTime, kTime, 0⟩, ⟨.string sLength, kLength, 1⟩, ⟨.string sPoints, kPoints, 2⟩, ⟨.string sNone, kNone, 3⟩] 0 = _
  simp only [Instr.findNow, Instr.sameNow, b1, b2, b3, b4]

theorem run_lookup {w : World} {B : Nat} (hK : Kinds w B) {s : ByteArray} {v : Value} {b : Bool} (he : Entry s v b) (ok : Bool) :
    (Instr.lookup 146 (.map (some B)) (.string s) ok).run Tryz.prog w = .ok (if ok then .tuple #[v, .bool b] else v) w := by
  unfold Instr.lookup
  rw [Sem.run_bind, Ev.run_underlying Tryz.underlying146]
  simp only [Result.andThen_ok]
  rw [Sem.run_bind, Ev.run_getObj_map hK]
  simp only [Result.andThen_ok, Sem.run_pure, Sem.run_bind]
  rw [Ev.run_checkKey Tryz.underlying9 rfl]
  simp only [Result.andThen_ok]
  rcases he.find with ⟨h, rfl, rfl⟩ | ⟨i, h, rfl⟩
  · rw [Ev.run_findKey Tryz.underlying9 h]
    simp only [Result.andThen_ok, Sem.run_bind, zeroK, Sem.run_pure]
  · rw [Ev.run_findKey Tryz.underlying9 h]
    simp only [Result.andThen_ok, Sem.run_bind, Sem.run_pure]

theorem wpList_look (w : World) {ops : Array Oper} {rest : List Oper} {o : Oper} {a : Act} {Q : Exit → Act → World → Prop}
    (hg : o.guard = none) (x i : Operand) (ok : Bool) (hop : o.op = Op.lookup 146 x i ok) (B : Nat) (s : ByteArray) (v : Value) (b : Bool) (hx : a.eval x = .map (some B)) (hi : a.eval i = .string s)
    (hK : Kinds w B) (he : Entry s v b) (hQ : wpList Tryz.prog ops Q rest (a.put o.dst (if ok then .tuple #[v, .bool b] else v)) w) :
    wpList Tryz.prog ops Q (o :: rest) a w := by
  refine wpList_plain hg fun K hK' => ?_
  have hrun := run_lookup hK he ok
  unfold Oper.wp
  simp [execOp, hop, hx, hi, hrun, Result.andThen]
  exact hK' _ _ (by cases ok <;> simpa using hQ)

def sEmpty : ByteArray := ⟨#[]⟩
set_option maxHeartbeats 400000 in
theorem isEmpty_any (r : ByteArray) (w : World) : Calls Tryz.prog 110 #[.string r] w fun e w' => e = .returned (.bool r.toList.isEmpty) ∧ w = w' := by
  go_enter Tryz.func110, Tryz.ntmps110
  go_wp2
  go_ret
  exact ⟨rfl, rfl⟩

def Texts (w : World) (g : Nat) (L : List ByteArray) : Prop := ∀ (j : Nat) (s : ByteArray), L[j]? = some s → w.cell? ⟨g, j, none⟩ = some (.string s)
def IndexPost (L : List ByteArray) (r : ByteArray) (w : World) (e : Ending) (w' : World) : Prop :=
  w = w' ∧ ((r ∈ L ∧ ∃ k : Nat, k < L.length ∧ e = .returned (.int .i64 k)) ∨ (r ∉ L ∧ e = .returned (.int .i64 (-1))))
set_option maxHeartbeats 400000 in
theorem index_any (L : List ByteArray) (n : Nat) (hn : L.length = n) (hsm : n ≤ 100) (r : ByteArray) (g : Nat) (w : World) (hT : Texts w g L) :
    Calls Tryz.prog 159 #[.slice (some ⟨g, 0, none⟩) n n, .string r] w (IndexPost L r w) := by
  have Hn := Lib.hid hn
  clear hn
  go_enter Tryz.func159, Tryz.ntmps159
  go_wp2
  go_loop [8] (fun i => ∃ k : Nat, k ≤ n ∧ i = .int .i64 k ∧ Hid (r ∉ L.take k)) (fun i => n - (intOf i).toNat)
  case atStart => exact ⟨0, by omega, rfl, by show r ∉ L.take 0; simp⟩
  case round =>
    obtain ⟨k, hk, rfl, hnot⟩ := hrel
    by_cases hlt : k < n
    · have hkl : k < L.length := by rw [Hn.out]; exact hlt
      have hc := hT k L[k] (List.getElem?_eq_getElem hkl)
      obtain ⟨s, hs⟩ : ∃ s, L[k] = s := ⟨_, rfl⟩
      rw [hs] at hc
      have Hs := Lib.hid hs
      clear hs
      by_cases he : r = s
      · subst he
        have heq : (r.toList == r.toList) = true := by simp
        go_wp2
        go_ret
        exact ⟨rfl, .inl ⟨by rw [← Hs.out]; exact List.getElem_mem hkl, k, hkl, rfl⟩⟩
      · have heq := tl_ne he
        go_wp2
        exact ⟨⟨k + 1, by omega, by go_num, by
          show r ∉ L.take (k + 1)
          rw [List.take_succ_eq_append_getElem hkl, Hs.out]
          simp only [List.mem_append, List.mem_singleton, not_or]
          exact ⟨hnot.out, he⟩⟩, by simp [intOf]; omega⟩
    · have hkn : k = n := by omega
      go_wp2
      go_ret
      exact ⟨rfl, .inr ⟨by have := hnot.out; rwa [hkn, List.take_of_length_le (by rw [Hn.out]; omega)] at this, rfl⟩⟩

def reasons : List ByteArray := [⟨#[68, 78, 83]⟩, ⟨#[68, 78, 70]⟩, ⟨#[68, 81]⟩, ⟨#[78, 77]⟩]
def isR (r : ByteArray) : Bool := reasons.any fun s => s == r
theorem isR_mem (r : ByteArray) : isR r = true ↔ r ∈ reasons := by
  unfold isR
  rw [List.any_eq_true]
  constructor
  · rintro ⟨s, hs, he⟩
    rw [ba_beq] at he
    obtain rfl := of_decide_eq_true he
    exact hs
  · exact fun h => ⟨r, h, ba_eq r⟩
def ContainsPost (r : ByteArray) (w : World) (e : Ending) (w' : World) : Prop := e = .returned (.bool (isR r)) ∧ w = w'
set_option maxHeartbeats 400000 in
theorem contains_any (r : ByteArray) (g : Nat) (w : World) (hT : Texts w g reasons) : Calls Tryz.prog 142 #[.slice (some ⟨g, 0, none⟩) 4 4, .string r] w (ContainsPost r w) := by
  have hi := index_any reasons 4 rfl (by omega) r g w hT
  have hm := isR_mem r
  go_enter Tryz.func142, Tryz.ntmps142
  go_wp2_with fail
  refine hi.mono ?_
  rintro e w' ⟨rfl, ⟨h1, k, hk, rfl⟩ | ⟨h1, rfl⟩⟩
  · have hr : isR r = true := hm.2 h1
    have Hr := Lib.hid hr
    clear hm hi h1 hr
    have hk0 : 0 ≤ (k : Int) := by omega
    go_wp2
    go_ret
    exact ⟨by rw [Hr.out]; simp, rfl⟩
  · have hr : isR r = false := by rw [← Bool.not_eq_true, hm]; exact h1
    have Hr := Lib.hid hr
    clear hm hi h1 hr
    go_wp2
    go_ret
    exact ⟨by rw [Hr.out]; simp, rfl⟩
set_option maxHeartbeats 400000 in
theorem isReason_any (r : ByteArray) (w : World) : Calls Tryz.prog 121 #[.string r] w fun e w' => e = .returned (.bool (isR r)) ∧ Below w.heap.size w w' := by
  have hc := contains_any r w.heap.size (w.alloc (.cells #[.string ⟨#[68, 78, 83]⟩, .string ⟨#[68, 78, 70]⟩, .string ⟨#[68, 81]⟩, .string ⟨#[78, 77]⟩] 9)) (by
    intro j s hs
    match j, hs with
    | 0, hs => cases hs; simp
    | 1, hs => cases hs; simp
    | 2, hs => cases hs; simp
    | 3, hs => cases hs; simp)
  go_enter Tryz.func121, Tryz.ntmps121
  go_wp2_with fail
  refine hc.mono ?_
  rintro e w' ⟨rfl, rfl⟩
  go_wp2
  go_ret
  exact ⟨rfl, (Below.refl _ _).alloc (Nat.le_refl _) _⟩
end Go.Mk
end
