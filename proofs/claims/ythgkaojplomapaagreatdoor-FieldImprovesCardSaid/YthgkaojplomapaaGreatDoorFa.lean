/-
  Proved: the error of athletes by package field (nameError, newNameError, firstOf and listError at texts, athletesError), as a plain function. Conditions: the texts lie where the slice says; there are at most 1,000, each no longer than an int says.
  Proved: split of package field gives the number of failures at the beginning of a text and what stands behind them; inARow gives the failures in a row at the end of texts. Conditions: the texts lie where the slice says; each is no longer than an int says, and there are at most 1,000 of at most 1,000 bytes for inARow.
  Proved: append of a slice (nil or not) to a row of one's own, as an operation and as one step of a region that draws, telling where the new row lies. No condition.
  Proved: rows of texts in new memory, read as texts in cells. No condition beside those named.
-/
import Derived.Test.YthgkaojplomapaaGreatDoorXa
import Derived.Laws.Runes
import Derived.Test.YthgkaojplomapaaGreatDoorYa
import Derived.Laws.AppendOwn
import Derived.Maps.AppendAt
import Derived.Deep.RegionLaw
import Derived.Lib.AppendZeros
import Derived.Lib.SliceRun
section
set_option linter.unusedVariables false
set_option linter.unusedSimpArgs false
open Go Go.Proofs Go.RowKit
set_option maxRecDepth 100000
namespace Go.Mk
set_option maxHeartbeats 1000000 in
theorem fdName_any (s : ByteArray) (w : World) (hz : s.size ≤ maxLen) : Calls Tryz.prog 146 #[.string s] w (RetPost (.int .i64 (nmE s)) w) := by
  have hN := fun w => IsName_any s w hz
  have hW := fun w => trWhen_any (!(isNm s)) 8 w
  have HY : Hid ((if (!(isNm s)) = true then (8 : Int) else 0) = nmE s) := Lib.hid (by unfold nmE; cases isNm s <;> rfl)
  rw [HY.out] at hW
  generalize nmE s = y at *
  generalize isNm s = nb at *
  clear hz
  go_enter Tryz.func146, Tryz.ntmps146
  go_wp2_with fail
  refine (hN _).mono ?_
  rintro e w1 ⟨rfl, hb1⟩
  go_wp2_with fail
  refine (hW _).mono ?_
  rintro e w2 ⟨rfl, rfl⟩
  go_wp2
  go_ret
  exact ⟨rfl, hb1⟩
set_option maxHeartbeats 4000000 in
theorem fdNewName_any (L : List ByteArray) (k c : Nat) (A : Option Addr) (s : ByteArray) (w : World) (hZ : TextsZ w A k L) (hk : k ≤ 1000) (hz : s.size ≤ maxLen) :
    Calls Tryz.prog 124 #[.slice A k c, .string s] w (RetPost (.int .i64 (twE L s)) w) := by
  have hN := fun w => fdName_any s w hz
  have HCo : Hid (∀ w', Below w.heap.size w w' → Calls Tryz.prog 180 #[.slice A k c, .string s] w' (RetSame (.bool (isIn L s)) w')) := Lib.hid fun w' hb => slContainsS_any L s k c A w' (hZ.below hb) (by omega)
  have hW := fun w => trWhen_any (isIn L s) 9 w
  have hF0 := fun x y g w => trFirst_any [x, y] 2 rfl (by decide) g w
  have HY : Hid (fstN [nmE s, if isIn L s = true then 9 else 0] = twE L s) := Lib.hid rfl
  generalize twE L s = y at *
  generalize isIn L s = bb at *
  generalize nmE s = e1 at *
  generalize (if bb = true then (9 : Int) else 0) = e2 at *
  have hF := hF0 e1 e2
  rw [HY.out] at hF
  clear hF0 hZ hz
  go_enter Tryz.func124, Tryz.ntmps124
  go_wp2_with fail
  refine (hN _).mono ?_
  rintro e w1 ⟨rfl, hb1⟩
  have HB1 := Lib.hid hb1
  go_wp2_with fail
  refine (HCo.out _ HB1.out).mono ?_
  rintro e w2 ⟨rfl, rfl⟩
  go_wp2_with fail
  refine (hW _).mono ?_
  rintro e w3 ⟨rfl, rfl⟩
  have hb4 := balloc (.cells #[.int .i64 e1, .int .i64 e2] 30) HB1.out
  have hes := es2 w1 e1 e2 30
  go_wp2_with fail
  refine (hF _ _ hes).mono ?_
  rintro e w5 ⟨rfl, rfl⟩
  go_wp2
  go_ret
  exact ⟨rfl, hb4⟩
def AthF (g : Nat) : Value := .func (.func 177) #[] #[.pointer (some ⟨g, 0, none⟩)]
def athE (L : List ByteArray) : Int := fstN [if L.length = 0 then 12 else 0, if 32 < L.length then 5 else nmsE [] L]
end Go.Mk
end
section
set_option linter.unusedVariables false
set_option linter.unusedSimpArgs false
open Go Go.Proofs Go.RowKit
set_option maxRecDepth 100000
namespace Go.Mk
def nxL : List UInt8 → Nat
  | [] => 0
  | c :: l => if c = 120 then nxL l + 1 else 0
def nx (s : ByteArray) : Nat := nxL s.data.toList
def endX (s : ByteArray) : ByteArray := s.extract (nx s) s.size
end Go.Mk
end
section
set_option linter.unusedVariables false
set_option linter.unusedSimpArgs false
open Go Go.Proofs Go.RowKit Go.Sort
set_option maxRecDepth 100000
namespace Go.Mk
theorem wpList_append_src {P : Program} (w : World) {ops : Array Oper} {rest : List Oper} {o : Oper} {a : Act} {Q : Exit → Act → World → Prop} (hgd : o.guard = none) (s x : Operand) (t : TypeId)
    (ho : o.op = .call { callee := .builtin .append, args := #[s, x], argTypes := #[t, t] })
    (base : Nat) (e : TypeId) (i : TypeInfo) (z : Value) (size bytes : Nat) (ht : P.underlying t = some (.slice e)) (hi : P.info? e = some i) (hz : i.zero = some z)
    (hsize : i.size = size) (hby : i.bytes = bytes) (hzs : z.cells.size = size) (hsz : 0 < size)
    (v : Value) (n : Nat) (xs : List Value) (hs : a.eval s = v) (hown : w.ownsRow base e size v n xs)
    (ao : Option Addr) (m c : Nat) (news : List Value) (hx : a.eval x = .slice ao m c) (hl : news.length = m * size) (hnone : ao = none → m = 0 ∧ c = 0)
    (hnews : ∀ ad, ao = some ad → ∀ j u, news[j]? = some u → w.cell? (ad.add j) = some u) (h1 : ∀ u ∈ news, u.oneCell' = true)
    (h63 : n + m ≤ maxLen) (hbytes : (n + m) * bytes ≤ 140737488355328) (hbase : base ≤ w.heap.size)
    (h : ∀ v' w', w'.ownsRow base e size v' (n + m) (xs ++ news) → w.grownBy w' v.ownBlock → (v'.ownBlock = v.ownBlock ∨ v'.ownBlock = some w.heap.size) → wpList P ops Q rest (a.put o.dst v') w') : wpList P ops Q (o :: rest) a w := by
  refine wpList_plain hgd fun K hK => ?_
  cases ao with
  | some ad =>
    obtain ⟨v', w', hr, h2, h3, _, h5⟩ := run_append_own_at (P := P) w base t o.type e i z size bytes ht hi hz hsize hby hzs hsz v n xs hown ad m c news hl (hnews ad rfl) h1 h63 hbytes hbase
    unfold Oper.wp execOp
    simp only [ho, resolve, invoke, builtin, Sem.run_bind, Sem.run_pure, Result.andThen_ok, List.map_toArray, List.map_cons, List.map_nil, hs, hx, hr]
    exact hK _ _ (h v' w' h2 h3 h5)
  | none =>
    obtain ⟨rfl, rfl⟩ := hnone rfl
    have hn : news = [] := List.eq_nil_of_length_eq_zero (by simpa using hl)
    subst hn
    have hrun := run_append_owned_none (P := P) w base t o.type e i size ht hi v n xs hown
    unfold Oper.wp execOp
    simp only [ho, resolve, invoke, builtin, Sem.run_bind, Sem.run_pure, Result.andThen_ok, List.map_toArray, List.map_cons, List.map_nil, hs, hx, hrun]
    exact hK _ _ (h v w (by simpa using hown) (World.grownBy.refl _ _) (.inl rfl))
end Go.Mk
end
section
set_option linter.unusedVariables false
set_option linter.unusedSimpArgs false
open Go Go.Proofs Go.RowKit
set_option maxRecDepth 100000
namespace Go.Mk
def OwnNames (w : World) (B : Nat) (v : Value) (L : List ByteArray) : Prop := w.ownsRow B 9 1 v L.length (L.map Value.string)
theorem infoStr : (Tryz.prog.info? 9).map (fun i => (i.zero, i.size, i.bytes)) = some (some (.string ⟨#[]⟩), 1, 16) := by kernel_rfl
theorem OwnNames.next {w1 : World} {B : Nat} {v' : Value} {L : List ByteArray} {t : ByteArray} (h : w1.ownsRow B 9 1 v' (L.length + 1) (L.map Value.string ++ [Value.string t])) : OwnNames w1 B v' (L ++ [t]) := by
  unfold OwnNames
  rw [List.length_append, List.map_append]
  exact h
theorem TextsZ.of_own {w : World} {base : Nat} {v : Value} {L : List ByteArray} (h : OwnNames w base v L) : ∃ A c, v = .slice A L.length c ∧ L.length ≤ c ∧ (A = none → c = 0) ∧ TextsZ w A L.length L := by
  rcases h.2 with ⟨a, b⟩ | ⟨g, cap, cur, a, b, c, d, e1, f, hx⟩
  · exact ⟨none, 0, by rw [a, b], by omega, fun _ => rfl, rfl, fun hn => absurd hn (by omega)⟩
  · refine ⟨_, cap, a, d, fun q => (by cases q), rfl, fun _ => ⟨g, 0, rfl, (Array.getElem?_eq_some_iff.1 c).1, fun j x hj => ?_⟩⟩
    have := World.ownsRow.cells h (g := g) (by rw [a]; rfl) j (.string x) (by simp [hj])
    rwa [show (⟨g, 0, none⟩ : Addr).add j = ⟨g, 0 + j, none⟩ from by unfold Addr.add; split <;> simp_all] at this
theorem add_atX (g o i : Nat) : (⟨g, o, none⟩ : Addr).add i = ⟨g, o + i, none⟩ := by unfold Addr.add; split <;> simp_all
end Go.Mk
end
