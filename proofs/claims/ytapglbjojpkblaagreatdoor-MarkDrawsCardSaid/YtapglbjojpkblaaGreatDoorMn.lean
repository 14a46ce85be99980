/-
  Proved: mark.Ranks returns a new slice of ranks, or the first error. Conditions: the list lies where the slice says; the heap holds the program's variables.
-/
import Derived.Test.YtapglbjojpkblaaGreatDoorMm
set_option linter.unusedVariables false
set_option linter.unusedSimpArgs false
open Go Go.Proofs Go.RowKit
set_option maxRecDepth 100000
namespace Go.Mk

theorem infoInt : (Tryz.prog.info? 3).map (fun i => (i.zero, i.size, i.bytes)) = some (some (.int .i64 0), 1, 8) := by kernel_rfl
theorem Row.new' (w : World) (n : Nat) : Row (w.alloc (.cells (madeCells #[.int .i64 0] n) 3)) w.heap.size (List.replicate n 0) := Row.new w n
set_option maxHeartbeats 1000000 in
theorem Ranks_many (n cap : Nat) (A : Option Addr) (w : World) (h : 256 < (n : Int)) (hm : (n : Int) ≤ 9223372036854775807) :
    Calls Tryz.prog 10 #[.slice A n cap] w (RetPost (.tuple #[.slice none 0 0, .int .i64 5]) w) := by
  go_enter Tryz.func10, Tryz.ntmps10
  go_wp2
  go_ret2
  exact ⟨rfl, Below.refl _ _⟩
set_option maxHeartbeats 1000000 in
theorem Ranks_bad (L : List (ByteArray × Int × ByteArray)) (n cap : Nat) (A : Option Addr) (B : Nat) (w : World) (hM : Marks w B A n L) (hg : 15 ≤ w.heap.size) (hsm : n ≤ 256) (c : ByteArray) (e0 : Int) (he : comK sNone L = (c, e0)) (hne : (e0 != 0) = true) :
    Calls Tryz.prog 10 #[.slice A n cap] w (RetPost (.tuple #[.slice none 0 0, .int .i64 e0]) w) := by
  have hn0 : (n : Int) ≤ 256 := by omega
  have hcK : ∀ w' K, Below w.heap.size w w' → Kinds w' K → Calls Tryz.prog 37 #[.map (some K), .slice A n cap] w' (RetPost (.tuple #[.string c, .int .i64 e0]) w') := fun w' K hb hK => by
    have := commonKind_any L n cap A B K w' (hM.below hb hM.2.1) (by omega) hK
    rwa [he] at this
  clear hM he hsm
  go_enter Tryz.func10, Tryz.ntmps10
  go_wp2_with fail
  refine (kinds_any _ hg).mono ?_
  rintro e w1 ⟨K, rfl, hB, hK, hb1⟩
  have hcc := hcK _ _ hb1 hK
  clear hcK
  go_wp2_with fail
  refine hcc.mono ?_
  rintro e w2 ⟨rfl, hb2⟩
  have hb3 := hb1.trans (hb2.mono hb1.size)
  clear hb1 hb2 hcc hK
  go_wp2
  go_ret2
  exact ⟨rfl, hb3⟩

/-- The rank of a mark in a list. -/
def rankM (b : Bool) (L : List (ByteArray × Int × ByteArray)) (m : ByteArray × Int × ByteArray) : Nat := if (m.1.toList == [110, 111, 110, 101]) = true then 0 else 1 + cntB b m.2.1 L
/-- What Ranks leaves: a new block of ranks. -/
def Ranked (b : Bool) (L : List (ByteArray × Int × ByteArray)) (n : Nat) (w : World) (e : Ending) (w' : World) : Prop :=
  ∃ g, e = .returned (.tuple #[.slice (some ⟨g, 0, none⟩) n n, .int .i64 0]) ∧ Row w' g (L.map (rankM b L)) ∧ w.heap.size ≤ g ∧ Below w.heap.size w w'
theorem rank_set (f : (ByteArray × Int × ByteArray) → Nat) (L : List (ByteArray × Int × ByteArray)) (n k : Nat) (m : ByteArray × Int × ByteArray) (hn : L.length = n) (h : L[k]? = some m) :
    ((L.take k).map f ++ List.replicate (n - k) 0).set k (f m) = (L.take (k + 1)).map f ++ List.replicate (n - (k + 1)) 0 := by
  obtain ⟨hk, e⟩ := List.getElem?_eq_some_iff.1 h
  subst hn
  obtain ⟨q, hq⟩ : ∃ q, L.length - k = q + 1 := ⟨L.length - k - 1, by omega⟩
  have hl : ((L.take k).map f).length = k := by simp; omega
  rw [hq, show L.length - (k + 1) = q by omega, List.set_append_right _ _ (by omega), hl, Nat.sub_self, List.replicate_succ, List.set_cons_zero, List.take_succ_eq_append_getElem hk, e]
  simp
theorem rank_none (f : (ByteArray × Int × ByteArray) → Nat) (L : List (ByteArray × Int × ByteArray)) (n k : Nat) (m : ByteArray × Int × ByteArray) (hn : L.length = n) (h : L[k]? = some m) (hf : f m = 0) :
    (L.take k).map f ++ List.replicate (n - k) 0 = (L.take (k + 1)).map f ++ List.replicate (n - (k + 1)) 0 := by
  obtain ⟨hk, e⟩ := List.getElem?_eq_some_iff.1 h
  subst hn
  obtain ⟨q, hq⟩ : ∃ q, L.length - k = q + 1 := ⟨L.length - k - 1, by omega⟩
  rw [hq, show L.length - (k + 1) = q by omega, List.take_succ_eq_append_getElem hk, e, List.replicate_succ]
  simp [hf]
end Go.Mk
