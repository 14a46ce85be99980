/-
  Proved: the law MarkPreorder returns true and leaves all that was there, for any list of marks and any key. Conditions: the tables that awake reads lie where the program lays them; the list lies where the slice says.
-/
import Derived.Test.YtapglbjojpkblaaGreatDoorNb
set_option linter.unusedVariables false
set_option linter.unusedSimpArgs false
open Go Go.Proofs Go.RowKit
set_option maxRecDepth 100000
namespace Go.Mk
set_option maxHeartbeats 1000000 in
theorem preorder_exit (n cap : Nat) (A : Option Addr) (key : Int) (w : World) (ht : Tabs w) (h : 12 < (n : Int)) (hm : (n : Int) ≤ 9223372036854775807) : Calls Tryz.prog 3 #[.slice A n cap, .int .i64 key] w (Yes w) := by
  go_enter Tryz.func3, Tryz.ntmps3
  go_wp2_with fail
  refine (aw _ ht).mono ?_
  rintro e w1 ⟨rfl, hb1⟩
  have ht1 := ht.grow hb1
  go_wp2_with fail
  refine (aw _ ht1).mono ?_
  rintro e w2 ⟨rfl, hb2⟩
  go_wp2
  go_ret
  exact ⟨rfl, hb1.trans (hb2.mono hb1.size)⟩
set_option maxHeartbeats 1000000 in
theorem preorder_bad (n cap : Nat) (A : Option Addr) (key : Int) (w : World) (ht : Tabs w) (hn : (n : Int) ≤ 12) (y : Int) (hy : (y != 0) = true) (hC : ∀ w', Below w.heap.size w w' → Calls Tryz.prog 8 #[.slice A n cap] w' (RetPost (.int .i64 y) w')) : Calls Tryz.prog 3 #[.slice A n cap, .int .i64 key] w (Yes w) := by
  go_enter Tryz.func3, Tryz.ntmps3
  go_wp2_with fail
  refine (aw _ ht).mono ?_
  rintro e w1 ⟨rfl, hb1⟩
  have hc := hC _ hb1
  clear hC
  go_wp2_with fail
  refine hc.mono ?_
  rintro e w2 ⟨rfl, hb2⟩
  replace hb2 := hb1.trans (hb2.mono hb1.size)
  have ht2 := ht.grow hb2
  clear hc hb1
  go_wp2_with fail
  refine (aw _ ht2).mono ?_
  rintro e w3 ⟨rfl, hb3⟩
  go_wp2
  go_ret
  exact ⟨rfl, hb2.trans (hb3.mono hb2.size)⟩
set_option maxHeartbeats 1000000 in
theorem preorder_key (n cap : Nat) (A : Option Addr) (key : Int) (w : World) (ht : Tabs w) (hn : (n : Int) ≤ 12) (hC : ∀ w', Below w.heap.size w w' → Calls Tryz.prog 8 #[.slice A n cap] w' (RetPost (.int .i64 0) w')) (h : key < 1 ∨ 2147483646 < key ∨ (n : Int) < 0 ∨ 256 < (n : Int)) : Calls Tryz.prog 3 #[.slice A n cap, .int .i64 key] w (Yes w) := by
  have hD := fun w' => refCheckDraw_bad key n w' h
  clear h
  go_enter Tryz.func3, Tryz.ntmps3
  go_wp2_with fail
  refine (aw _ ht).mono ?_
  rintro e w1 ⟨rfl, hb1⟩
  have hc := hC _ hb1
  clear hC
  go_wp2_with fail
  refine hc.mono ?_
  rintro e w2 ⟨rfl, hb2⟩
  replace hb2 := hb1.trans (hb2.mono hb1.size)
  clear hc hb1
  go_wp2_with fail
  refine (hD _).mono ?_
  rintro e w3 ⟨rfl, hb3⟩
  replace hb3 := hb2.trans (hb3.mono hb2.size)
  have ht3 := ht.grow hb3
  clear hb2 hD
  go_wp2_with fail
  refine (aw _ ht3).mono ?_
  rintro e w4 ⟨rfl, hb4⟩
  go_wp2
  go_ret
  exact ⟨rfl, hb3.trans (hb4.mono hb3.size)⟩

theorem preorder_any (L : List M) (n cap : Nat) (A : Option Addr) (B : Nat) (key : Int) (w : World) (ht : Tabs w) (hm : (n : Int) ≤ 9223372036854775807) (hM : Marks w B A n L) : Calls Tryz.prog 3 #[.slice A n cap, .int .i64 key] w (Yes w) := by
  by_cases hn : 12 < (n : Int)
  · exact preorder_exit n cap A key w ht hn hm
  · have hC : ∀ w', Below w.heap.size w w' → Calls Tryz.prog 8 #[.slice A n cap] w' (RetPost (.int .i64 (refK ⟨#[]⟩ L)) w') := fun w' hb => refCheckMarks_any L n cap A B w' (hM.below hb hM.2.1) (by omega)
    by_cases h0 : refK ⟨#[]⟩ L = 0
    · by_cases hk : key < 1 ∨ 2147483646 < key ∨ (n : Int) < 0 ∨ 256 < (n : Int)
      · rw [h0] at hC
        exact preorder_key n cap A key w ht (by omega) hC hk
      · obtain ⟨k, rfl⟩ : ∃ k : Nat, key = (k : Int) := ⟨key.toNat, by omega⟩
        have hK := refK_comK L sNone ⟨#[]⟩ (.inl ⟨rfl, by rw [ByteArray.toList_eq]; rfl⟩)
        exact preorder_main L n cap A B k w ht hM (by omega) (comK sNone L).1 (by rw [show (0 : Int) = (comK sNone L).2 by rw [← hK, h0]]) (by omega) (by omega)
    · exact preorder_bad n cap A key w ht (by omega) _ (by rw [bne_iff_ne]; exact h0) hC
end Go.Mk
