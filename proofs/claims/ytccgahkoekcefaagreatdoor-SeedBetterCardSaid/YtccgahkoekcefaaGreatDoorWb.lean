/-
  Proved: the law SeedBetter returns true where it asks nothing: the entrants are not short, or have an error, or the key is none of a drawn order. Conditions: the tables that awake reads lie where the program lays them; the entrants lie where the slice says; the list is no longer than the form's reach.
-/
import Derived.Test.YtccgahkoekcefaaGreatDoorWa
import Derived.Test.YtccgahkoekcefaaGreatDoorQw
import Derived.Test.YtccgahkoekcefaaGreatDoorZc
set_option linter.unusedVariables false
set_option linter.unusedSimpArgs false
open Go Go.Proofs Go.RowKit Go.Sort
set_option maxRecDepth 100000
namespace Go.Mk
set_option maxHeartbeats 2000000 in
theorem better_exit0 (L : List Ent) (n cap : Nat) (A : Option Addr) (B : Nat) (key : Int) (pk : Int) (w : World) (ht : Tabs w) (hZ : Ents w B A n L) (hn : n * 72 ≤ 140737488351232) (hs : ∀ x ∈ L, x.ok ∧ x.kind.size ≤ maxLen ∧ x.reason.size ≤ maxLen) (hx : shortE L 24 = false) :
    Calls Tryz.prog 7 #[.slice A n cap, .int .i64 key, .int .u8 pk] w (Yes w) := by
  have hR := l4own_big L n cap A B w hZ hn
  have hn2 : (n : Int) ≤ 9223372036854775807 := by omega
  have hl := hZ.1
  have hok : ∀ x ∈ L, x.ok := fun x q => (hs x q).1
  have HK := Lib.hid (And.intro hs hok)
  have HX := Lib.hid hx
  clear hZ hs hok hx
  go_enter Tryz.func7, Tryz.ntmps7
  go_wp2_with fail
  refine hR.mono ?_
  rintro e w1 ⟨v, rfl, hO, hb1x⟩
  obtain ⟨A1, c1, rfl, hR1⟩ := Ents.of_own hO hl
  have HS : Hid (∀ w', Below w1.heap.size w1 w' → Calls Tryz.prog 10 #[.slice A1 n c1, .int .i64 24] w' (RetPost (.bool false) w')) := Lib.hid fun w' hb => by
    have := short_ents L n c1 24 A1 _ w' (hR1.below hb (Nat.le_refl _)) HK.out.1 hn2
    rwa [HX.out] at this
  have ht1 := ht.grow hb1x
  clear hO hR1 hR ht
  have hbb := Below.refl w1.heap.size w1
  go_wp2_with fail
  refine (aw _ ht1).mono ?_
  rintro e w2 ⟨rfl, hbn⟩
  replace hbb := bstep hbb hbn
  clear hbn
  go_wp2_with fail
  refine (HS.out _ hbb).mono ?_
  rintro e w3 ⟨rfl, hbn⟩
  replace hbb := bstep hbb hbn
  clear hbn
  clear HS
  go_wp2_with fail
  refine (aw _ (ht1.grow hbb)).mono ?_
  rintro e w6 ⟨rfl, hbn⟩
  replace hbb := bstep hbb hbn
  clear hbn
  have hfin := hb1x.trans (hbb.mono hb1x.size)
  clear hbb hb1x
  go_wp2
  go_ret
  exact ⟨rfl, hfin⟩
set_option maxHeartbeats 2000000 in
theorem better_exit1 (L : List Ent) (n cap : Nat) (A : Option Addr) (B : Nat) (key : Int) (pk : Int) (w : World) (ht : Tabs w) (hZ : Ents w B A n L) (hn : n * 72 ≤ 140737488351232) (hs : ∀ x ∈ L, x.ok ∧ x.kind.size ≤ maxLen ∧ x.reason.size ≤ maxLen) (hx : shortE L 24 = true) (hX : chkEnts L ≠ 0) :
    Calls Tryz.prog 7 #[.slice A n cap, .int .i64 key, .int .u8 pk] w (Yes w) := by
  have hR := l4own_big L n cap A B w hZ hn
  have hn2 : (n : Int) ≤ 9223372036854775807 := by omega
  have hl := hZ.1
  have hn164 : n ≤ 164 := by have := (short_len hx).1; omega
  obtain ⟨bad, hbad⟩ : ∃ bad, chkEnts L = bad := ⟨_, rfl⟩
  have hb1 : (bad != 0) = true := by rw [bne_iff_ne, ← hbad]; exact hX
  have hok : ∀ x ∈ L, x.ok := fun x q => (hs x q).1
  have HK := Lib.hid (And.intro hs hok)
  have HX := Lib.hid hx
  have HXX := Lib.hid hbad
  clear hZ hs hok hx hX hbad
  go_enter Tryz.func7, Tryz.ntmps7
  go_wp2_with fail
  refine hR.mono ?_
  rintro e w1 ⟨v, rfl, hO, hb1x⟩
  obtain ⟨A1, c1, rfl, hR1⟩ := Ents.of_own hO hl
  have HS : Hid (∀ w', Below w1.heap.size w1 w' → Calls Tryz.prog 10 #[.slice A1 n c1, .int .i64 24] w' (RetPost (.bool true) w')) := Lib.hid fun w' hb => by
    have := short_ents L n c1 24 A1 _ w' (hR1.below hb (Nat.le_refl _)) HK.out.1 hn2
    rwa [HX.out] at this
  have HRC : Hid (∀ w', Below w1.heap.size w1 w' → Calls Tryz.prog 11 #[.slice A1 n c1] w' (RetPost (.int .i64 bad) w')) := Lib.hid fun w' hb => by
    have := r4CheckEntrants_all L n c1 A1 _ w' (hR1.below hb (Nat.le_refl _)) (by omega) HK.out.2
    rwa [HXX.out] at this
  have ht1 := ht.grow hb1x
  clear hO hR1 hR ht
  have hbb := Below.refl w1.heap.size w1
  go_wp2_with fail
  refine (aw _ ht1).mono ?_
  rintro e w2 ⟨rfl, hbn⟩
  replace hbb := bstep hbb hbn
  clear hbn
  go_wp2_with fail
  refine (HS.out _ hbb).mono ?_
  rintro e w3 ⟨rfl, hbn⟩
  replace hbb := bstep hbb hbn
  clear hbn
  clear HS
  go_wp2_with fail
  refine (HRC.out _ hbb).mono ?_
  rintro e w4 ⟨rfl, hbn⟩
  replace hbb := bstep hbb hbn
  clear hbn
  clear HRC
  go_wp2_with fail
  refine (aw _ (ht1.grow hbb)).mono ?_
  rintro e w6 ⟨rfl, hbn⟩
  replace hbb := bstep hbb hbn
  clear hbn
  have hfin := hb1x.trans (hbb.mono hb1x.size)
  clear hbb hb1x
  go_wp2
  go_ret
  exact ⟨rfl, hfin⟩
set_option maxHeartbeats 2000000 in
theorem better_exit2 (L : List Ent) (n cap : Nat) (A : Option Addr) (B : Nat) (key : Int) (pk : Int) (w : World) (ht : Tabs w) (hZ : Ents w B A n L) (hn : n * 72 ≤ 140737488351232) (hs : ∀ x ∈ L, x.ok ∧ x.kind.size ≤ maxLen ∧ x.reason.size ≤ maxLen) (hx : shortE L 24 = true) (hX : chkEnts L = 0) (hD : drwE key n ≠ 0) :
    Calls Tryz.prog 7 #[.slice A n cap, .int .i64 key, .int .u8 pk] w (Yes w) := by
  have hR := l4own_big L n cap A B w hZ hn
  have hn2 : (n : Int) ≤ 9223372036854775807 := by omega
  have hl := hZ.1
  have hn164 : n ≤ 164 := by have := (short_len hx).1; omega
  have HDR : Hid (∀ w', Calls Tryz.prog 15 #[.int .i64 key, .int .i64 (n : Int)] w' (RetPost (.int .i64 3) w')) := Lib.hid fun w' => by
    have := refCheckDraw_all key n w'
    rwa [drw3 hD] at this
  have hok : ∀ x ∈ L, x.ok := fun x q => (hs x q).1
  have HK := Lib.hid (And.intro hs hok)
  have HX := Lib.hid hx
  have HXX := Lib.hid hX
  clear hZ hs hok hx hX hD
  go_enter Tryz.func7, Tryz.ntmps7
  go_wp2_with fail
  refine hR.mono ?_
  rintro e w1 ⟨v, rfl, hO, hb1x⟩
  obtain ⟨A1, c1, rfl, hR1⟩ := Ents.of_own hO hl
  have HS : Hid (∀ w', Below w1.heap.size w1 w' → Calls Tryz.prog 10 #[.slice A1 n c1, .int .i64 24] w' (RetPost (.bool true) w')) := Lib.hid fun w' hb => by
    have := short_ents L n c1 24 A1 _ w' (hR1.below hb (Nat.le_refl _)) HK.out.1 hn2
    rwa [HX.out] at this
  have HRC : Hid (∀ w', Below w1.heap.size w1 w' → Calls Tryz.prog 11 #[.slice A1 n c1] w' (RetPost (.int .i64 0) w')) := Lib.hid fun w' hb => by
    have := r4CheckEntrants_all L n c1 A1 _ w' (hR1.below hb (Nat.le_refl _)) (by omega) HK.out.2
    rwa [HXX.out] at this
  have ht1 := ht.grow hb1x
  clear hO hR1 hR ht
  have hbb := Below.refl w1.heap.size w1
  go_wp2_with fail
  refine (aw _ ht1).mono ?_
  rintro e w2 ⟨rfl, hbn⟩
  replace hbb := bstep hbb hbn
  clear hbn
  go_wp2_with fail
  refine (HS.out _ hbb).mono ?_
  rintro e w3 ⟨rfl, hbn⟩
  replace hbb := bstep hbb hbn
  clear hbn
  clear HS
  go_wp2_with fail
  refine (HRC.out _ hbb).mono ?_
  rintro e w4 ⟨rfl, hbn⟩
  replace hbb := bstep hbb hbn
  clear hbn
  clear HRC
  go_wp2_with fail
  refine (HDR.out _).mono ?_
  rintro e w5 ⟨rfl, hbn⟩
  replace hbb := bstep hbb hbn
  clear hbn
  go_wp2_with fail
  refine (aw _ (ht1.grow hbb)).mono ?_
  rintro e w6 ⟨rfl, hbn⟩
  replace hbb := bstep hbb hbn
  clear hbn
  have hfin := hb1x.trans (hbb.mono hb1x.size)
  clear hbb hb1x
  go_wp2
  go_ret
  exact ⟨rfl, hfin⟩
end Go.Mk
