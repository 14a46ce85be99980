/-
  Proved: the law SeedBetter returns true for every list, key and number. Conditions: the tables that awake reads lie where the program lays them; the entrants lie where the slice says.
-/
import Derived.Test.YtccgahkoekcefaaGreatDoorWc
set_option linter.unusedVariables false
set_option linter.unusedSimpArgs false
open Go Go.Proofs Go.RowKit Go.Sort
set_option maxRecDepth 100000
namespace Go.Mk
set_option maxHeartbeats 8000000 in
theorem better_nil (L : List Ent) (n cap : Nat) (A : Option Addr) (B : Nat) (kk : Nat) (pk : Int) (w : World) (ht : Tabs w) (hZ : Ents w B A n L) (hs : ∀ x ∈ L, x.ok ∧ x.kind.size ≤ maxLen ∧ x.reason.size ≤ maxLen) (hx : shortE L 24 = true) (hX : chkEnts L = 0) (hD : drwE kk n = 0) (HN : Hid (n = 0)) (hp1 : 0 ≤ pk) (hp2 : pk ≤ 255) :
    Calls Tryz.prog 7 #[.slice A n cap, .int .i64 (kk : Int), .int .u8 pk] w (Yes w) := by
  obtain ⟨i0, hi, hz0, hz1, hz2⟩ := info_parts infoInt
  obtain ⟨j0, hj', hy0, hy1, hy2⟩ := info_parts infoSEnt
  have hl := hZ.1
  obtain ⟨k1, k2, k3⟩ := drw_ok hD
  have hn4 : n ≤ 24 := by
    have h1 := short_len hx
    have h2 := (chkEnts_zero hX).1
    omega
  have hni : (n : Int) ≤ 24 := by omega
  have hok : ∀ x ∈ L, x.ok := fun x q => (hs x q).1
  have hG := ht.1
  have hR := l4own_big L n cap A B w hZ (by omega)
  have HM : Hid (∀ w', Below w.heap.size w w' → Ents w' B A n L) := Lib.hid fun w' hb => hZ.below hb hZ.2.1
  have HOR : Hid (∀ w', Below w.heap.size w w' → Calls Tryz.prog 13 #[.slice A n cap, .int .i64 (kk : Int)] w' (OrdPost L kk n w')) := Lib.hid fun w' hb => seedOrder_ok L n cap A B kk w' (hZ.below hb hZ.2.1) (by omega) hok (Nat.le_trans hG hb.size) (by omega) (by omega) hX
  have HDR : Hid (∀ w', Calls Tryz.prog 15 #[.int .i64 (kk : Int), .int .i64 (n : Int)] w' (RetPost (.int .i64 0) w')) := Lib.hid fun w' => by
    have := refCheckDraw_all (kk : Int) n w'
    rwa [hD] at this
  have HDW : Hid (∀ w', Calls Tryz.prog 35 #[.int .i64 (kk : Nat), .int .i64 (n : Nat)] w' (Drawn2 kk n w')) := Lib.hid fun w' => refDraw_any kk n w' k1 k2 (by omega)
  have HCM : Hid (∀ (x y : Nat) (E F : Ent) (w' : World), L[x]? = some E → L[y]? = some F → Calls Tryz.prog 36 #[.agg #[.string E.kind, .int .i64 E.value, .string E.reason], .agg #[.string F.kind, .int .i64 F.value, .string F.reason]] w' (RetPost (.int .i64 (cmE L x y)) w')) := Lib.hid fun x y E F w' hE hF => by
    obtain ⟨_, z1, z2⟩ := chkEnts_zero hX
    obtain ⟨kx, _, hk⟩ := kinds_one _ _ z2
    have mE := List.mem_of_getElem? hE
    have mF := List.mem_of_getElem? hF
    unfold cmE
    rw [entAt_of hE, entAt_of hF]
    refine refCompare_any _ _ _ _ _ _ w' (entsE_zero [] L z1 _ mE) (entsE_zero [] L z1 _ mF) ?_
    rcases hk _ mE with q | q
    · exact .inr (.inl q)
    · rcases hk _ mF with q2 | q2
      · exact .inr (.inr q2)
      · exact .inl (q.trans q2.symm)
  have HPA : Hid (∀ i, i + 1 < n → ∃ x y : Nat, x < n ∧ y < n ∧ ga (ordZ L kk) (i + 1) = (x : Int) ∧ ga (ordZ L kk) i = (y : Int) ∧ ga (invZ (drawnZ kk n) n n) x = ((drawnZ kk n).idxOf (x : Int) : Int) ∧ ga (invZ (drawnZ kk n) n n) y = ((drawnZ kk n).idxOf (y : Int) : Int) ∧
      0 ≤ cmE L x y ∧ (cmE L x y = 0 → (drawnZ kk n).idxOf (y : Int) < (drawnZ kk n).idxOf (x : Int))) := Lib.hid fun i hi => ord_pair hX kk hl hi
  have HOF : Hid ((ordZ L kk).Nodup ∧ (∀ x ∈ ordZ L kk, 0 ≤ x ∧ x < (n : Int)) ∧ (ordZ L kk).length = n) := Lib.hid ⟨ordZ_nodup hX kk, fun x q => by have := ordZ_mem hX kk q; rw [hl] at this; exact this, (ordZ_len hX kk).trans hl⟩
  have HALL := Lib.hid (And.intro hs (And.intro hx (And.intro hX (And.intro hl (And.intro k1 k2)))))
  have hmk : ∀ w : World, (Instr.makeSlice 30 (.int .i64 (n : Int)) (.int .i64 (n : Int))).run Tryz.prog w = .ok (.slice (some ⟨w.heap.size, 0, none⟩) n n) (w.alloc (.cells (madeCells #[.int .i64 0] n) 3)) := by
    intro w
    have := run_make (P := Tryz.prog) w 30 3 i0 (.int .i64 0) Tryz.underlying30 hi hz0 .i64 .i64 n n (by omega) (by omega) (by rw [hz2]; omega) (by omega)
    rw [hz1] at this
    simpa [Value.cells] using this
  have HMK := Lib.hid hmk
  obtain ⟨O, hO⟩ : ∃ O, ordZ L kk = O := ⟨_, rfl⟩
  unfold OrdPost at HOR
  rw [hO] at HOR HPA HOF
  have HOO := Lib.hid hO
  clear hZ hs hok hx hX hD hO hi hz0 hz1 hz2 k1 k2 k3
  clear hmk
  go_enter Tryz.func7, Tryz.ntmps7
  go_wp2_with fail
  refine hR.mono ?_
  rintro e w1 ⟨v, rfl, hOE, hb1⟩
  obtain ⟨A1, c1, rfl, hR1⟩ := Ents.of_own hOE hl
  have HS : Hid (∀ w', Below w1.heap.size w1 w' → Calls Tryz.prog 10 #[.slice A1 n c1, .int .i64 24] w' (RetPost (.bool true) w')) := Lib.hid fun w' hb => by
    have := short_ents L n c1 24 A1 _ w' (hR1.below hb (Nat.le_refl _)) HALL.out.1 (by omega)
    rwa [HALL.out.2.1] at this
  have HRC : Hid (∀ w', Below w1.heap.size w1 w' → Calls Tryz.prog 11 #[.slice A1 n c1] w' (RetPost (.int .i64 0) w')) := Lib.hid fun w' hb => by
    have := r4CheckEntrants_all L n c1 A1 _ w' (hR1.below hb (Nat.le_refl _)) (by omega) (fun x q => (HALL.out.1 x q).1)
    rwa [HALL.out.2.2.1] at this
  have ht1 := ht.grow hb1
  have HB1 := Lib.hid hb1
  have hsz1 := hb1.size
  clear hOE hR1 hR ht hl hb1
  have hbb := Below.refl w1.heap.size w1
  go_wp2_with fail
  refine (aw _ ht1).mono ?_
  rintro e w2 ⟨rfl, hbn⟩
  replace hbb := bstep hbb hbn
  clear hbn
  go_wp2_with fail
  refine (HS.out _ hbb).mono ?_
  rintro e w3 ⟨rfl, hbn⟩
  replace hbb := bstep hbb hbn
  clear hbn HS
  go_wp2_with fail
  refine (HRC.out _ hbb).mono ?_
  rintro e w4 ⟨rfl, hbn⟩
  replace hbb := bstep hbb hbn
  clear hbn HRC
  go_wp2_with fail
  refine (HDR.out _).mono ?_
  rintro e w5 ⟨rfl, hbn⟩
  replace hbb := bstep hbb hbn
  clear hbn HDR
  go_wp2_with fail
  refine (HOR.out _ (HB1.out.trans (hbb.mono hsz1))).mono ?_
  rintro e w6 ⟨gO, rfl, hrO, hbn⟩
  have HB6 := Lib.hid (HB1.out.trans ((bstep hbb hbn).mono hsz1))
  have HIO := Lib.hid (RowZ.ints hrO)
  clear hbn hbb HOR hrO HB1
  have hF := form_one (c := n) 30 HIO.out (by omega) HOF.out.1 HOF.out.2.1
  go_wp2_with fail
  refine hF.mono ?_
  rintro e w7 ⟨rfl, hbn⟩
  have hb67 : Below w6.heap.size w6 w7 := bstep (balloc _ (Below.refl _ _)) hbn
  have HI7 := Lib.hid (HIO.out.below hb67)
  have HB7 := Lib.hid (bstep HB6.out hb67)
  clear hbn hb67 HIO HB6 hF
  have hmk := HMK.out
  have HRS := Lib.hid (RowZ.start w7 w7.heap.size n (Nat.le_refl _) (by omega))
  have hb78 : Below w7.heap.size w7 (w7.alloc (.cells (madeCells #[.int .i64 0] n) 3)) := balloc _ (Below.refl _ _)
  obtain ⟨gR, hgR⟩ : ∃ gR, gR = w7.heap.size := ⟨_, rfl⟩
  rw [← hgR] at HRS
  go_wp2_with fail
  rw [← hgR]
  have HB8 := Lib.hid hb78
  have HGR := Lib.hid hgR
  clear hb78 hgR hmk
  generalize w7.alloc (.cells (madeCells #[.int .i64 0] n) 3) = w8 at *
  refine (HDW.out _).mono ?_
  rintro e w9 ⟨gD, rfl, hrd, hgd, hbn⟩
  have HB9 := Lib.hid (bstep HB8.out hbn)
  have HR9 : Hid (RowZ w9 gR gR n n (invZ (drawnZ kk n) n 0)) := by
    have := HRS.out.below hbn
    rw [← invZ_zero (drawnZ kk n) n] at this
    exact Lib.hid (this.mono (Nat.le_refl _))
  have hgl : gR < w8.heap.size := (RowZ.lt HRS.out).2
  have HGD : Hid (gD ≠ gR ∧ ∀ w', w9.grownBy w' (some gR) → ∀ k d : Nat, (Sh.order kk n)[k]? = some d → w'.cell? ⟨gD, k, none⟩ = some (.int .i64 (d : Int))) := Lib.hid ⟨by omega, fun w' hg k d hk => hg.cell (a := ⟨gD, k, none⟩) (hrd.2 k d hk).1 (by intro q; have := Option.some.inj q; simp only at this; omega)⟩
  have HB79 : Hid (∀ w', w9.grownBy w' (some gR) → Below w7.heap.size w7 w') := Lib.hid fun w' hg => HB9.out.grown hg HB9.out.size (fun r hr => by cases hr; rw [HGR.out]; exact Nat.le_refl _)
  clear hbn hrd hgd hgl HRS HB8 HB9
  go_wp2
  go_loopw [68] (fun i wr => ∃ k : Nat, k ≤ n ∧ i = .int .i64 k ∧ Hid (RowZ wr gR gR n n (invZ (drawnZ kk n) n k)) ∧ Hid (w9.grownBy wr (some gR))) (fun i _ => n - (RowKit.intOf i).toNat)
  case atStart => exact ⟨0, by omega, rfl, HR9, Lib.hid (World.grownBy.refl _ _)⟩
  case round =>
    obtain ⟨k, hk, rfl, HR, HG⟩ := hrel
    by_cases hlt : k < n
    · exact absurd hlt (by have := HN.out; omega)
    · have hkn : k = n := by omega
      have hkni : ¬ (k : Int) < (n : Int) := by omega
      have HBA := Lib.hid (HB79.out _ HG.out)
      clear HR HG hkn hlt hk HB79 HGD HR9
      obtain ⟨wx, rfl⟩ : ∃ wx : World, wx = wr := ⟨_, rfl⟩
      have HBX := Lib.hid (bstep HB7.out HBA.out)
      clear HI7 HBA HCM HPA
      have hz1 : ¬ (1 : Int) < (n : Int) := by have := HN.out; omega
      have hz0 : ((n : Int) == 0) = true := by have := HN.out; simp [this]
      go_wp2
      go_loopw [13] (fun i ws => i = .int .i64 1 ∧ Hid (ws = wx)) (fun i _ => 0)
      case atStart => exact ⟨rfl, Lib.hid rfl⟩
      case round =>
        obtain ⟨rfl, HWX⟩ := hrel
        have HBF : Hid (Below w.heap.size w wr) := by rw [HWX.out]; exact HBX
        clear HBX HWX
        go_wp2
        go_ret
        exact ⟨rfl, HBF.out⟩
theorem better_any (L : List Ent) (n cap : Nat) (A : Option Addr) (B : Nat) (key : Int) (pk : Int) (w : World) (ht : Tabs w) (hZ : Ents w B A n L) (hn : n * 72 ≤ 140737488351232) (hs : ∀ x ∈ L, x.ok ∧ x.kind.size ≤ maxLen ∧ x.reason.size ≤ maxLen) (hk : (Lit.int .u8 pk).wf = true) :
    Calls Tryz.prog 7 #[.slice A n cap, .int .i64 key, .int .u8 pk] w (Yes w) := by
  obtain ⟨hp1, hp2⟩ : (0 : Int) ≤ pk ∧ pk ≤ 255 := (Lit.wf_int_iff .u8 pk).1 hk
  cases hx : shortE L 24 with
  | false => exact better_exit0 L n cap A B key pk w ht hZ hn hs hx
  | true =>
    by_cases hX : chkEnts L = 0
    · by_cases hD : drwE key n = 0
      · obtain ⟨k1, k2, _⟩ := drw_ok hD
        obtain ⟨kk, rfl⟩ : ∃ kk : Nat, key = (kk : Int) := ⟨key.toNat, by omega⟩
        by_cases h0 : 0 < n
        · exact better_main L n cap A B kk pk w ht hZ hs hx hX hD h0 hp1 hp2
        · exact better_nil L n cap A B kk pk w ht hZ hs hx hX hD (Lib.hid (by omega)) hp1 hp2
      · exact better_exit2 L n cap A B key pk w ht hZ hn hs hx hX hD
    · exact better_exit1 L n cap A B key pk w ht hZ hn hs hx hX
end Go.Mk
