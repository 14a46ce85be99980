/-
  Proved: seed.advancing and seed.namesOf, as plain functions. Conditions: the runners lie where the slices say; at most 20 heats, each at most 170 long.
-/
import Derived.Test.YtkjolejppnogiaaGreatDoorGd
set_option linter.unusedVariables false
set_option linter.unusedSimpArgs false
open Go Go.Proofs Go.RowKit Go.Sort
set_option maxRecDepth 100000
namespace Go.Mk
/-- Who advances by place, and the others. -/
def byPl (LL : List (List Run)) (place : Int) : List Run := LL.flatMap fun l => l.filter (inP l place)
def othR (LL : List (List Run)) (place : Int) : List Run := LL.flatMap fun l => l.filter fun x => !inP l place x
def byTm (LL : List (List Run)) (place time : Int) : List Run := (othR LL place).filter (inP (othR LL place) time)
theorem flat_take {α β : Type} (f : α → List β) {LL : List α} {k : Nat} {l : α} (h : LL[k]? = some l) : (LL.take (k + 1)).flatMap f = (LL.take k).flatMap f ++ f l := by
  rw [List.take_add_one, h, Option.toList_some, List.flatMap_append]
  simp
theorem flat_len {α β : Type} (f : α → List β) (m : Nat) : ∀ (LL : List α), (∀ l ∈ LL, (f l).length ≤ m) → (LL.flatMap f).length ≤ m * LL.length
  | [], _ => by simp
  | l :: LL, h => by
    have h1 := h l (by simp)
    have h2 := flat_len f m LL (fun q hq => h q (by simp [hq]))
    rw [List.flatMap_cons, List.length_append, List.length_cons, Nat.mul_add]
    omega
/-- What advancing leaves. -/
def AdvPost (LL : List (List Run)) (place time : Int) (w : World) (e : Ending) (w' : World) : Prop :=
  ∃ u v, e = .returned (.tuple #[u, v]) ∧ OwnS w' w.heap.size u (byPl LL place) ∧ OwnS w' w.heap.size v (byTm LL place time) ∧ Below w.heap.size w w'
set_option maxHeartbeats 8000000 in
theorem advancing_any (LL : List (List Run)) (n cap : Nat) (A : Option Addr) (B : Nat) (place time : Int) (w : World) (hZ : RHeats w B A n LL) (hn : n ≤ 20) (hs : ∀ l ∈ LL, l.length ≤ 170) (ht : LL.flatten.length ≤ 1000) :
    Calls Tryz.prog 84 #[.slice A n cap, .int .i64 place, .int .i64 time] w (AdvPost LL place time w) := by
  obtain ⟨i0, hi, hz0, hz1, hz2⟩ := info_parts infoSRun
  have hni : (n : Int) ≤ 20 := by omega
  have HM : Hid (∀ w', Below w.heap.size w w' → RHeats w' B A n LL) := fun w' hb => hZ.below hb hZ.2.1
  have Hlen : Hid (LL.length = n) := hZ.1
  have HS := Lib.hid hs
  have hot : (othR LL place).length ≤ 1000 := by
    refine Nat.le_trans ?_ ht
    unfold othR
    clear hZ HM Hlen HS hs ht
    induction LL with
    | nil => simp
    | cons l LL ih => rw [List.flatMap_cons, List.length_append, List.flatten_cons, List.length_append]; exact Nat.add_le_add (List.length_filter_le _ _) ih
  have HOT := Lib.hid hot
  clear hZ hs ht hot
  go_enter Tryz.func84, Tryz.ntmps84
  go_wp2
  go_loopw [8, 9, 18] (fun u v i wr => ∃ k : Nat, k ≤ n ∧ i = .int .i64 k ∧ OwnS wr w.heap.size u ((LL.take k).flatMap fun l => l.filter (inP l place)) ∧ OwnS wr w.heap.size v ((LL.take k).flatMap fun l => l.filter fun x => !inP l place x) ∧ Apt u v ∧ Below w.heap.size w wr) (fun _ _ i _ => n - (RowKit.intOf i).toNat)
  case atStart => exact ⟨0, by omega, rfl, World.ownsRow_nil _ _ _ _, World.ownsRow_nil _ _ _ _, Apt.nil _, Below.refl _ _⟩
  case round =>
    obtain ⟨k, hk, rfl, hu, hv, hap, hb⟩ := hrel
    by_cases hlt : k < n
    · obtain ⟨b, off, l, A', c', rfl, hbl, hL, hc, hZl⟩ := (HM.out _ hb).at_ hlt
      have f1 := flat_take (fun l => l.filter (inP l place)) hL
      have f2 := flat_take (fun l => l.filter fun x => !inP l place x) hL
      have hsl := HS.out l (List.mem_of_getElem? hL)
      have hki : (k : Int) < (n : Int) := by omega
      have g1 : ((LL.take k).flatMap fun l => l.filter (inP l place)).length ≤ 3400 := by
        have := flat_len (fun l => l.filter (inP l place)) 170 (LL.take k) (fun q hq => Nat.le_trans (List.length_filter_le _ _) (HS.out q (List.mem_of_mem_take hq)))
        have h9 : (LL.take k).length ≤ 20 := by rw [List.length_take]; omega
        omega
      have g2 : ((LL.take k).flatMap fun l => l.filter fun x => !inP l place x).length ≤ 3400 := by
        have := flat_len (fun l => l.filter fun x => !inP l place x) 170 (LL.take k) (fun q hq => Nat.le_trans (List.length_filter_le _ _) (HS.out q (List.mem_of_mem_take hq)))
        have h9 : (LL.take k).length ≤ 20 := by rw [List.length_take]; omega
        omega
      have g3 : (l.filter (inP l place)).length ≤ 170 := Nat.le_trans (List.length_filter_le _ _) hsl
      have g4 : (l.filter fun x => !inP l place x).length ≤ 170 := Nat.le_trans (List.length_filter_le _ _) hsl
      have HSP := split_any l l.length c' A' B place wr hZl (by omega)
      unfold SpPost at HSP
      obtain ⟨m, hm⟩ : ∃ m, l.length = m := ⟨_, rfl⟩
      rw [hm] at HSP hc
      obtain ⟨P, hP⟩ : ∃ P, ((LL.take k).flatMap fun l => l.filter (inP l place)) = P := ⟨_, rfl⟩
      obtain ⟨Q, hQ⟩ : ∃ Q, ((LL.take k).flatMap fun l => l.filter fun x => !inP l place x) = Q := ⟨_, rfl⟩
      obtain ⟨P1, hP1⟩ : ∃ P1, l.filter (inP l place) = P1 := ⟨_, rfl⟩
      obtain ⟨Q1, hQ1⟩ : ∃ Q1, (l.filter fun x => !inP l place x) = Q1 := ⟨_, rfl⟩
      rw [hP] at hu f1 g1
      rw [hQ] at hv f2 g2
      rw [hP1] at HSP f1 g3
      rw [hQ1] at HSP f2 g4
      have F1 := Lib.hid f1
      have F2 := Lib.hid f2
      have G1 := Lib.hid (And.intro g1 g3)
      have G2 := Lib.hid (And.intro g2 g4)
      have HU := Lib.hid hu
      have HV := Lib.hid hv
      have HAP := Lib.hid hap
      clear hL hP hQ hP1 hQ1 g1 g2 g3 g4 f1 f2 hsl hZl hm hu hv hap
      as_aux_lemma =>
        go_wp2_with fail
        refine HSP.mono ?_
        rintro e w2 ⟨u1, v1, rfl, hu1, hv1, hb2⟩
        have hu2 : OwnS w2 w.heap.size _ P := ownN HU.out hb2
        have hv2 : OwnS w2 w.heap.size _ Q := ownN HV.out hb2
        have LU : ∀ b, Value.ownBlock _ = some b → b < wr.heap.size := fun b h => (World.ownsRow.lt HU.out b h).2
        have LV : ∀ b, Value.ownBlock _ = some b → b < wr.heap.size := fun b h => (World.ownsRow.lt HV.out b h).2
        have L1 : ∀ b, u1.ownBlock = some b → wr.heap.size ≤ b := fun b h => (World.ownsRow.lt hu1 b h).1
        have L2 : ∀ b, v1.ownBlock = some b → wr.heap.size ≤ b := fun b h => (World.ownsRow.lt hv1 b h).1
        have hbw := hb.trans (hb2.mono hb.size)
        have hsz2 := hb2.size
        obtain ⟨ao, cc, rfl, hno, hce⟩ := hu1.src
        obtain ⟨m1, hm1⟩ : ∃ m1, P1.length = m1 := ⟨_, rfl⟩
        have HN1 : Hid ((P1.flatMap runC).length = m1 * 4 ∧ P1.length = m1 ∧ (ao = none → m1 = 0 ∧ cc = 0)) := ⟨by rw [← hm1]; exact runC_len P1, hm1, by rw [← hm1]; exact hno⟩
        have HCE := Lib.hid hce
        rw [hm1] at L1
        rw [hm1]
        have HV1 := Lib.hid hv1
        have HU2 := Lib.hid hu2
        have HV2 := Lib.hid hv2
        clear hce hno hm1 HSP hc hb2 hu1 hv1 hu2 hv2 HU HV
        go_wp2_with (at_builtin; refine wpList_append_src _ rfl _ _ 65 rfl w.heap.size 79 i0 (.agg #[.string ⟨#[]⟩, .string ⟨#[]⟩, .int .i64 0, .string ⟨#[]⟩]) 4 56 Tryz.underlying65 hi hz0 hz1 hz2 rfl (by decide) _ _ _ rfl HU2.out ao m1 cc (P1.flatMap runC) rfl HN1.out.1 HN1.out.2.2 HCE.out (runC_one P1) ?c3 ?c4 ?c5 ?_)
        case c3 => have := G1.out; have := HN1.out.2.1; unfold maxLen; omega
        case c4 => have := G1.out; have := HN1.out.2.1; omega
        case c5 => exact hbw.size
        · intro u3 w3 hown3 hgrow3 hat3
          have hu4 : OwnS w3 w.heap.size u3 ((LL.take (k + 1)).flatMap fun l => l.filter (inP l place)) := by
            rw [F1.out]
            refine OwnS.app ?_
            rw [HN1.out.2.1]
            exact hown3
          have hv4 : OwnS w3 w.heap.size _ Q := HV2.out.kept hgrow3 HAP.out.kept
          have hv1' : OwnS w3 wr.heap.size v1 Q1 := HV1.out.kept hgrow3 (by
            cases e : v1.ownBlock with
            | none => exact .inl rfl
            | some b => exact .inr fun q => by have h1 := L2 b e; have h2 := LU b q.symm; omega)
          have ha4 : Apt u3 _ := HAP.out.next hat3 (fun b h => Nat.lt_of_lt_of_le (LV b h) hsz2)
          have hb3 : Below w.heap.size w w3 := hbw.grown hgrow3 hbw.size (fun r hr => (World.ownsRow.lt HU2.out r hr).1)
          have hsz3 := hgrow3.size
          obtain ⟨ao2, cc2, rfl, hno2, hce2⟩ := hv1'.src
          obtain ⟨m2, hm2⟩ : ∃ m2, Q1.length = m2 := ⟨_, rfl⟩
          have HN2 : Hid ((Q1.flatMap runC).length = m2 * 4 ∧ Q1.length = m2 ∧ (ao2 = none → m2 = 0 ∧ cc2 = 0)) := ⟨by rw [← hm2]; exact runC_len Q1, hm2, by rw [← hm2]; exact hno2⟩
          have HCE2 := Lib.hid hce2
          rw [hm2]
          have HU4 := Lib.hid hu4
          have HV4 := Lib.hid hv4
          have HA4 := Lib.hid ha4
          clear hce2 hno2 hm2 hown3 hgrow3 hat3 hu4 hv4 ha4 hv1' L1 L2 HV1 HU2 HV2 HCE HAP
          go_wp2_with (at_builtin; refine wpList_append_src _ rfl _ _ 65 rfl w.heap.size 79 i0 (.agg #[.string ⟨#[]⟩, .string ⟨#[]⟩, .int .i64 0, .string ⟨#[]⟩]) 4 56 Tryz.underlying65 hi hz0 hz1 hz2 rfl (by decide) _ _ _ rfl HV4.out ao2 m2 cc2 (Q1.flatMap runC) rfl HN2.out.1 HN2.out.2.2 HCE2.out (runC_one Q1) ?d3 ?d4 ?d5 ?_)
          case d3 => have := G2.out; have := HN2.out.2.1; unfold maxLen; omega
          case d4 => have := G2.out; have := HN2.out.2.1; omega
          case d5 => exact hb3.size
          · intro v5 w5 hown5 hgrow5 hat5
            have hv6 : OwnS w5 w.heap.size v5 ((LL.take (k + 1)).flatMap fun l => l.filter fun x => !inP l place x) := by
              rw [F2.out]
              refine OwnS.app ?_
              rw [HN2.out.2.1]
              exact hown5
            have hu6 : OwnS w5 w.heap.size u3 ((LL.take (k + 1)).flatMap fun l => l.filter (inP l place)) := HU4.out.kept hgrow5 HA4.out.symm.kept
            have ha6 : Apt u3 v5 := (HA4.out.symm.next hat5 (fun b h => (World.ownsRow.lt HU4.out b h).2)).symm
            have hb5 : Below w.heap.size w w5 := hb3.grown hgrow5 hb3.size (fun r hr => (World.ownsRow.lt HV4.out r hr).1)
            clear hown5 hgrow5 hat5 HU4 HV4 HA4
            go_wp2
            go_roundw
            case rel => exact ⟨k + 1, by omega, by go_num, hu6, hv6, ha6, hb5⟩
            case measure => simp [RowKit.intOf]; omega
    · obtain rfl : k = n := by omega
      have htk : LL.take k = LL := List.take_of_length_le (by rw [Hlen.out]; omega)
      rw [htk] at hu hv
      have hu' : OwnS wr w.heap.size _ (byPl LL place) := hu
      have hv' : OwnS wr w.heap.size _ (othR LL place) := hv
      obtain ⟨A1, c1, rfl, hR⟩ := Runs.of_ownS hv'
      have HSP := split_any (othR LL place) _ c1 A1 _ time wr hR HOT.out
      have HU := Lib.hid hu'
      clear hu hv htk hap hR hu' hv'
      go_wp2_with fail
      refine HSP.mono ?_
      rintro e w2 ⟨u1, v1, rfl, hu1, hv1, hb2⟩
      have hu3 : OwnS w2 w.heap.size u1 (byTm LL place time) := hu1.low hb.size
      have hu2 : OwnS w2 w.heap.size _ (byPl LL place) := ownN HU.out hb2
      have hb3 := hb.trans (hb2.mono hb.size)
      have HR := Lib.hid (And.intro hu3 (And.intro hu2 hb3))
      clear hu1 hv1 hb2 hu3 hu2 hb3 HSP HU
      go_wp2
      go_ret2
      exact ⟨_, _, rfl, HR.out.2.1, HR.out.1, HR.out.2.2⟩
set_option maxHeartbeats 2000000 in
theorem namesOf_any (L : List Run) (n cap : Nat) (A : Option Addr) (B : Nat) (w : World) (hZ : Runs w B A n L) (hn : n ≤ 10000) :
    Calls Tryz.prog 85 #[.slice A n cap] w (fun e w' => ∃ v, e = .returned v ∧ OwnNames w' w.heap.size v (L.map Run.name) ∧ Below w.heap.size w w') := by
  obtain ⟨i0, hi, hz0, hz1, hz2⟩ := info_parts infoS
  have hni : (n : Int) ≤ 10000 := by omega
  have HM : Hid (∀ w', Below w.heap.size w w' → Runs w' B A n L) := fun w' hb => hZ.below hb hZ.2.1
  have Hlen : Hid (L.length = n) := hZ.1
  clear hZ
  go_enter Tryz.func85, Tryz.ntmps85
  go_wp2
  go_loopw [3, 8] (fun v i wr => ∃ k : Nat, k ≤ n ∧ i = .int .i64 k ∧ OwnNames wr w.heap.size v ((L.take k).map Run.name) ∧ Below w.heap.size w wr) (fun _ i _ => n - (RowKit.intOf i).toNat)
  case atStart => exact ⟨0, by omega, rfl, World.ownsRow_nil _ _ _ _, Below.refl _ _⟩
  case round =>
    obtain ⟨k, hk, rfl, hown, hb⟩ := hrel
    by_cases hlt : k < n
    · obtain ⟨b, off, x, rfl, hbl, hL, c0, c1, c2, c3⟩ := (HM.out _ hb).at_ hlt
      have hnx := map_snoc Run.name hL
      have hki : (k : Int) < (n : Int) := by omega
      have hlk : ((L.take k).map Run.name).length = k := by rw [List.length_map, List.length_take, Hlen.out]; omega
      obtain ⟨Q, hQ⟩ : ∃ Q, (L.take k).map Run.name = Q := ⟨_, rfl⟩
      rw [hQ] at hown hnx hlk
      have HN := Lib.hid hnx
      have HK := Lib.hid hlk
      obtain ⟨nm, kd, v, r⟩ := x
      simp only at c0 c1 c2 c3 HN
      have hown2 : OwnNames (wr.alloc (.cells #[.string nm, .string kd, .int .i64 v, .string r] 79)) w.heap.size _ Q := World.ownsRow.alloc hown _
      have hb2 : Below w.heap.size w (wr.alloc (.cells #[.string nm, .string kd, .int .i64 v, .string r] 79)) := balloc _ hb
      clear hnx hlk hQ hL hown
      as_aux_lemma =>
        go_wp2_with (at_builtin; refine wpList_append_own _ rfl _ _ 68 rfl w.heap.size 9 i0 (.string ⟨#[]⟩) 1 16 Tryz.underlying68 hi hz0 hz1 hz2 rfl (by decide) _ _ _ rfl (World.ownsRow.alloc hown2 _) ⟨wr.heap.size + 1, 0, none⟩ 1 1 [.string nm] rfl rfl ?c1 ?c2 ?c3 ?c4 ?c5 ?_)
        case c1 =>
          intro j u hj
          match j, hj with
          | 0, hj => simp at hj; subst hj; simp [Addr.add]
        case c2 => intro u hu; simp at hu; subst hu; rfl
        case c3 => have := HK.out; unfold maxLen; omega
        case c4 => have := HK.out; omega
        case c5 => have := hb.size; simp; omega
        · intro v' w1 hown' hgrow _
          have hb1 : Below w.heap.size w w1 := (hb2.alloc hb2.size _).grown hgrow (by have := hb.size; simp; omega) (fun r hr => (World.ownsRow.lt hown2 r hr).1)
          have ho1 : OwnNames w1 w.heap.size v' ((L.take (k + 1)).map Run.name) := by
            rw [HN.out]
            exact OwnNames.next (by simpa using hown')
          clear hown' hgrow
          go_wp2
          go_roundw
          case rel => exact ⟨k + 1, by omega, by go_num, ho1, hb1⟩
          case measure => simp [RowKit.intOf]; omega
    · obtain rfl : k = n := by omega
      have htk : L.take k = L := List.take_of_length_le (by rw [Hlen.out]; omega)
      rw [htk] at hown
      have HO := Lib.hid hown
      clear hown htk
      go_wp2
      go_ret
      exact ⟨_, rfl, HO.out, hb⟩
end Go.Mk
