/-
  Proved: the reference's Advance, as a plain function. Conditions: the runners lie where the slices say; at most 20 heats, each at most 170 long, at most 1,000 runners.
-/
import Derived.Test.YtkjolejppnogiaaGreatDoorGe
set_option linter.unusedVariables false
set_option linter.unusedSimpArgs false
open Go Go.Proofs Go.RowKit Go.Sort
set_option maxRecDepth 100000
namespace Go.Mk
/-- Has a runner a time, and a place behind the last one? -/
def restP (L : List Run) (last : Int) (x : Run) : Bool := decide (1 ≤ plcN L x) && !decide ((plcN L x : Int) ≤ last)
def restR (LL : List (List Run)) (place : Int) : List Run := LL.flatMap fun l => l.filter (restP l place)
/-- Who advances by time, as the reference says it. -/
def refTm (LL : List (List Run)) (place time : Int) : List Run := (restR LL place).filter fun x => decide ((plcN (restR LL place) x : Int) ≤ time)
theorem cntR_filter (v : Int) : ∀ L : List Run, cntR v (L.filter fun x => decide (x.kind = sTime)) = cntR v L
  | [] => rfl
  | x :: L => by
    have ih := cntR_filter v L
    by_cases h : x.kind = sTime
    · rw [List.filter_cons_of_pos (by simpa using h), cntR, cntR, ih]
    · rw [List.filter_cons_of_neg (by simpa using h), ih, cntR, if_neg (fun q => h q.1), Nat.zero_add]
theorem plc_pos (L : List Run) (x : Run) : decide (1 ≤ plcN L x) = decide (x.kind = sTime) := by
  unfold plcN
  by_cases h : x.kind = sTime <;> simp [h]
theorem rest_oth (LL : List (List Run)) (place : Int) : restR LL place = (othR LL place).filter fun x => decide (x.kind = sTime) := by
  unfold restR othR
  induction LL with
  | nil => rfl
  | cons l LL ih =>
    rw [List.flatMap_cons, List.flatMap_cons, List.filter_append, ih, List.filter_filter]
    congr 1
    refine List.filter_congr fun x _ => ?_
    unfold restP inP
    rw [plc_pos]
    cases decide (x.kind = sTime) <;> simp
theorem tm_eq (LL : List (List Run)) (place time : Int) : byTm LL place time = refTm LL place time := by
  unfold byTm refTm
  rw [rest_oth, List.filter_filter]
  refine List.filter_congr fun x _ => ?_
  have e : plcN ((othR LL place).filter fun x => decide (x.kind = sTime)) x = plcN (othR LL place) x := by
    unfold plcN
    rw [cntR_filter]
  unfold inP
  rw [e, plc_pos, Bool.and_comm]
theorem rest_len (LL : List (List Run)) (place : Int) : (restR LL place).length ≤ LL.flatten.length := by
  unfold restR
  induction LL with
  | nil => simp
  | cons l LL ih => rw [List.flatMap_cons, List.length_append, List.flatten_cons, List.length_append]; exact Nat.add_le_add (List.length_filter_le _ _) ih
/-- What the reference's Advance leaves. -/
def RAdvPost (LL : List (List Run)) (place time : Int) (w : World) (e : Ending) (w' : World) : Prop :=
  ∃ u v, e = .returned (.tuple #[u, v]) ∧ OwnNames w' w.heap.size u ((byPl LL place).map Run.name) ∧ OwnNames w' w.heap.size v ((refTm LL place time).map Run.name) ∧ Below w.heap.size w w'
theorem OwnZ.at_ {w : World} {B n c : Nat} {A : Option Addr} {L : List Int} {k : Nat} {z : Int} (h : OwnZ w B (.slice A n c) L) (hk : L[k]? = some z) : ∃ g, A = some ⟨g, 0, none⟩ ∧ n = L.length ∧ w.cell? ⟨g, k, none⟩ = some (.int .i64 z) := by
  have hl := (List.getElem?_eq_some_iff.1 hk).1
  obtain ⟨g, c', e, _, _⟩ := ownSome h (by omega)
  cases e
  refine ⟨g, rfl, rfl, ?_⟩
  have := World.ownsRow.cells h (g := g) rfl k (.int .i64 z) (by rw [List.getElem?_map, hk]; rfl)
  rwa [show (⟨g, 0, none⟩ : Addr).add k = ⟨g, k, none⟩ from by unfold Addr.add; split <;> simp_all] at this
theorem OwnZ.shape {w : World} {B : Nat} {v : Value} {L : List Int} (h : OwnZ w B v L) : ∃ a c, v = .slice a L.length c := by
  rcases h.2 with ⟨hv, h0⟩ | ⟨g, cap, cur, hv, _⟩
  · exact ⟨none, 0, by rw [hv, h0]⟩
  · exact ⟨_, _, hv⟩
theorem OwnNames.low {w : World} {B B' : Nat} {v : Value} {L : List ByteArray} (h : OwnNames w B v L) (hB : B' ≤ B) : OwnNames w B' v L := by
  refine ⟨h.1, ?_⟩
  rcases h.2 with ⟨a, b⟩ | ⟨g, cap, cur, a, b, c, d⟩
  · exact .inl ⟨a, b⟩
  · exact .inr ⟨g, cap, cur, a, Nat.le_trans hB b, c, d⟩
theorem names_next {w1 : World} {B : Nat} {v' : Value} {P : List ByteArray} {f : Run → Bool} {l : List Run} {j : Nat} {x : Run} (hx : l[j]? = some x) (hf : f x = true)
    (h : w1.ownsRow B 9 1 v' ((P ++ ((l.take j).filter f).map Run.name).length + 1) ((P ++ ((l.take j).filter f).map Run.name).map Value.string ++ [Value.string x.name])) : OwnNames w1 B v' (P ++ ((l.take (j + 1)).filter f).map Run.name) := by
  have e := filter_take f hx
  rw [if_pos hf] at e
  rw [e, List.map_append, ← List.append_assoc]
  exact OwnNames.next h
theorem new1 {w : World} {t : TypeId} (s : Value) : ∀ (j : Nat) (u : Value), [s][j]? = some u → (w.alloc (.cells #[s] t)).cell? ((⟨w.heap.size, 0, none⟩ : Addr).add j) = some u := by
  intro j u hj
  match j, hj with
  | 0, hj => simp at hj; subst hj; simp [Addr.add]
/-- One more name of those who advance. -/
theorem adv_step1 {w wx w1 : World} {a r z v' : Value} {P : List ByteArray} {R : List Run} {l : List Run} {f g : Run → Bool} {Z : List Int} {j : Nat} {x : Run} {o : Obj}
    (ha : OwnNames wx w.heap.size a (P ++ ((l.take j).filter f).map Run.name)) (hr : OwnRuns wx w.heap.size r (R ++ (l.take j).filter g)) (hz : OwnZ wx w.heap.size z Z) (hb : Below w.heap.size w wx)
    (hx : l[j]? = some x) (hf : f x = true) (hg : (l.take (j + 1)).filter g = (l.take j).filter g)
    (hown' : w1.ownsRow w.heap.size 9 1 v' ((P ++ ((l.take j).filter f).map Run.name).length + 1) ((P ++ ((l.take j).filter f).map Run.name).map Value.string ++ [Value.string x.name]))
    (hgrow : (wx.alloc o).grownBy w1 a.ownBlock) :
    OwnNames w1 w.heap.size v' (P ++ ((l.take (j + 1)).filter f).map Run.name) ∧ OwnRuns w1 w.heap.size r (R ++ (l.take (j + 1)).filter g) ∧ OwnZ w1 w.heap.size z Z ∧ Below w.heap.size w w1 := by
  have hd : Below wx.heap.size wx (wx.alloc o) := balloc _ (Below.refl _ _)
  have ha2 := ownN ha hd
  refine ⟨names_next hx hf hown', ?_, ?_, (hb.trans (hd.mono hb.size)).grown hgrow (by have := hb.size; have := hd.size; omega) (fun r hr => (World.ownsRow.lt ha2 r hr).1)⟩
  · rw [hg]
    exact (ownN hr hd).kept hgrow (own_apart (by decide) (ownN hr hd) ha2)
  · exact (ownN hz hd).kept hgrow (own_apart (by decide) (ownN hz hd) ha2)
theorem adv_step2 {w wx w1 : World} {a r z v' : Value} {P : List ByteArray} {R : List Run} {l : List Run} {f g : Run → Bool} {Z : List Int} {j : Nat} {x : Run} {o : Obj}
    (ha : OwnNames wx w.heap.size a (P ++ ((l.take j).filter f).map Run.name)) (hr : OwnRuns wx w.heap.size r (R ++ (l.take j).filter g)) (hz : OwnZ wx w.heap.size z Z) (hb : Below w.heap.size w wx)
    (hf : (l.take (j + 1)).filter f = (l.take j).filter f) (hg : (l.take (j + 1)).filter g = (l.take j).filter g ++ [x])
    (hown' : w1.ownsRow w.heap.size 83 4 v' ((R ++ (l.take j).filter g).length + 1) ((R ++ (l.take j).filter g).flatMap runC ++ runC x))
    (hgrow : (wx.alloc o).grownBy w1 r.ownBlock) :
    OwnNames w1 w.heap.size a (P ++ ((l.take (j + 1)).filter f).map Run.name) ∧ OwnRuns w1 w.heap.size v' (R ++ (l.take (j + 1)).filter g) ∧ OwnZ w1 w.heap.size z Z ∧ Below w.heap.size w w1 := by
  have hd : Below wx.heap.size wx (wx.alloc o) := balloc _ (Below.refl _ _)
  have hr2 := ownN hr hd
  refine ⟨?_, ?_, ?_, (hb.trans (hd.mono hb.size)).grown hgrow (by have := hb.size; have := hd.size; omega) (fun q hq => (World.ownsRow.lt hr2 q hq).1)⟩
  · rw [hf]
    exact (ownN ha hd).kept hgrow (own_apart (by decide) (ownN ha hd) hr2)
  · rw [hg, ← List.append_assoc]
    exact OwnRuns.next hown'
  · exact (ownN hz hd).kept hgrow (own_apart (by decide) (ownN hz hd) hr2)
set_option maxHeartbeats 8000000 in
theorem r4Advance_any (LL : List (List Run)) (n cap : Nat) (A : Option Addr) (B : Nat) (place time : Int) (w : World) (hZ : RHeats w B A n LL) (hn : n ≤ 20) (hs : ∀ l ∈ LL, l.length ≤ 170) (ht : LL.flatten.length ≤ 1000) :
    Calls Tryz.prog 42 #[.slice A n cap, .int .i64 place, .int .i64 time] w (RAdvPost LL place time w) := by
  obtain ⟨i0, hi, hz0, hz1, hz2⟩ := info_parts infoS
  obtain ⟨i1, hj', hy0, hy1, hy2⟩ := info_parts infoRRun
  have hni : (n : Int) ≤ 20 := by omega
  have ne1 : (9 : Nat) ≠ 83 := by decide
  have ne2 : (9 : Nat) ≠ 3 := by decide
  have ne3 : (83 : Nat) ≠ 3 := by decide
  have HM : Hid (∀ w', Below w.heap.size w w' → RHeats w' B A n LL) := fun w' hb => hZ.below hb hZ.2.1
  have Hlen : Hid (LL.length = n) := hZ.1
  have HS := Lib.hid hs
  have hrl := Nat.le_trans (rest_len LL place) ht
  have HRL := Lib.hid hrl
  clear hZ hs ht hrl
  go_enter Tryz.func42, Tryz.ntmps42
  go_wp2
  go_loopw [8, 10, 11] (fun a r i wr => ∃ k : Nat, k ≤ n ∧ i = .int .i64 k ∧ OwnNames wr w.heap.size a ((LL.take k).flatMap fun l => (l.filter (inP l place)).map Run.name) ∧ OwnRuns wr w.heap.size r ((LL.take k).flatMap fun l => l.filter (restP l place)) ∧ Below w.heap.size w wr) (fun _ _ i _ => n - (RowKit.intOf i).toNat)
  case atStart => exact ⟨0, by omega, rfl, World.ownsRow_nil _ _ _ _, World.ownsRow_nil _ _ _ _, Below.refl _ _⟩
  case round =>
    obtain ⟨k, hk, rfl, ha, hr, hb⟩ := hrel
    by_cases hlt : k < n
    · obtain ⟨b, off, l, A', c', rfl, hbl, hL, hc, hZl⟩ := (HM.out _ hb).at_ hlt
      have f1 := flat_take (fun l : List Run => (l.filter (inP l place)).map Run.name) hL
      have f2 := flat_take (fun l => l.filter (restP l place)) hL
      have hsl := HS.out l (List.mem_of_getElem? hL)
      have hki : (k : Int) < (n : Int) := by omega
      have hk0 : (0 : Int) ≤ (k : Int) := by omega
      have hkt : ((k : Int)).toNat = k := by omega
      have h9 : (LL.take k).length ≤ 20 := by rw [List.length_take]; omega
      have g1 : ((LL.take k).flatMap fun l => (l.filter (inP l place)).map Run.name).length ≤ 3400 := by
        have := flat_len (fun l : List Run => (l.filter (inP l place)).map Run.name) 170 (LL.take k) (fun q hq => by rw [List.length_map]; exact Nat.le_trans (List.length_filter_le _ _) (HS.out q (List.mem_of_mem_take hq)))
        omega
      have g2 : ((LL.take k).flatMap fun l => l.filter (restP l place)).length ≤ 3400 := by
        have := flat_len (fun l => l.filter (restP l place)) 170 (LL.take k) (fun q hq => Nat.le_trans (List.length_filter_le _ _) (HS.out q (List.mem_of_mem_take hq)))
        omega
      have HP := r4Places_any l l.length c' A' B wr hZl (by omega)
      have HL := Lib.hid hL
      obtain ⟨m, hm⟩ : ∃ m, l.length = m := ⟨_, rfl⟩
      rw [hm] at HP hc hsl
      have Hm := Lib.hid hm
      have hmi : (m : Int) ≤ 170 := by omega
      obtain ⟨P, hP⟩ : ∃ P, ((LL.take k).flatMap fun l => (l.filter (inP l place)).map Run.name) = P := ⟨_, rfl⟩
      obtain ⟨R, hR⟩ : ∃ R, ((LL.take k).flatMap fun l => l.filter (restP l place)) = R := ⟨_, rfl⟩
      rw [hP] at ha f1 g1
      rw [hR] at hr f2 g2
      have F1 := Lib.hid f1
      have F2 := Lib.hid f2
      have G := Lib.hid (And.intro g1 g2)
      have HA := Lib.hid ha
      have HRR := Lib.hid hr
      clear hL hP hR g1 g2 f1 f2 hZl hm h9 ha hr
      go_wp2_with fail
      refine HP.mono ?_
      rintro e w2 ⟨vz, rfl, hz, hb2⟩
      have ha2 : OwnNames w2 w.heap.size _ P := ownN HA.out hb2
      have hr2 : OwnRuns w2 w.heap.size _ R := ownN HRR.out hb2
      have hz2' : OwnZ w2 w.heap.size vz (l.map (plc l)) := by
        refine ⟨hz.1, ?_⟩
        rcases hz.2 with q | ⟨g, cap, cur, q1, q2, q3⟩
        · exact .inl q
        · exact .inr ⟨g, cap, cur, q1, Nat.le_trans hb.size q2, q3⟩
      have hbw := hb.trans (hb2.mono hb.size)
      obtain ⟨az, cz, rfl⟩ := hz2'.shape
      have hlm : (l.map (plc l)).length = m := by rw [List.length_map, Hm.out]
      rw [hlm] at hz2' ⊢
      have hjz := HL.out
      clear HP hz hb2 HA HRR hc hb
      go_wp2
      go_loopw [8, 10, 13] (fun a r i wx => ∃ j : Nat, j ≤ m ∧ i = .int .i64 j ∧ OwnNames wx w.heap.size a (P ++ ((l.take j).filter (inP l place)).map Run.name) ∧ OwnRuns wx w.heap.size r (R ++ (l.take j).filter (restP l place)) ∧ OwnZ wx w.heap.size (.slice az m cz) (l.map (plc l)) ∧ Below w.heap.size w wx) (fun _ _ i _ => m - (RowKit.intOf i).toNat)
      case atStart => exact ⟨0, by omega, rfl, by simpa using ha2, by simpa using hr2, hz2', hbw⟩
      case round =>
        obtain ⟨j, hj, rfl, ha, hr, hz, hb⟩ := hrel
        obtain ⟨b', off', l', A2, c2, hAq, _, hLq, hc2, hZ2⟩ := (HM.out _ hb).at_ hlt
        cases hAq
        cases HL.out.symm.trans hLq
        rw [Hm.out] at hc2 hZ2
        clear ha2 hr2 hz2' hbw
        by_cases hjm : j < m
        · obtain ⟨b2, off2, x, rfl, _, hx, c0, c1, c2', c3⟩ := hZ2.at_ hjm
          have hzat := OwnZ.at_ hz (show (l.map (plc l))[j]? = some (plc l x) by rw [List.getElem?_map, hx]; rfl)
          obtain ⟨gz, rfl, -, cz0⟩ := hzat
          have hji : (j : Int) < (m : Int) := by omega
          have hj0 : (0 : Int) ≤ (j : Int) := by omega
          have hjt : ((j : Int)).toNat = j := by omega
          have hpl : plcN l x ≤ 171 := by
            have := cntR_le x.value l
            unfold plcN
            rw [Hm.out] at this
            split <;> omega
          rw [← plcN_cast] at cz0
          have hx1 : inP l place x = (decide (1 ≤ plcN l x) && decide ((plcN l x : Int) ≤ place)) := rfl
          have hx2 : restP l place x = (decide (1 ≤ plcN l x) && !decide ((plcN l x : Int) ≤ place)) := rfl
          have t1 := filter_take (restP l place) hx
          have t2 := filter_take (inP l place) hx
          have la : (P ++ ((l.take j).filter (inP l place)).map Run.name).length ≤ 4000 := by
            have h1 : ((l.take j).filter (inP l place)).length ≤ 170 := Nat.le_trans (List.length_filter_le _ _) (by rw [List.length_take, Hm.out]; omega)
            have := G.out
            rw [List.length_append, List.length_map]; omega
          have lr : (R ++ (l.take j).filter (restP l place)).length ≤ 4000 := by
            have h1 : ((l.take j).filter (restP l place)).length ≤ 170 := Nat.le_trans (List.length_filter_le _ _) (by rw [List.length_take, Hm.out]; omega)
            have := G.out
            rw [List.length_append]; omega
          have LA := Lib.hid (And.intro la lr)
          obtain ⟨p, hp⟩ : ∃ p, plcN l x = p := ⟨_, rfl⟩
          rw [hp] at cz0 hx1 hx2 hpl
          have hpi : (p : Int) ≤ 171 := by omega
          have HX := Lib.hid hx
          have HZ := Lib.hid hz
          have HA := Lib.hid ha
          have HRR := Lib.hid hr
          have T1 := Lib.hid t1
          have T2 := Lib.hid t2
          obtain ⟨nm, kd, vv, rr⟩ := x
          simp only at c0 c1 c2' c3
          have hsz := hb.size
          clear hx hp la lr hLq hZ2 t1 t2 hlm hjz
          by_cases q1 : 1 ≤ p
          · have qi : (1 : Int) ≤ (p : Int) := by omega
            by_cases q2 : (p : Int) ≤ place
            · rw [decide_eq_true q1, decide_eq_true q2] at hx1 hx2
              have hx2' : restP l place ⟨nm, kd, vv, rr⟩ = false := hx2
              have T3 : Hid ((l.take (j + 1)).filter (restP l place) = (l.take j).filter (restP l place)) := (show _ = _ by rw [T1.out, hx2']; simp)
              have HX1 : Hid (inP l place ⟨nm, kd, vv, rr⟩ = true) := hx1
              have STEP := fun w1 v' h1 h2 => adv_step1 (w := w) (w1 := w1) (v' := v') (o := .cells #[.string nm] 9) ha hr hz hb HX.out HX1.out T3.out h1 h2
              have HST := Lib.hid STEP
              clear hx1 hx2 hx2' hz hr q1 T1 T2 STEP
              as_aux_lemma =>
                go_wp2_with (at_builtin; refine wpList_append_own _ rfl _ _ 68 rfl w.heap.size 9 i0 (.string ⟨#[]⟩) 1 16 Tryz.underlying68 hi hz0 hz1 hz2 rfl (by decide) _ _ _ rfl (World.ownsRow.alloc ha _) ⟨wr.heap.size, 0, none⟩ 1 1 [.string nm] rfl rfl (new1 _) (by intro u hu; simp at hu; subst hu; rfl) (by have := LA.out.1; unfold maxLen; omega) (by have := LA.out.1; omega) (by simp; omega) ?_)
                intro v' w1 hown' hgrow _
                obtain ⟨a1, a2, a3, a4⟩ := HST.out w1 v' (by simpa using hown') hgrow
                clear hown' hgrow HST
                go_wp2
                go_roundw
                case rel => exact ⟨j + 1, by omega, by go_num, a1, a2, a3, a4⟩
                case measure => simp [RowKit.intOf]; omega
            · rw [decide_eq_true q1, decide_eq_false q2] at hx1 hx2
              have hx1' : inP l place ⟨nm, kd, vv, rr⟩ = false := hx1
              have hx2' : restP l place ⟨nm, kd, vv, rr⟩ = true := hx2
              have T3 : Hid ((l.take (j + 1)).filter (inP l place) = (l.take j).filter (inP l place)) := (show _ = _ by rw [T2.out, hx1']; simp)
              have T4 : Hid ((l.take (j + 1)).filter (restP l place) = (l.take j).filter (restP l place) ++ [⟨nm, kd, vv, rr⟩]) := (show _ = _ by rw [T1.out, hx2']; rfl)
              have STEP := fun w1 v' h1 h2 => adv_step2 (w := w) (w1 := w1) (v' := v') (o := .cells #[.string nm, .string kd, .int .i64 vv, .string rr] 83) ha hr hz hb T3.out T4.out h1 h2
              have HST := Lib.hid STEP
              clear hx1 hx2 hx1' hx2' hz ha q1 T1 T2 STEP
              as_aux_lemma =>
                go_wp2_with (at_builtin; refine wpList_append_own _ rfl _ _ 67 rfl w.heap.size 83 i1 (.agg #[.string ⟨#[]⟩, .string ⟨#[]⟩, .int .i64 0, .string ⟨#[]⟩]) 4 56 Tryz.underlying67 hj' hy0 hy1 hy2 rfl (by decide) _ _ _ rfl (World.ownsRow.alloc hr _) ⟨wr.heap.size, 0, none⟩ 1 1 (runC ⟨nm, kd, vv, rr⟩) rfl rfl (news4 _ rfl) (one4 _) (by have := LA.out.2; unfold maxLen; omega) (by have := LA.out.2; omega) (by simp; omega) ?_)
                intro v' w1 hown' hgrow _
                obtain ⟨a1, a2, a3, a4⟩ := HST.out w1 v' (by simpa using hown') hgrow
                clear hown' hgrow HST
                go_wp2
                go_roundw
                case rel => exact ⟨j + 1, by omega, by go_num, a1, a2, a3, a4⟩
                case measure => simp [RowKit.intOf]; omega
          · have qi : ¬ (1 : Int) ≤ (p : Int) := by omega
            rw [decide_eq_false q1] at hx1 hx2
            have hx1' : inP l place ⟨nm, kd, vv, rr⟩ = false := hx1
            have hx2' : restP l place ⟨nm, kd, vv, rr⟩ = false := hx2
            have a1 := HA.out
            have a2 := HRR.out
            rw [show (l.take j).filter (inP l place) = (l.take (j + 1)).filter (inP l place) by rw [T2.out, hx1']; simp] at a1
            rw [show (l.take j).filter (restP l place) = (l.take (j + 1)).filter (restP l place) by rw [T1.out, hx2']; simp] at a2
            have A1 := Lib.hid a1
            have A2 := Lib.hid a2
            clear hx1 hx2 hx1' hx2' hz hr ha q1 T1 T2 a1 a2 HA HRR
            as_aux_lemma =>
              go_wp2
              go_roundw
              case rel => exact ⟨j + 1, by omega, by go_num, A1.out, A2.out, HZ.out, hb⟩
              case measure => simp [RowKit.intOf]; omega
        · obtain rfl : j = m := by omega
          have htk : l.take j = l := List.take_of_length_le (by rw [Hm.out]; omega)
          rw [htk] at ha hr
          have a1 : OwnNames wr w.heap.size _ (P ++ (l.filter (inP l place)).map Run.name) := ha
          have a2 : OwnRuns wr w.heap.size _ (R ++ l.filter (restP l place)) := hr
          rw [← F1.out] at a1
          rw [← F2.out] at a2
          have A1 := Lib.hid a1
          have A2 := Lib.hid a2
          clear ha hr hz htk hLq hZ2 hlm hjz a1 a2
          as_aux_lemma =>
            go_wp2
            go_roundw
            case rel => exact ⟨k + 1, by omega, by go_num, A1.out, A2.out, hb⟩
            case measure => simp [RowKit.intOf]; omega
    · obtain rfl : k = n := by omega
      have htk : LL.take k = LL := List.take_of_length_le (by rw [Hlen.out]; omega)
      rw [htk] at ha hr
      have a1 := ha
      rw [← show (byPl LL place).map Run.name = LL.flatMap fun l => (l.filter (inP l place)).map Run.name from by unfold byPl; rw [List.map_flatMap]] at a1
      have a2 : OwnRuns wr w.heap.size _ (restR LL place) := hr
      obtain ⟨A1, c1, rfl, hR⟩ := Runs.of_own a2
      have HTM : Hid (refTm LL place time = (restR LL place).filter fun x => decide ((plcN (restR LL place) x : Int) ≤ time)) := (show _ = _ from rfl)
      have hrl := HRL.out
      generalize restR LL place = R at *
      obtain ⟨m, hm⟩ : ∃ m, R.length = m := ⟨_, rfl⟩
      have HP := r4Places_any R m c1 A1 _ wr (by rw [← hm]; exact hR) (by omega)
      rw [hm] at hR hrl ⊢
      have Hm := Lib.hid hm
      have HR : Hid (∀ w', Below wr.heap.size wr w' → Runs w' wr.heap.size A1 m R) := fun w' hb' => hR.below hb' (Nat.le_refl _)
      have HA := Lib.hid a1
      clear ha hr htk a1 a2 hR hm
      go_wp2_with fail
      refine HP.mono ?_
      rintro e w2 ⟨vz, rfl, hz, hb2⟩
      have ha2 : OwnNames w2 w.heap.size _ ((byPl LL place).map Run.name) := ownN HA.out hb2
      obtain ⟨az, cz, rfl⟩ := hz.shape
      have hlm : (R.map (plc R)).length = m := by rw [List.length_map, Hm.out]
      rw [hlm] at hz ⊢
      have hbw := hb.trans (hb2.mono hb.size)
      have HB2 := Lib.hid hb2
      have HZ : Hid (∀ w', Below w2.heap.size w2 w' → OwnZ w' wr.heap.size (.slice az m cz) (R.map (plc R))) := fun w' hb' => ownN hz hb'
      have hsz2 := hb2.size
      have hszw := hb.size
      have HA2 := Lib.hid ha2
      have HBW := Lib.hid hbw
      clear HP hz hb2 HA ha2 hlm hbw
      go_wp2
      go_loopw [9, 15] (fun a i wx => ∃ j : Nat, j ≤ m ∧ i = .int .i64 j ∧ OwnNames wx w2.heap.size a (((R.take j).filter fun x => decide ((plcN R x : Int) ≤ time)).map Run.name) ∧ Below w2.heap.size w2 wx) (fun _ i _ => m - (RowKit.intOf i).toNat)
      case atStart => exact ⟨0, by omega, rfl, World.ownsRow_nil _ _ _ _, Below.refl _ _⟩
      case round =>
        obtain ⟨j, hj, rfl, ha, hbx⟩ := hrel
        have hbr := HB2.out.trans (hbx.mono hsz2)
        have hbW := HBW.out.trans (hbx.mono (Nat.le_trans hszw hsz2))
        by_cases hjm : j < m
        · obtain ⟨b2, off2, x, rfl, _, hx, c0, c1', c2', c3⟩ := (HR.out _ hbr).at_ hjm
          have hzat := OwnZ.at_ (HZ.out _ hbx) (show (R.map (plc R))[j]? = some (plc R x) by rw [List.getElem?_map, hx]; rfl)
          obtain ⟨gz, rfl, -, cz0⟩ := hzat
          have hji : (j : Int) < (m : Int) := by omega
          have hj0 : (0 : Int) ≤ (j : Int) := by omega
          have hjt : ((j : Int)).toNat = j := by omega
          have hmi : (m : Int) ≤ 1000 := by omega
          have hpl : plcN R x ≤ 1001 := by
            have := cntR_le x.value R
            unfold plcN
            rw [Hm.out] at this
            split <;> omega
          rw [← plcN_cast] at cz0
          have t1 := filter_take (fun x => decide ((plcN R x : Int) ≤ time)) hx
          have la : (((R.take j).filter fun x => decide ((plcN R x : Int) ≤ time)).map Run.name).length ≤ 1000 := by
            rw [List.length_map]
            exact Nat.le_trans (List.length_filter_le _ _) (by rw [List.length_take, Hm.out]; omega)
          have LA := Lib.hid la
          have hst : ∀ (P : List ByteArray) (s : ByteArray), P.length ≤ 1000 → True := fun _ _ _ => trivial
          obtain ⟨p, hp⟩ : ∃ p, plcN R x = p := ⟨_, rfl⟩
          rw [hp] at cz0 hpl t1
          have hpi : (p : Int) ≤ 1001 := by omega
          have T1 := Lib.hid t1
          obtain ⟨nm, kd, vv, rr⟩ := x
          simp only at c0 c1' c2' c3
          have hsx := hbx.size
          clear hx hp la t1 hst hbr hbW
          by_cases q1 : (p : Int) ≤ time
          · have T2 : Hid (((R.take (j + 1)).filter fun x => decide ((plcN R x : Int) ≤ time)).map Run.name = ((R.take j).filter fun x => decide ((plcN R x : Int) ≤ time)).map Run.name ++ [nm]) := (show _ = _ by rw [T1.out, decide_eq_true q1, if_pos rfl, List.map_append]; rfl)
            obtain ⟨Q, hQ⟩ : ∃ Q, ((R.take j).filter fun x => decide ((plcN R x : Int) ≤ time)).map Run.name = Q := ⟨_, rfl⟩
            rw [hQ] at ha T2 LA
            clear T1 hQ
            as_aux_lemma =>
              go_wp2_with (at_builtin; refine wpList_append_own _ rfl _ _ 68 rfl w2.heap.size 9 i0 (.string ⟨#[]⟩) 1 16 Tryz.underlying68 hi hz0 hz1 hz2 rfl (by decide) _ _ _ rfl (World.ownsRow.alloc ha _) ⟨_, 0, none⟩ 1 1 [.string nm] rfl rfl (new1 _) (by intro u hu; simp at hu; subst hu; rfl) (by have := LA.out; unfold maxLen; omega) (by have := LA.out; omega) (by simp; omega) ?_)
              intro v' w1 hown' hgrow _
              have hb1 : Below w2.heap.size w2 w1 := (hbx.alloc hbx.size _).grown hgrow (by simp; omega) (fun r hr => (World.ownsRow.lt ha r hr).1)
              have ho1 : OwnNames w1 w2.heap.size v' (((R.take (j + 1)).filter fun x => decide ((plcN R x : Int) ≤ time)).map Run.name) := by
                rw [T2.out]
                exact OwnNames.next (by simpa using hown')
              clear hown' hgrow
              go_wp2
              go_roundw
              case rel => exact ⟨j + 1, by omega, by go_num, ho1, hb1⟩
              case measure => simp [RowKit.intOf]; omega
          · have T2 : Hid (((R.take (j + 1)).filter fun x => decide ((plcN R x : Int) ≤ time)) = ((R.take j).filter fun x => decide ((plcN R x : Int) ≤ time))) := (show _ = _ by rw [T1.out, decide_eq_false q1]; simp)
            rw [← T2.out] at ha
            have HA3 := Lib.hid ha
            clear T1 T2 LA ha
            as_aux_lemma =>
              go_wp2
              go_roundw
              case rel => exact ⟨j + 1, by omega, by go_num, HA3.out, hbx⟩
              case measure => simp [RowKit.intOf]; omega
        · obtain rfl : j = m := by omega
          have htk : R.take j = R := List.take_of_length_le (by rw [Hm.out]; omega)
          rw [htk] at ha
          have a1 := OwnNames.low ha (Nat.le_trans hszw hsz2)
          rw [← HTM.out] at a1
          have a2 : OwnNames _ w.heap.size _ ((byPl LL place).map Run.name) := ownN HA2.out hbx
          have AA := Lib.hid (And.intro a1 (And.intro a2 hbW))
          clear ha a1 a2 hbr hbW htk
          go_wp2
          go_ret2
          exact ⟨_, _, rfl, AA.out.2.1, AA.out.1, AA.out.2.2⟩
end Go.Mk
