/-
  Proved: the reference's Compare is cmpM, for marks without an error that can be compared. Conditions: the marks have no error, and can be compared.
  Proved: append of a slice (nil or not) to a row of one's own, as one step of a region that draws. No condition.
-/
import Derived.Test.YtccgahkoekcefaaGreatDoorCa
import Derived.Test.YtccgahkoekcefaaGreatDoorEe
import Derived.Maps.AppendAt
import Derived.Deep.RegionLaw
section
set_option linter.unusedVariables false
set_option linter.unusedSimpArgs false
open Go Go.Proofs Go.RowKit
set_option maxRecDepth 100000
namespace Go.Mk
def cmpn (a b : Bool) : Int := if a && b then 0 else if b then -1 else 1
set_option maxHeartbeats 1000000 in
theorem refCompare_none (s1 r1 s2 r2 : ByteArray) (v1 v2 : Int) (b1 b2 : Bool) (h1 : (s1.toList == [110, 111, 110, 101]) = b1) (h2 : (s2.toList == [110, 111, 110, 101]) = b2) (h : (b1 || b2) = true) (w : World) :
    Calls Tryz.prog 36 #[.agg #[.string s1, .int .i64 v1, .string r1], .agg #[.string s2, .int .i64 v2, .string r2]] w (RetPost (.int .i64 (cmpn b1 b2)) w) := by
  have hs : b1 = true → b2 = true → (s1.toList == s2.toList) = true := by
    intro e1 e2
    rw [e1] at h1; rw [e2] at h2
    rw [eq_of_beq h1, eq_of_beq h2]; rfl
  have hd : b1 = false ∨ b2 = false → (b1 || b2) = true → (s1.toList == s2.toList) = false := by
    intro e1 e2
    rw [beq_eq_false_iff_ne]
    intro e
    rw [e, h2] at h1
    subst h1
    cases b2 <;> simp at e1 e2
  rcases b1 with _ | _ <;> rcases b2 with _ | _
  · cases h
  · have h3 := hd (.inl rfl) rfl
    clear hs hd h
    go_enter Tryz.func36, Tryz.ntmps36
    go_wp2
    go_ret
    exact ⟨rfl, (((Below.refl w.heap.size w).alloc (Nat.le_refl _) _).alloc (by simp) _)⟩
  · have h3 := hd (.inr rfl) rfl
    clear hs hd h
    go_enter Tryz.func36, Tryz.ntmps36
    go_wp2
    go_ret
    exact ⟨rfl, (((Below.refl w.heap.size w).alloc (Nat.le_refl _) _).alloc (by simp) _)⟩
  · have h3 := hs rfl rfl
    clear hs hd h
    go_enter Tryz.func36, Tryz.ntmps36
    go_wp2
    go_ret
    exact ⟨rfl, (((Below.refl w.heap.size w).alloc (Nat.le_refl _) _).alloc (by simp) _)⟩

set_option maxHeartbeats 1000000 in
theorem refCompare_val (s1 r1 s2 r2 : ByteArray) (v1 v2 n : Int) (bt : Bool) (h1 : (s1.toList == [110, 111, 110, 101]) = false) (h2 : (s2.toList == [110, 111, 110, 101]) = false) (ht : (s1.toList == [116, 105, 109, 101]) = bt) (hn : cmpv bt v1 v2 = n) (w : World) :
    Calls Tryz.prog 36 #[.agg #[.string s1, .int .i64 v1, .string r1], .agg #[.string s2, .int .i64 v2, .string r2]] w (RetPost (.int .i64 n) w) := by
  have cases3 : (v1 < v2 ∧ n = if bt then -1 else 1) ∨ (v1 = v2 ∧ n = 0) ∨ (v2 < v1 ∧ n = if bt then 1 else -1) := by
    rw [← hn]
    unfold cmpv
    rcases (show v1 < v2 ∨ v1 = v2 ∨ v2 < v1 by omega) with q | q | q
    · exact .inl ⟨q, by rw [if_neg (by omega)]; cases bt <;> simp [q]⟩
    · exact .inr (.inl ⟨q, by rw [if_pos q]⟩)
    · exact .inr (.inr ⟨q, by rw [if_neg (by omega)]; have : ¬ v1 < v2 := (by omega); cases bt <;> simp [this]⟩)
  clear hn
  rcases cases3 with ⟨q, rfl⟩ | ⟨q, rfl⟩ | ⟨q, rfl⟩ <;> rcases bt with _ | _
  all_goals
    go_enter Tryz.func36, Tryz.ntmps36
    go_wp2_with fail
    go_quiet (fail)
    go_wp2
    go_ret
    exact ⟨rfl, below_drewN (((Below.refl w.heap.size w).alloc (Nat.le_refl _) _).alloc (by simp) _) _⟩

theorem fst2_nil {a b : Int} (h1 : a = 0) (h2 : b = 0) : fst2 a b = 0 := by subst h1; subst h2; rfl
theorem cmpM_alike (s : ByteArray) (v1 : Int) (r1 : ByteArray) (v2 : Int) (r2 : ByteArray) (h1 : chk s v1 r1 = 0) (h2 : chk s v2 r2 = 0) : cmpM s v1 r1 s v2 r2 = (cmpv (decide (s = sTime)) v1 v2, 0) := by
  unfold cmpM
  rw [if_neg (by simp [fst2_nil h1 h2]), if_pos rfl]

theorem chk_none (v : Int) (r : ByteArray) (h : chk sNone v r = 0) : v = 0 := by
  unfold chk at h
  rw [if_pos rfl] at h
  repeat' split at h
  all_goals first | omega | (simp at h)
theorem refCompare_any (s1 r1 s2 r2 : ByteArray) (v1 v2 : Int) (w : World) (h1 : chk s1 v1 r1 = 0) (h2 : chk s2 v2 r2 = 0) (h : s1 = s2 ∨ s1 = sNone ∨ s2 = sNone) :
    Calls Tryz.prog 36 #[.agg #[.string s1, .int .i64 v1, .string r1], .agg #[.string s2, .int .i64 v2, .string r2]] w (RetPost (.int .i64 (cmpM s1 v1 r1 s2 v2 r2).1) w) := by
  by_cases a : s1 = sNone
  · by_cases b : s2 = sNone
    · have e : (cmpM s1 v1 r1 s2 v2 r2).1 = cmpn true true := by
        have z1 := chk_none v1 r1 (a ▸ h1)
        have z2 := chk_none v2 r2 (b ▸ h2)
        unfold cmpM
        rw [if_neg (by simp [fst2_nil h1 h2]), if_pos (by rw [a, b]), z1, z2]
        simp [cmpv, cmpn]
      rw [e]
      exact refCompare_none s1 r1 s2 r2 v1 v2 true true (by rw [none_beq]; simp [a]) (by rw [none_beq]; simp [b]) rfl w
    · have e : (cmpM s1 v1 r1 s2 v2 r2).1 = cmpn true false := by
        unfold cmpM
        rw [if_neg (by simp [fst2_nil h1 h2]), if_neg (fun q => b (by rw [← q, a])), if_neg b, if_pos a]
        simp [cmpn]
      rw [e]
      exact refCompare_none s1 r1 s2 r2 v1 v2 true false (by rw [none_beq]; simp [a]) (by rw [none_beq]; simp [b]) rfl w
  · by_cases b : s2 = sNone
    · have e : (cmpM s1 v1 r1 s2 v2 r2).1 = cmpn false true := by
        unfold cmpM
        rw [if_neg (by simp [fst2_nil h1 h2]), if_neg (fun q => a (by rw [q, b])), if_pos b]
        simp [cmpn]
      rw [e]
      exact refCompare_none s1 r1 s2 r2 v1 v2 false true (by rw [none_beq]; simp [a]) (by rw [none_beq]; simp [b]) rfl w
    · have hs : s1 = s2 := by rcases h with h | h | h <;> first | exact h | exact absurd h a | exact absurd h b
      subst hs
      refine refCompare_val s1 r1 s1 r2 v1 v2 _ (decide (s1 = sTime)) (by rw [none_beq]; simp [a]) (by rw [none_beq]; simp [a]) (by rw [time_beq]) ?_ w
      rw [cmpM_alike s1 v1 r1 v2 r2 h1 h2]
end Go.Mk
end
section
set_option linter.unusedVariables false
set_option linter.unusedSimpArgs false
open Go Go.Proofs Go.RowKit Go.Sort
set_option maxRecDepth 100000
namespace Go.Mk
theorem step_append_src {P : Program} {ops : Array Oper} {o : Oper} {a : Act} {w : World} {K : Act → World → Prop} {Q : Exit → Act → World → Prop} {E : Prop}
    (hg : o.guard = none) (s x : Operand) (t : TypeId) (hop : o.op = Op.call { callee := Callee.builtin Builtin.append, args := #[s, x], argTypes := #[t, t] })
    (base : Nat) (e : TypeId) (i : TypeInfo) (z : Value) (size bytes : Nat) (ht : P.underlying t = some (.slice e)) (hi : P.info? e = some i) (hz : i.zero = some z)
    (hsize : i.size = size) (hby : i.bytes = bytes) (hzs : z.cells.size = size) (hsz : 0 < size)
    (v : Value) (n : Nat) (xs : List Value) (hs : a.eval s = v) (hown : w.ownsRow base e size v n xs)
    (ao : Option Addr) (m c : Nat) (news : List Value) (hx : a.eval x = .slice ao m c) (hl : news.length = m * size) (hnone : ao = none → m = 0 ∧ c = 0)
    (hnews : ∀ ad, ao = some ad → ∀ j u, news[j]? = some u → w.cell? (ad.add j) = some u) (h1 : ∀ u ∈ news, u.oneCell' = true)
    (h63 : n + m ≤ maxLen) (hbytes : (n + m) * bytes ≤ 140737488355328) (hbase : base ≤ w.heap.size)
    (hK : ∀ v' w', w'.ownsRow base e size v' (n + m) (xs ++ news) → w.grownBy w' v.ownBlock → (v'.ownBlock = v.ownBlock ∨ v'.ownBlock = some w.heap.size) → K (a.put o.dst v') w') :
    if Region.wanted o (yielded ops a.tmps) = true then Oper.wp P o a w K Q else E := by
  have hw : Region.wanted o (yielded ops a.tmps) = true := by simp [Region.wanted, hg]
  rw [if_pos hw]
  cases ao with
  | some ad =>
    obtain ⟨v', w', hr, h2, h3, _, h5⟩ := run_append_own_at (P := P) w base t o.type e i z size bytes ht hi hz hsize hby hzs hsz v n xs hown ad m c news hl (hnews ad rfl) h1 h63 hbytes hbase
    unfold Oper.wp execOp
    simp only [hop, resolve, invoke, builtin, Sem.run_bind, Sem.run_pure, Result.andThen_ok, List.map_toArray, List.map_cons, List.map_nil, hs, hx, hr]
    exact hK v' w' h2 h3 h5
  | none =>
    obtain ⟨rfl, rfl⟩ := hnone rfl
    have hn : news = [] := List.eq_nil_of_length_eq_zero (by simpa using hl)
    subst hn
    have hrun := run_append_owned_none (P := P) w base t o.type e i size ht hi v n xs hown
    unfold Oper.wp execOp
    simp only [hop, resolve, invoke, builtin, Sem.run_bind, Sem.run_pure, Result.andThen_ok, List.map_toArray, List.map_cons, List.map_nil, hs, hx, hrun]
    exact hK v w (by simpa using hown) (World.grownBy.refl _ _) (.inl rfl)
end Go.Mk
end
