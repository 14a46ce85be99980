/-
  Proved: mark.Round returns what the plain function rndM says, for all marks and names. Condition: the heap holds the program's variables.
-/
import Derived.Test.YtgcofpejbjfhaaaGreatDoorRo
import Derived.Test.YtgcofpejbjfhaaaGreatDoorRp
open Go Go.Proofs Go.RowKit
set_option maxRecDepth 100000
namespace Go.Mk
/-- A value rounded by a unit: times upwards, the others downwards. -/
def rnd (s : ByteArray) (v st : Int) : Int := if s = sTime then v + st - 1 - (v + st - 1) % st else v - v % st
/-- The greatest value of a kind. -/
def top (s : ByteArray) : Int := if s = sNone then 0 else if s = sTime then 863999999 else if s = sLength then 999999 else 99999
/-- A rounded mark, and the first error. -/
def rndM (s : ByteArray) (v : Int) (r n : ByteArray) : (ByteArray × Int × ByteArray) × Int :=
  if chk s v r ≠ 0 then ((⟨#[]⟩, 0, ⟨#[]⟩), chk s v r)
  else if (cls n).2 = false then ((⟨#[]⟩, 0, ⟨#[]⟩), 13)
  else if fitsB (cls n).1.1 s = false then ((⟨#[]⟩, 0, ⟨#[]⟩), 13)
  else if top s < rnd s v (cls n).1.2 then ((⟨#[]⟩, 0, ⟨#[]⟩), 4)
  else ((s, rnd s v (cls n).1.2, r), 0)

theorem chk_range (s : ByteArray) (v : Int) (r : ByteArray) (h : chk s v r = 0) : 0 ≤ v ∧ v ≤ 863999999 := by
  unfold chk at h
  repeat' split at h
  all_goals first | omega | (simp at h)
theorem cls_range (n : ByteArray) (h : (cls n).2 = true) : (cls n).1.2 = 1 ∨ (cls n).1.2 = 10 ∨ (cls n).1.2 = 100 ∨ (cls n).1.2 = 1000 := by
  unfold cls at h ⊢
  repeat' split at h
  all_goals first | (simp_all; done) | (simp at h)

def MarkErr (x : (ByteArray × Int × ByteArray) × Int) : Value := .tuple #[.agg #[.string x.1.1, .int .i64 x.1.2.1, .string x.1.2.2], .int .i64 x.2]
theorem Round_any (s r n : ByteArray) (v : Int) (w : World) (hg : 15 ≤ w.heap.size) :
    Calls Tryz.prog 24 #[.agg #[.string s, .int .i64 v, .string r], .string n] w (RetPost (MarkErr (rndM s v r n)) w) := by
  unfold rndM
  by_cases he : chk s v r = 0
  · rw [if_neg (by simp [he])]
    cases hc2 : (cls n).2 with
    | false => exact Round_noclass s r n (cls n).1.1 v (cls n).1.2 w hg he (by rw [← hc2])
    | true =>
      rw [if_neg (by simp)]
      cases hf : fitsB (cls n).1.1 s with
      | false => exact Round_nofit s r n (cls n).1.1 v (cls n).1.2 w hg he (by rw [← hc2]) hf
      | true =>
        rw [if_neg (by simp)]
        have hcl : cls n = (((cls n).1.1, (cls n).1.2), true) := by rw [← hc2]
        obtain ⟨hv0, hv1⟩ := chk_range s v r he
        have hst := cls_range n hc2
        have key : ∀ (x hi : Int), top s = hi → rnd s v (cls n).1.2 = x →
            (hi < x → Calls Tryz.prog 24 #[.agg #[.string s, .int .i64 v, .string r], .string n] w (RetPost (MarkErr ((⟨#[]⟩, 0, ⟨#[]⟩), 4)) w)) →
            (¬ hi < x → Calls Tryz.prog 24 #[.agg #[.string s, .int .i64 v, .string r], .string n] w (RetPost (MarkErr ((s, x, r), 0)) w)) →
            Calls Tryz.prog 24 #[.agg #[.string s, .int .i64 v, .string r], .string n] w (RetPost (MarkErr (if top s < rnd s v (cls n).1.2 then ((⟨#[]⟩, 0, ⟨#[]⟩), 4) else ((s, rnd s v (cls n).1.2, r), 0))) w) := by
          intro x hi h1 h2 h3 h4
          rw [h1, h2]
          by_cases h : hi < x
          · rw [if_pos h]; exact h3 h
          · rw [if_neg h]; exact h4 h
        rcases chk_kind s v r he with rfl | rfl | rfl | rfl
        · exact key _ 0 rfl (show rnd sNone v (cls n).1.2 = v - v % (cls n).1.2 from rfl)
            (fun h => Round_roundDown_large sNone r n _ v _ _ w hg he hcl hf _ _ _ _ _ _ entryNone hv0 (by omega) (by omega) (by omega) rfl h)
            (fun h => Round_roundDown_ok sNone r n _ v _ _ w hg he hcl hf _ _ _ _ _ _ entryNone hv0 (by omega) (by omega) (by omega) rfl h)
        · exact key _ 863999999 rfl (show rnd sTime v (cls n).1.2 = v + (cls n).1.2 - 1 - (v + (cls n).1.2 - 1) % (cls n).1.2 from rfl)
            (fun h => Round_roundUp_large sTime r n _ v _ _ w hg he hcl hf _ _ _ _ _ _ entryTime hv0 (by omega) (by omega) (by omega) rfl h)
            (fun h => Round_roundUp_ok sTime r n _ v _ _ w hg he hcl hf _ _ _ _ _ _ entryTime hv0 (by omega) (by omega) (by omega) rfl h)
        · exact key _ 999999 rfl (show rnd sLength v (cls n).1.2 = v - v % (cls n).1.2 from rfl)
            (fun h => Round_roundDown_large sLength r n _ v _ _ w hg he hcl hf _ _ _ _ _ _ entryLength hv0 (by omega) (by omega) (by omega) rfl h)
            (fun h => Round_roundDown_ok sLength r n _ v _ _ w hg he hcl hf _ _ _ _ _ _ entryLength hv0 (by omega) (by omega) (by omega) rfl h)
        · exact key _ 99999 rfl (show rnd sPoints v (cls n).1.2 = v - v % (cls n).1.2 from rfl)
            (fun h => Round_roundDown_large sPoints r n _ v _ _ w hg he hcl hf _ _ _ _ _ _ entryPoints hv0 (by omega) (by omega) (by omega) rfl h)
            (fun h => Round_roundDown_ok sPoints r n _ v _ _ w hg he hcl hf _ _ _ _ _ _ entryPoints hv0 (by omega) (by omega) (by omega) rfl h)
  · rw [if_pos he]
    exact Round_bad s r n v _ w hg rfl he
end Go.Mk
