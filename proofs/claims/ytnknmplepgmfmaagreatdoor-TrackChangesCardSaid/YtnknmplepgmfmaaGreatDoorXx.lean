/-
  Proved: an argument of three small numbers opened to them, and shut again. Nothing is assumed beyond that the argument reads.
-/
import Derived.Test.YtnknmplepgmfmaaGreatDoorXs
import Derived.WideKeyPair
set_option linter.unusedVariables false
set_option linter.unusedSimpArgs false
open Go Go.Proofs Go.RowKit
set_option maxRecDepth 100000
namespace Go.Mk
open Go.ChangeShapes Go.WideShapes Go.Deep Go.Joins Go.WideMaps
theorem arrX : ArrKey Tryz.prog 74 5 3 := ⟨Tryz.underlying74, by kernel_rfl, (by kernel_rfl : Tryz.prog.cellsOf 5 = 1), by kernel_rfl⟩
theorem u8_nat {z : Int} (h : (Lit.int .u8 z).wf = true) : ∃ p : Nat, z = (p : Int) ∧ p < 256 := by
  have h2 : 0 ≤ z ∧ z < 256 := by
    simp [Lit.wf] at h
    have e1 : IntKind.u8.min = 0 := rfl
    have e2 : IntKind.u8.max = 255 := rfl
    omega
  exact ⟨z.toNat, by omega, by omega⟩
theorem open_u8x3 {H : Type} {enc : TypeId × Value → H} {W : World} {base : Nat} {sp : Nat → Bool} {held : Bool} {r : Reach} {b0 : Nat} {v : Value} {d : DataW H} {ps : List MemPlace} (hval : Value.okWide Tryz.prog W r b0 74 v) (hd : DataW.Trod enc Tryz.prog W base sp held 74 v d ps) :
    ∃ a b c : Nat, v = .agg #[.int .u8 (a : Int), .int .u8 (b : Int), .int .u8 (c : Int)] ∧ d = .agg [.lit (.int .u8 (a : Int)), .lit (.int .u8 (b : Int)), .lit (.int .u8 (c : Int))] ∧ ps = [] ∧ (a < 256 ∧ b < 256 ∧ c < 256) ∧ ((Lit.int .u8 (a : Int)).wf = true ∧ (Lit.int .u8 (b : Int)).wf = true ∧ (Lit.int .u8 (c : Int)).wf = true) := by
  have hv : ∃ c0 c1 c2, v = .agg #[c0, c1, c2] := by
    simp only [Value.okWide, arrX.hu] at hval
    obtain ⟨cs, h1, h2, _⟩ := hval
    rw [arrX.size] at h2
    obtain ⟨c0, c1, c2, rfl⟩ := array3 h2
    exact ⟨c0, c1, c2, h1⟩
  obtain ⟨c0, c1, c2, rfl⟩ := hv
  obtain ⟨fuel, hf⟩ := hd
  cases fuel with
  | zero => simp [DataW.trod] at hf
  | succ n =>
    rw [DataW.trod_step] at hf
    unfold DataW.trodStep at hf
    simp only [arrX.hu, Value.cells] at hf
    rw [if_pos (by rw [arrX.size]; rfl)] at hf
    simp only [Option.map_eq_some_iff] at hf
    obtain ⟨xs, hx, e1⟩ := hf
    rw [show List.range 3 = [0, 1, 2] from rfl, List.mapM_cons, List.mapM_cons, List.mapM_cons, List.mapM_nil] at hx
    simp only [bind, Option.bind_eq_some_iff, pure, Option.some.injEq, arrX.one] at hx
    obtain ⟨y0, h0, _, ⟨y1, h1, _, ⟨y2, h2, _, rfl, rfl⟩, rfl⟩, rfl⟩ := hx
    obtain ⟨a, ea, rfl, wa⟩ := DataW.trod_int Tryz.underlying5 h0
    obtain ⟨b, eb, rfl, wb⟩ := DataW.trod_int Tryz.underlying5 h1
    obtain ⟨c, ec, rfl, wc⟩ := DataW.trod_int Tryz.underlying5 h2
    simp at ea eb ec
    subst ea; subst eb; subst ec
    simp only [Prod.mk.injEq] at e1
    obtain ⟨a, rfl, ha⟩ := u8_nat wa
    obtain ⟨b, rfl, hb⟩ := u8_nat wb
    obtain ⟨c, rfl, hc⟩ := u8_nat wc
    exact ⟨a, b, c, rfl, by rw [← e1.1]; rfl, by rw [← e1.2]; rfl, ⟨ha, hb, hc⟩, ⟨wa, wb, wc⟩⟩
theorem shut_u8x3 {H : Type} {enc : TypeId × Value → H} {W : World} {base : Nat} {sp : Nat → Bool} {held : Bool} {a b c : Int} (wa : (Lit.int .u8 a).wf = true) (wb : (Lit.int .u8 b).wf = true) (wc : (Lit.int .u8 c).wf = true) :
    DataW.Trod enc Tryz.prog W base sp held 74 (.agg #[.int .u8 a, .int .u8 b, .int .u8 c]) (.agg [.lit (.int .u8 a), .lit (.int .u8 b), .lit (.int .u8 c)]) [] :=
  ⟨2, by
    show DataW.trod enc Tryz.prog W base sp held (1 + 1) 74 [.int .u8 a, .int .u8 b, .int .u8 c] = _
    rw [DataW.trod_step]
    unfold DataW.trodStep
    simp only [arrX.hu]
    rw [if_pos (by rw [arrX.size]; rfl), show List.range 3 = [0, 1, 2] from rfl, List.mapM_cons, List.mapM_cons, List.mapM_cons, List.mapM_nil]
    simp [arrX.one, DataW.trod, Tryz.underlying5, wa, wb, wc]⟩
end Go.Mk
