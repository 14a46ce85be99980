/-
  Proved: an argument of eight small numbers opened to them, and shut again. Nothing is assumed beyond that the argument reads.
-/
import Derived.Test.YtickjnahdeikfaaGreatDoorXy
import Derived.WideKeyPair
set_option linter.unusedVariables false
set_option linter.unusedSimpArgs false
open Go Go.Proofs Go.RowKit
set_option maxRecDepth 100000
namespace Go.Mk
open Go.ChangeShapes Go.WideShapes Go.Deep Go.Joins Go.WideMaps
theorem arr8X : ArrKey Tryz.prog 66 5 8 := ⟨Tryz.underlying66, by kernel_rfl, (by kernel_rfl : Tryz.prog.cellsOf 5 = 1), by kernel_rfl⟩
theorem u8_nat8 {z : Int} (h : (Lit.int .u8 z).wf = true) : ∃ p : Nat, z = (p : Int) ∧ p < 256 := by
  have h2 : 0 ≤ z ∧ z < 256 := by
    simp [Lit.wf] at h
    have e1 : IntKind.u8.min = 0 := rfl
    have e2 : IntKind.u8.max = 255 := rfl
    omega
  exact ⟨z.toNat, by omega, by omega⟩
theorem array8 {α : Type} {cs : Array α} (h : cs.size = 8) : ∃ c0 c1 c2 c3 c4 c5 c6 c7, cs = #[c0, c1, c2, c3, c4, c5, c6, c7] := by
  obtain ⟨l⟩ := cs
  match l, h with
  | [c0, c1, c2, c3, c4, c5, c6, c7], _ => exact ⟨c0, c1, c2, c3, c4, c5, c6, c7, rfl⟩
theorem open_u8x8 {H : Type} {enc : TypeId × Value → H} {W : World} {base : Nat} {sp : Nat → Bool} {held : Bool} {r : Reach} {b0 : Nat} {v : Value} {d : DataW H} {ps : List MemPlace} (hval : Value.okWide Tryz.prog W r b0 66 v) (hd : DataW.Trod enc Tryz.prog W base sp held 66 v d ps) :
    ∃ a0 a1 a2 a3 a4 a5 a6 a7 : Nat, v = .agg #[.int .u8 (a0 : Int), .int .u8 (a1 : Int), .int .u8 (a2 : Int), .int .u8 (a3 : Int), .int .u8 (a4 : Int), .int .u8 (a5 : Int), .int .u8 (a6 : Int), .int .u8 (a7 : Int)] ∧ d = .agg [.lit (.int .u8 (a0 : Int)), .lit (.int .u8 (a1 : Int)), .lit (.int .u8 (a2 : Int)), .lit (.int .u8 (a3 : Int)), .lit (.int .u8 (a4 : Int)), .lit (.int .u8 (a5 : Int)), .lit (.int .u8 (a6 : Int)), .lit (.int .u8 (a7 : Int))] ∧ ps = [] ∧ (a0 < 256 ∧ a1 < 256 ∧ a2 < 256 ∧ a3 < 256 ∧ a4 < 256 ∧ a5 < 256 ∧ a6 < 256 ∧ a7 < 256) ∧ ((Lit.int .u8 (a0 : Int)).wf = true ∧ (Lit.int .u8 (a1 : Int)).wf = true ∧ (Lit.int .u8 (a2 : Int)).wf = true ∧ (Lit.int .u8 (a3 : Int)).wf = true ∧ (Lit.int .u8 (a4 : Int)).wf = true ∧ (Lit.int .u8 (a5 : Int)).wf = true ∧ (Lit.int .u8 (a6 : Int)).wf = true ∧ (Lit.int .u8 (a7 : Int)).wf = true) := by
  have hv : ∃ c0 c1 c2 c3 c4 c5 c6 c7, v = .agg #[c0, c1, c2, c3, c4, c5, c6, c7] := by
    simp only [Value.okWide, arr8X.hu] at hval
    obtain ⟨cs, h1, h2, _⟩ := hval
    rw [arr8X.size] at h2
    obtain ⟨c0, c1, c2, c3, c4, c5, c6, c7, rfl⟩ := array8 h2
    exact ⟨c0, c1, c2, c3, c4, c5, c6, c7, h1⟩
  obtain ⟨c0, c1, c2, c3, c4, c5, c6, c7, rfl⟩ := hv
  obtain ⟨fuel, hf⟩ := hd
  cases fuel with
  | zero => simp [DataW.trod] at hf
  | succ n =>
    rw [DataW.trod_step] at hf
    unfold DataW.trodStep at hf
    simp only [arr8X.hu, Value.cells] at hf
    rw [if_pos (by rw [arr8X.size]; rfl)] at hf
    simp only [Option.map_eq_some_iff] at hf
    obtain ⟨xs, hx, e1⟩ := hf
    rw [show List.range 8 = [0, 1, 2, 3, 4, 5, 6, 7] from rfl, List.mapM_cons, List.mapM_cons, List.mapM_cons, List.mapM_cons, List.mapM_cons, List.mapM_cons, List.mapM_cons, List.mapM_cons, List.mapM_nil] at hx
    simp only [bind, Option.bind_eq_some_iff, pure, Option.some.injEq, arr8X.one] at hx
    obtain ⟨y0, h0, _, ⟨y1, h1, _, ⟨y2, h2, _, ⟨y3, h3, _, ⟨y4, h4, _, ⟨y5, h5, _, ⟨y6, h6, _, ⟨y7, h7, _, rfl, rfl⟩, rfl⟩, rfl⟩, rfl⟩, rfl⟩, rfl⟩, rfl⟩, rfl⟩ := hx
    obtain ⟨a0, ea0, rfl, wa0⟩ := DataW.trod_int Tryz.underlying5 h0
    obtain ⟨a1, ea1, rfl, wa1⟩ := DataW.trod_int Tryz.underlying5 h1
    obtain ⟨a2, ea2, rfl, wa2⟩ := DataW.trod_int Tryz.underlying5 h2
    obtain ⟨a3, ea3, rfl, wa3⟩ := DataW.trod_int Tryz.underlying5 h3
    obtain ⟨a4, ea4, rfl, wa4⟩ := DataW.trod_int Tryz.underlying5 h4
    obtain ⟨a5, ea5, rfl, wa5⟩ := DataW.trod_int Tryz.underlying5 h5
    obtain ⟨a6, ea6, rfl, wa6⟩ := DataW.trod_int Tryz.underlying5 h6
    obtain ⟨a7, ea7, rfl, wa7⟩ := DataW.trod_int Tryz.underlying5 h7
    simp at ea0 ea1 ea2 ea3 ea4 ea5 ea6 ea7
    subst ea0; subst ea1; subst ea2; subst ea3; subst ea4; subst ea5; subst ea6; subst ea7
    simp only [Prod.mk.injEq] at e1
    obtain ⟨a0, rfl, ha0⟩ := u8_nat8 wa0
    obtain ⟨a1, rfl, ha1⟩ := u8_nat8 wa1
    obtain ⟨a2, rfl, ha2⟩ := u8_nat8 wa2
    obtain ⟨a3, rfl, ha3⟩ := u8_nat8 wa3
    obtain ⟨a4, rfl, ha4⟩ := u8_nat8 wa4
    obtain ⟨a5, rfl, ha5⟩ := u8_nat8 wa5
    obtain ⟨a6, rfl, ha6⟩ := u8_nat8 wa6
    obtain ⟨a7, rfl, ha7⟩ := u8_nat8 wa7
    exact ⟨a0, a1, a2, a3, a4, a5, a6, a7, rfl, by rw [← e1.1]; rfl, by rw [← e1.2]; rfl, ⟨ha0, ha1, ha2, ha3, ha4, ha5, ha6, ha7⟩, ⟨wa0, wa1, wa2, wa3, wa4, wa5, wa6, wa7⟩⟩
theorem shut_u8x8 {H : Type} {enc : TypeId × Value → H} {W : World} {base : Nat} {sp : Nat → Bool} {held : Bool} {a0 a1 a2 a3 a4 a5 a6 a7 : Nat} (h : (Lit.int .u8 (a0 : Int)).wf = true ∧ (Lit.int .u8 (a1 : Int)).wf = true ∧ (Lit.int .u8 (a2 : Int)).wf = true ∧ (Lit.int .u8 (a3 : Int)).wf = true ∧ (Lit.int .u8 (a4 : Int)).wf = true ∧ (Lit.int .u8 (a5 : Int)).wf = true ∧ (Lit.int .u8 (a6 : Int)).wf = true ∧ (Lit.int .u8 (a7 : Int)).wf = true) :
    DataW.Trod enc Tryz.prog W base sp held 66 (.agg #[.int .u8 (a0 : Int), .int .u8 (a1 : Int), .int .u8 (a2 : Int), .int .u8 (a3 : Int), .int .u8 (a4 : Int), .int .u8 (a5 : Int), .int .u8 (a6 : Int), .int .u8 (a7 : Int)]) (.agg [.lit (.int .u8 (a0 : Int)), .lit (.int .u8 (a1 : Int)), .lit (.int .u8 (a2 : Int)), .lit (.int .u8 (a3 : Int)), .lit (.int .u8 (a4 : Int)), .lit (.int .u8 (a5 : Int)), .lit (.int .u8 (a6 : Int)), .lit (.int .u8 (a7 : Int))]) [] := by
  obtain ⟨w0, w1, w2, w3, w4, w5, w6, w7⟩ := h
  refine ⟨2, ?_⟩
  show DataW.trod enc Tryz.prog W base sp held (1 + 1) 66 [.int .u8 (a0 : Int), .int .u8 (a1 : Int), .int .u8 (a2 : Int), .int .u8 (a3 : Int), .int .u8 (a4 : Int), .int .u8 (a5 : Int), .int .u8 (a6 : Int), .int .u8 (a7 : Int)] = _
  rw [DataW.trod_step]
  unfold DataW.trodStep
  simp only [arr8X.hu]
  rw [if_pos (by rw [arr8X.size]; rfl), show List.range 8 = [0, 1, 2, 3, 4, 5, 6, 7] from rfl, List.mapM_cons, List.mapM_cons, List.mapM_cons, List.mapM_cons, List.mapM_cons, List.mapM_cons, List.mapM_cons, List.mapM_cons, List.mapM_nil]
  simp [arr8X.one, DataW.trod, Tryz.underlying5, w0, w1, w2, w3, w4, w5, w6, w7]
end Go.Mk
