/-
  Proved: parts of a second machine for closed calls (texts 35 to 43 of 43) that is sound: what it reckons, the model does, in any world and on any schedule. No condition of its own; it is used by the claim's other texts.
-/
import Derived.Test.YthgkaojplomapaaGreatDoorEvB
import Derived.Laws.Externs
section
set_option linter.unusedVariables false
set_option linter.unusedSimpArgs false
namespace Go.Ev
variable {α β γ δ : Type}
section
variable {E : Env} {K : Kr} {w w' : World}

/-! ### The faster reckoning does the same -/

theorem fT_eq {B : Type} (t : T Value) (k : T Value → B) : fT t k = k t := by cases t <;> rfl

theorem getD_eq : ∀ (f k : Nat), k < f → ∀ t, (getD f k).run t = match t.get k with
  | some v => v
  | none => undef
 | 0, k, h, t => by omega
 | f + 1, 0, h, t => by
  unfold getD
  cases t with
  | leaf => rfl
  | node v l r => cases v <;> rfl
 | f + 1, k + 1, h, t => by
  have hk : k / 2 < f := by omega
  have ih := getD_eq f (k / 2) hk
  unfold getD
  simp only [T.divE, T.modE]
  generalize getD f (k / 2) = d at ih ⊢
  obtain ⟨hd⟩ := d
  simp only at ih ⊢
  cases hb : Nat.beq (k % 2) 0 with
  | true =>
   simp only [cond_true]
   cases t with
   | leaf => rfl
   | node v l r => simp only [T.get, T.modE, T.divE, hb, cond_true]; exact ih l
  | false =>
   simp only [cond_false]
   cases t with
   | leaf => rfl
   | node v l r => simp only [T.get, T.modE, T.divE, hb, cond_false]; exact ih r

theorem recL_eq (u : Option Value) (x r : T Value) : T.rec (motive := fun _ => T Value) (.node u .leaf r) (fun a b c _ _ => .node u (.node a b c) r) x = .node u x r := by cases x <;> rfl
theorem recR_eq (u : Option Value) (l x : T Value) : T.rec (motive := fun _ => T Value) (.node u l .leaf) (fun a b c _ _ => .node u l (.node a b c)) x = .node u l x := by cases x <;> rfl

theorem setD_eq : ∀ (f k : Nat), k < f → ∀ t v, (setD f k).run t v = T.setF (some v) f t k
 | 0, k, h, t, v => by omega
 | f + 1, 0, h, t, v => by
  unfold setD
  cases t <;> rfl
 | f + 1, k + 1, h, t, v => by
  have hk : k / 2 < f := by omega
  have ih := setD_eq f (k / 2) hk
  unfold setD
  simp only [T.divE, T.modE]
  generalize setD f (k / 2) = d at ih ⊢
  obtain ⟨hd⟩ := d
  simp only at ih ⊢
  cases hb : Nat.beq (k % 2) 0 with
  | true =>
   simp only [cond_true]
   cases t with
   | leaf => simp only [T.setF, T.modE, T.divE, hb, cond_true, ih]
   | node u l r => simp only [T.setF, T.modE, T.divE, hb, cond_true, ih, recL_eq, T.nodeL_eq]
  | false =>
   simp only [cond_false]
   cases t with
   | leaf => simp only [T.setF, T.modE, T.divE, hb, cond_false, ih]
   | node u l r => simp only [T.setF, T.modE, T.divE, hb, cond_false, ih, recR_eq, T.nodeR_eq]

theorem evD_eq (x : Operand) (f : CF) : (evD x).run f.tmps = f.eval x := by
 cases x with
 | tmp t => exact getD_eq (t + 1) t (Nat.lt_succ_self t) f.tmps
 | _ => rfl

theorem putD_eq (dst : Option Tmp) (f : CF) (v : Value) (k : T Value → R) : (putD dst).run f.n f.tmps v k = k (f.put dst v).tmps := by
 cases dst with
 | none => rfl
 | some d =>
  have h := setD_eq (d + 1) d (Nat.lt_succ_self d) f.tmps v
  show (cond (Nat.blt d f.n) (fT ((setD (d + 1) d).run f.tmps v) k) (k f.tmps)) = _
  rw [h]
  unfold CF.put
  simp only [fT_eq, fV_eq, T.set]
  cases Nat.blt d f.n <;> rfl

theorem CF.put_eta (f : CF) (dst : Option Tmp) (v : Value) : f.put dst v = { f with tmps := (f.put dst v).tmps } := by
 cases dst with
 | none => rfl
 | some d =>
  unfold CF.put
  simp only [fV_eq]
  cases Nat.blt d f.n <;> rfl

theorem wrap_lt (k : IntKind) (m : Nat) (h : m < halfK k) : k.wrap (m : Int) = m := by
 unfold IntKind.wrap
 cases k <;> simp [halfK, IntKind.bits, IntKind.signed] at h ⊢ <;> omega

theorem wrapF_eq (k : IntKind) (n : Int) (q : Int → R) : wrapF k n q = q (k.wrap n) := by
 unfold wrapF
 cases n with
 | ofNat m =>
  simp only [fN_eq, fI_eq]
  cases hb : Nat.blt m (halfK k) with
  | true =>
   have := wrap_lt k m (Nat.le_of_ble_eq_true hb)
   simp only [cond_true]
   rw [show Int.ofNat m = (m : Int) from rfl, this]
  | false => rfl
 | negSucc m => simp only [fI_eq]

/-! ### Steps of the machine, one after another -/

theorem StepS.trans {f f1 : CF} {stk stk1 : List CF} {C C1 : W} {nx : Nx} (h1 : StepS E f stk C (.on f1 stk1 C1)) (h2 : StepS E f1 stk1 C1 nx) : StepS E f stk C nx := by
 cases nx with
 | on f2 stk2 C2 =>
  intro K w fr frs cs hKC hR hf hfs
  obtain ⟨K1, w1, fr1, frs1, b1, b2, b3, b4, b5, b6, b7⟩ := h1 K w fr frs cs hKC hR hf hfs
  obtain ⟨K2, w2, fr2, frs2, a1, a2, a3, a4, a5, a6, a7⟩ := h2 K1 w1 fr1 frs1 cs b1 b3 b5 b6
  exact ⟨K2, w2, fr2, frs2, a1, b2.trans a2, a3, b4.trans a4, a5, a6, by rw [a7, b7]⟩
 | out v C2 =>
  intro K w fr frs cs hKC hR hf hfs
  obtain ⟨K1, w1, fr1, frs1, b1, b2, b3, b4, b5, b6, b7⟩ := h1 K w fr frs cs hKC hR hf hfs
  obtain ⟨K', w', fr', v', a1, a2, a3, a4, a5, a6, a7⟩ := h2 K1 w1 fr1 frs1 cs b1 b3 b5 b6
  exact ⟨K', w', fr', v', a1, b2.trans a2, by rw [a3, b7], a4, a5, b4.trans a6, a7⟩

theorem StepS.refl (f : CF) (stk : List CF) (C : W) : StepS E f stk C (.on f stk C) := by
 intro K w fr frs cs hKC hR hf hfs
 exact ⟨K, w, fr, frs, hKC, Steps.refl _ _, hR, Ext.refl _, hf, hfs, rfl⟩

theorem noCall : ∀ G, CallS (withG E G) (fun _ _ _ => none) := by
 intro G k args C v C' h
 cases h

theorem StepS.of_cstep (hE : EnvOK E) {f : CF} {stk : List CF} {C : W} {nx : Nx} (h : cstep E (fun _ _ _ _ => none) (fun _ _ _ => none) f stk C = some nx) : StepS E f stk C nx := by
 refine cstep_sound hE (RG := fun _ _ _ _ => none) ?_ (call := fun _ _ _ => none) noCall h
 intro call hcall f C ops f' C' h
 cases h

theorem opSnd_step {f : CF} {stk : List CF} {C C' : W} {ops : Array Oper} {i : Nat} {rest : List Nat} {k : List Item} {o : Oper} {nx0 : Next} (htodo : f.todo = .inRegion ops (i :: rest) :: k) (hi : ops[i]? = some o) (hw : Region.wanted o (f.yielded ops) = true) (hok : opsOK E.g o = true)
  (hdef : ∀ cc, o.op ≠ .defer cc) (hsnd : ∀ (K : Kr) (w : World) (ρ' : Operand → Value), K.C = C → (∀ x ∈ o.op.operands, RV K (f.eval x) (ρ' x)) → Snd E K w (some (nx0, C')) (execOp ρ' o)) (v : Value)
  (hv : nx0 = .value v ∨ (nx0 = .skip ∧ v = undef)) :
  StepS E f stk C (.on { f.put o.dst v with todo := .inRegion ops rest :: k } stk C') := by
 intro K w fr frs cs hKC hR hf hfs
 obtain ⟨t, td, rfl, ht, htd⟩ := hf.ex
 have c1 : Region.wanted o (Go.yielded ops t) = true := by
  have : Go.yielded ops t = f.yielded ops := funext fun j => ht.yielded ops j
  rw [this]; exact hw
 have hρ : ∀ x ∈ o.op.operands, RV K (f.eval x) (evalA t x) := by
  intro x hx
  unfold opsOK at hok
  rw [List.all_eq_true] at hok
  exact ht.eval hR (hok x (by simpa using hx))
 obtain ⟨K', w', nx', c3, c4, c5, c6, c7⟩ := hsnd K w (evalA t) hKC hρ hR _ _ rfl
 rw [htodo] at htd
 cases htd with
 | cons ha hb =>
  cases ha
  rename_i m
  have hp := CF.put_fields f o.dst v
  rcases hv with rfl | ⟨rfl, rfl⟩
  ·cases c7 with
   | value hv =>
    have hst := st_op_value (P := E.P) (fn := f.fn) (d := marksOf K f.marks) (ro := f.round.map K.σ) (cs := frs ++ cs) (rest := rest) (k := m) hi c1 (fun l cc hh => hdef cc hh.2) c4
    have hF := RF.putE c6 (ht.ext c6) hf.marks hf.round o.dst hv (.cons (.inRegion ops rest) (hb.ext c6))
    refine ⟨K', w', _, frs, c3, Steps.one hst, c5, c6, hF, hfs.ext c6, ?_⟩
    cases stk with
    | nil => exact hp.1
    | cons _ _ => rfl
  ·cases c7 with
   | skip =>
    have hst := st_op_skipped (P := E.P) (fn := f.fn) (d := marksOf K f.marks) (ro := f.round.map K.σ) (cs := frs ++ cs) (rest := rest) (k := m) hi c1 (fun l cc hh => hdef cc hh.2) c4
    have hF := RF.putE c6 (ht.ext c6) hf.marks hf.round o.dst (RV.undef K') (.cons (.inRegion ops rest) (hb.ext c6))
    refine ⟨K', w', _, frs, c3, Steps.one hst, c5, c6, hF, hfs.ext c6, ?_⟩
    cases stk with
    | nil => exact hp.1
    | cons _ _ => rfl
end
end Go.Ev
end
section
set_option linter.unusedVariables false
set_option linter.unusedSimpArgs false
namespace Go.Ev
variable {α β γ δ : Type}
section
variable {E : Env} {K : Kr} {w w' : World}

theorem eqGuard_int {P : Program} {op : BinOp} {t : TypeId} {x y : Operand} {j k : IntKind} {a b : Int} : prun P (eqGuard op t x y (.int j a) (.int k b)) = some () := by
 unfold eqGuard
 cases op <;> rfl

theorem intOp_spec {op : BinOp} {h : IO2} (hh : intOp op = some ⟨h⟩) (k : IntKind) (a b : Int) (q : Value → R) (r : R) :
  h k a b q r = r ∨ ∃ v, h k a b q r = q v ∧ plainN 3 v = true ∧ ∀ (P : Program) (t : TypeId), prun P (binOp op t (.int k a) (.int k b)) = some v := by
 cases op <;> simp only [intOp, Option.some.injEq, Dn.mk.injEq, reduceCtorEq] at hh <;> subst hh
 case add => exact .inr ⟨.int k (k.wrap (a + b)), wrapF_eq _ _ _, rfl, fun P t => by simp only [binOp]; simp [Op.intArith, prun, Pure.pure]⟩
 case sub => exact .inr ⟨.int k (k.wrap (a - b)), wrapF_eq _ _ _, rfl, fun P t => by simp only [binOp]; simp [Op.intArith, prun, Pure.pure]⟩
 case mul => exact .inr ⟨.int k (k.wrap (a * b)), wrapF_eq _ _ _, rfl, fun P t => by simp only [binOp]; simp [Op.intArith, prun, Pure.pure]⟩
 case quo =>
  by_cases hb : b = 0
  ·exact .inl (by simp [hb])
  ·exact .inr ⟨.int k (k.wrap (a.tdiv b)), by simp [hb, wrapF_eq], rfl, fun P t => by simp only [binOp]; simp [Op.intDiv, hb, prun, Pure.pure]⟩
 case rem =>
  by_cases hb : b = 0
  ·exact .inl (by simp [hb])
  ·exact .inr ⟨.int k (a.tmod b), by simp [hb, fI_eq], rfl, fun P t => by simp only [binOp]; simp [Op.intDiv, hb, prun, Pure.pure]⟩
 case and => exact .inr ⟨.int k (k.wrap (BitVec.ofInt k.bits a &&& BitVec.ofInt k.bits b).toNat), fI_eq _ _, rfl, fun P t => by simp only [binOp]; simp [Op.intBits, prun, Pure.pure]⟩
 case or => exact .inr ⟨.int k (k.wrap (BitVec.ofInt k.bits a ||| BitVec.ofInt k.bits b).toNat), fI_eq _ _, rfl, fun P t => by simp only [binOp]; simp [Op.intBits, prun, Pure.pure]⟩
 case xor => exact .inr ⟨.int k (k.wrap (BitVec.ofInt k.bits a ^^^ BitVec.ofInt k.bits b).toNat), fI_eq _ _, rfl, fun P t => by simp only [binOp]; simp [Op.intBits, prun, Pure.pure]⟩
 case eql => exact .inr ⟨.bool (decide (a = b)), fB_eq _ _, rfl, fun P t => by simp only [binOp]; simp [Op.intCmp, prun, Pure.pure]; rfl⟩
 case neq => exact .inr ⟨.bool (!decide (a = b)), fB_eq _ _, rfl, fun P t => by simp only [binOp]; simp [Op.intCmp, prun, Pure.pure, bne]; rfl⟩
 case lss => exact .inr ⟨.bool (decide (a < b)), fB_eq _ _, rfl, fun P t => by simp only [binOp]; simp [Op.intCmp, prun, Pure.pure]⟩
 case leq => exact .inr ⟨.bool (decide (a ≤ b)), fB_eq _ _, rfl, fun P t => by simp only [binOp]; simp [Op.intCmp, prun, Pure.pure]⟩
 case gtr => exact .inr ⟨.bool (decide (a > b)), fB_eq _ _, rfl, fun P t => by simp only [binOp]; simp [Op.intCmp, prun, Pure.pure]⟩
 case geq => exact .inr ⟨.bool (decide (a ≥ b)), fB_eq _ _, rfl, fun P t => by simp only [binOp]; simp [Op.intCmp, prun, Pure.pure]⟩

theorem shOp_spec {op : BinOp} {h : IO2} (hh : shOp op = some ⟨h⟩) (k j : IntKind) (a b : Int) (q : Value → R) (r : R) :
  h k a b q r = r ∨ ∃ v, h k a b q r = q v ∧ plainN 3 v = true ∧ ∀ (P : Program) (t : TypeId), prun P (binOp op t (.int k a) (.int j b)) = some v := by
 cases op <;> simp only [shOp, Option.some.injEq, Dn.mk.injEq, reduceCtorEq] at hh <;> subst hh
 case shl =>
  by_cases hb : b < 0
  ·exact .inl (by simp [hb])
  ·exact .inr ⟨.int k (k.wrap (a * 2 ^ (min b.toNat k.bits))), by simp [hb, wrapF_eq], rfl, fun P t => by simp only [binOp]; simp [Op.shift, hb, prun, Pure.pure]⟩
 case shr =>
  by_cases hb : b < 0
  ·exact .inl (by simp [hb])
  ·exact .inr ⟨.int k (a.fdiv (2 ^ (min b.toNat k.bits))), by simp [hb, fI_eq], rfl, fun P t => by simp only [binOp]; simp [Op.shift, hb, prun, Pure.pure]⟩

theorem opC_bin {C : W} {ρ : Operand → Value} {o : Oper} {op : BinOp} {t : TypeId} {x y : Operand} {yt : TypeId} (ho : o.op = .binOp op t x y yt) {j k : IntKind} {a b : Int} (hx : ρ x = .int k a) (hy : ρ y = .int j b) {v : Value} (hv : plainN 3 v = true)
  (h : prun E.P (binOp op t (.int k a) (.int j b)) = some v) : opC E C ρ o = some (.value v, C) := by
 obtain ⟨dst, op', ty, pos, after, guard⟩ := o
 simp only at ho
 subst ho
 have hp : plainOps ρ ⟨dst, .binOp op t x y yt, ty, pos, after, guard⟩ = true := by
  unfold plainOps
  simp [Op.operands, hx, hy, plainN]
 have hr : prun E.P (execOp ρ ⟨dst, .binOp op t x y yt, ty, pos, after, guard⟩) = some (.value v) := by
  show prun E.P (do Pure.pure (Next.value (← (do eqGuard op t x y (ρ x) (ρ y); binOp op t (ρ x) (ρ y))))) = _
  rw [prun_bind, prun_bind, hx, hy, eqGuard_int]
  simp only [Option.bind_some]
  rw [h]
  rfl
 unfold opC
 dsimp only
 rw [hp, hr]
 simp only [cond_true, nextPlain, hv, fNx_eq]

theorem opC_conv {C : W} {ρ : Operand → Value} {o : Oper} {s d : TypeId} {x : Operand} (ho : o.op = .convert s d x) {j k i : IntKind} {a : Int} (hs : E.P.underlying s = some (.int i)) (hd : E.P.underlying d = some (.int k)) (hx : ρ x = .int j a) :
  opC E C ρ o = some (.value (.int k (k.wrap a)), C) := by
 obtain ⟨dst, op', ty, pos, after, guard⟩ := o
 simp only at ho
 subst ho
 have hp : plainOps ρ ⟨dst, .convert s d x, ty, pos, after, guard⟩ = true := by
  unfold plainOps
  simp [Op.operands, hx, plainN]
 have hr : prun E.P (execOp ρ ⟨dst, .convert s d x, ty, pos, after, guard⟩) = some (.value (.int k (k.wrap a))) := by
  show prun E.P (do Pure.pure (Next.value (← convert s d (ρ x)))) = _
  rw [hx]
  unfold convert
  simp [prun_bind, Go.underlying, Go.program, prun, hs, hd, Pure.pure, Conv.intToInt]
 unfold opC
 dsimp only
 rw [hp, hr]
 simp only [cond_true, nextPlain, fNx_eq]
 rfl

theorem evO_eq (f : CF) (o : Option Operand) : (evO o).run f.tmps = o.map f.eval := by
 cases o with
 | none => rfl
 | some x => show some ((evD x).run f.tmps) = _; rw [evD_eq]; rfl

theorem subS_eq (s : ByteArray) (l h : Nat) : subS s l h = s.extract l h := by
 apply ByteArray.ext
 apply Array.toList_inj.1
 simp [subS, ByteArray.extract, ByteArray.copySlice]

theorem fSp_eq {B : Type} (s : ByteArray) (k : ByteArray → B) : fSp s k = k s := by
 obtain ⟨⟨l⟩⟩ := s
 simp only [fSp, fL_eq]

theorem plain_up {v : Value} (h : plainN 0 v = true) : plainN 3 v = true := by
 cases v with
 | pointer a => cases a <;> first | rfl | cases h
 | slice a n c => cases a <;> first | rfl | cases h
 | map a => cases a <;> first | rfl | cases h
 | _ => first | rfl | cases h

theorem opC_sub {C : W} {ρ : Operand → Value} {o : Oper} {t : TypeId} {x : Operand} {lo hi : Option Operand} (ho : o.op = .slice t x lo hi none) {s : ByteArray} (hu : E.P.underlying t = some .string) (hx : ρ x = .string s)
  (hp : (plainO (lo.map ρ) && plainO (hi.map ρ)) = true) {l h m : Nat} (hb : prun E.P (Instr.sliceBounds false s.size s.size (lo.map ρ) (hi.map ρ) none) = some (l, h, m)) :
  opC E C ρ o = some (.value (.string (s.extract l h)), C) := by
 obtain ⟨dst, op', ty, pos, after, guard⟩ := o
 simp only at ho
 subst ho
 rw [Bool.and_eq_true] at hp
 have hpl : plainOps ρ ⟨dst, .slice t x lo hi none, ty, pos, after, guard⟩ = true := by
  unfold plainOps
  rw [List.all_eq_true]
  intro y hy
  have hy : y ∈ (Op.slice t x lo hi none).operands := by simpa using hy
  have hy2 : y = x ∨ lo = some y ∨ hi = some y := by
   cases lo <;> cases hi <;> simp [Op.operands] at hy ⊢ <;> (rcases hy with h | h | h <;> simp_all)
  rcases hy2 with rfl | rfl | rfl
  ·rw [hx]; rfl
  ·exact plain_up hp.1
  ·exact plain_up hp.2
 have hr : prun E.P (execOp ρ ⟨dst, .slice t x lo hi none, ty, pos, after, guard⟩) = some (.value (.string (s.extract l h))) := by
  show prun E.P (do Pure.pure (Next.value (← Instr.sliceAt t (ρ x) (lo.map ρ) (hi.map ρ) (Option.map ρ none)))) = _
  rw [hx, prun_bind]
  unfold Instr.sliceAt Instr.slice
  have hu2 : prun E.P (Go.underlying t) = some .string := by
   simp [Go.underlying, prun_bind, Go.program, prun, hu, Pure.pure]
  rw [prun_bind, hu2]
  simp only [Option.bind_some]
  rw [prun_bind, hu2]
  simp only [Option.bind_some, Option.map_none, Option.isSome_none, Bool.false_eq_true, if_false]
  rw [prun_bind, hb]
  rfl
 unfold opC
 dsimp only
 rw [hpl, hr]
 simp only [cond_true, nextPlain, fNx_eq]
 rfl

theorem opH_sound {o : Oper} {h : Dn Fo} (hh : opH E.P o.op = some h) (f : CF) (C : W) (q : Value → R) (r : R) : (∀ cc, o.op ≠ .defer cc) ∧ (h.run f.tmps q r = r ∨ ∃ v, h.run f.tmps q r = q v ∧ opC E C f.eval o = some (.value v, C)) := by
 refine ⟨fun cc e => (by rw [e] at hh; cases hh), ?_⟩
 have hev := fun x => evD_eq x f
 cases hop : o.op <;> rw [hop] at hh <;> first | (cases hh; done) | skip
 case move x =>
  unfold opH at hh
  simp only [Option.some.injEq] at hh
  subst hh
  refine .inr ⟨_, rfl, ?_⟩
  unfold opC
  rw [hop]
  simp only [hev]
 case assign x =>
  unfold opH at hh
  simp only [Option.some.injEq] at hh
  subst hh
  refine .inr ⟨_, rfl, ?_⟩
  unfold opC
  rw [hop]
  simp only [hev]
 case pick c a b =>
  unfold opH at hh
  simp only [Option.some.injEq] at hh
  subst hh
  simp only [hev]
  have hopc : opC E C f.eval o = match f.eval c with
    | .bool true => some (.value (f.eval a), C)
    | .bool false => some (.value (f.eval b), C)
    | _ => none := by
   unfold opC
   rw [hop]
   all_goals rfl
  rw [hopc]
  generalize f.eval c = vc
  cases vc with
  | bool b => cases b <;> exact .inr ⟨_, rfl, rfl⟩
  | _ => exact .inl rfl
 case binOp op t x y yt =>
  unfold opH at hh
  dsimp only at hh
  split at hh
  ·rename_i hi hio
   simp only [Option.some.injEq] at hh
   subst hh
   simp only [hev]
   split
   ·rename_i k a hx
    split
    ·rename_i j b hy
     cases hkj : decide (k = j) with
     | false => exact .inl rfl
     | true =>
      simp only [decide_eq_true_eq] at hkj
      subst hkj
      simp only [cond_true]
      rcases intOp_spec hio k a b q r with h | ⟨v, e1, e2, e3⟩
      ·exact .inl h
      ·exact .inr ⟨v, e1, opC_bin hop hx hy e2 (e3 _ _)⟩
    ·exact .inl rfl
   ·exact .inl rfl
  ·split at hh
   ·rename_i hi hio
    simp only [Option.some.injEq] at hh
    subst hh
    simp only [hev]
    split
    ·rename_i k a hx
     split
     ·rename_i j b hy
      rcases shOp_spec hio k j a b q r with h | ⟨v, e1, e2, e3⟩
      ·exact .inl h
      ·exact .inr ⟨v, e1, opC_bin hop hx hy e2 (e3 _ _)⟩
     ·exact .inl rfl
    ·exact .inl rfl
   ·cases hh
 case convert s d x =>
  unfold opH at hh
  dsimp only at hh
  split at hh
  ·rename_i i k hs hd
   simp only [Option.some.injEq] at hh
   subst hh
   simp only [hev]
   split
   ·rename_i j a hx
    exact .inr ⟨.int k (k.wrap a), wrapF_eq _ _ _, opC_conv hop hs hd hx⟩
   ·exact .inl rfl
  ·cases hh
 case slice t x lo hi mx =>
  unfold opH at hh
  dsimp only at hh
  split at hh
  ·rename_i hu
   simp only [Option.some.injEq] at hh
   subst hh
   simp only [hev, evO_eq]
   split
   ·rename_i s hx
    cases hp : (plainO (lo.map f.eval) && plainO (hi.map f.eval)) with
    | false => exact .inl rfl
    | true =>
     simp only [cond_true]
     split
     ·rename_i b l hh2 m hb
      refine .inr ⟨_, fSp_eq _ _, ?_⟩
      rw [subS_eq]
      exact opC_sub hop hu hx hp hb
     ·exact .inl rfl
   ·exact .inl rfl
  ·cases hh
end
end Go.Ev
end
section
set_option linter.unusedVariables false
set_option linter.unusedSimpArgs false
namespace Go.Ev
variable {α β γ δ : Type}
section
variable {E : Env} {K : Kr} {w w' : World}

theorem semD_sound (hE : EnvOK E) {o : Oper} {s : Dn (T Value → Sem Next)} (hh : semD E.P o = some s) (f : CF) : (∀ cc, o.op ≠ .defer cc) ∧ ∀ (K : Kr) (w : World) (ρ' : Operand → Value), (∀ x ∈ o.op.operands, RV K (f.eval x) (ρ' x)) → Snd E K w (crun E.P E.g (s.run f.tmps) K.C) (execOp ρ' o) := by
 have hev := fun x => evD_eq x f
 obtain ⟨dst, op, ty, pos, after, guard⟩ := o
 refine ⟨fun cc e => (by simp only at e; subst e; cases hh), fun K w ρ' hρ => ?_⟩
 have key := opC2_sound (K := K) (w := w) hE f.eval ρ' ⟨dst, op, ty, pos, after, guard⟩ hρ
 cases op <;> first | (cases hh; done) | skip
 case load t a =>
  simp only [semD, Option.some.injEq] at hh
  subst hh
  simp only [hev]
  exact key
 case store t a x =>
  simp only [semD, Option.some.injEq] at hh
  subst hh
  simp only [hev]
  exact key
 case extract x i =>
  simp only [semD, Option.some.injEq] at hh
  subst hh
  simp only [hev]
  exact key
 case indexAddr t x i =>
  simp only [semD, Option.some.injEq] at hh
  subst hh
  simp only [hev]
  exact key
 case index t x i =>
  simp only [semD, Option.some.injEq] at hh
  subst hh
  simp only [hev]
  exact key
 case field t x i =>
  simp only [semD, Option.some.injEq] at hh
  subst hh
  simp only [hev]
  exact key
 case fieldAddr t x i =>
  simp only [semD] at hh
  obtain ⟨h1, h2⟩ := cond_none hh
  simp only [Option.some.injEq] at h2
  subst h2
  simp only [hev]
  unfold opC2 at key
  simp only [h1, cond_true] at key
  exact key
 case call c =>
  obtain ⟨callee, args, argTypes⟩ := c
  cases callee <;> first | (cases hh; done) | skip
  rename_i b
  cases b <;> first | (cases hh; done) | skip
  simp only [semD] at hh
  split at hh
  ·rename_i x hx
   simp only [Option.some.injEq] at hh
   subst hh
   simp only [hev]
   have hargs : args = #[x] := Array.toList_inj.1 hx
   subst hargs
   have e1 : execOp f.eval ⟨dst, .call ⟨.builtin .len, #[x], argTypes⟩, ty, pos, after, guard⟩ = vS (Builtin.len_ argTypes ty #[f.eval x]) := by
    show (do let d ← resolve f.eval ⟨.builtin .len, #[x], argTypes⟩ ty; invoke d.target d.args) = _
    unfold resolve
    have e2 : (#[x] : Array Operand).map f.eval = #[f.eval x] := by simp
    rw [e2]
    rfl
   have e3 : opC2 E K.C f.eval ⟨dst, .call ⟨.builtin .len, #[x], argTypes⟩, ty, pos, after, guard⟩ = crun E.P E.g (execOp f.eval ⟨dst, .call ⟨.builtin .len, #[x], argTypes⟩, ty, pos, after, guard⟩) K.C := rfl
   rw [e3, e1] at key
   exact key
  ·cases hh

theorem opB0_sound (hE : EnvOK E) {o : Oper} {h : Dn OpBT} (hh : opB0 E o = some h) : opsOK E.g o = true ∧ (∀ cc, o.op ≠ .defer cc) ∧ ∀ (f : CF) (C : W) (q : Sc) (r : R),
  h.run f.n f.tmps C q r = r ∨ ∃ nx0 v C', h.run f.n f.tmps C q r = q (f.put o.dst v).tmps C' ∧ (nx0 = .value v ∨ (nx0 = .skip ∧ v = undef)) ∧
   ∀ (K : Kr) (w : World) (ρ' : Operand → Value), K.C = C → (∀ x ∈ o.op.operands, RV K (f.eval x) (ρ' x)) → Snd E K w (some (nx0, C')) (execOp ρ' o) := by
 unfold opB0 at hh
 obtain ⟨hok, hh⟩ := cond_none hh
 refine ⟨hok, ?_⟩
 split at hh
 ·rename_i hd hod
  simp only [Option.some.injEq] at hh
  subst hh
  refine ⟨(opH_sound hod ⟨0, 0, .leaf, [], [], none⟩ ⟨.leaf, 0, .leaf⟩ (fun _ => none) none).1, fun f C q r => ?_⟩
  rcases (opH_sound hod f C (fun v => (putD o.dst).run f.n f.tmps v fun t => q t C) r).2 with h1 | ⟨v, h1, h2⟩
  ·exact .inl h1
  ·refine .inr ⟨.value v, v, C, ?_, .inl rfl, fun K w ρ' hK hρ => ?_⟩
   ·simp only
    rw [h1, putD_eq]
   ·subst hK
    rw [← h2]
    exact opC_sound hE f.eval ρ' o hρ
 ·split at hh
  ·rename_i s hs
   simp only [Option.some.injEq] at hh
   subst hh
   refine ⟨(semD_sound hE hs ⟨0, 0, .leaf, [], [], none⟩).1, fun f C q r => ?_⟩
   have hsnd := (semD_sound hE hs f).2
   simp only
   cases hc : crun E.P E.g (s.run f.tmps) C with
   | none => exact .inl rfl
   | some x =>
    obtain ⟨nx, C'⟩ := x
    cases nx with
    | value v =>
     refine .inr ⟨.value v, v, C', ?_, .inl rfl, fun K w ρ' hK hρ => ?_⟩
     ·simp only [fV_eq, putD_eq]
     ·subst hK
      rw [← hc]
      exact hsnd K w ρ' hρ
    | skip =>
     refine .inr ⟨.skip, undef, C', ?_, .inr ⟨rfl, rfl⟩, fun K w ρ' hK hρ => ?_⟩
     ·simp only [putD_eq]
     ·subst hK
      rw [← hc]
      exact hsnd K w ρ' hρ
    | _ => exact .inl rfl
  ·cases hh

theorem yielded_of {f : CF} {ops : Array Oper} {g : Nat} {d : Tmp} (hd : (ops[g]?).bind (·.dst) = some d) : f.yielded ops g = match f.tmp d with
  | .bool b => some b
  | _ => none := by
 unfold CF.yielded
 rw [hd]
 simp only [Option.bind_some]
 unfold CF.tmp
 cases f.tmps.get d with
 | none => rfl
 | some v => cases v <;> rfl

theorem opB_sound (hE : EnvOK E) {ops : Array Oper} {i : Nat} {h : Dn OpBT} (hh : opB E ops i = some h) (f : CF) (stk : List CF) (C : W) (q : Sc) (r : R) (rest : List Nat) (k : List Item) (htodo : f.todo = .inRegion ops (i :: rest) :: k) :
  h.run f.n f.tmps C q r = r ∨ ∃ t' C', h.run f.n f.tmps C q r = q t' C' ∧ StepS E f stk C (.on { f with tmps := t', todo := .inRegion ops rest :: k } stk C') := by
 unfold opB at hh
 split at hh
 ·cases hh
 ·rename_i o ho
  have run : ∀ {h : Dn OpBT}, opB0 E o = some h → Region.wanted o (f.yielded ops) = true → h.run f.n f.tmps C q r = r ∨ ∃ t' C', h.run f.n f.tmps C q r = q t' C' ∧ StepS E f stk C (.on { f with tmps := t', todo := .inRegion ops rest :: k } stk C') := by
   intro h h0 hw
   obtain ⟨hok, hdef, hall⟩ := opB0_sound hE h0
   rcases hall f C q r with h1 | ⟨nx0, v, C', h1, h2, h3⟩
   ·exact .inl h1
   ·refine .inr ⟨(f.put o.dst v).tmps, C', h1, ?_⟩
    have := opSnd_step (E := E) (stk := stk) htodo ho hw hok hdef h3 v h2
    rw [CF.put_eta] at this
    exact this
  split at hh
  ·rename_i hg
   exact run hh (by unfold Region.wanted; rw [hg])
  ·rename_i g want hg
   split at hh
   ·cases hh
   ·rename_i d hd
    split at hh
    ·cases hh
    ·rename_i h0 hh0
     simp only [Option.some.injEq] at hh
     subst hh
     have hw : Region.wanted o (f.yielded ops) = (f.yielded ops g == some want) := by unfold Region.wanted; rw [hg]
     rw [yielded_of hd] at hw
     have hskip : Region.wanted o (f.yielded ops) = false → StepS E f stk C (.on { f with tmps := (f.put o.dst undef).tmps, todo := .inRegion ops rest :: k } stk C) := by
      intro hw
      have : opStep E f stk C ops i rest k = some (.on { f.put o.dst undef with todo := .inRegion ops rest :: k } stk C) := by
       unfold opStep
       simp only [ho, hw, cond_false]
      have := opStep_sound hE htodo this
      rw [CF.put_eta] at this
      exact this
     have hget : (getD (d + 1) d).run f.tmps = f.tmp d := evD_eq (.tmp d) f
     simp only [hget]
     cases hb : f.tmp d with
     | bool b =>
      rw [hb] at hw
      simp only at hw ⊢
      have hbw : (some b == some want) = (b == want) := rfl
      rw [hbw] at hw
      cases hbb : (b == want) with
      | true => exact run hh0 (hw.trans hbb)
      | false =>
       simp only [cond_false, putD_eq]
       exact .inr ⟨_, C, rfl, hskip (hw.trans hbb)⟩
     | _ =>
      rw [hb] at hw
      simp only [putD_eq]
      exact .inr ⟨_, C, rfl, hskip hw⟩
end
end Go.Ev
end
section
set_option linter.unusedVariables false
set_option linter.unusedSimpArgs false
namespace Go.Ev
variable {α β γ δ : Type}
section
variable {E : Env} {K : Kr} {w w' : World}

def BlkS (E : Env) (fn : FuncId) (n : Nat) (t : T Value) (it0 k : List Item) (m : List Nat) (ro : Option Nat) (stk : List CF) (C : W) (res : R) (q : Sc) (s : T Value → W → List Item → R) : Prop :=
 res = none ∨ (∃ t' C', res = q t' C' ∧ StepS E ⟨fn, n, t, it0 ++ k, m, ro⟩ stk C (.on ⟨fn, n, t', k, m, ro⟩ stk C')) ∨
  (∃ t' C' it, res = s t' C' it ∧ StepS E ⟨fn, n, t, it0 ++ k, m, ro⟩ stk C (.on ⟨fn, n, t', it ++ k, m, ro⟩ stk C'))

theorem opsB_sound (hE : EnvOK E) (ops : Array Oper) : ∀ (l : List Nat) (fn : FuncId) (n : Nat) (t : T Value) (k : List Item) (m : List Nat) (ro : Option Nat) (stk : List CF) (C : W) (q : Sc) (s : T Value → W → List Item → R),
  BlkS E fn n t [.inRegion ops l] k m ro stk C ((opsB E ops l).run n t C q s) q s
 | [], fn, n, t, k, m, ro, stk, C, q, s => by
  refine .inr (.inl ⟨t, C, by unfold opsB; rfl, StepS.of_cstep hE rfl⟩)
 | i :: l, fn, n, t, k, m, ro, stk, C, q, s => by
  unfold opsB
  split
  ·exact .inr (.inr ⟨t, C, [.inRegion ops (i :: l)], rfl, StepS.refl _ _ _⟩)
  ·rename_i h hh
   simp only
   rcases opB_sound hE hh ⟨fn, n, t, [.inRegion ops (i :: l)] ++ k, m, ro⟩ stk C (fun t C => (opsB E ops l).run n t C q s) (s t C [.inRegion ops (i :: l)]) l k rfl with h1 | ⟨t', C', h1, h2⟩
   ·exact .inr (.inr ⟨t, C, [.inRegion ops (i :: l)], h1, StepS.refl _ _ _⟩)
   ·simp only at h1
    rw [h1]
    rcases opsB_sound hE ops l fn n t' k m ro stk C' q s with h3 | ⟨t2, C2, h3, h4⟩ | ⟨t2, C2, it, h3, h4⟩
    ·exact .inl h3
    ·exact .inr (.inl ⟨t2, C2, h3, StepS.trans h2 h4⟩)
    ·exact .inr (.inr ⟨t2, C2, it, h3, StepS.trans h2 h4⟩)

theorem codeB_sound (hE : EnvOK E) : ∀ (c : Code) (fn : FuncId) (n : Nat) (t : T Value) (k : List Item) (m : List Nat) (ro : Option Nat) (stk : List CF) (C : W) (q : Sc) (s : T Value → W → List Item → R),
  BlkS E fn n t [.code c] k m ro stk C ((codeB E c).run n t C q s) q s
 | .skip, fn, n, t, k, m, ro, stk, C, q, s => .inr (.inl ⟨t, C, rfl, StepS.of_cstep hE rfl⟩)
 | .label l, fn, n, t, k, m, ro, stk, C, q, s => .inr (.inl ⟨t, C, rfl, StepS.of_cstep hE rfl⟩)
 | .seq a b, fn, n, t, k, m, ro, stk, C, q, s => by
  have h0 : StepS E ⟨fn, n, t, [.code (.seq a b)] ++ k, m, ro⟩ stk C (.on ⟨fn, n, t, [.code a] ++ (.code b :: k), m, ro⟩ stk C) := StepS.of_cstep hE rfl
  have hdef : (codeB E (.seq a b)).run n t C q s = (codeB E a).run n t C (fun t C => (codeB E b).run n t C q s) fun t C l => s t C (l ++ [.code b]) := rfl
  rw [hdef]
  rcases codeB_sound hE a fn n t (.code b :: k) m ro stk C (fun t C => (codeB E b).run n t C q s) (fun t C l => s t C (l ++ [.code b])) with h1 | ⟨t', C', h1, h2⟩ | ⟨t', C', it, h1, h2⟩
  ·exact .inl h1
  ·rw [h1]
   rcases codeB_sound hE b fn n t' k m ro stk C' q s with h3 | ⟨t2, C2, h3, h4⟩ | ⟨t2, C2, it, h3, h4⟩
   ·exact .inl h3
   ·exact .inr (.inl ⟨t2, C2, h3, StepS.trans h0 (StepS.trans h2 h4)⟩)
   ·exact .inr (.inr ⟨t2, C2, it, h3, StepS.trans h0 (StepS.trans h2 h4)⟩)
  ·refine .inr (.inr ⟨t', C', it ++ [.code b], h1, ?_⟩)
   rw [List.append_assoc]
   exact StepS.trans h0 h2
 | .cond c a b, fn, n, t, k, m, ro, stk, C, q, s => by
  have hdef : (codeB E (.cond c a b)).run n t C q s = (cond (operandOK E.g c) (⟨fun n t C q s => match (evD c).run t with
   | .bool true => (codeB E a).run n t C q s
   | .bool false => (codeB E b).run n t C q s
   | _ => none⟩ : Dn Blk) ⟨fun _ t C _ s => none⟩).run n t C q s := rfl
  rw [hdef]
  cases hok : operandOK E.g c with
  | false => exact .inl rfl
  | true =>
   simp only [cond_true]
   have hev : (evD c).run t = (⟨fn, n, t, [.code (.cond c a b)] ++ k, m, ro⟩ : CF).eval c := evD_eq c ⟨fn, n, t, [.code (.cond c a b)] ++ k, m, ro⟩
   rw [hev]
   split
   ·rename_i hv
    have h0 : StepS E ⟨fn, n, t, [.code (.cond c a b)] ++ k, m, ro⟩ stk C (.on ⟨fn, n, t, [.code a] ++ k, m, ro⟩ stk C) := StepS.of_cstep hE (by
     unfold cstep
     simp only [List.cons_append, List.nil_append] at hv ⊢
     simp only [hv, hok, cond_true])
    rcases codeB_sound hE a fn n t k m ro stk C q s with h3 | ⟨t2, C2, h3, h4⟩ | ⟨t2, C2, it, h3, h4⟩
    ·exact .inl h3
    ·exact .inr (.inl ⟨t2, C2, h3, StepS.trans h0 h4⟩)
    ·exact .inr (.inr ⟨t2, C2, it, h3, StepS.trans h0 h4⟩)
   ·rename_i hv
    have h0 : StepS E ⟨fn, n, t, [.code (.cond c a b)] ++ k, m, ro⟩ stk C (.on ⟨fn, n, t, [.code b] ++ k, m, ro⟩ stk C) := StepS.of_cstep hE (by
     unfold cstep
     simp only [List.cons_append, List.nil_append] at hv ⊢
     simp only [hv, hok, cond_true])
    rcases codeB_sound hE b fn n t k m ro stk C q s with h3 | ⟨t2, C2, h3, h4⟩ | ⟨t2, C2, it, h3, h4⟩
    ·exact .inl h3
    ·exact .inr (.inl ⟨t2, C2, h3, StepS.trans h0 h4⟩)
    ·exact .inr (.inr ⟨t2, C2, it, h3, StepS.trans h0 h4⟩)
   ·exact .inl rfl
 | .block i b, fn, n, t, k, m, ro, stk, C, q, s => by
  have h0 : StepS E ⟨fn, n, t, [.code (.block i b)] ++ k, m, ro⟩ stk C (.on ⟨fn, n, t, [.code b] ++ (.inBlock i :: k), m, ro⟩ stk C) := StepS.of_cstep hE rfl
  have hdef : (codeB E (.block i b)).run n t C q s = (codeB E b).run n t C q fun t C l => s t C (l ++ [.inBlock i]) := rfl
  rw [hdef]
  rcases codeB_sound hE b fn n t (.inBlock i :: k) m ro stk C q (fun t C l => s t C (l ++ [.inBlock i])) with h1 | ⟨t', C', h1, h2⟩ | ⟨t', C', it, h1, h2⟩
  ·exact .inl h1
  ·refine .inr (.inl ⟨t', C', h1, StepS.trans h0 (StepS.trans h2 (StepS.of_cstep hE rfl))⟩)
  ·refine .inr (.inr ⟨t', C', it ++ [.inBlock i], h1, ?_⟩)
   rw [List.append_assoc]
   exact StepS.trans h0 h2
 | .scope b, fn, n, t, k, m, ro, stk, C, q, s => by
  have h0 : StepS E ⟨fn, n, t, [.code (.scope b)] ++ k, m, ro⟩ stk C (.on ⟨fn, n, t, [.code b] ++ (.inScope b :: k), m, ro⟩ stk C) := StepS.of_cstep hE rfl
  have hdef : (codeB E (.scope b)).run n t C q s = (codeB E b).run n t C q fun t C l => s t C (l ++ [.inScope b]) := rfl
  rw [hdef]
  rcases codeB_sound hE b fn n t (.inScope b :: k) m ro stk C q (fun t C l => s t C (l ++ [.inScope b])) with h1 | ⟨t', C', h1, h2⟩ | ⟨t', C', it, h1, h2⟩
  ·exact .inl h1
  ·refine .inr (.inl ⟨t', C', h1, StepS.trans h0 (StepS.trans h2 (StepS.of_cstep hE rfl))⟩)
  ·refine .inr (.inr ⟨t', C', it ++ [.inScope b], h1, ?_⟩)
   rw [List.append_assoc]
   exact StepS.trans h0 h2
 | .region i ops d, fn, n, t, k, m, ro, stk, C, q, s => by
  cases d with
  | true => exact .inr (.inr ⟨t, C, [.code (.region i ops true)], rfl, StepS.refl _ _ _⟩)
  | false =>
   have h0 : StepS E ⟨fn, n, t, [.code (.region i ops false)] ++ k, m, ro⟩ stk C (.on ⟨fn, n, t, [.inRegion ops (List.range ops.size)] ++ k, m, ro⟩ stk C) := StepS.of_cstep hE rfl
   have hdef : (codeB E (.region i ops false)).run n t C q s = (opsB E ops (List.range ops.size)).run n t C q s := rfl
   rw [hdef]
   rcases opsB_sound hE ops (List.range ops.size) fn n t k m ro stk C q s with h3 | ⟨t2, C2, h3, h4⟩ | ⟨t2, C2, it, h3, h4⟩
   ·exact .inl h3
   ·exact .inr (.inl ⟨t2, C2, h3, StepS.trans h0 h4⟩)
   ·exact .inr (.inr ⟨t2, C2, it, h3, StepS.trans h0 h4⟩)
 | .loop b, fn, n, t, k, m, ro, stk, C, q, s => .inr (.inr ⟨t, C, [.code (.loop b)], rfl, StepS.refl _ _ _⟩)
 | .exit i, fn, n, t, k, m, ro, stk, C, q, s => .inr (.inr ⟨t, C, [.code (.exit i)], rfl, StepS.refl _ _ _⟩)
 | .goto i, fn, n, t, k, m, ro, stk, C, q, s => .inr (.inr ⟨t, C, [.code (.goto i)], rfl, StepS.refl _ _ _⟩)
 | .ret, fn, n, t, k, m, ro, stk, C, q, s => .inr (.inr ⟨t, C, [.code .ret], rfl, StepS.refl _ _ _⟩)
 | .refuse x, fn, n, t, k, m, ro, stk, C, q, s => .inr (.inr ⟨t, C, [.code (.refuse x)], rfl, StepS.refl _ _ _⟩)
 | .rangeFunc a b c d, fn, n, t, k, m, ro, stk, C, q, s => .inr (.inr ⟨t, C, [.code (.rangeFunc a b c d)], rfl, StepS.refl _ _ _⟩)

theorem evL_eq (f : CF) : ∀ l : List Operand, (evL l).run f.tmps = l.map f.eval
 | [] => rfl
 | x :: l => by
  show (evD x).run f.tmps :: (evL l).run f.tmps = _
  rw [evD_eq, evL_eq f l]; rfl

theorem resB_eq (P : Program) (f : CF) (C : W) (r : ResultVar) : (resB P r).run f.tmps C = resOne P C f r := by
 cases r with
 | tmp a => simp only [resB, resOne]; rw [show (getD (a + 1) a).run f.tmps = f.tmp a from evD_eq (.tmp a) f]
 | cell a ty =>
  simp only [resB, resOne]
  rw [show (getD (a + 1) a).run f.tmps = f.tmp a from evD_eq (.tmp a) f]
  all_goals (generalize f.tmp a = v; cases v <;> first | rfl | (rename_i x; cases x <;> rfl))

theorem resL_eq (P : Program) (f : CF) (C : W) : ∀ l : List ResultVar, (resL P l).run f.tmps C = resAll P C f l
 | [] => rfl
 | r :: l => by
  unfold resL resAll
  simp only
  rw [resB_eq, resL_eq P f C l]
  cases resOne P C f r with
  | none => rfl
  | some v => cases resAll P C f l <;> rfl

theorem retI_sound {fn : FuncId} {h : Dn (T Value → W → Option Value)} (hh : retI E fn = some h) {f : CF} (hfn : f.fn = fn) {C : W} {v : Value} (hv : h.run f.tmps C = some v) (hm : f.marks = []) (stk : List CF) : retC E f stk C = popC stk v C := by
 unfold retI at hh
 split at hh
 ·cases hh
 ·rename_i f0 hf0
  simp only [Option.some.injEq] at hh
  subst hh
  simp only [resL_eq] at hv
  unfold retC
  rw [hm]
  simp only [takeAll]
  rw [hfn, hf0]
  simp only
  have : resC E.P C f f0 = some v := by
   unfold resC
   split at hv
   ·rename_i vs hvs
    rw [hvs]
    cases vs with
    | nil => exact hv
    | cons a l =>
     cases l with
     | nil => exact hv
     | cons b l => exact hv
   ·cases hv
  rw [this]

theorem opEnter_step {f f2 : CF} {stk : List CF} {C C' : W} {ops : Array Oper} {i : Nat} {rest : List Nat} {k : List Item} {o : Oper} {kk : FuncId} {args : Array Value} (htodo : f.todo = .inRegion ops (i :: rest) :: k) (hi : ops[i]? = some o) (hw : Region.wanted o (f.yielded ops) = true) (hok : opsOK E.g o = true)
  (hdef : ∀ cc, o.op ≠ .defer cc) (hsnd : ∀ (K : Kr) (w : World) (ρ' : Operand → Value), K.C = C → (∀ x ∈ o.op.operands, RV K (f.eval x) (ρ' x)) → Snd E K w (some (.enter kk args, C')) (execOp ρ' o)) (hf2 : CF.enter E.P kk args = some f2) :
  StepS E f stk C (.on f2 (f :: stk) C') := by
 intro K w fr frs cs hKC hR hf hfs
 have hf0 := hf
 obtain ⟨t, td, rfl, ht, htd⟩ := hf.ex
 have c1 : Region.wanted o (Go.yielded ops t) = true := by
  have : Go.yielded ops t = f.yielded ops := funext fun j => ht.yielded ops j
  rw [this]; exact hw
 have hρ : ∀ x ∈ o.op.operands, RV K (f.eval x) (evalA t x) := by
  intro x hx
  unfold opsOK at hok
  rw [List.all_eq_true] at hok
  exact ht.eval hR (hok x (by simpa using hx))
 obtain ⟨K', w', nx', c3, c4, c5, c6, c7⟩ := hsnd K w (evalA t) hKC hρ hR _ _ rfl
 rw [htodo] at htd
 cases htd with
 | cons ha hb =>
  cases ha
  rename_i m
  cases c7 with
  | enter _ hx =>
   have hst := st_op_enter (P := E.P) (fn := f.fn) (d := marksOf K f.marks) (ro := f.round.map K.σ) (cs := frs ++ cs) (rest := rest) (k := m) hi c1 (fun l cc hh => hdef cc hh.2) c4
   exact ⟨K', w', _, _ :: frs, c3, Steps.one hst, c5, c6, (enter_rel hf2 hx).1, .cons (hf0.ext c6) (hfs.ext c6), rfl⟩

theorem callI_sound (hE : EnvOK E) {ops : Array Oper} {i : Nat} {ci : CallI} (hh : callI E ops i = some ci) (f : CF) (stk : List CF) (C : W) (rest : List Nat) (k : List Item) (htodo : f.todo = .inRegion ops (i :: rest) :: k) :
  StepS E f stk C (.on ⟨ci.k, ci.n, fillT (ci.args.run f.tmps) 0 .leaf, [.code ci.b], [], none⟩ (f :: stk) C) := by
 unfold callI at hh
 split at hh
 ·cases hh
 rename_i o ho
 split at hh
 ·cases hh
 rename_i hg
 split at hh
 case h_2 => cases hh
 rename_i c hop
 split at hh
 case h_2 => cases hh
 rename_i fo hcal
 split at hh
 case h_2 => cases hh
 rename_i kk
 obtain ⟨hq, hh⟩ := cond_none hh
 simp only [Bool.and_eq_true] at hq
 obtain ⟨⟨hok, hX⟩, hcall⟩ := hq
 split at hh
 case h_2 => cases hh
 rename_i fn hfn
 split at hh
 case h_2 => cases hh
 rename_i b hb
 obtain ⟨hle, hh⟩ := cond_none hh
 simp only [Option.some.injEq] at hh
 subst hh
 simp only
 rw [evL_eq]
 have henter : CF.enter E.P kk (c.args.map f.eval) = some ⟨kk, fn.ntmps, fillT (c.args.toList.map f.eval) 0 .leaf, [.code b], [], none⟩ := by
  unfold CF.enter
  rw [hfn]
  simp only [hb]
  have : Nat.ble (c.args.map f.eval).size fn.ntmps = true := by simpa using hle
  rw [this]
  simp
 refine opEnter_step htodo ho (by unfold Region.wanted; rw [hg]) hok (fun cc e => by rw [hop] at e; cases e) (C' := C) (kk := kk) (args := c.args.map f.eval) (fun K w ρ' hK hρ => ?_) henter
 subst hK
 have key := opC2_sound (K := K) (w := w) hE f.eval ρ' o hρ
 have he : opC2 E K.C f.eval o = some (.enter kk (c.args.map f.eval), K.C) := by
  unfold opC2
  rw [hop]
  simp only [hcal, CF.eval, Nat.eq_of_beq_eq_true hX]
  unfold callC
  simp only [hcall, cond_true]
  simp
 rw [he] at key
 exact key
end
end Go.Ev
end
section
set_option linter.unusedVariables false
set_option linter.unusedSimpArgs false
namespace Go.Ev
variable {α β γ δ : Type}
section
variable {E : Env} {K : Kr} {w w' : World}

theorem blk_fin {fn : FuncId} {n : Nat} {t : T Value} {it0 k : List Item} {m : List Nat} {ro : Option Nat} {stk : List CF} {C : W} {res : R} {nx : Nx}
  (h : BlkS E fn n t it0 k m ro stk C res (fun t C => some (.on ⟨fn, n, t, k, m, ro⟩ stk C)) (fun t C l => some (.on ⟨fn, n, t, l ++ k, m, ro⟩ stk C))) (hr : res = some nx) : StepS E ⟨fn, n, t, it0 ++ k, m, ro⟩ stk C nx := by
 rcases h with h1 | ⟨t', C', h1, h2⟩ | ⟨t', C', it, h1, h2⟩
 ·rw [h1] at hr; cases hr
 ·rw [h1] at hr
  simp only [Option.some.injEq] at hr
  rw [← hr]; exact h2
 ·rw [h1] at hr
  simp only [Option.some.injEq] at hr
  rw [← hr]; exact h2

theorem ret_sound (hE : EnvOK E) {RG : RegF} (hRG : RegS E RG) {call : CallF} (hcall : ∀ G, CallS (withG E G) call) {fn : FuncId} {n : Nat} {t : T Value} {k : List Item} {m : List Nat} {ro : Option Nat} {stk : List CF} {C : W} {nx : Nx}
  (h : (itemF E RG (.code .ret)).run call k ⟨fn, n, t, .code .ret :: k, m, ro⟩ stk C = some nx) : StepS E ⟨fn, n, t, .code .ret :: k, m, ro⟩ stk C nx := by
 simp only [itemF] at h
 split at h
 ·exact cstep_sound hE hRG hcall h
 ·split at h
  ·exact cstep_sound hE hRG hcall h
  ·split at h
   ·cases h
   ·rename_i hd hhd
    split at h
    ·cases h
    ·rename_i v hv
     have hret : ∀ stk, cstep E RG call ⟨fn, n, t, .code .ret :: k, [], none⟩ stk C = popC stk v C := fun stk => by
      have := retI_sound (E := E) hhd (f := ⟨fn, n, t, .code .ret :: k, [], none⟩) rfl hv rfl stk
      rw [← this]; rfl
     cases stk with
     | nil =>
      have h : some (Nx.out v C) = some nx := h
      simp only [Option.some.injEq] at h
      subst h
      exact cstep_sound hE hRG hcall (hret [])
     | cons g st =>
      obtain ⟨gfn, gn, gt, gtd, gm, gr⟩ := g
      cases gtd with
      | nil => cases h
      | cons it gk =>
       cases it with
       | inRegion ops l =>
        cases l with
        | nil => cases h
        | cons i rest =>
         have h : (fV 3 v fun v => (dstD ops i).run gn gt v fun gt => some (Nx.on ⟨gfn, gn, gt, .inRegion ops rest :: gk, gm, gr⟩ st C)) = some nx := h
         refine cstep_sound hE hRG hcall ?_
         rw [hret]
         simp only [fV_eq, dstD] at h
         have hp := putD_eq ((ops[i]?).bind (·.dst)) ⟨gfn, gn, gt, .inRegion ops (i :: rest) :: gk, gm, gr⟩ v (fun gt => some (Nx.on ⟨gfn, gn, gt, .inRegion ops rest :: gk, gm, gr⟩ st C))
         simp only at hp
         rw [hp] at h
         have he := CF.put_eta (⟨gfn, gn, gt, .inRegion ops (i :: rest) :: gk, gm, gr⟩ : CF) ((ops[i]?).bind (·.dst)) v
         show (match (some { (⟨gfn, gn, gt, .inRegion ops (i :: rest) :: gk, gm, gr⟩ : CF).put ((ops[i]?).bind (·.dst)) v with todo := .inRegion ops rest :: gk } : Option CF) with
          | some g' => some (Nx.on g' st C)
          | none => none) = some nx
         rw [← h, he]
       | _ => exact cstep_sound hE hRG hcall h

theorem itemF_sound (hE : EnvOK E) {RG : RegF} (hRG : RegS E RG) {call : CallF} (hcall : ∀ G, CallS (withG E G) call) (it : Item) {fn : FuncId} {n : Nat} {t : T Value} {k : List Item} {m : List Nat} {ro : Option Nat} {stk : List CF} {C : W} {nx : Nx}
  (h : (itemF E RG it).run call k ⟨fn, n, t, it :: k, m, ro⟩ stk C = some nx) : StepS E ⟨fn, n, t, it :: k, m, ro⟩ stk C nx := by
 cases it with
 | code c =>
  cases c <;> first
   | exact ret_sound hE hRG hcall h
   | exact cstep_sound hE hRG hcall h
   | skip
  case region i ops d =>
   cases d with
   | true => exact cstep_sound hE hRG hcall h
   | false => exact blk_fin (it0 := [.code _]) (codeB_sound hE _ fn n t k m ro stk C _ _) h
  all_goals exact blk_fin (it0 := [.code _]) (codeB_sound hE _ fn n t k m ro stk C _ _) h
 | inBlock i =>
  have h : some (Nx.on ⟨fn, n, t, k, m, ro⟩ stk C) = some nx := h
  simp only [Option.some.injEq] at h
  rw [← h]; exact StepS.of_cstep hE rfl
 | inScope b =>
  have h : some (Nx.on ⟨fn, n, t, k, m, ro⟩ stk C) = some nx := h
  simp only [Option.some.injEq] at h
  rw [← h]; exact StepS.of_cstep hE rfl
 | inLoop b =>
  have h0 : StepS E ⟨fn, n, t, .inLoop b :: k, m, ro⟩ stk C (.on ⟨fn, n, t, [.code b] ++ (.inLoop b :: k), m, ro⟩ stk C) := StepS.of_cstep hE rfl
  exact StepS.trans h0 (blk_fin (it0 := [.code b]) (codeB_sound hE b fn n t (.inLoop b :: k) m ro stk C _ _) h)
 | inRegion ops l =>
  cases l with
  | nil =>
   have h : some (Nx.on ⟨fn, n, t, k, m, ro⟩ stk C) = some nx := h
   simp only [Option.some.injEq] at h
   rw [← h]; exact StepS.of_cstep hE rfl
  | cons i rest =>
   simp only [itemF] at h
   split at h
   ·split at h
    ·exact cstep_sound hE hRG hcall h
    ·rename_i kk nn b a hci
     have h : some (Nx.on ⟨kk, nn, fillT (a.run t) 0 .leaf, [.code b], [], none⟩ (⟨fn, n, t, .inRegion ops (i :: rest) :: k, m, ro⟩ :: stk) C) = some nx := h
     simp only [Option.some.injEq] at h
     rw [← h]
     exact callI_sound hE hci ⟨fn, n, t, .inRegion ops (i :: rest) :: k, m, ro⟩ stk C rest k rfl
   ·rename_i hh hop
    have h : hh.run n t C (fun t C => (opsB E ops rest).run n t C (fun t C => some (Nx.on ⟨fn, n, t, k, m, ro⟩ stk C)) fun t C l => some (Nx.on ⟨fn, n, t, l ++ k, m, ro⟩ stk C))
      (cstep E RG call ⟨fn, n, t, .inRegion ops (i :: rest) :: k, m, ro⟩ stk C) = some nx := h
    rcases opB_sound hE hop ⟨fn, n, t, .inRegion ops (i :: rest) :: k, m, ro⟩ stk C (fun t C => (opsB E ops rest).run n t C (fun t C => some (Nx.on ⟨fn, n, t, k, m, ro⟩ stk C)) fun t C l => some (Nx.on ⟨fn, n, t, l ++ k, m, ro⟩ stk C))
      (cstep E RG call ⟨fn, n, t, .inRegion ops (i :: rest) :: k, m, ro⟩ stk C) rest k rfl with h1 | ⟨t', C', h1, h2⟩
    ·simp only at h1
     rw [h1] at h
     exact cstep_sound hE hRG hcall h
    ·simp only at h1
     rw [h1] at h
     exact StepS.trans h2 (blk_fin (it0 := [.inRegion ops rest]) (opsB_sound hE ops rest fn n t' k m ro stk C' _ _) h)
 | _ => exact cstep_sound hE hRG hcall h

theorem stepF_sound (hE : EnvOK E) {RG : RegF} (hRG : RegS E RG) {call : CallF} (hcall : ∀ G, CallS (withG E G) call) {f : CF} {stk : List CF} {C : W} {nx : Nx} (h : stepF E RG call f stk C = some nx) : StepS E f stk C nx := by
 obtain ⟨fn, n, t, td, m, ro⟩ := f
 cases td with
 | nil => exact cstep_sound hE hRG hcall h
 | cons it k => exact itemF_sound hE hRG hcall it h

theorem CF.nf_eq {B : Type} (f : CF) (k : CF → B) : f.nf k = k f := by
 obtain ⟨fn, n, t, td, m, r⟩ := f
 simp only [CF.nf, fN_eq]
 cases t <;> rfl

theorem W.nf_eq {B : Type} (C : W) (k : W → B) : C.nf k = k C := by
 obtain ⟨h, s, u⟩ := C
 simp only [W.nf, fN_eq]
 cases h <;> rfl

theorem goF_succ (E : Env) (RG : RegF) (n : Nat) (f : CF) (stk : List CF) (C : W) : goF E RG (n + 1) f stk C = match stepF E RG (fun k args C => match CF.enter E.P k args with
   | some f2 => goF E RG n f2 [] C
   | none => none) f stk C with
  | some nx => match nx with
   | .on f' stk' C' => goF E RG n f' stk' C'
   | .out v C' => some (v, C')
  | none => none := by
 show (match stepF E RG (fun k args C => match CF.enter E.P k args with
   | some f2 => goF E RG n f2 [] C
   | none => none) f stk C with
  | some nx => match nx with
   | .on f' stk' C' => f'.nf fun f' => C'.nf fun C' => goF E RG n f' stk' C'
   | .out v C' => some (v, C')
  | none => none) = _
 simp only [CF.nf_eq, W.nf_eq]

theorem opB_withG (G : Nat → Obj → Prop) (ops : Array Oper) (i : Nat) : opB (withG E G) ops i = opB E ops i := rfl
theorem opsB_withG (G : Nat → Obj → Prop) (ops : Array Oper) : ∀ l : List Nat, opsB (withG E G) ops l = opsB E ops l
 | [] => rfl
 | i :: l => by
  have ih := opsB_withG G ops l
  unfold opsB
  rw [opB_withG, ih]
theorem codeB_withG (G : Nat → Obj → Prop) : ∀ c : Code, codeB (withG E G) c = codeB E c
 | .seq a b => by
  have h1 := codeB_withG G a
  have h2 := codeB_withG G b
  unfold codeB
  rw [h1, h2]
 | .cond c a b => by
  have h1 := codeB_withG G a
  have h2 := codeB_withG G b
  unfold codeB
  rw [h1, h2]
  rfl
 | .block i b => by
  have h2 := codeB_withG G b
  unfold codeB
  rw [h2]
 | .scope b => by
  have h2 := codeB_withG G b
  unfold codeB
  rw [h2]
 | .region i ops d => by
  unfold codeB
  cases d
  ·simp only [opsB_withG]
  ·rfl
 | .skip => rfl
 | .label _ => rfl
 | .loop _ => rfl
 | .exit _ => rfl
 | .goto _ => rfl
 | .ret => rfl
 | .refuse _ => rfl
 | .rangeFunc .. => rfl

theorem itemF_withG (G : Nat → Obj → Prop) (RG : RegF) (it : Item) : itemF (withG E G) RG it = itemF E RG it := by
 unfold itemF
 simp only [codeB_withG, opsB_withG, opB_withG, cstep_withG]
 rfl

theorem stepF_withG (G : Nat → Obj → Prop) (RG : RegF) (call : CallF) (f : CF) (stk : List CF) (C : W) : stepF (withG E G) RG call f stk C = stepF E RG call f stk C := by
 unfold stepF
 simp only [itemF_withG, cstep_withG]

theorem goF_sound (hE : EnvOK E) {RG : RegF} (hRG : ∀ G, RegS (withG E G) RG) : ∀ (n : Nat) (f : CF) (stk : List CF) (C : W) (v : Value) (C' : W), goF E RG n f stk C = some (v, C') → ∀ G, StepS (withG E G) f stk C (.out v C')
 | 0, f, stk, C, v, C', h => by cases h
 | n + 1, f, stk, C, v, C', h => by
  rw [goF_succ] at h
  have hcall : ∀ G, CallS (withG E G) (fun k args C => match CF.enter E.P k args with
   | some f2 => goF E RG n f2 [] C
   | none => none) := by
   intro G k args C v C' hc K w args' cs hKC hR ha
   dsimp only at hc
   split at hc
   ·rename_i f2 hf2
    have ih := goF_sound hE hRG n f2 [] C v C' hc G
    obtain ⟨hF, hk⟩ := enter_rel (E := withG E G) hf2 ha
    obtain ⟨K', w', fr', v', a1, a2, a3, a4, a5, a6, a7⟩ := ih K w _ [] cs hKC hR hF .nil
    exact ⟨K', w', fr', v', a1, by simpa using a2, by rw [a3]; exact hk, a4, a5, a6, a7⟩
   ·cases hc
  intro G
  split at h
  ·rename_i nx hs
   have h1 := stepF_sound (hE.withG G) (hRG G) (call := fun k args C => match CF.enter E.P k args with
    | some f2 => goF E RG n f2 [] C
    | none => none) hcall ((stepF_withG G _ _ _ _ _).trans hs)
   split at h
   ·rename_i f1 stk1 C1
    exact StepS.trans h1 (goF_sound hE hRG n f1 stk1 C1 v C' h G)
   ·simp only [Option.some.injEq, Prod.mk.injEq] at h
    obtain ⟨rfl, rfl⟩ := h
    exact h1
  ·cases h

end
end Go.Ev
end
section
set_option linter.unusedVariables false
set_option linter.unusedSimpArgs false
namespace Go.Ev

/-! ### The library's functions without a body, and the start -/

theorem envOK_two {E : Env} {fa fb e t : Nat} {fna fnb : Func} (hX : E.X = fun k => cond (Nat.beq k fa) 1 (cond (Nat.beq k fb) (e + 2) 0)) (hne : fa ≠ fb)
  (ha : E.P.funcs[fa]? = some fna) (ha1 : (fna.name == "runtime.NumGoroutine") = false) (ha2 : fna.body.isNone = true) (ha3 : Extern.findNext fna = none) (ha4 : Extern.find fna = some Extern.AbiNoEscape.same)
  (hb : E.P.funcs[fb]? = some fnb) (hb1 : (fnb.name == "runtime.NumGoroutine") = false) (hb2 : fnb.body.isNone = true) (hb3 : Extern.findNext fnb = none) {ps : Array TypeId} (hb4 : Extern.find fnb = some (Extern.BytealgMakeNoZero.makeNoZero ps #[t]))
  (ht : E.P.underlying t = some (.slice e)) (hc : E.P.cellsOf e = 1) : EnvOK E := by
 have x1 : ∀ f, E.X f = 1 → f = fa := by
  intro f hf
  rw [hX] at hf
  dsimp only at hf
  cases h1 : Nat.beq f fa with
  | true => exact Nat.eq_of_beq_eq_true h1
  | false =>
   rw [h1] at hf
   cases h2 : Nat.beq f fb with
   | true => rw [h2] at hf; simp at hf
   | false => rw [h2] at hf; cases hf
 have x2 : ∀ f e2, E.X f = e2 + 2 → f = fb ∧ e2 = e := by
  intro f e2 hf
  rw [hX] at hf
  dsimp only at hf
  cases h1 : Nat.beq f fa with
  | true => rw [h1] at hf; simp at hf
  | false =>
   rw [h1] at hf
   cases h2 : Nat.beq f fb with
   | true =>
    rw [h2] at hf
    simp only [cond_true, cond_false] at hf
    exact ⟨Nat.eq_of_beq_eq_true h2, by omega⟩
   | false => rw [h2] at hf; cases hf
 refine ⟨fun f hf x w => ?_, fun f e2 hf => ?_⟩
 ·rw [x1 f hf, run_callFunc_extern ha ha1 ha2 ha3 ha4]
  rfl
 ·obtain ⟨rfl, rfl⟩ := x2 f e2 hf
  refine ⟨hc, fun n w hn => ?_⟩
  obtain ⟨cs, h1, h2, h3⟩ := Lib.run_makeNoZero (P := E.P) w ps t e2 ht n hn
  exact ⟨cs, by rw [run_callFunc_extern hb hb1 hb2 hb3 hb4, h1]; rfl, h2⟩

def startW (g : Nat) (tabs : List (Nat × List Value)) : W := ⟨.leaf, g, tabs.foldl (fun h x => h.set x.1 (some x.2)) .leaf⟩

theorem startW_get (tabs : List (Nat × List Value)) (b : Nat) (x : List Value) (h : (tabs.foldl (fun h x => h.set x.1 (some x.2)) (.leaf : T (List Value))).get b = some x) : (b, x) ∈ tabs := by
 have key : ∀ (l : List (Nat × List Value)) (t : T (List Value)), (l.foldl (fun h x => h.set x.1 (some x.2)) t).get b = some x → t.get b = some x ∨ (b, x) ∈ l := by
  intro l
  induction l with
  | nil => intro t h; exact .inl h
  | cons y l ih =>
   intro t h
   rcases ih _ h with h1 | h1
   ·rw [T.get_set] at h1
    by_cases hb : b = y.1
    ·rw [if_pos hb] at h1
     simp only [Option.some.injEq] at h1
     exact .inr (by rw [hb, ← h1]; simp)
    ·rw [if_neg hb] at h1; exact .inl h1
   ·exact .inr (by simp [h1])
 rcases key tabs .leaf h with h1 | h1
 ·rw [T.get_leaf] at h1; cases h1
 ·exact h1

theorem rel_start {E : Env} {w : World} (hw0 : E.w0 = w) (hG : ∀ r o, ¬ E.G r o) (hg : E.g ≤ w.heap.size) (tabs : List (Nat × List Value)) (ht : ∀ y ∈ tabs, y.1 < E.g ∧ ∀ i v, y.2[i]? = some v → w.cell? ⟨y.1, i, none⟩ = some v ∧ plainN 0 v = true) :
  Rel E ⟨fun b => b, fun _ => 0, startW E.g tabs⟩ w := by
 subst hw0
 have hget : ∀ b x, (startW E.g tabs).get b = some x → False := fun b x h => by
  have : (T.leaf : T (Bool × Obj)).get b = some x := h
  rw [T.get_leaf] at this; cases this
 exact ⟨RowKit.Below.refl _ _, hg, Nat.le_refl _, fun b _ => rfl, fun b x hb => (hget b x hb).elim, fun b e o hb => (hget b _ hb).elim, fun b o hb => (hget b _ hb).elim, fun b x _ hb => (hget b x hb).elim,
  fun b b' x x' _ _ hb => (hget b x hb).elim, fun r o h => (hG r o h).elim, fun b c hc => ht (b, c) (startW_get tabs b c hc)⟩

end Go.Ev
end
section
set_option linter.unusedVariables false
set_option linter.unusedSimpArgs false
namespace Go.Ev
section
variable {E : Env} {K : Kr} {w w' : World}

/-! ### A run in pieces -/

noncomputable def callG (E : Env) (RG : RegF) (m : Nat) : CallF := fun k args C => match CF.enter E.P k args with
 | some f2 => goF E RG m f2 [] C
 | none => none

noncomputable def runF (E : Env) (RG : RegF) (m : Nat) (n : Nat) : CF → List CF → W → Option (CF × List CF × W) :=
 Nat.rec (fun f stk C => some (f, stk, C)) (fun _ ih f stk C => match stepF E RG (callG E RG m) f stk C with
  | some nx => match nx with
   | .on f' stk' C' => f'.nf fun f' => C'.nf fun C' => ih f' stk' C'
   | .out _ _ => none
  | none => none) n

theorem runF_succ (E : Env) (RG : RegF) (m n : Nat) (f : CF) (stk : List CF) (C : W) : runF E RG m (n + 1) f stk C = match stepF E RG (callG E RG m) f stk C with
  | some nx => match nx with
   | .on f' stk' C' => runF E RG m n f' stk' C'
   | .out _ _ => none
  | none => none := by
 show (match stepF E RG (callG E RG m) f stk C with
  | some nx => match nx with
   | .on f' stk' C' => f'.nf fun f' => C'.nf fun C' => runF E RG m n f' stk' C'
   | .out _ _ => none
  | none => none) = _
 simp only [CF.nf_eq, W.nf_eq]

theorem callG_sound (hE : EnvOK E) {RG : RegF} (hRG : ∀ G, RegS (withG E G) RG) (m : Nat) : ∀ G, CallS (withG E G) (callG E RG m) := by
 intro G k args C v C' hc K w args' cs hKC hR ha
 unfold callG at hc
 split at hc
 ·rename_i f2 hf2
  have ih := goF_sound hE hRG m f2 [] C v C' hc G
  obtain ⟨hF, hk⟩ := enter_rel (E := withG E G) hf2 ha
  obtain ⟨K', w', fr', v', a1, a2, a3, a4, a5, a6, a7⟩ := ih K w _ [] cs hKC hR hF .nil
  exact ⟨K', w', fr', v', a1, by simpa using a2, by rw [a3]; exact hk, a4, a5, a6, a7⟩
 ·cases hc

theorem runF_sound (hE : EnvOK E) {RG : RegF} (hRG : ∀ G, RegS (withG E G) RG) (m : Nat) : ∀ (n : Nat) (f : CF) (stk : List CF) (C : W) (f' : CF) (stk' : List CF) (C' : W), runF E RG m n f stk C = some (f', stk', C') → StepS E f stk C (.on f' stk' C')
 | 0, f, stk, C, f', stk', C', h => by
  have h : some (f, stk, C) = some (f', stk', C') := h
  simp only [Option.some.injEq, Prod.mk.injEq] at h
  obtain ⟨rfl, rfl, rfl⟩ := h
  exact StepS.refl _ _ _
 | n + 1, f, stk, C, f', stk', C', h => by
  rw [runF_succ] at h
  split at h
  ·rename_i nx hs
   have h1 : StepS E f stk C nx := stepF_sound hE (hRG E.G) (call := callG E RG m) (callG_sound hE hRG m) hs
   split at h
   ·exact StepS.trans h1 (runF_sound hE hRG m n _ _ _ _ _ _ h)
   ·cases h
  ·cases h


def Part (C D : W) : Prop := D.size = C.size ∧ D.tab = C.tab ∧ ∀ b x, D.get b = some x → C.get b = some x

theorem StepS.part {f : CF} {stk : List CF} {C D : W} (h : Part C D) : StepS E f stk C (.on f stk D) := by
 obtain ⟨h1, h2, h3⟩ := h
 intro K w fr frs cs hKC hR hf hfs
 subst hKC
 have hE : Ext K ⟨K.σ, K.pc, D⟩ := by
  refine ⟨Nat.le_of_eq h1.symm, fun _ _ => rfl, fun _ _ => rfl, fun j _ => ?_⟩
  show D.fl j = 0 ∨ D.fl j = K.C.fl j
  unfold W.fl
  cases hd : D.get j with
  | none => exact .inl rfl
  | some x => rw [h3 j x hd]; exact .inr rfl
 refine ⟨⟨K.σ, K.pc, D⟩, w, fr, frs, rfl, Steps.refl _ _, ?_, hE, hf.ext hE, hfs.ext hE, rfl⟩
 exact ⟨hR.below, hR.g0, by rw [h1]; exact hR.gC, hR.base, fun b x hb => by rw [h1]; exact hR.dom b x (h3 b x hb), fun b e o hb => let ⟨o', a1, a2⟩ := hR.obj b e o (h3 _ _ hb); ⟨o', a1, a2.ext hE⟩,
  fun b o hb => hR.room b o (h3 _ _ hb), fun b x hg hb => hR.own b x hg (h3 _ _ hb), fun b b' x x' hg hg' hb hb' => hR.inj b b' x x' hg hg' (h3 _ _ hb) (h3 _ _ hb'),
  fun r o hr => let ⟨a1, a2, a3⟩ := hR.ghost r o hr; ⟨a1, a2, fun b x hg hb => a3 b x hg (h3 _ _ hb)⟩, fun b c hc => hR.tab b c (by rw [← h2]; exact hc)⟩

def keepT (h : T (Bool × Obj)) : List Nat → T (Bool × Obj)
 | [] => .leaf
 | b :: l => match h.get b with
  | some x => (keepT h l).set b (some x)
  | none => keepT h l

theorem keepT_get (h : T (Bool × Obj)) : ∀ (l : List Nat) (b : Nat) (x : Bool × Obj), (keepT h l).get b = some x → h.get b = some x
 | [], b, x, hb => by rw [keepT, T.get_leaf] at hb; cases hb
 | a :: l, b, x, hb => by
  unfold keepT at hb
  split at hb
  ·rename_i y hy
   rw [T.get_set] at hb
   by_cases hab : b = a
   ·rw [if_pos hab] at hb
    simp only [Option.some.injEq] at hb
    rw [hab, hy, hb]
   ·rw [if_neg hab] at hb
    exact keepT_get h l b x hb
  ·exact keepT_get h l b x hb

def W.keep (C : W) (l : List Nat) : W := ⟨keepT C.heap l, C.size, C.tab⟩

theorem W.keep_part (C : W) (l : List Nat) : Part C (C.keep l) := ⟨rfl, rfl, fun b x hb => keepT_get C.heap l b x hb⟩

end
end Go.Ev
end
section
set_option linter.unusedVariables false
set_option linter.unusedSimpArgs false
namespace Go.Ev
section
variable {E : Env} {K : Kr} {w w' : World}

/-! ### The reckoning does not look at the world in which the call began -/

def withW (E : Env) (w : World) : Env := { E with w0 := w }

section
variable {call : CallF} {ops : Array Oper} {B wr : T Nat} {f0 F : CF} {C0 : W} {tr : Tr}

theorem takeAll_withW (W0 : World) : ∀ (l : List Nat) (C : W), takeAll (withW E W0) l C = takeAll E l C
 | [], C => rfl
 | b :: l, C => by
  have ih := takeAll_withW W0 l
  unfold takeAll
  show (match crun E.P E.g (Instr.takeDeferred b) C with
   | some (_, C') => takeAll (withW E W0) l C'
   | none => none) = _
  generalize crun E.P E.g (Instr.takeDeferred b) C = r
  cases r with
  | none => rfl
  | some p => exact ih p.2

theorem retC_withW (W0 : World) (f : CF) (stk : List CF) (C : W) : retC (withW E W0) f stk C = retC E f stk C := by
 unfold retC
 rw [takeAll_withW]
 rfl

theorem cstep_withW (W0 : World) (RG : RegF) (call : CallF) (f : CF) (stk : List CF) (C : W) : cstep (withW E W0) RG call f stk C = cstep E RG call f stk C := by
 unfold cstep
 simp only [retC_withW]
 rfl

theorem runR_withW (W0 : World) (ops : Array Oper) (B : T Nat) : ∀ (l : List Nat) (f : CF) (C : W) (done : Nat), runR (withW E W0) call ops B l f C done = runR E call ops B l f C done
 | [], f, C, done => rfl
 | i :: l, f, C, done => by
  have ih := runR_withW W0 ops B l
  unfold runR
  simp only [ih]
  rfl

theorem chkOp_withW (W0 : World) (o : Oper) (j : Nat) : chkOp (withW E W0) ops B wr f0 F C0 tr o j = chkOp E ops B wr f0 F C0 tr o j := rfl

theorem chkAll_withW (W0 : World) : ∀ (l : List Oper) (j : Nat), chkAll (withW E W0) ops B wr f0 F C0 tr l j = chkAll E ops B wr f0 F C0 tr l j
 | [], j => rfl
 | o :: l, j => by
  unfold chkAll
  rw [chkAll_withW W0 l, chkOp_withW]

theorem regC_withW (W0 : World) : regC (withW E W0) = regC E := by
 funext call f C ops
 unfold regC
 simp only [runR_withW, chkAll_withW]
 rfl
end

theorem opB_withW (W0 : World) (ops : Array Oper) (i : Nat) : opB (withW E W0) ops i = opB E ops i := rfl
theorem opsB_withW (W0 : World) (ops : Array Oper) : ∀ l : List Nat, opsB (withW E W0) ops l = opsB E ops l
 | [] => rfl
 | i :: l => by
  have ih := opsB_withW W0 ops l
  unfold opsB
  rw [opB_withW, ih]
theorem codeB_withW (W0 : World) : ∀ c : Code, codeB (withW E W0) c = codeB E c
 | .seq a b => by
  have h1 := codeB_withW W0 a
  have h2 := codeB_withW W0 b
  unfold codeB
  rw [h1, h2]
 | .cond c a b => by
  have h1 := codeB_withW W0 a
  have h2 := codeB_withW W0 b
  unfold codeB
  rw [h1, h2]
  rfl
 | .block i b => by
  have h2 := codeB_withW W0 b
  unfold codeB
  rw [h2]
 | .scope b => by
  have h2 := codeB_withW W0 b
  unfold codeB
  rw [h2]
 | .region i ops d => by
  unfold codeB
  cases d
  ·simp only [opsB_withW]
  ·rfl
 | .skip => rfl
 | .label _ => rfl
 | .loop _ => rfl
 | .exit _ => rfl
 | .goto _ => rfl
 | .ret => rfl
 | .refuse _ => rfl
 | .rangeFunc .. => rfl

theorem itemF_withW (W0 : World) (RG : RegF) (it : Item) : itemF (withW E W0) RG it = itemF E RG it := by
 unfold itemF
 simp only [codeB_withW, opsB_withW, opB_withW, cstep_withW]
 rfl

theorem stepF_withW (W0 : World) (RG : RegF) (call : CallF) (f : CF) (stk : List CF) (C : W) : stepF (withW E W0) RG call f stk C = stepF E RG call f stk C := by
 unfold stepF
 simp only [itemF_withW, cstep_withW]

theorem goF_withW (W0 : World) (RG : RegF) : ∀ (n : Nat) (f : CF) (stk : List CF) (C : W), goF (withW E W0) RG n f stk C = goF E RG n f stk C
 | 0, f, stk, C => rfl
 | n + 1, f, stk, C => by
  have ih := goF_withW W0 RG n
  rw [goF_succ, goF_succ]
  simp only [stepF_withW, ih]
  rfl

theorem callG_withW (W0 : World) (RG : RegF) (m : Nat) : callG (withW E W0) RG m = callG E RG m := by
 funext k args C
 unfold callG
 simp only [goF_withW]
 rfl

theorem runF_withW (W0 : World) (RG : RegF) (m : Nat) : ∀ (n : Nat) (f : CF) (stk : List CF) (C : W), runF (withW E W0) RG m n f stk C = runF E RG m n f stk C
 | 0, f, stk, C => rfl
 | n + 1, f, stk, C => by
  have ih := runF_withW W0 RG m n
  rw [runF_succ, runF_succ]
  simp only [stepF_withW, callG_withW, ih]

theorem StepS.piece (hE : EnvOK (withW E w)) {m n : Nat} {keep : List Nat} {f f' : CF} {stk stk' : List CF} {C C' : W} (h : (runF E (regC E) m n f stk C).map (fun x => (x.1, x.2.1, x.2.2.keep keep)) = some (f', stk', C')) :
  StepS (withW E w) f stk C (.on f' stk' C') := by
 cases hr : runF E (regC E) m n f stk C with
 | none => rw [hr] at h; cases h
 | some x =>
  obtain ⟨f1, stk1, C1⟩ := x
  rw [hr] at h
  simp only [Option.map_some, Option.some.injEq, Prod.mk.injEq] at h
  obtain ⟨rfl, rfl, rfl⟩ := h
  have h1 : runF (withW E w) (regC (withW E w)) m n f stk C = some (f1, stk1, C1) := by rw [runF_withW, regC_withW]; exact hr
  have h2 := runF_sound hE (RG := regC (withW E w)) (fun G => regC_withG (E := withW E w) G ▸ regC_sound (hE.withG G)) m n f stk C f1 stk1 C1 h1
  exact StepS.trans h2 (StepS.part (C1.keep_part keep))

theorem StepS.last (hE : EnvOK (withW E w)) {n : Nat} {f : CF} {stk : List CF} {C C' : W} {v : Value} (h : goF E (regC E) n f stk C = some (v, C')) : StepS (withW E w) f stk C (.out v C') := by
 have h1 : goF (withW E w) (regC (withW E w)) n f stk C = some (v, C') := by rw [goF_withW, regC_withW]; exact h
 exact goF_sound hE (RG := regC (withW E w)) (fun G => regC_withG (E := withW E w) G ▸ regC_sound (hE.withG G)) n f stk C v C' h1 E.G
end
end Go.Ev
end
section
set_option linter.unusedVariables false
set_option linter.unusedSimpArgs false
namespace Go.Ev
section
variable {E : Env} {K : Kr} {w w' : World}

/-! ### Runs that branch: a step of a range over a map -/

def Ends (E : Env) (f : CF) (stk : List CF) (C : W) (v : Value) : Prop :=
 ∀ (K : Kr) (w : World) (fr : Frame) (frs cs : List Frame), K.C = C → Rel E K w → RF K f fr → RFs K stk frs →
  ∃ K' w' fr' v', Steps E.P (lone fr (frs ++ cs) w) (lone fr' cs w') ∧ fr'.fn = botFn f stk ∧ fr'.leaving E.P w' (.returned v') ∧ Rel E K' w' ∧ Ext K K' ∧ RV K' v v'

theorem Ends.out {f : CF} {stk : List CF} {C C' : W} {v : Value} (h : StepS E f stk C (.out v C')) : Ends E f stk C v := by
 intro K w fr frs cs hKC hR hf hfs
 obtain ⟨K', w', fr', v', _, a2, a3, a4, a5, a6, a7⟩ := h K w fr frs cs hKC hR hf hfs
 exact ⟨K', w', fr', v', a2, a3, a4, a5, a6, a7⟩

theorem Ends.step {f f1 : CF} {stk stk1 : List CF} {C C1 : W} {v : Value} (h1 : StepS E f stk C (.on f1 stk1 C1)) (h2 : Ends E f1 stk1 C1 v) : Ends E f stk C v := by
 intro K w fr frs cs hKC hR hf hfs
 obtain ⟨K1, w1, fr1, frs1, b1, b2, b3, b4, b5, b6, b7⟩ := h1 K w fr frs cs hKC hR hf hfs
 obtain ⟨K', w', fr', v', a2, a3, a4, a5, a6, a7⟩ := h2 K1 w1 fr1 frs1 cs b1 b3 b5 b6
 exact ⟨K', w', fr', v', b2.trans a2, by rw [a3, b7], a4, a5, b4.trans a6, a7⟩

theorem opSnd_at {f : CF} {stk : List CF} {C : W} {ops : Array Oper} {i : Nat} {rest : List Nat} {k : List Item} {o : Oper} (htodo : f.todo = .inRegion ops (i :: rest) :: k) (hi : ops[i]? = some o) (hw : Region.wanted o (f.yielded ops) = true) (hok : opsOK E.g o = true)
  (hdef : ∀ cc, o.op ≠ .defer cc) {K : Kr} {w : World} {fr : Frame} {frs cs : List Frame} (hKC : K.C = C) (hR : Rel E K w) (hf : RF K f fr) (hfs : RFs K stk frs) {cands : List (Value × W)}
  (hsnd : ∀ (ρ' : Operand → Value), (∀ x ∈ o.op.operands, RV K (f.eval x) (ρ' x)) → ∃ x ∈ cands, Snd E K w (some (.value x.1, x.2)) (execOp ρ' o)) :
  ∃ x ∈ cands, ∃ K' w' fr' frs', K'.C = x.2 ∧ Steps E.P (lone fr (frs ++ cs) w) (lone fr' (frs' ++ cs) w') ∧ Rel E K' w' ∧ Ext K K' ∧ RF K' { f.put o.dst x.1 with todo := .inRegion ops rest :: k } fr' ∧ RFs K' stk frs' ∧
   botFn { f.put o.dst x.1 with todo := .inRegion ops rest :: k } stk = botFn f stk := by
 obtain ⟨t, td, rfl, ht, htd⟩ := hf.ex
 have c1 : Region.wanted o (Go.yielded ops t) = true := by
  have : Go.yielded ops t = f.yielded ops := funext fun j => ht.yielded ops j
  rw [this]; exact hw
 have hρ : ∀ x ∈ o.op.operands, RV K (f.eval x) (evalA t x) := by
  intro x hx
  unfold opsOK at hok
  rw [List.all_eq_true] at hok
  exact ht.eval hR (hok x (by simpa using hx))
 obtain ⟨x, hx, hs⟩ := hsnd (evalA t) hρ
 obtain ⟨K', w', nx', c3, c4, c5, c6, c7⟩ := hs hR _ _ rfl
 rw [htodo] at htd
 cases htd with
 | cons ha hb =>
  cases ha
  rename_i m
  have hp := CF.put_fields f o.dst x.1
  cases c7 with
  | value hv =>
   have hst := st_op_value (P := E.P) (fn := f.fn) (d := marksOf K f.marks) (ro := f.round.map K.σ) (cs := frs ++ cs) (rest := rest) (k := m) hi c1 (fun l cc hh => hdef cc hh.2) c4
   have hF := RF.putE c6 (ht.ext c6) hf.marks hf.round o.dst hv (.cons (.inRegion ops rest) (hb.ext c6))
   refine ⟨x, hx, K', w', _, frs, c3, Steps.one hst, c5, c6, hF, hfs.ext c6, ?_⟩
   cases stk with
   | nil => exact hp.1
   | cons _ _ => rfl

def leftL (seen : List Nat) : List MapEntry → List MapEntry
 | [] => []
 | e :: l => cond (seen.contains e.born) (leftL seen l) (e :: leftL seen l)
theorem leftL_eq (seen : Array Nat) : ∀ l : List MapEntry, l.filter (fun e => !seen.contains e.born) = leftL seen.toList l
 | [] => rfl
 | e :: l => by
  rw [List.filter_cons, leftL_eq seen l, leftL]
  have : seen.toList.contains e.born = seen.contains e.born := by cases seen; simp
  rw [this]
  cases seen.contains e.born <;> rfl
theorem leftL_rel (seen : List Nat) : ∀ {l l' : List MapEntry}, RE K l l' → RE K (leftL seen l) (leftL seen l')
 | _, _, .nil => .nil
 | _, _, .cons h t => by
  unfold leftL
  rw [h.2.2]
  cases seen.contains _ with
  | true => exact leftL_rel seen t
  | false => exact .cons h (leftL_rel seen t)

theorem RE.all {p : MapEntry → Bool} (hp : ∀ e e' : MapEntry, e'.born = e.born → p e' = p e) : ∀ {l l' : List MapEntry}, RE K l l' → l'.all p = l.all p
 | _, _, .nil => rfl
 | _, _, .cons h t => by rw [List.all_cons, List.all_cons, hp _ _ h.2.2, RE.all hp t]
theorem RE.get {l l' : List MapEntry} (h : RE K l l') : ∀ (i : Nat) (x' : MapEntry), l'[i]? = some x' → ∃ x, l[i]? = some x ∧ REn K x x' := by
 induction h with
 | nil => intro i x' h; simp at h
 | cons h t ih =>
  intro i x' hx
  cases i with
  | zero =>
   simp only [List.getElem?_cons_zero, Option.some.injEq] at hx
   subst hx
   exact ⟨_, rfl, h⟩
  | succ i => simpa using ih i x' (by simpa using hx)
theorem RE.length {l l' : List MapEntry} (h : RE K l l') : l'.length = l.length := by
 induction h with
 | nil => rfl
 | cons h t ih => simp [ih]

def nextCs (g : Nat) (C : W) (x : Value) : Option (List (Value × W)) := match x with
 | .pointer (some ⟨r, 0, _⟩) => match C.get r with
  | some (e, .mapIter (some m) since seen last) => match C.get m with
   | some (_, .map es clock) => cond (Nat.ble g r && !(!seen.isEmpty && !es.isEmpty && es.toList.all fun e => decide (last ≤ e.born)) && es.toList.all fun e => decide (e.born < since))
     (match leftL seen.toList es.toList with
     | [] => some [(.tuple #[.bool false], C)]
     | a :: l => some ((a :: l).map fun en => (.tuple #[.bool true, en.key, en.val], C.put r (some (e, .mapIter (some m) since (seen.push en.born) clock))))) none
   | _ => none
  | _ => none
 | _ => none
theorem run_choose {P : Program} {n : Nat} (hn : 0 < n) (w : World) : ∃ j w2, j < n ∧ (Go.choose (.mapNext n)).run P w = .ok j w2 ∧ w2.heap = w.heap ∧ w2.os = w.os ∧ w2.tape = w.tape ∧ w2.output = w.output := by
 cases hf : (Question.mapNext n).forced with
 | true =>
  refine ⟨0, w, hn, ?_, rfl, rfl, rfl, rfl⟩
  simp [Go.choose, Sem.run, hf]
 | false =>
  refine ⟨_, { w with drawn := w.drawn + 1 }, Nat.mod_lt (w.tape w.drawn (.mapNext n)) hn, ?_, rfl, rfl, rfl, rfl⟩
  simp [Go.choose, Sem.run, hf, Question.cut]

theorem nextCs_sound (hR : Rel E K w) {x x' : Value} {t : TypeId} {cands : List (Value × W)} (hx : RV K x x') (h : nextCs E.g K.C x = some cands) :
  ∃ y ∈ cands, Snd E K w (some (.value y.1, y.2)) (do Pure.pure (Next.value (← Instr.next x' false t))) := by
 unfold nextCs at h
 split at h
 case h_2 => cases h
 rename_i r sp
 split at h
 case h_2 => cases h
 rename_i e m since seen last hg
 split at h
 case h_2 => cases h
 rename_i e2 es clock hg2
 obtain ⟨hq, h⟩ := cond_none h
 simp only [Bool.and_eq_true, Bool.not_eq_true'] at hq
 obtain ⟨⟨q1, q2⟩, q3⟩ := hq
 obtain ⟨h1, hm⟩ := hR.mapIter hg
 obtain ⟨es', h2, h3, hsz⟩ := hR.map hg2
 have hrel := leftL_rel (K := K) seen.toList h3
 have hold : ∀ a ∈ leftL seen.toList es'.toList, decide (a.born < since) = true := by
  intro a ha
  have h4 : es'.toList.all (fun e => decide (e.born < since)) = true := by
   rw [RE.all (fun e e' he => by rw [he]) h3]; exact q3
  rw [← leftL_eq] at ha
  exact List.all_eq_true.1 h4 a (List.mem_filter.1 ha).1
 have hweird : (!seen.isEmpty && !es'.isEmpty && es'.all (fun e => decide (e.born ≥ last))) = false := by
  have e1 : es'.isEmpty = es.isEmpty := by simp only [Array.isEmpty, hsz]
  have e2 : es'.all (fun e => decide (e.born ≥ last)) = es.toList.all (fun e => decide (last ≤ e.born)) := by
   rw [← RE.all (p := fun e => decide (last ≤ e.born)) (fun e e' he => by rw [he]) h3]
   cases es'; simp
  rw [e1, e2]; exact q2
 have hleft : es'.filter (fun e => !seen.contains e.born) = (leftL seen.toList es'.toList).toArray := by
  rw [← leftL_eq]
  cases es'; simp
 have hfo : (leftL seen.toList es'.toList).toArray.filter (fun e => decide (e.born < since)) = (leftL seen.toList es'.toList).toArray := by
  rw [List.filter_toArray, List.filter_eq_self.2 hold]
 have hfn : (leftL seen.toList es'.toList).toArray.filter (fun e => decide (e.born ≥ since)) = #[] := by
  rw [List.filter_toArray, List.filter_eq_nil_iff.2 (fun a ha => by have := hold a ha; simp at this ⊢; omega)]
 generalize hL' : leftL seen.toList es'.toList = L' at hrel hold hleft hfo hfn
 -- the run, up to the choice
 have hrun : ∀ (n : Nat) (cd : Array (Option MapEntry)), (if L'.toArray.isEmpty then #[none] else #[]) ++ (L'.toArray ++ #[]).map some = cd → cd.size = n →
   (do Pure.pure (Next.value (← Instr.next x' false t)) : Sem Next).run E.P w = ((do
    let j ← Go.choose (.mapNext n)
    match cd[j]? with
    | some (some e) => do
     Go.setObj (K.σ r) (.mapIter (some (K.σ m)) since (seen.push e.born) clock)
     Pure.pure (Next.value (.tuple #[.bool true, e.key, e.val]))
    | some none => Pure.pure (Next.value (.tuple #[.bool false]))
    | none => Go.stuck "Next: no such candidate" : Sem Next).run E.P w) := by
  intro n cd hcd hn
  cases hx with
  | ptr a ha =>
   unfold Instr.next
   simp only [Kr.addr]
   rw [Sem.run_bind, Sem.run_bind, run_getObj_iter h1]
   simp only [Result.andThen_ok]
   rw [Sem.run_bind, run_getObj_map h2]
   simp only [Result.andThen_ok, hweird, Bool.false_eq_true, if_false, hleft, hfo, hfn, hcd, hn]
   rw [Sem.run_bind, Sem.run_bind]
   cases (Go.choose (.mapNext n)).run E.P w with
   | halt _ _ => rfl
   | ok j w2 =>
    simp only [Result.andThen_ok]
    cases cd[j]? with
    | none => rfl
    | some oe =>
     cases oe with
     | none => rfl
     | some e => 
      simp only [Sem.run_bind]
      cases (Go.setObj (K.σ r) (.mapIter (some (K.σ m)) since (seen.push e.born) clock)).run E.P w2 <;> rfl
 split at h
 ·-- none is left
  rename_i hL
  rw [hL] at hrel
  cases hrel
  simp only [Option.some.injEq] at h
  subst h
  refine ⟨_, List.mem_singleton.2 rfl, ?_⟩
  intro _ nx C' hc
  simp only [Option.some.injEq, Prod.mk.injEq] at hc
  obtain ⟨rfl, rfl⟩ := hc
  refine ⟨K, w, .value (.tuple #[.bool false]), rfl, ?_, hR, Ext.refl K, .value (.tuple' (RA.one (.bool false)))⟩
  rw [hrun 1 #[none] (by simp) rfl, Sem.run_bind]
  have hch : (Go.choose (.mapNext 1)).run E.P w = .ok 0 w := by simp [Go.choose, Sem.run, Question.forced]
  rw [hch]
  rfl
 ·-- one of those that are left
  rename_i a l hL
  rw [hL] at hrel
  obtain ⟨a', l', rfl⟩ : ∃ a' l', L' = a' :: l' := by
   cases hrel with
   | cons _ _ => exact ⟨_, _, rfl⟩
  simp only [Option.some.injEq] at h
  subst h
  obtain ⟨j, w2, hj, hch, g1, g2, g3, g4⟩ := run_choose (P := E.P) (n := (a' :: l').length) (by simp) w
  obtain ⟨en', hen'⟩ : ∃ en', (a' :: l')[j]? = some en' := ⟨_, List.getElem?_eq_getElem hj⟩
  obtain ⟨en, hen, hr⟩ := hrel.get j en' hen'
  refine ⟨_, List.mem_map.2 ⟨en, List.mem_of_getElem? hen, rfl⟩, ?_⟩
  intro _ nx C' hc
  simp only [Option.some.injEq, Prod.mk.injEq] at hc
  obtain ⟨rfl, rfl⟩ := hc
  have hlt := hR.size_lt hg
  have hb : en'.born = en.born := hr.2.2
  obtain ⟨k1, k2⟩ := hR.put (w' := { w2 with heap := w2.heap.setIfInBounds (K.σ r) (.mapIter (some (K.σ m)) since (seen.push en'.born) clock) }) hg (Nat.le_of_ble_eq_true q1)
   (o := .mapIter (some m) since (seen.push en.born) clock) (o' := .mapIter (some (K.σ m)) since (seen.push en'.born) clock) (by rw [hb]; exact .mapIter _ _ _ _ hm) (fun _ => trivial) (by simp [g1]) g2 g3 g4
   (by simp [g1, hlt]) (fun k hk => by simp [g1, Ne.symm hk])
  refine ⟨⟨K.σ, K.pc, _⟩, _, .value (.tuple #[.bool true, en'.key, en'.val]), rfl, ?_, k1, k2, .value (.tuple' (RA.push (RA.push (RA.one (.bool true)) (hr.1.ext k2)) (hr.2.1.ext k2)))⟩
  rw [hrun (a' :: l').length ((a' :: l').toArray.map some) (by simp) (by simp), Sem.run_bind, hch]
  simp only [Result.andThen_ok]
  rw [show ((a' :: l').toArray.map some)[j]? = some (some en') from by rw [Array.getElem?_map, List.getElem?_toArray, hen']; rfl]
  simp only [Sem.run_bind, Go.setObj, Sem.run, g1, h1, Result.andThen_ok]
  rfl

theorem Ends.next {f : CF} {stk : List CF} {C : W} {ops : Array Oper} {i : Nat} {rest : List Nat} {k : List Item} {o : Oper} {x : Operand} {t : TypeId} {v : Value} {cands : List (Value × W)} (htodo : f.todo = .inRegion ops (i :: rest) :: k) (hi : ops[i]? = some o)
  (hop : o.op = .next x false) (ht : o.type = t) (hw : Region.wanted o (f.yielded ops) = true) (hok : opsOK E.g o = true) (hc : nextCs E.g C (f.eval x) = some cands)
  (h : ∀ y ∈ cands, Ends E { f.put o.dst y.1 with todo := .inRegion ops rest :: k } stk y.2 v) : Ends E f stk C v := by
 intro K w fr frs cs hKC hR hf hfs
 obtain ⟨y, hy, K1, w1, fr1, frs1, b1, b2, b3, b4, b5, b6, b7⟩ := opSnd_at (cs := cs) htodo hi hw hok (fun cc e => by rw [hop] at e; cases e) hKC hR hf hfs (cands := cands) fun ρ' hρ => by
  subst hKC
  obtain ⟨y, hy, hs⟩ := nextCs_sound hR (x := f.eval x) (x' := ρ' x) (t := t) (hρ x (by rw [hop]; simp [Op.operands])) hc
  refine ⟨y, hy, ?_⟩
  have : execOp ρ' o = (do Pure.pure (Next.value (← Instr.next (ρ' x) false t)) : Sem Next) := by
   obtain ⟨dst, op, ty, pos, after, guard⟩ := o
   simp only at hop ht
   subst hop ht
   rfl
  rw [this]
  exact hs
 obtain ⟨K', w', fr', v', a2, a3, a4, a5, a6, a7⟩ := h y hy K1 w1 fr1 frs1 cs b1 b3 b5 b6
 exact ⟨K', w', fr', v', b2.trans a2, by rw [a3, b7], a4, a5, b4.trans a6, a7⟩
theorem calls_of_ends {k : FuncId} {args args' : Array Value} {f2 : CF} (hf2 : CF.enter E.P k args = some f2) {v : Value} (h : Ends E f2 [] K.C v) (hR : Rel E K w) (ha : RA K args args') :
  Calls E.P k args' w fun e w' => ∃ K' v', e = .returned v' ∧ Rel E K' w' ∧ Ext K K' ∧ RV K' v v' := by
 intro cs
 obtain ⟨hF, hk⟩ := enter_rel hf2 ha
 obtain ⟨K', w', fr', v', a2, a3, a4, a5, a6, a7⟩ := h K w _ [] cs rfl hR hF .nil
 exact ⟨.returned v', w', fr', ⟨K', v', rfl, a5, a6, a7⟩, (show Steps E.P _ _ by simpa using a2), by rw [a3]; exact hk, a4⟩
end
end Go.Ev
end
