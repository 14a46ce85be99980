/-
  Proved: parts of a second machine for closed calls (texts 1 to 14 of 43) that is sound: what it reckons, the model does, in any world and on any schedule. No condition of its own; it is used by the claim's other texts.
-/
import Derived.Calls
import Derived.Orders
import Derived.Below
import Derived.Laws.Sem
import GoSem.Dispatch
import Derived.Lib.FrozenHead
import Derived.Lib.AppendZeros
section
/-
 A canonical run of Go code, reckoned by the kernel, and why any run does the same: the maps, the canonical world, the relation of values and worlds, and the steps of the memory.
-/
set_option linter.unusedVariables false
set_option linter.unusedSimpArgs false
namespace Go.Ev

/-! ### What is reckoned at once: each of these hands on just what it gets -/

section
universe u v
variable {A : Type u} {B : Type v}

def fN (n : Nat) (k : Nat → B) : B := match n with
 | .zero => k .zero
 | .succ m => k (.succ m)
theorem fN_eq (n : Nat) (k : Nat → B) : fN n k = k n := by cases n <;> rfl

def fI (n : Int) (k : Int → B) : B := match n with
 | .ofNat m => fN m fun m => k (.ofNat m)
 | .negSucc m => fN m fun m => k (.negSucc m)
theorem fI_eq (n : Int) (k : Int → B) : fI n k = k n := by cases n <;> simp [fI, fN_eq]

def fB (b : Bool) (k : Bool → B) : B := match b with
 | true => k true
 | false => k false
theorem fB_eq (b : Bool) (k : Bool → B) : fB b k = k b := by cases b <;> rfl

def fL : List A → (List A → B) → B
 | [], k => k []
 | a :: l, k => fL l fun l => k (a :: l)
theorem fL_eq : ∀ (l : List A) (k : List A → B), fL l k = k l
 | [], k => rfl
 | a :: l, k => by unfold fL; rw [fL_eq l]

def fA (x : Array A) (k : Array A → B) : B := match x with
 | ⟨l⟩ => fL l fun l => k ⟨l⟩
def fLW (g : A → (A → B) → B) : List A → (List A → B) → B
 | [], k => k []
 | a :: l, k => g a fun a => fLW g l fun l => k (a :: l)
theorem fLW_eq {g : A → (A → B) → B} (hg : ∀ a k, g a k = k a) : ∀ (l : List A) (k : List A → B), fLW g l k = k l
 | [], k => rfl
 | a :: l, k => by unfold fLW; rw [hg, fLW_eq hg l]

def f8 (b : UInt8) (k : UInt8 → B) : B := fN b.toNat fun n => k (UInt8.ofNat n)
theorem f8_eq (b : UInt8) (k : UInt8 → B) : f8 b k = k b := by
 unfold f8; rw [fN_eq, UInt8.ofNat_toNat]

def fS (s : ByteArray) (k : ByteArray → B) : B := match s with
 | ⟨⟨l⟩⟩ => fLW f8 l fun l => k ⟨⟨l⟩⟩
theorem fS_eq (s : ByteArray) (k : ByteArray → B) : fS s k = k s := by
 obtain ⟨⟨l⟩⟩ := s
 show fLW f8 l _ = _
 rw [fLW_eq f8_eq]

def fAd (a : Addr) (k : Addr → B) : B := match a with
 | ⟨b, o, s⟩ => fN b fun b => fN o fun o => match s with
  | none => k ⟨b, o, none⟩
  | some i => k ⟨b, o, some i⟩
theorem fAd_eq (a : Addr) (k : Addr → B) : fAd a k = k a := by
 obtain ⟨b, o, s⟩ := a
 simp only [fAd, fN_eq]
 cases s <;> rfl

def fV : Nat → Value → (Value → B) → B
 | 0, v, k => k v
 | d + 1, v, k => match v with
  | .bool b => fB b fun b => k (.bool b)
  | .int j n => fI n fun n => k (.int j n)
  | .pointer (some a) => fAd a fun a => k (.pointer (some a))
  | .slice (some a) n c => fAd a fun a => fN n fun n => fN c fun c => k (.slice (some a) n c)
  | .slice none n c => fN n fun n => fN c fun c => k (.slice none n c)
  | .map (some r) => fN r fun r => k (.map (some r))
  | .iface t v => fV d v fun v => k (.iface t v)
  | .agg x => match x with
   | ⟨l⟩ => fLW (fV d) l fun l => k (.agg ⟨l⟩)
  | .tuple x => match x with
   | ⟨l⟩ => fLW (fV d) l fun l => k (.tuple ⟨l⟩)
  | v => k v
theorem fV_eq : ∀ (d : Nat) (v : Value) (k : Value → B), fV d v k = k v
 | 0, v, k => rfl
 | d + 1, v, k => by
  unfold fV
  split
  ·rw [fB_eq]
  ·rw [fI_eq]
  ·rw [fAd_eq]
  ·rw [fAd_eq, fN_eq, fN_eq]
  ·rw [fN_eq, fN_eq]
  ·rw [fN_eq]
  ·rw [fV_eq d]
  ·rename_i x; cases x; simp only [fLW_eq (fV_eq d)]
  ·rename_i x; cases x; simp only [fLW_eq (fV_eq d)]
  ·rfl

def fVS (v : Value) (k : Value → B) : B := match v with
 | .string s => fS s fun s => k (.string s)
 | v => k v
theorem fVS_eq (v : Value) (k : Value → B) : fVS v k = k v := by
 unfold fVS
 split
 ·rw [fS_eq]
 ·rfl

def lset : List A → Nat → A → List A
 | [], _, _ => []
 | _ :: l, 0, v => v :: l
 | a :: l, i + 1, v => match lset l i v with
  | [] => [a]
  | b :: m => a :: b :: m
theorem lset_eq : ∀ (l : List A) (i : Nat) (v : A), lset l i v = l.set i v
 | [], _, _ => rfl
 | _ :: _, 0, _ => rfl
 | a :: l, i + 1, v => by
  unfold lset
  rw [lset_eq l i v]
  cases h : l.set i v <;> simp [h]

def lget : List A → Nat → Option A
 | [], _ => none
 | a :: _, 0 => some a
 | _ :: l, i + 1 => lget l i
theorem lget_eq : ∀ (l : List A) (i : Nat), lget l i = l[i]?
 | [], _ => by simp [lget]
 | _ :: _, 0 => by simp [lget]
 | _ :: l, i + 1 => by unfold lget; rw [lget_eq l i]; simp

def fSet (c : Array A) (i : Nat) (v : A) (k : Array A → B) : B := match c with
 | ⟨l⟩ => match lset l i v with
  | [] => k ⟨[]⟩
  | a :: m => k ⟨a :: m⟩
theorem fSet_eq (c : Array A) (i : Nat) (v : A) (k : Array A → B) : fSet c i v k = k (c.setIfInBounds i v) := by
 obtain ⟨l⟩ := c
 have h : (⟨l⟩ : Array A).setIfInBounds i v = ⟨lset l i v⟩ := by
  apply Array.toList_inj.1
  simp [lset_eq]
 rw [h]
 unfold fSet
 cases h2 : lset l i v <;> simp [h2]
end

/-! ### Finite maps over Nat -/

inductive T (α : Type) where
 | leaf
 | node (v : Option α) (l r : T α)

variable {α β : Type}

def T.get : T α → Nat → Option α
 | .leaf, _ => none
 | .node v l r, k => match k with
  | 0 => v
  | k + 1 => cond (Nat.beq (Nat.mod k 2) 0) (l.get (Nat.div k 2)) (r.get (Nat.div k 2))

def T.nodeL (u : Option α) (l r : T α) : T α := match l with
 | .leaf => .node u .leaf r
 | .node a b c => .node u (.node a b c) r
def T.nodeR (u : Option α) (l r : T α) : T α := match r with
 | .leaf => .node u l .leaf
 | .node a b c => .node u l (.node a b c)
theorem T.nodeL_eq (u : Option α) (l r : T α) : T.nodeL u l r = .node u l r := by cases l <;> rfl
theorem T.nodeR_eq (u : Option α) (l r : T α) : T.nodeR u l r = .node u l r := by cases r <;> rfl

def T.setF (v : Option α) : Nat → T α → Nat → T α
 | 0, t, _ => t
 | f + 1, .leaf, k => match k with
  | 0 => .node v .leaf .leaf
  | k + 1 => cond (Nat.beq (Nat.mod k 2) 0) (T.nodeL none (T.setF v f .leaf (Nat.div k 2)) .leaf) (T.nodeR none .leaf (T.setF v f .leaf (Nat.div k 2)))
 | f + 1, .node u l r, k => match k with
  | 0 => .node v l r
  | k + 1 => cond (Nat.beq (Nat.mod k 2) 0) (T.nodeL u (T.setF v f l (Nat.div k 2)) r) (T.nodeR u l (T.setF v f r (Nat.div k 2)))

theorem T.modE (k : Nat) : Nat.mod k 2 = k % 2 := rfl
theorem T.divE (k : Nat) : Nat.div k 2 = k / 2 := rfl

def T.set (t : T α) (k : Nat) (v : Option α) : T α := T.setF v (k + 1) t k

theorem T.get_leaf (k : Nat) : (T.leaf : T α).get k = none := by cases k <;> rfl

theorem T.beq_even (k : Nat) : Nat.beq (k % 2) 0 = decide (k % 2 = 0) := by
 rcases Nat.mod_two_eq_zero_or_one k with h | h <;> rw [h] <;> rfl

theorem T.get_setF (v : Option α) : ∀ (f : Nat) (t : T α) (k j : Nat), k < f → (T.setF v f t k).get j = if j = k then v else t.get j := by
 intro f
 induction f with
 | zero => intro t k j h; omega
 | succ f ih =>
  intro t k j h
  cases t with
  | leaf =>
   cases k with
   | zero => cases j <;> simp [T.setF, T.get]
   | succ k =>
    have hk : k / 2 < f := by omega
    simp only [T.setF, T.nodeL_eq, T.nodeR_eq, T.modE, T.divE]
    rw [T.beq_even]
    by_cases he : k % 2 = 0
    ·simp only [he, decide_true, cond_true]
     cases j with
     | zero => simp [T.get]
     | succ j =>
      simp only [T.get, T.modE, T.divE]
      rw [T.beq_even]
      by_cases hj : j % 2 = 0
      ·simp only [hj, decide_true, cond_true]
       rw [ih _ _ _ hk, T.get_leaf]
       by_cases hjk : j = k
       ·simp [hjk]
       ·rw [if_neg (by omega), if_neg (by omega)]
      ·simp only [hj, decide_false, cond_false]
       rw [if_neg (by intro e; apply hj; omega)]
    ·simp only [he, decide_false, cond_false]
     cases j with
     | zero => simp [T.get]
     | succ j =>
      simp only [T.get, T.modE, T.divE]
      rw [T.beq_even]
      by_cases hj : j % 2 = 0
      ·simp only [hj, decide_true, cond_true]
       rw [if_neg (by intro e; apply he; omega)]
      ·simp only [hj, decide_false, cond_false]
       rw [ih _ _ _ hk, T.get_leaf]
       by_cases hjk : j = k
       ·simp [hjk]
       ·rw [if_neg (by omega), if_neg (by omega)]
  | node u l r =>
   cases k with
   | zero => cases j <;> simp [T.setF, T.get]
   | succ k =>
    have hk : k / 2 < f := by omega
    simp only [T.setF, T.nodeL_eq, T.nodeR_eq, T.modE, T.divE]
    rw [T.beq_even]
    by_cases he : k % 2 = 0
    ·simp only [he, decide_true, cond_true]
     cases j with
     | zero => simp [T.get]
     | succ j =>
      simp only [T.get, T.modE, T.divE]
      rw [T.beq_even]
      by_cases hj : j % 2 = 0
      ·simp only [hj, decide_true, cond_true]
       rw [ih _ _ _ hk]
       by_cases hjk : j = k
       ·simp [hjk]
       ·rw [if_neg (by omega), if_neg (by omega)]
      ·simp only [hj, decide_false, cond_false]
       rw [if_neg (by intro e; apply hj; omega)]
    ·simp only [he, decide_false, cond_false]
     cases j with
     | zero => simp [T.get]
     | succ j =>
      simp only [T.get, T.modE, T.divE]
      rw [T.beq_even]
      by_cases hj : j % 2 = 0
      ·simp only [hj, decide_true, cond_true]
       rw [if_neg (by intro e; apply he; omega)]
      ·simp only [hj, decide_false, cond_false]
       rw [ih _ _ _ hk]
       by_cases hjk : j = k
       ·simp [hjk]
       ·rw [if_neg (by omega), if_neg (by omega)]

theorem T.get_set (t : T α) (k : Nat) (v : Option α) (j : Nat) : (t.set k v).get j = if j = k then v else t.get j :=
 T.get_setF v (k + 1) t k j (Nat.lt_succ_self k)

/-! ### The canonical world -/

structure W where
 heap : T (Bool × Obj)
 size : Nat
 /-- The program's own variables whose values are known. -/
 tab : T (List Value)

def W.get (C : W) (b : Nat) : Option (Bool × Obj) := C.heap.get b

def W.put (C : W) (b : Nat) (x : Option (Bool × Obj)) : W := { C with heap := C.heap.set b x }

def W.push (C : W) (x : Bool × Obj) : W := { heap := C.heap.set C.size (some x), size := C.size + 1, tab := C.tab }

def W.fl (C : W) (b : Nat) : Nat := match C.get b with
 | some (true, _) => 1
 | some (false, _) => 2
 | none => 0

def unk : Value := .chan none

def known : Value → Option Value
 | .chan _ => none
 | v => some v

def W.cell? (C : W) (a : Addr) : Option Value := match C.get a.block with
 | some (_, .cells c _ _) => match a.spot with
  | none => match lget c.toList a.off with
   | some v => known v
   | none => none
  | some _ => none
 | some _ => none
 | none => match C.tab.get a.block with
  | some c => match a.spot with
   | none => match lget c a.off with
    | some v => known v
    | none => none
   | some _ => none
  | none => none

def W.store (g : Nat) (C : W) (a : Addr) (v : Value) : Option W :=
 cond (Nat.ble g a.block) (match C.get a.block with
  | some (e, .cells c el (lo, hi)) => match a.spot with
   | none => cond (Nat.blt a.off c.size && !(Nat.ble lo a.off && Nat.blt a.off hi)) (fSet c a.off v fun c => some (C.put a.block (some (e, .cells c el (lo, hi))))) none
   | some _ => none
  | _ => none) none

def isCells : Obj → Bool
 | .cells .. => true
 | _ => false

def crun (P : Program) (g : Nat) : Sem α → W → Option (α × W)
 | .pure a, C => some (a, C)
 | .load _ a k, C => match C.cell? a with
  | some v => crun P g (k v) C
  | none => none
 | .store _ a v k, C => match v with
  | .agg _ => none
  | .tuple _ => none
  | v => match C.store g a v with
   | some C' => crun P g k C'
   | none => none
 | .new o k, C => match o with
  | .cells .. => crun P g (k C.size) (C.push (true, o))
  | .map .. => crun P g (k C.size) (C.push (true, o))
  | .stringIter .. => crun P g (k C.size) (C.push (true, o))
  | .mapIter .. => crun P g (k C.size) (C.push (true, o))
  | _ => none
 | .shape r k, C => match C.get r with
  | some (true, .cells c el _) => crun P g (k (some (el, c.size))) C
  | _ => none
 | .freeze a n k, C => match C.get a.block with
  | some (e, .cells c el (lo, hi)) => cond (Nat.ble g a.block) (cond (Nat.beq n 0) (crun P g k C)
    (crun P g k (C.put a.block (some (e, .cells c el (if lo == hi then (a.off, a.off + n) else (min lo a.off, max hi (a.off + n)))))))) none
  | _ => none
 | .frozen a k, C => match C.get a.block with
  | some (true, .cells _ _ (lo, hi)) => crun P g (k (lo ≤ a.off && a.off < hi)) C
  | _ => none
 | .getObj r k, C => match C.get r with
  | some (_, o) => cond (isCells o) none (crun P g (k o) C)
  | none => none
 | .setObj r o k, C => match C.get r with
  | some (e, o') => cond (isCells o' || isCells o || Nat.blt r g) none (crun P g k (C.put r (some (e, o))))
  | none => none
 | .choose q k, C => cond q.forced (crun P g (k 0) C) none
 | .sys _ _, _ => none
 | .program k, C => crun P g (k P) C
 | .mark _ k, C => crun P g k C
 | .halt _, _ => none

theorem crun_bind' (P : Program) (g : Nat) (x : Sem α) (f : α → Sem β) (C : W) :
  crun P g (x.bind f) C = (crun P g x C).bind fun p => crun P g (f p.1) p.2 := by
 induction x generalizing C with
 | pure a => simp [Sem.bind, crun]
 | load m a k ih => simp only [Sem.bind, crun]; split <;> simp [ih]
 | store m a v k ih =>
  simp only [Sem.bind, crun]
  split
  ·simp
  ·simp
  ·split <;> simp [ih]
 | new o k ih => simp only [Sem.bind, crun]; split <;> simp [ih]
 | shape r k ih => simp only [Sem.bind, crun]; split <;> simp [ih]
 | freeze a n k ih =>
  simp only [Sem.bind, crun]
  split
  ·cases Nat.ble g a.block <;> cases Nat.beq n 0 <;> simp [ih]
  ·simp
 | frozen a k ih => simp only [Sem.bind, crun]; split <;> simp [ih]
 | getObj r k ih =>
  simp only [Sem.bind, crun]
  split
  ·rename_i o _; cases isCells o <;> simp [ih]
  ·simp
 | setObj r o k ih =>
  simp only [Sem.bind, crun]
  split
  ·rename_i e o' _; cases (isCells o' || isCells o || Nat.blt r g) <;> simp [ih]
  ·simp
 | choose q k ih => simp only [Sem.bind, crun]; cases q.forced <;> simp [ih]
 | sys c k ih => simp [Sem.bind, crun]
 | program k ih => simp [Sem.bind, crun, ih]
 | mark m k ih => simp [Sem.bind, crun, ih]
 | halt h => simp [Sem.bind, crun]

theorem crun_bind (P : Program) (g : Nat) (x : Sem α) (f : α → Sem β) (C : W) :
  crun P g (x >>= f) C = (crun P g x C).bind fun p => crun P g (f p.1) p.2 := crun_bind' P g x f C

def prun (P : Program) : Sem α → Option α
 | .pure a => some a
 | .program k => prun P (k P)
 | .mark _ k => prun P k
 | .choose q k => cond q.forced (prun P (k 0)) none
 | _ => none

theorem crun_of_prun {P : Program} (g : Nat) {s : Sem α} {x : α} (h : prun P s = some x) (C : W) : crun P g s C = some (x, C) := by
 induction s with
 | pure a => simp [prun] at h; simp [crun, h]
 | program k ih => simp only [prun] at h; simp only [crun]; exact ih _ h
 | mark m k ih => simp only [prun] at h; simp only [crun]; exact ih h
 | choose q k ih =>
  simp only [prun] at h
  simp only [crun]
  cases hq : q.forced with
  | true => simp only [hq, cond_true] at h ⊢; exact ih _ h
  | false => simp [hq] at h
 | _ => simp [prun] at h

theorem run_of_prun {P : Program} {s : Sem α} {x : α} (h : prun P s = some x) (w : World) : s.run P w = .ok x w := by
 induction s with
 | pure a => simp [prun] at h; simp [Sem.run, h]
 | program k ih => simp only [prun] at h; simp only [Sem.run]; exact ih _ h
 | mark m k ih => simp only [prun] at h; simp only [Sem.run]; exact ih h
 | choose q k ih =>
  simp only [prun] at h
  simp only [Sem.run]
  cases hq : q.forced with
  | true => simp only [hq, cond_true] at h; simp only [if_true]; exact ih _ h
  | false => simp [hq] at h
 | _ => simp [prun] at h

def rrun (P : Program) : Sem α → W → Option α
 | .pure a, _ => some a
 | .load _ a k, C => match C.cell? a with
  | some v => rrun P (k v) C
  | none => none
 | .shape r k, C => match C.get r with
  | some (true, .cells c el _) => rrun P (k (some (el, c.size))) C
  | _ => none
 | .frozen a k, C => match C.get a.block with
  | some (true, .cells _ _ (lo, hi)) => rrun P (k (lo ≤ a.off && a.off < hi)) C
  | _ => none
 | .getObj r k, C => match C.get r with
  | some (_, o) => cond (isCells o) none (rrun P (k o) C)
  | none => none
 | .program k, C => rrun P (k P) C
 | .mark _ k, C => rrun P k C
 | _, _ => none

theorem crun_of_rrun {P : Program} (g : Nat) {s : Sem α} {x : α} {C : W} (h : rrun P s C = some x) : crun P g s C = some (x, C) := by
 induction s with
 | pure a => simp [rrun] at h; simp [crun, h]
 | load m a k ih =>
  simp only [rrun] at h
  simp only [crun]
  split at h
  ·rename_i v hv; exact ih _ h
  ·simp at h
 | shape r k ih =>
  simp only [rrun] at h
  simp only [crun]
  split at h
  ·rename_i c el f hv; exact ih _ h
  ·simp at h
 | frozen a k ih =>
  simp only [rrun] at h
  simp only [crun]
  split at h
  ·rename_i c el lo hi hv; exact ih _ h
  ·simp at h
 | getObj r k ih =>
  simp only [rrun] at h
  simp only [crun]
  split at h
  ·rename_i e o hv
   skip
   cases hc : isCells o with
   | true => simp [hc] at h
   | false => simp only [hc, cond_false] at h ⊢; exact ih _ h
  ·simp at h
 | program k ih => simp only [rrun] at h; simp only [crun]; exact ih _ h
 | mark m k ih => simp only [rrun] at h; simp only [crun]; exact ih h
 | _ => simp [rrun] at h

end Go.Ev
end
section
/-
 The relation between the canonical run and any run: of addresses, values, blocks and worlds; and the steps of the memory keep it.
-/
set_option linter.unusedVariables false
set_option linter.unusedSimpArgs false
namespace Go.Ev
variable {α β γ δ : Type}

structure Kr where
 σ : Nat → Nat
 pc : Nat → Nat
 C : W

def Kr.addr (K : Kr) (a : Addr) : Addr := ⟨K.σ a.block, a.off, a.spot⟩

inductive RFn (K : Kr) : Fn → Fn → Prop
 | func (f) : RFn K (.func f) (.func f)
 | method (n) : RFn K (.method n) (.method n)
 | methodOf (t n) : RFn K (.methodOf t n) (.methodOf t n)
 | via (t p f b) : RFn K (.via t p f b) (.via t p f b)
 | yield (l) (h : l < K.C.size) : RFn K (.yield l) (.yield (K.σ l))

inductive RV (K : Kr) : Value → Value → Prop
 | bool (b) : RV K (.bool b) (.bool b)
 | int (k n) : RV K (.int k n) (.int k n)
 | float (k b) : RV K (.float k b) (.float k b)
 | complex (k x y) : RV K (.complex k x y) (.complex k x y)
 | string (s) : RV K (.string s) (.string s)
 | nilPtr : RV K (.pointer none) (.pointer none)
 | ptr (a : Addr) (h : a.block < K.C.size) : RV K (.pointer (some a)) (.pointer (some (K.addr a)))
 | nilSlice (n c) : RV K (.slice none n c) (.slice none n c)
 | slice (a : Addr) (n c c' : Nat) (h : a.block < K.C.size) (hc : c ≤ c') (he : K.C.fl a.block = 1 → c' = c) (hp : K.C.fl a.block = 2 → a.off = 0 → c' ≤ K.pc a.block) : RV K (.slice (some a) n c) (.slice (some (K.addr a)) n c')
 | nilMap : RV K (.map none) (.map none)
 | map (r : Nat) (h : r < K.C.size) : RV K (.map (some r)) (.map (some (K.σ r)))
 | func (fn fn' : Fn) (hf : RFn K fn fn') (x x' y y' : Array Value) (hx : x.size = x'.size) (hy : y.size = y'.size)
   (h1 : ∀ i, i < x.size → RV K (x.getD i undef) (x'.getD i undef)) (h2 : ∀ i, i < y.size → RV K (y.getD i undef) (y'.getD i undef)) : RV K (.func fn x y) (.func fn' x' y')
 | nilFunc : RV K .nilFunc .nilFunc
 | iface (t : TypeId) (v v' : Value) (h : RV K v v') : RV K (.iface t v) (.iface t v')
 | nilIface : RV K .nilIface .nilIface
 | agg (x x' : Array Value) (hx : x.size = x'.size) (h : ∀ i, i < x.size → RV K (x.getD i undef) (x'.getD i undef)) : RV K (.agg x) (.agg x')
 | tuple (x x' : Array Value) (hx : x.size = x'.size) (h : ∀ i, i < x.size → RV K (x.getD i undef) (x'.getD i undef)) : RV K (.tuple x) (.tuple x')

inductive RL (K : Kr) : List Value → List Value → Prop
 | nil : RL K [] []
 | cons {v v' : Value} {l l' : List Value} (h : RV K v v') (t : RL K l l') : RL K (v :: l) (v' :: l')

theorem RL.length {K : Kr} {l l' : List Value} (h : RL K l l') : l.length = l'.length := by
 induction h with
 | nil => rfl
 | cons h t ih => simp [ih]

theorem RL.get {K : Kr} {l l' : List Value} (h : RL K l l') : ∀ (i : Nat) (v : Value), l[i]? = some v → ∃ v', l'[i]? = some v' ∧ RV K v v' := by
 induction h with
 | nil => intro i v hv; simp at hv
 | cons h t ih =>
  intro i v hv
  cases i with
  | zero => simp at hv; subst hv; exact ⟨_, rfl, h⟩
  | succ i => simpa using ih i v (by simpa using hv)

theorem RL.of_get {K : Kr} : ∀ (l l' : List Value), l.length = l'.length → (∀ i, i < l.length → RV K (l.getD i undef) (l'.getD i undef)) → RL K l l'
 | [], [], _, _ => .nil
 | v :: l, v' :: l', hl, h => .cons (by simpa using h 0 (by simp)) (RL.of_get l l' (by simpa using hl) fun i hi => by simpa using h (i + 1) (by simpa using hi))
 | [], _ :: _, hl, _ => by simp at hl
 | _ :: _, [], hl, _ => by simp at hl

theorem RL.at {K : Kr} {l l' : List Value} (h : RL K l l') (i : Nat) (hi : i < l.length) : RV K (l.getD i undef) (l'.getD i undef) := by
 have h1 : l[i]? = some (l.getD i undef) := by simp [List.getD, List.getElem?_eq_getElem hi]
 obtain ⟨v', h2, h3⟩ := h.get i _ h1
 have h4 : l'.getD i undef = v' := by simp [List.getD, h2]
 rw [h4]; exact h3

theorem RL.append {K : Kr} {a a' b b' : List Value} (h : RL K a a') (k : RL K b b') : RL K (a ++ b) (a' ++ b') := by
 induction h with
 | nil => exact k
 | cons h t ih => exact .cons h ih

theorem RL.drop {K : Kr} {l l' : List Value} (h : RL K l l') : ∀ n, RL K (l.drop n) (l'.drop n) := by
 induction h with
 | nil => intro n; simp; exact .nil
 | cons h t ih => intro n; cases n with
  | zero => exact .cons h t
  | succ n => simpa using ih n

theorem RL.take {K : Kr} {l l' : List Value} (h : RL K l l') : ∀ n, RL K (l.take n) (l'.take n) := by
 induction h with
 | nil => intro n; simp; exact .nil
 | cons h t ih => intro n; cases n with
  | zero => exact .nil
  | succ n => simpa using .cons h (ih n)

theorem RL.set {K : Kr} {l l' : List Value} (h : RL K l l') {v v' : Value} (hv : RV K v v') : ∀ n, RL K (l.set n v) (l'.set n v') := by
 induction h with
 | nil => intro n; exact .nil
 | cons h t ih => intro n; cases n with
  | zero => exact .cons hv t
  | succ n => exact .cons h (ih n)

def RA (K : Kr) (x x' : Array Value) : Prop := RL K x.toList x'.toList

theorem RA.size {K : Kr} {x x' : Array Value} (h : RA K x x') : x.size = x'.size := by simpa using RL.length h
theorem RA.of_at {K : Kr} {x x' : Array Value} (hx : x.size = x'.size) (h : ∀ i, i < x.size → RV K (x.getD i undef) (x'.getD i undef)) : RA K x x' :=
 RL.of_get _ _ (by simpa using hx) fun i hi => by simpa using h i (by simpa using hi)
theorem RA.at {K : Kr} {x x' : Array Value} (h : RA K x x') (i : Nat) (hi : i < x.size) : RV K (x.getD i undef) (x'.getD i undef) := by
 simpa using RL.at h i (by simpa using hi)
theorem RA.get {K : Kr} {x x' : Array Value} (h : RA K x x') (i : Nat) (v : Value) (hv : x[i]? = some v) : ∃ v', x'[i]? = some v' ∧ RV K v v' := by
 simpa using RL.get h i v (by simpa using hv)
theorem RA.empty (K : Kr) : RA K #[] #[] := .nil
theorem RA.append {K : Kr} {a a' b b' : Array Value} (h : RA K a a') (k : RA K b b') : RA K (a ++ b) (a' ++ b') := by
 simpa [RA] using RL.append h k
theorem RA.one {K : Kr} {v v' : Value} (h : RV K v v') : RA K #[v] #[v'] := .cons h .nil
theorem RA.push {K : Kr} {a a' : Array Value} {v v' : Value} (h : RA K a a') (k : RV K v v') : RA K (a.push v) (a'.push v') := by
 simpa [RA] using RL.append h (.cons k .nil)
theorem RA.extract {K : Kr} {a a' : Array Value} (h : RA K a a') (i j : Nat) : RA K (a.extract i j) (a'.extract i j) := by
 simp only [RA, Array.toList_extract, List.extract]
 exact RL.take (RL.drop h _) _
theorem RA.setIfInBounds {K : Kr} {a a' : Array Value} {v v' : Value} (h : RA K a a') (k : RV K v v') (i : Nat) : RA K (a.setIfInBounds i v) (a'.setIfInBounds i v') := by
 simpa [RA] using RL.set h k i

theorem RV.func' {K : Kr} {fn fn' : Fn} (hf : RFn K fn fn') {x x' y y' : Array Value} (hx : RA K x x') (hy : RA K y y') : RV K (.func fn x y) (.func fn' x' y') :=
 .func fn fn' hf x x' y y' hx.size hy.size hx.at hy.at
theorem RV.agg' {K : Kr} {x x' : Array Value} (hx : RA K x x') : RV K (.agg x) (.agg x') := .agg x x' hx.size hx.at
theorem RV.tuple' {K : Kr} {x x' : Array Value} (hx : RA K x x') : RV K (.tuple x) (.tuple x') := .tuple x x' hx.size hx.at
theorem RV.func_inv {K : Kr} {fn : Fn} {x y : Array Value} {v : Value} (h : RV K (.func fn x y) v) : ∃ fn' x' y', v = .func fn' x' y' ∧ RFn K fn fn' ∧ RA K x x' ∧ RA K y y' := by
 cases h with | func _ fn' hf _ x' _ y' hx hy h1 h2 => exact ⟨fn', x', y', rfl, hf, RA.of_at hx h1, RA.of_at hy h2⟩

theorem RV.undef (K : Kr) : RV K undef undef := .tuple' (RA.empty K)

theorem RV.cells {K : Kr} {v v' : Value} (h : RV K v v') : RA K v.cells v'.cells := by
 cases h with
 | agg x x' hx h => exact RA.of_at hx h
 | bool b => exact RA.one (.bool b)
 | int k n => exact RA.one (.int k n)
 | float k b => exact RA.one (.float k b)
 | complex k x y => exact RA.one (.complex k x y)
 | string s => exact RA.one (.string s)
 | nilPtr => exact RA.one .nilPtr
 | ptr a h => exact RA.one (.ptr a h)
 | nilSlice n c => exact RA.one (.nilSlice n c)
 | slice a n c c' h hc he hp => exact RA.one (.slice a n c c' h hc he hp)
 | nilMap => exact RA.one .nilMap
 | map r h => exact RA.one (.map r h)
 | func fn fn' hf x x' y y' hx hy h1 h2 => exact RA.one (.func fn fn' hf x x' y y' hx hy h1 h2)
 | nilFunc => exact RA.one .nilFunc
 | iface t v v' h => exact RA.one (.iface t v v' h)
 | nilIface => exact RA.one .nilIface
 | tuple x x' hx h => exact RA.one (.tuple x x' hx h)

/-! ### Values without addresses -/

def plainN : Nat → Value → Bool
 | 0, v => match v with
  | .bool _ | .int .. | .float .. | .complex .. | .string _ | .pointer none | .slice none _ _ | .map none | .nilFunc | .nilIface => true
  | _ => false
 | d + 1, v => match v with
  | .bool _ | .int .. | .float .. | .complex .. | .string _ | .pointer none | .slice none _ _ | .map none | .nilFunc | .nilIface => true
  | .agg x => x.toList.all (plainN d)
  | .tuple x => x.toList.all (plainN d)
  | .iface _ v => plainN d v
  | .func fn x y => (match fn with | .yield _ => false | _ => true) && x.toList.all (plainN d) && y.toList.all (plainN d)
  | _ => false

theorem RL.same {K : Kr} (p : Value → Bool) (hp : ∀ v, p v = true → RV K v v) : ∀ l : List Value, l.all p = true → RL K l l
 | [], _ => .nil
 | v :: l, h => by
  simp only [List.all_cons, Bool.and_eq_true] at h
  exact .cons (hp v h.1) (RL.same p hp l h.2)

theorem RV.plain (K : Kr) : ∀ (d : Nat) (v : Value), plainN d v = true → RV K v v
 | 0, v, h => by
  unfold plainN at h
  split at h
  all_goals first | constructor | simp at h
 | d + 1, v, h => by
  unfold plainN at h
  split at h
  case h_11 x => exact .agg' (RL.same _ (RV.plain K d) _ h)
  case h_12 x => exact .tuple' (RL.same _ (RV.plain K d) _ h)
  case h_13 t v => exact .iface t v v (RV.plain K d v h)
  case h_14 fn x y =>
   simp only [Bool.and_eq_true] at h
   refine .func' ?_ (RL.same _ (RV.plain K d) _ h.1.2) (RL.same _ (RV.plain K d) _ h.2)
   cases fn with
   | yield l => simp at h
   | _ => constructor
  all_goals first | constructor | simp at h

theorem RL.eq {K : Kr} (p : Value → Bool) (hp : ∀ v v', p v = true → RV K v v' → v' = v) {l l' : List Value} (h : RL K l l') : l.all p = true → l' = l := by
 induction h with
 | nil => intro _; rfl
 | cons h t ih =>
  intro ha
  simp only [List.all_cons, Bool.and_eq_true] at ha
  rw [hp _ _ ha.1 h, ih ha.2]

theorem RA.eq {K : Kr} (p : Value → Bool) (hp : ∀ v v', p v = true → RV K v v' → v' = v) {x x' : Array Value} (h : RA K x x') (ha : x.toList.all p = true) : x' = x := by
 have := RL.eq p hp h ha
 exact Array.toList_inj.1 this

theorem RV.plain_eq (K : Kr) : ∀ (d : Nat) (v v' : Value), plainN d v = true → RV K v v' → v' = v
 | 0, v, v', h, r => by
  cases r <;> simp_all [plainN]
 | d + 1, v, v', h, r => by
  cases r with
  | agg x x' hx hh =>
   rw [RA.eq (plainN d) (RV.plain_eq K d) (RA.of_at hx hh) (by simpa [plainN] using h)]
  | tuple x x' hx hh =>
   rw [RA.eq (plainN d) (RV.plain_eq K d) (RA.of_at hx hh) (by simpa [plainN] using h)]
  | iface t v v' hh => rw [RV.plain_eq K d v v' (by simpa [plainN] using h) hh]
  | func fn fn' hf x x' y y' hx hy h1 h2 =>
   simp only [plainN, Bool.and_eq_true] at h
   rw [RA.eq (plainN d) (RV.plain_eq K d) (RA.of_at hx h1) h.1.2, RA.eq (plainN d) (RV.plain_eq K d) (RA.of_at hy h2) h.2]
   cases hf <;> simp_all
  | ptr => simp [plainN] at h
  | slice => simp [plainN] at h
  | map => simp [plainN] at h
  | _ => rfl

/-! ### Blocks and worlds -/

def REn (K : Kr) (e e' : MapEntry) : Prop := RV K e.key e'.key ∧ RV K e.val e'.val ∧ e'.born = e.born

structure RLoop (K : Kr) (l l' : Loop) : Prop where
 state : l'.state = l.state
 pending : l'.pending = l.pending
 fn : l'.fn = l.fn
 tmps : RA K l.tmps l'.tmps
 params : l'.params = l.params
 assign : l'.assign = l.assign
 body : l'.body = l.body
 lt : l.defers < K.C.size
 defers : l'.defers = K.σ l.defers

def FZ (f f' : Nat × Nat) : Prop := f' = (0, 0) ∨ (f.1 ≤ f'.1 ∧ f'.2 ≤ f.2 ∧ f.1 ≠ f.2) ∨ f' = f

theorem FZ.refl (f : Nat × Nat) : FZ f f := .inr (.inr rfl)

theorem FZ.free {f f' : Nat × Nat} (h : FZ f f') {i : Nat} (hi : (f.1 ≤ i && i < f.2) = false) : (f'.1 ≤ i && i < f'.2) = false := by
 rcases h with rfl | ⟨h1, h2, h3⟩ | rfl
 ·simp
 ·simp at hi ⊢; omega
 ·exact hi

theorem FZ.le {f f' : Nat × Nat} (h : FZ f f') {i : Nat} (hi : f.2 ≤ i) : f'.2 ≤ i := by
 rcases h with rfl | ⟨h1, h2, h3⟩ | rfl
 ·exact Nat.zero_le _
 ·exact Nat.le_trans h2 hi
 ·exact hi

def RC (K : Kr) (v v' : Value) : Prop := known v = none ∨ RV K v v'

inductive RO (K : Kr) (e : Bool) : Obj → Obj → Prop
 | cells (c c' : Array Value) (el : TypeId) (f f' : Nat × Nat) (hs : c.size ≤ c'.size) (he : e = true → c'.size = c.size ∧ f' = f) (hf : FZ f f') (h : ∀ i, i < c.size → RC K (c.getD i undef) (c'.getD i undef)) :
   RO K e (.cells c el f) (.cells c' el f')
 | map (es es' : Array MapEntry) (clock : Nat) (hs : es.size = es'.size) (h : ∀ (i : Nat) (x : MapEntry), es[i]? = some x → ∃ x', es'[i]? = some x' ∧ REn K x x') : RO K e (.map es clock) (.map es' clock)
 | iter (s : ByteArray) (p : Nat) : RO K e (.stringIter s p) (.stringIter s p)
 | mapIter (m since last : Nat) (seen : Array Nat) (hm : m < K.C.size) : RO K e (.mapIter (some m) since seen last) (.mapIter (some (K.σ m)) since seen last)
 | mapIter0 (since last : Nat) (seen : Array Nat) : RO K e (.mapIter none since seen last) (.mapIter none since seen last)
 | loop (l l' : Loop) (h : RLoop K l l') : RO K e (.loop l) (.loop l')
 | noDefers : RO K e (.deferred (some [])) (.deferred (some []))
 | taken : RO K e (.deferred none) (.deferred none)

structure Ext (K K' : Kr) : Prop where
 size : K.C.size ≤ K'.C.size
 σ : ∀ b, b < K.C.size → K'.σ b = K.σ b
 pc : ∀ b, b < K.C.size → K'.pc b = K.pc b
 fl : ∀ b, b < K.C.size → K'.C.fl b = 0 ∨ K'.C.fl b = K.C.fl b

theorem Ext.refl (K : Kr) : Ext K K := ⟨Nat.le_refl _, fun _ _ => rfl, fun _ _ => rfl, fun _ _ => .inr rfl⟩
theorem Ext.trans {K K' K'' : Kr} (h : Ext K K') (k : Ext K' K'') : Ext K K'' :=
 ⟨Nat.le_trans h.size k.size, fun b hb => (k.σ b (Nat.lt_of_lt_of_le hb h.size)).trans (h.σ b hb), fun b hb => (k.pc b (Nat.lt_of_lt_of_le hb h.size)).trans (h.pc b hb), fun b hb => by
  rcases k.fl b (Nat.lt_of_lt_of_le hb h.size) with e | e
  ·exact .inl e
  ·rw [e]; exact h.fl b hb⟩

theorem Ext.addr {K K' : Kr} (h : Ext K K') {a : Addr} (ha : a.block < K.C.size) : K'.addr a = K.addr a := by
 simp [Kr.addr, h.σ _ ha]

theorem RFn.ext {K K' : Kr} (h : Ext K K') {f f' : Fn} (r : RFn K f f') : RFn K' f f' := by
 cases r with
 | yield l hl => rw [← h.σ l hl]; exact .yield l (Nat.lt_of_lt_of_le hl h.size)
 | _ => constructor

theorem RV.ext {K K' : Kr} (h : Ext K K') {v v' : Value} (r : RV K v v') : RV K' v v' := by
 induction r with
 | ptr a ha => rw [← h.addr ha]; exact .ptr a (Nat.lt_of_lt_of_le ha h.size)
 | slice a n c c' ha hc he hp =>
  rw [← h.addr ha]
  refine .slice a n c c' (Nat.lt_of_lt_of_le ha h.size) hc (fun e => ?_) (fun e ho => ?_)
  ·rcases h.fl _ ha with e1 | e1
   ·rw [e1] at e; cases e
   ·exact he (e1 ▸ e)
  ·rcases h.fl _ ha with e1 | e1
   ·rw [e1] at e; cases e
   ·rw [h.pc _ ha]; exact hp (e1 ▸ e) ho
 | map r hr => rw [← h.σ r hr]; exact .map r (Nat.lt_of_lt_of_le hr h.size)
 | func fn fn' hf x x' y y' hx hy h1 h2 i1 i2 => exact .func fn fn' (hf.ext h) x x' y y' hx hy i1 i2
 | iface t v v' _ ih => exact .iface t v v' ih
 | agg x x' hx _ ih => exact .agg x x' hx ih
 | tuple x x' hx _ ih => exact .tuple x x' hx ih
 | _ => constructor

theorem RL.ext {K K' : Kr} (h : Ext K K') {l l' : List Value} (r : RL K l l') : RL K' l l' := by
 induction r with
 | nil => exact .nil
 | cons a _ ih => exact .cons (a.ext h) ih
theorem RA.ext {K K' : Kr} (h : Ext K K') {l l' : Array Value} (r : RA K l l') : RA K' l l' := RL.ext h r

theorem RC.ext {K K' : Kr} (h : Ext K K') {v v' : Value} (r : RC K v v') : RC K' v v' := r.imp id (RV.ext h)

theorem RO.ext {K K' : Kr} (h : Ext K K') {e : Bool} {o o' : Obj} (r : RO K e o o') : RO K' e o o' := by
 cases r with
 | cells c c' el f f' hs he hf hh => exact .cells c c' el f f' hs he hf fun i hi => (hh i hi).ext h
 | map es es' clock hs hh => exact .map es es' clock hs fun i x hx => let ⟨x', h1, h2⟩ := hh i x hx; ⟨x', h1, h2.1.ext h, h2.2.1.ext h, h2.2.2⟩
 | loop l l' r => exact .loop l l' ⟨r.state, r.pending, r.fn, r.tmps.ext h, r.params, r.assign, r.body, Nat.lt_of_lt_of_le r.lt h.size, by rw [r.defers, h.σ _ r.lt]⟩
 | iter s p => exact .iter s p
 | mapIter m a b s hm => rw [← h.σ m hm]; exact .mapIter m a b s (Nat.lt_of_lt_of_le hm h.size)
 | mapIter0 a b s => exact .mapIter0 a b s
 | noDefers => exact .noDefers
 | taken => exact .taken

open Go.RowKit (Below)

structure Env where
 P : Program
 g : Nat
 w0 : World
 X : FuncId → Nat
 /-- Blocks that no canonical one stands for, and that stay as they are. -/
 G : Nat → Obj → Prop

def Obj.room (E : Env) (n : Nat) : Obj → Obj → Prop
 | .cells _ el _, .cells c' _ _ => c'.size = n * E.P.cellsOf el
 | _, _ => True

structure Rel (E : Env) (K : Kr) (w : World) : Prop where
 below : Below E.w0.heap.size E.w0 w
 g0 : E.g ≤ E.w0.heap.size
 gC : E.g ≤ K.C.size
 base : ∀ b, b < E.g → K.σ b = b
 dom : ∀ b x, K.C.get b = some x → b < K.C.size
 obj : ∀ b e o, K.C.get b = some (e, o) → ∃ o', w.heap[K.σ b]? = some o' ∧ RO K e o o'
 room : ∀ b o, K.C.get b = some (false, o) → ∀ o', w.heap[K.σ b]? = some o' → Obj.room E (K.pc b) o o'
 own : ∀ b x, E.g ≤ b → K.C.get b = some x → E.w0.heap.size ≤ K.σ b
 inj : ∀ b b' x x', E.g ≤ b → E.g ≤ b' → K.C.get b = some x → K.C.get b' = some x' → K.σ b = K.σ b' → b = b'
 ghost : ∀ r o, E.G r o → E.w0.heap.size ≤ r ∧ w.heap[r]? = some o ∧ ∀ b x, E.g ≤ b → K.C.get b = some x → K.σ b ≠ r
 tab : ∀ b c, K.C.tab.get b = some c → b < E.g ∧ ∀ i v, c[i]? = some v → w.cell? ⟨b, i, none⟩ = some v ∧ plainN 0 v = true

theorem known_some {v u : Value} (h : known v = some u) : u = v := by
 cases v <;> simp [known] at h <;> exact h.symm

theorem W.cell?_some {C : W} {a : Addr} {v : Value} (h : C.cell? a = some v) :
  (∃ e c el f, C.get a.block = some (e, .cells c el f) ∧ a.spot = none ∧ c[a.off]? = some v ∧ known v = some v) ∨
  (∃ c, C.tab.get a.block = some c ∧ a.spot = none ∧ c[a.off]? = some v) := by
 unfold W.cell? at h
 simp only [lget_eq, Array.getElem?_toList] at h
 split at h
 ·rename_i e c el f hg
  split at h
  ·rename_i hs
   split at h
   ·rename_i u hu
    have := known_some h
    subst this
    exact .inl ⟨e, c, el, f, hg, hs, hu, h⟩
   ·simp at h
  ·simp at h
 ·cases h
 ·split at h
  ·rename_i c hc
   split at h
   ·rename_i hs
    split at h
    ·rename_i u hu
     have := known_some h
     subst this
     exact .inr ⟨c, hc, hs, hu⟩
    ·cases h
   ·cases h
  ·cases h

theorem getD_of_get? {c : Array Value} {i : Nat} {v : Value} (h : c[i]? = some v) : i < c.size ∧ c.getD i undef = v := by
 have hi : i < c.size := by
  rcases Nat.lt_or_ge i c.size with h' | h'
  ·exact h'
  ·simp [Array.getElem?_eq_none h'] at h
 exact ⟨hi, by simp [Array.getElem?_eq_getElem hi] at h; simp [Array.getD, hi, h]⟩

theorem get?_of_lt {c : Array Value} {i : Nat} (hi : i < c.size) : c[i]? = some (c.getD i undef) := by
 simp [Array.getD, hi]

theorem Rel.cell {E : Env} {K : Kr} {w : World} (h : Rel E K w) {a : Addr} {v : Value} (hc : K.C.cell? a = some v) :
  a.block < K.C.size ∧ ∃ v', w.cell? (K.addr a) = some v' ∧ RV K v v' := by
 rcases W.cell?_some hc with ⟨e, c, el, f, hg, hs, hv, hk⟩ | ⟨c, hg, hs, hv⟩
 rotate_left
 ·obtain ⟨h1, h2⟩ := h.tab _ _ hg
  obtain ⟨h3, h4⟩ := h2 _ _ hv
  refine ⟨Nat.lt_of_lt_of_le h1 h.gC, v, ?_, RV.plain K 0 v h4⟩
  have : K.addr a = ⟨a.block, a.off, none⟩ := by simp [Kr.addr, h.base _ h1, hs]
  rw [this]; exact h3
 obtain ⟨o', ho, hr⟩ := h.obj _ _ _ hg
 refine ⟨h.dom _ _ hg, ?_⟩
 cases hr with
 | cells _ c' _ _ f' hsz he hf hh =>
  obtain ⟨hi, hd⟩ := getD_of_get? hv
  refine ⟨c'.getD a.off undef, ?_, ?_⟩
  ·simp only [World.cell?, Kr.addr, ho, hs]
   exact get?_of_lt (Nat.lt_of_lt_of_le hi hsz)
  ·have := hh _ hi
   rw [hd] at this
   rcases this with h1 | h1
   ·rw [hk] at h1; cases h1
   ·exact h1

theorem W.get_put (C : W) (b : Nat) (x : Option (Bool × Obj)) (j : Nat) : (C.put b x).get j = if j = b then x else C.get j := T.get_set _ _ _ _
theorem W.get_push (C : W) (x : Bool × Obj) (j : Nat) : (C.push x).get j = if j = C.size then some x else C.get j := T.get_set _ _ _ _

theorem Rel.size_lt {E : Env} {K : Kr} {w : World} (h : Rel E K w) {b : Nat} {x : Bool × Obj} (hb : K.C.get b = some x) : K.σ b < w.heap.size := by
 obtain ⟨o', h1, _⟩ := h.obj b x.1 x.2 hb
 rcases Nat.lt_or_ge (K.σ b) w.heap.size with h' | h'
 ·exact h'
 ·simp [Array.getElem?_eq_none h'] at h1

theorem Rel.apart {E : Env} {K : Kr} {w : World} (h : Rel E K w) {b j : Nat} {x y : Bool × Obj} (hg : E.g ≤ b) (hb : K.C.get b = some x) (hj : K.C.get j = some y) (hne : j ≠ b) : K.σ j ≠ K.σ b := by
 intro heq
 by_cases hgj : E.g ≤ j
 ·exact hne (h.inj j b _ _ hgj hg hj hb heq)
 ·have h1 := h.own _ _ hg hb
  have h3 := h.base j (by omega)
  have h4 := h.g0
  omega

theorem cell?_same {w w' : World} {b i : Nat} (h : w'.heap[b]? = w.heap[b]?) : w'.cell? ⟨b, i, none⟩ = w.cell? ⟨b, i, none⟩ := by
 simp only [World.cell?, h]

theorem Rel.put {E : Env} {K : Kr} {w w' : World} (h : Rel E K w) {b : Nat} {e : Bool} {o1 o o' : Obj} (hb : K.C.get b = some (e, o1)) (hg : E.g ≤ b) (ho : RO K e o o')
  (hroom : e = false → Obj.room E (K.pc b) o o')
  (hsz : w'.heap.size = w.heap.size) (hos : w'.os = w.os) (htp : w'.tape = w.tape) (hou : w'.output = w.output)
  (hnew : w'.heap[K.σ b]? = some o') (hold : ∀ k, k ≠ K.σ b → w'.heap[k]? = w.heap[k]?) :
  Rel E ⟨K.σ, K.pc, K.C.put b (some (e, o))⟩ w' ∧ Ext K ⟨K.σ, K.pc, K.C.put b (some (e, o))⟩ := by
 have hx : ∀ j, (K.C.put b (some (e, o))).fl j = K.C.fl j := by
  intro j
  simp only [W.fl, W.get_put]
  by_cases hj : j = b
  ·subst hj; cases e <;> simp [hb]
  ·simp [hj]
 have hE : Ext K ⟨K.σ, K.pc, K.C.put b (some (e, o))⟩ := ⟨Nat.le_refl _, fun _ _ => rfl, fun _ _ => rfl, fun j _ => .inr (hx j)⟩
 have f : ∀ i y, (K.C.put b (some (e, o))).get i = some y → ∃ z, K.C.get i = some z := by
  intro i y hy
  rw [W.get_put] at hy
  by_cases hib : i = b
  ·subst hib; exact ⟨_, hb⟩
  ·simp only [hib, if_false] at hy; exact ⟨_, hy⟩
 refine ⟨⟨?_, h.g0, h.gC, h.base, ?_, ?_, ?_, ?_, ?_, ?_, ?_⟩, hE⟩
 ·have hb0 := h.own _ _ hg hb
  exact ⟨hos.trans h.below.os, htp.trans h.below.tape, hou.trans h.below.output, by rw [hsz]; exact h.below.size, fun k hk => by rw [hold k (by omega)]; exact h.below.block k hk⟩
 ·intro j x hj
  obtain ⟨z, hz⟩ := f j x hj
  exact h.dom _ _ hz
 ·intro j e' oj hj
  have hj : (K.C.put b (some (e, o))).get j = some (e', oj) := hj
  rw [W.get_put] at hj
  by_cases hjb : j = b
  ·subst hjb
   simp only [if_true, Option.some.injEq, Prod.mk.injEq] at hj
   obtain ⟨rfl, rfl⟩ := hj
   exact ⟨o', hnew, ho.ext hE⟩
  ·simp only [hjb, if_false] at hj
   obtain ⟨o2, h1, h2⟩ := h.obj _ _ _ hj
   exact ⟨o2, by rw [hold _ (h.apart hg hb hj hjb)]; exact h1, h2.ext hE⟩
 ·intro j oj hj oj' hoj'
  have hj : (K.C.put b (some (e, o))).get j = some (false, oj) := hj
  rw [W.get_put] at hj
  by_cases hjb : j = b
  ·subst hjb
   simp only [if_true, Option.some.injEq, Prod.mk.injEq] at hj
   obtain ⟨rfl, rfl⟩ := hj
   have : o' = oj' := by
    have hoj'' : w'.heap[K.σ j]? = some oj' := hoj'
    rw [hnew] at hoj''; exact Option.some.inj hoj''
   rw [← this]; exact hroom rfl
  ·simp only [hjb, if_false] at hj
   have hoj'' : w'.heap[K.σ j]? = some oj' := hoj'
   rw [hold _ (h.apart hg hb hj hjb)] at hoj''
   exact h.room j oj hj oj' hoj''
 ·intro j x hgj hj
  obtain ⟨z, hz⟩ := f j x hj
  exact h.own _ _ hgj hz
 ·intro j j' x x' hgj hgj' hj hj' heq
  obtain ⟨z, hz⟩ := f _ _ hj
  obtain ⟨z', hz'⟩ := f _ _ hj'
  exact h.inj j j' z z' hgj hgj' hz hz' heq
 ·intro r o hr
  obtain ⟨h1, h2, h3⟩ := h.ghost r o hr
  refine ⟨h1, by rw [hold r (Ne.symm (h3 b _ hg hb))]; exact h2, fun j x hgj hj => ?_⟩
  obtain ⟨z, hz⟩ := f j x hj
  exact h3 j z hgj hz
 ·intro j c hj
  obtain ⟨h1, h2⟩ := h.tab j c hj
  refine ⟨h1, fun i v hv => ?_⟩
  have hb0 := h.own _ _ hg hb
  have h3 := h.g0
  rw [cell?_same (hold j (by omega))]
  exact h2 i v hv

def Kr.grow (K : Kr) (n p : Nat) (x : Bool × Obj) : Kr := ⟨fun b => if b = K.C.size then n else K.σ b, fun b => if b = K.C.size then p else K.pc b, K.C.push x⟩

theorem Kr.grow_get (K : Kr) (n p : Nat) (x : Bool × Obj) (j : Nat) : (K.grow n p x).C.get j = if j = K.C.size then some x else K.C.get j := W.get_push _ _ _
theorem Kr.grow_σ (K : Kr) (n p : Nat) (x : Bool × Obj) (j : Nat) : (K.grow n p x).σ j = if j = K.C.size then n else K.σ j := rfl
theorem Kr.grow_pc (K : Kr) (n p : Nat) (x : Bool × Obj) (j : Nat) : (K.grow n p x).pc j = if j = K.C.size then p else K.pc j := rfl
theorem Kr.grow_fl (K : Kr) (n p : Nat) (x : Bool × Obj) : (K.grow n p x).C.fl K.C.size = if x.1 then 1 else 2 := by
 obtain ⟨e, o⟩ := x
 simp only [W.fl, Kr.grow_get, if_true]
 cases e <;> rfl

theorem Ext.grow (K : Kr) (n p : Nat) (x : Bool × Obj) : Ext K (K.grow n p x) := by
 refine ⟨Nat.le_succ _, fun b hb => ?_, fun b hb => ?_, fun b hb => .inr ?_⟩
 ·rw [Kr.grow_σ, if_neg (by omega)]
 ·rw [Kr.grow_pc, if_neg (by omega)]
 ·simp only [W.fl, Kr.grow_get]; rw [if_neg (by omega)]

theorem Rel.push {E : Env} {K : Kr} {w : World} (h : Rel E K w) {e : Bool} {p : Nat} {o o' : Obj} (ho : RO (K.grow w.heap.size p (e, o)) e o o') (hroom : e = false → Obj.room E p o o') :
  Rel E (K.grow w.heap.size p (e, o)) (w.alloc o') := by
 have hE := Ext.grow K w.heap.size p (e, o)
 have old : ∀ b, K.σ b < w.heap.size → (w.alloc o').heap[K.σ b]? = w.heap[K.σ b]? := fun b hb => by
  show (w.heap.push o')[K.σ b]? = _
  rw [Array.getElem?_push, if_neg (by omega)]
 refine ⟨h.below.alloc h.below.size o', h.g0, Nat.le_succ_of_le h.gC, fun b hb => ?_, ?_, ?_, ?_, ?_, ?_, ?_, ?_⟩
 ·rw [Kr.grow_σ, if_neg (by have := h.gC; omega)]; exact h.base b hb
 ·intro b x hb
  rw [Kr.grow_get] at hb
  show b < K.C.size + 1
  by_cases hj : b = K.C.size
  ·omega
  ·rw [if_neg hj] at hb; have := h.dom _ _ hb; omega
 ·intro b e' ob hb
  rw [Kr.grow_get] at hb
  by_cases hj : b = K.C.size
  ·rw [if_pos hj] at hb
   simp only [Option.some.injEq, Prod.mk.injEq] at hb
   obtain ⟨rfl, rfl⟩ := hb
   exact ⟨o', by rw [Kr.grow_σ, if_pos hj]; show (w.heap.push o')[w.heap.size]? = some o'; simp, ho⟩
  ·rw [if_neg hj] at hb
   obtain ⟨o2, h1, h2⟩ := h.obj _ _ _ hb
   exact ⟨o2, by rw [Kr.grow_σ, if_neg hj, old b (h.size_lt hb)]; exact h1, h2.ext hE⟩
 ·intro b ob hb ob' hob'
  rw [Kr.grow_get] at hb
  by_cases hj : b = K.C.size
  ·rw [if_pos hj] at hb
   simp only [Option.some.injEq, Prod.mk.injEq] at hb
   obtain ⟨rfl, rfl⟩ := hb
   rw [Kr.grow_σ, if_pos hj] at hob'
   have : o' = ob' := by
    have h9 : (w.heap.push o')[w.heap.size]? = some ob' := hob'
    simpa using h9
   rw [← this, Kr.grow_pc, if_pos hj]
   exact hroom rfl
  ·rw [if_neg hj] at hb
   rw [Kr.grow_σ, if_neg hj, old b (h.size_lt hb)] at hob'
   rw [Kr.grow_pc, if_neg hj]
   exact h.room b ob hb ob' hob'
 ·intro b x hgb hb
  rw [Kr.grow_get] at hb
  rw [Kr.grow_σ]
  by_cases hj : b = K.C.size
  ·rw [if_pos hj]; exact h.below.size
  ·rw [if_neg hj] at hb ⊢; exact h.own _ _ hgb hb
 ·intro b b' x x' hgb hgb' hb hb' heq
  rw [Kr.grow_get] at hb hb'
  rw [Kr.grow_σ, Kr.grow_σ] at heq
  by_cases hj : b = K.C.size
  ·by_cases hj' : b' = K.C.size
   ·omega
   ·rw [if_neg hj'] at hb' heq
    rw [if_pos hj] at heq
    have := h.size_lt hb'
    omega
  ·rw [if_neg hj] at hb heq
   by_cases hj' : b' = K.C.size
   ·rw [if_pos hj'] at heq
    have := h.size_lt hb
    omega
   ·rw [if_neg hj'] at hb' heq
    exact h.inj _ _ _ _ hgb hgb' hb hb' heq
 ·intro r o hr
  obtain ⟨h1, h2, h3⟩ := h.ghost r o hr
  have hlt : r < w.heap.size := by
   rcases Nat.lt_or_ge r w.heap.size with h' | h'
   ·exact h'
   ·simp [Array.getElem?_eq_none h'] at h2
  refine ⟨h1, ?_, fun j x hgj hj => ?_⟩
  ·show (w.heap.push o')[r]? = _
   rw [Array.getElem?_push, if_neg (by omega)]; exact h2
  ·rw [Kr.grow_get] at hj
   rw [Kr.grow_σ]
   by_cases hjs : j = K.C.size
   ·rw [if_pos hjs]; omega
   ·rw [if_neg hjs] at hj ⊢
    exact h3 j x hgj hj
 ·intro j c hj
  obtain ⟨h1, h2⟩ := h.tab j c hj
  refine ⟨h1, fun i v hv => ?_⟩
  have h3 := h.g0
  have h4 := h.below.size
  rw [cell?_same (w := w) (show (w.heap.push o')[j]? = _ from by rw [Array.getElem?_push, if_neg (by omega)])]
  exact h2 i v hv

theorem Rel.drop {E : Env} {K : Kr} {w : World} (h : Rel E K w) (b : Nat) : Rel E ⟨K.σ, K.pc, K.C.put b none⟩ w ∧ Ext K ⟨K.σ, K.pc, K.C.put b none⟩ := by
 have hget : ∀ j x, (K.C.put b none).get j = some x → K.C.get j = some x := by
  intro j x hj
  rw [W.get_put] at hj
  by_cases hjb : j = b
  ·simp [hjb] at hj
  ·simpa [hjb] using hj
 have hE : Ext K ⟨K.σ, K.pc, K.C.put b none⟩ := ⟨Nat.le_refl _, fun _ _ => rfl, fun _ _ => rfl, fun j _ => by
  show (K.C.put b none).fl j = 0 ∨ (K.C.put b none).fl j = K.C.fl j
  simp only [W.fl, W.get_put]
  by_cases hjb : j = b
  ·simp [hjb]
  ·simp [hjb]⟩
 exact ⟨⟨h.below, h.g0, h.gC, h.base, fun j x hj => h.dom j x (hget j x hj), fun j e o hj => let ⟨o', h1, h2⟩ := h.obj j e o (hget _ _ hj); ⟨o', h1, h2.ext hE⟩,
  fun j o hj => h.room j o (hget _ _ hj), fun j x hg hj => h.own j x hg (hget _ _ hj), fun j j' x x' hg hg' hj hj' => h.inj j j' x x' hg hg' (hget _ _ hj) (hget _ _ hj'), fun r o hr => let ⟨h1, h2, h3⟩ := h.ghost r o hr; ⟨h1, h2, fun j x hg hj => h3 j x hg (hget _ _ hj)⟩, h.tab⟩, hE⟩

theorem Rel.same {E : Env} {K : Kr} {w w' : World} (h : Rel E K w) (hh : w'.heap = w.heap) (hos : w'.os = w.os) (htp : w'.tape = w.tape) (hou : w'.output = w.output) : Rel E K w' :=
  ⟨⟨hos.trans h.below.os, htp.trans h.below.tape, hou.trans h.below.output, by rw [hh]; exact h.below.size, fun k hk => by rw [hh]; exact h.below.block k hk⟩,
    h.g0, h.gC, h.base, h.dom, fun b e o hb => by rw [hh]; exact h.obj b e o hb, fun b o hb o' ho' => h.room b o hb o' (by rw [← hh]; exact ho'), h.own, h.inj, fun r o hr => by rw [hh]; exact h.ghost r o hr, fun b c hc => ⟨(h.tab b c hc).1, fun i v hv => by rw [cell?_same (w := w) (w' := w') (by rw [hh])]; exact (h.tab b c hc).2 i v hv⟩⟩

end Go.Ev
end
section
/-
 What the canonical run of a piece of the model does, the real one does: the rules of the memory, and of the small words of the library.
-/
set_option linter.unusedVariables false
set_option linter.unusedSimpArgs false
namespace Go.Ev
variable {α β γ δ : Type}

def Sim (E : Env) (K : Kr) (w : World) (s : Sem α) (s' : Sem β) (R : Kr → α → β → Prop) : Prop :=
 Rel E K w → ∀ x C', crun E.P E.g s K.C = some (x, C') →
  ∃ K' w' y, K'.C = C' ∧ s'.run E.P w = .ok y w' ∧ Rel E K' w' ∧ Ext K K' ∧ R K' x y

section
variable {E : Env} {K : Kr} {w : World}

theorem Sim.pure {x : α} {y : β} {R : Kr → α → β → Prop} (h : R K x y) : Sim E K w (Pure.pure x) (Pure.pure y) R := by
 intro hR x' C' hc
 simp only [Pure.pure, crun, Option.some.injEq, Prod.mk.injEq] at hc
 obtain ⟨rfl, rfl⟩ := hc
 exact ⟨K, w, y, rfl, rfl, hR, Ext.refl _, h⟩

theorem Sim.bind {s : Sem α} {s' : Sem β} {f : α → Sem γ} {f' : β → Sem δ} {R : Kr → α → β → Prop} {R' : Kr → γ → δ → Prop}
  (h : Sim E K w s s' R) (hf : ∀ K' w' x y, Ext K K' → R K' x y → Sim E K' w' (f x) (f' y) R') : Sim E K w (s >>= f) (s' >>= f') R' := by
 intro hR x C' hc
 rw [crun_bind] at hc
 cases hs : crun E.P E.g s K.C with
 | none => simp [hs] at hc
 | some p =>
  obtain ⟨a, C1⟩ := p
  simp only [hs, Option.bind_some] at hc
  obtain ⟨K1, w1, b, h0, h1, h2, h3, h4⟩ := h hR a C1 hs
  subst h0
  obtain ⟨K2, w2, y, h00, h5, h6, h7, h8⟩ := hf K1 w1 a b h3 h4 h2 x C' hc
  exact ⟨K2, w2, y, h00, by rw [Sem.run_bind, h1]; exact h5, h6, h3.trans h7, h8⟩

theorem Sim.nope {s : Sem α} {s' : Sem β} {R : Kr → α → β → Prop} (h : crun E.P E.g s K.C = none) : Sim E K w s s' R := by
 intro hR x C' hc
 rw [h] at hc; cases hc

theorem Sim.stuck {why : String} {s' : Sem β} {R : Kr → α → β → Prop} : Sim E K w (Go.stuck why : Sem α) s' R := Sim.nope rfl
theorem Sim.unsupported {u : Unsupported} {s' : Sem β} {R : Kr → α → β → Prop} : Sim E K w (Go.unsupported u : Sem α) s' R := Sim.nope rfl
theorem Sim.halt {u : Halt} {s' : Sem β} {R : Kr → α → β → Prop} : Sim E K w (Sem.halt u : Sem α) s' R := Sim.nope rfl

theorem crun_none_bind {g : Nat} {P : Program} {C : W} {s : Sem α} {f : α → Sem β} (h : crun P g s C = none) : crun P g (s >>= f) C = none := by
 rw [crun_bind, h]; rfl

theorem crun_then_none {g : Nat} {P : Program} {s : Sem α} {f : α → Sem β} (h : ∀ x C, crun P g (f x) C = none) (C : W) : crun P g (s >>= f) C = none := by
 rw [crun_bind]
 cases crun P g s C with
 | none => rfl
 | some p => exact h _ _

theorem crun_panic (P : Program) (g : Nat) (e : RuntimeError) (C : W) : crun P g (runtimePanic e : Sem α) C = none := by
 unfold runtimePanic
 refine crun_then_none (fun p C => ?_) C
 cases e with
 | typeAssertion i c a m => exact crun_then_none (fun _ _ => crun_then_none (fun _ _ => rfl) _) _
 | panicNil => exact crun_then_none (fun _ _ => crun_then_none (fun _ _ => rfl) _) _
 | _ => rfl

theorem crun_boundsPanic (P : Program) (g : Nat) (k : IntKind) (x y : Int) (c : BoundsCode) (C : W) : crun P g (boundsPanic k x y c : Sem α) C = none := by
 unfold boundsPanic
 dsimp only
 split <;> exact crun_then_none (fun _ _ => crun_panic _ _ _ _) _

theorem Sim.panic {e : RuntimeError} {s' : Sem β} {R : Kr → α → β → Prop} : Sim E K w (runtimePanic e : Sem α) s' R := Sim.nope (crun_panic _ _ _ _)
theorem Sim.boundsPanic {k : IntKind} {x y : Int} {c : BoundsCode} {s' : Sem β} {R : Kr → α → β → Prop} : Sim E K w (Go.boundsPanic k x y c : Sem α) s' R := Sim.nope (crun_boundsPanic _ _ _ _ _ _ _)

def Still (P : Program) (s : Sem α) : Prop := (∃ x, prun P s = some x) ∨ ∀ g C, crun P g s C = none

theorem prun_bind' (P : Program) (x : Sem α) (f : α → Sem β) : prun P (x.bind f) = (prun P x).bind fun a => prun P (f a) := by
 induction x with
 | pure a => simp [Sem.bind, prun]
 | program k ih => simp [Sem.bind, prun, ih]
 | mark m k ih => simp [Sem.bind, prun, ih]
 | choose q k ih => simp only [Sem.bind, prun]; cases q.forced <;> simp [ih]
 | _ => simp [Sem.bind, prun]

theorem prun_bind (P : Program) (x : Sem α) (f : α → Sem β) : prun P (x >>= f) = (prun P x).bind fun a => prun P (f a) := prun_bind' P x f

theorem Still.pure (P : Program) (x : α) : Still P (Pure.pure x) := .inl ⟨x, rfl⟩
theorem Still.halt (P : Program) (h : Halt) : Still P (Sem.halt h : Sem α) := .inr fun _ _ => rfl
theorem Still.none {P : Program} {s : Sem α} (h : ∀ g C, crun P g s C = none) : Still P s := .inr h
theorem Still.bind {P : Program} {s : Sem α} {f : α → Sem β} (h : Still P s) (hf : ∀ x, prun P s = some x → Still P (f x)) : Still P (s >>= f) := by
 rcases h with ⟨x, h⟩ | h
 ·rcases hf x h with ⟨y, h1⟩ | h1
  ·exact .inl ⟨y, by rw [prun_bind, h]; exact h1⟩
  ·exact .inr fun g C => by rw [crun_bind, crun_of_prun g h]; exact h1 g C
 ·exact .inr fun g C => crun_none_bind (h g C)
theorem Still.program (P : Program) : Still P program := .inl ⟨P, rfl⟩
theorem Still.underlying (P : Program) (t : TypeId) : Still P (underlying t) := by
 refine (Still.program P).bind fun p hp => ?_
 cases p.underlying t with
 | some d => exact .pure _ _
 | none => exact .halt _ _
theorem Still.typeInfo (P : Program) (t : TypeId) : Still P (typeInfo t) := by
 refine (Still.program P).bind fun p hp => ?_
 cases p.info? t with
 | some d => exact .pure _ _
 | none => exact .halt _ _
theorem Still.zeroValue (P : Program) (t : TypeId) : Still P (zeroValue t) := by
 refine (Still.typeInfo P t).bind fun i hp => ?_
 cases i.zero with
 | some d => exact .pure _ _
 | none => exact .halt _ _
theorem Still.sizeOf (P : Program) (t : TypeId) : Still P (sizeOf t) := (Still.typeInfo P t).bind fun i hp => .pure _ _
theorem Still.isAgg (P : Program) (t : TypeId) : Still P (isAgg t) := by
 refine (Still.underlying P t).bind fun d hp => ?_
 cases d <;> exact .pure _ _

theorem Sim.after {s : Sem α} {f : α → Sem γ} {f' : α → Sem δ} {R' : Kr → γ → δ → Prop} (h : Still E.P s)
  (hf : ∀ x, prun E.P s = some x → Sim E K w (f x) (f' x) R') : Sim E K w (s >>= f) (s >>= f') R' := by
 intro hR x C' hc
 rcases h with ⟨x', h⟩ | h
 ·rw [crun_bind, crun_of_prun E.g h K.C] at hc
  obtain ⟨K', w', y, h0, h1, h2⟩ := hf x' h hR x C' hc
  exact ⟨K', w', y, h0, by rw [Sem.run_bind, run_of_prun h w]; exact h1, h2⟩
 ·rw [crun_none_bind (h _ _)] at hc; cases hc

theorem Sim.still {s : Sem α} (h : Still E.P s) : Sim E K w s s (fun _ x y => y = x ∧ prun E.P s = some x) := by
 intro hR x C' hc
 rcases h with ⟨x', h⟩ | h
 ·have h1 := crun_of_prun E.g h K.C
  rw [h1] at hc
  simp only [Option.some.injEq, Prod.mk.injEq] at hc
  obtain ⟨rfl, rfl⟩ := hc
  exact ⟨K, w, x', rfl, run_of_prun h w, hR, Ext.refl _, rfl, h⟩
 ·rw [h] at hc; cases hc

/-! ### The memory -/

theorem Sim.load {a : Addr} {m : Mode} : Sim E K w (Go.load a m) (Go.load (K.addr a) m) RV := by
 intro hR x C' hc
 simp only [Go.load, crun] at hc
 cases hv : K.C.cell? a with
 | none => simp [hv] at hc
 | some v =>
  simp only [hv, Option.some.injEq, Prod.mk.injEq] at hc
  obtain ⟨rfl, rfl⟩ := hc
  obtain ⟨_, v', h1, h2⟩ := hR.cell hv
  exact ⟨K, w, v', rfl, by simp [Go.load, Sem.run, h1], hR, Ext.refl _, h2⟩

theorem W.store_some {g : Nat} {C C' : W} {a : Addr} {v : Value} (h : C.store g a v = some C') :
  g ≤ a.block ∧ ∃ e c el f, C.get a.block = some (e, .cells c el f) ∧ a.spot = .none ∧ a.off < c.size ∧ (f.1 ≤ a.off && a.off < f.2) = false ∧ C' = C.put a.block (some (e, .cells (c.setIfInBounds a.off v) el f)) := by
 unfold W.store at h
 simp only [fSet_eq] at h
 cases hg : Nat.ble g a.block with
 | false => simp [hg] at h
 | true =>
  simp only [hg, cond_true] at h
  refine ⟨Nat.le_of_ble_eq_true hg, ?_⟩
  split at h
  ·rename_i e c el lo hi hb
   split at h
   ·rename_i hs
    cases hq : (Nat.blt a.off c.size && !(Nat.ble lo a.off && Nat.blt a.off hi)) with
    | false => rw [hq] at h; cases h
    | true =>
     rw [hq] at h
     simp only [cond_true, Option.some.injEq] at h
     simp only [Bool.and_eq_true, Bool.not_eq_true'] at hq
     refine ⟨e, c, el, (lo, hi), hb, hs, Nat.le_of_ble_eq_true hq.1, ?_, h.symm⟩
     have := hq.2
     simp only [Bool.and_eq_false_iff] at this ⊢
     rcases this with h' | h'
     ·left
      rcases Nat.lt_or_ge a.off lo with h'' | h''
      ·simp; exact h''
      ·rw [Nat.ble_eq_true_of_le h''] at h'; cases h'
     ·right
      rcases Nat.lt_or_ge a.off hi with h'' | h''
      ·have : Nat.blt a.off hi = true := Nat.ble_eq_true_of_le h''
       rw [this] at h'; cases h'
      ·simp; exact h''
   ·simp at h
  ·simp at h

theorem Sim.store {a : Addr} {m : Mode} {v v' : Value} (hv : RV K v v') : Sim E K w (Go.store a v m) (Go.store (K.addr a) v' m) (fun _ _ _ => True) := by
 intro hR x C' hc
 have hs : ∃ C1, K.C.store E.g a v = some C1 ∧ C' = C1 ∧ (∀ y, v ≠ .agg y) ∧ (∀ y, v ≠ .tuple y) := by
  cases v <;> simp only [Go.store, crun, reduceCtorEq] at hc <;>
   (cases hst : K.C.store E.g a _ with
    | none => simp [hst] at hc
    | some C1 => simp only [hst, Option.some.injEq, Prod.mk.injEq] at hc; exact ⟨_, rfl, hc.2.symm, by simp, by simp⟩)
 obtain ⟨C1, hst, rfl, hna, hnt⟩ := hs
 obtain ⟨hg, e, c, el, f, hb, hsp, hlt, hfz, hC⟩ := W.store_some hst
 obtain ⟨o', ho, hro⟩ := hR.obj _ _ _ hb
 cases hro with
 | cells _ c' _ _ f' hsz he hf hh =>
  have hcell : w.cell? (K.addr a) = some (c'.getD a.off undef) := by
   simp only [World.cell?, Kr.addr, ho, hsp]
   exact get?_of_lt (Nat.lt_of_lt_of_le hlt hsz)
  have hfr : w.frozen? (K.addr a) = false := by
   simp only [World.frozen?, Kr.addr, ho]
   exact hf.free hfz
  have hrun : (Go.store (K.addr a) v' m).run E.P w = .ok () (w.setCell (K.addr a) v') := by
   have hna' : ∀ y, v' ≠ .agg y := by intro y hy; subst hy; cases hv; exact hna _ rfl
   have hnt' : ∀ y, v' ≠ .tuple y := by intro y hy; subst hy; cases hv; exact hnt _ rfl
   cases v' <;> first | exact absurd rfl (hna' _) | exact absurd rfl (hnt' _) | simp [Go.store, Sem.run, hcell, hfr]
  have hnew : (w.setCell (K.addr a) v').heap[K.σ a.block]? = some (.cells (c'.setIfInBounds a.off v') el f') := by
   simp [World.setCell, Kr.addr, Array.getElem?_modify, ho, hsp]
  have hro' : RO K e (.cells (c.setIfInBounds a.off v) el f) (.cells (c'.setIfInBounds a.off v') el f') := by
   refine .cells _ _ _ _ _ (by simpa using hsz) (by simpa using he) hf fun i hi => ?_
   simp only [Array.size_setIfInBounds] at hi
   by_cases hia : i = a.off
   ·subst hia
    have h1 : (c.setIfInBounds a.off v).getD a.off undef = v := by simp [Array.getD, hi]
    have h2 : (c'.setIfInBounds a.off v').getD a.off undef = v' := by simp [Array.getD, Nat.lt_of_lt_of_le hi hsz]
    rw [h1, h2]; exact .inr hv
   ·have h1 : (c.setIfInBounds a.off v).getD i undef = c.getD i undef := by simp [Array.getD, Ne.symm hia, hi]
    have h2 : (c'.setIfInBounds a.off v').getD i undef = c'.getD i undef := by simp [Array.getD, Ne.symm hia, Nat.lt_of_lt_of_le hi hsz]
    rw [h1, h2]; exact hh i hi
  obtain ⟨h1, h2⟩ := hR.put (w' := w.setCell (K.addr a) v') hb hg hro' (fun e0 => by
    have := hR.room a.block _ (e0 ▸ hb) _ ho
    simpa [Obj.room] using this) (by simp) rfl rfl rfl hnew (fun k hk => RowKit.Below.heap_setCell _ _ _ _ hk)
  subst hC
  exact ⟨⟨K.σ, K.pc, _⟩, _, (), rfl, hrun, h1, h2, trivial⟩

theorem Sim.newCells {c c' : Array Value} {el : TypeId} (h : RA K c c') : Sim E K w (Go.newObj (.cells c el)) (Go.newObj (.cells c' el)) (fun K' r r' => r < K'.C.size ∧ r' = K'.σ r ∧ K'.C.fl r = 1) := by
 intro hR x C' hc
 simp only [Go.newObj, crun, Option.some.injEq, Prod.mk.injEq] at hc
 obtain ⟨rfl, rfl⟩ := hc
 have hE := Ext.grow K w.heap.size 0 (true, .cells c el)
 refine ⟨K.grow w.heap.size 0 (true, .cells c el), w.alloc (.cells c' el), w.heap.size, rfl, rfl, hR.push ?_ (by simp), hE, Nat.lt_succ_self _, ?_, ?_⟩
 ·exact .cells c c' el (0, 0) (0, 0) (Nat.le_of_eq h.size) (fun _ => ⟨h.size.symm, rfl⟩) (FZ.refl _) fun i hi => .inr ((h.at i hi).ext hE)
 ·rw [Kr.grow_σ, if_pos rfl]
 ·rw [Kr.grow_fl]; rfl

theorem Sim.newIter {s : ByteArray} {p : Nat} : Sim E K w (Go.newObj (.stringIter s p)) (Go.newObj (.stringIter s p)) (fun K' r r' => r < K'.C.size ∧ r' = K'.σ r) := by
 intro hR x C' hc
 simp only [Go.newObj, crun, Option.some.injEq, Prod.mk.injEq] at hc
 obtain ⟨rfl, rfl⟩ := hc
 refine ⟨K.grow w.heap.size 0 (true, .stringIter s p), w.alloc (.stringIter s p), w.heap.size, rfl, rfl, hR.push (.iter s p) (by simp), Ext.grow K w.heap.size 0 _, Nat.lt_succ_self _, ?_⟩
 rw [Kr.grow_σ, if_pos rfl]

theorem Sim.newMapIter {m a b : Nat} {s : Array Nat} (hm : m < K.C.size) : Sim E K w (Go.newObj (.mapIter (some m) a s b)) (Go.newObj (.mapIter (some (K.σ m)) a s b)) (fun K' r r' => r < K'.C.size ∧ r' = K'.σ r) := by
 intro hR x C' hc
 simp only [Go.newObj, crun, Option.some.injEq, Prod.mk.injEq] at hc
 obtain ⟨rfl, rfl⟩ := hc
 have hE := Ext.grow K w.heap.size 0 (true, .mapIter (some m) a s b)
 refine ⟨K.grow w.heap.size 0 (true, .mapIter (some m) a s b), w.alloc (.mapIter (some (K.σ m)) a s b), w.heap.size, rfl, rfl, hR.push (by rw [← hE.σ m hm]; exact .mapIter m a b s (Nat.lt_of_lt_of_le hm hE.size)) (by simp), hE, Nat.lt_succ_self _, ?_⟩
 rw [Kr.grow_σ, if_pos rfl]

theorem Sim.newMapIter0 {a b : Nat} {s : Array Nat} : Sim E K w (Go.newObj (.mapIter none a s b)) (Go.newObj (.mapIter none a s b)) (fun K' r r' => r < K'.C.size ∧ r' = K'.σ r) := by
 intro hR x C' hc
 simp only [Go.newObj, crun, Option.some.injEq, Prod.mk.injEq] at hc
 obtain ⟨rfl, rfl⟩ := hc
 refine ⟨K.grow w.heap.size 0 (true, .mapIter none a s b), w.alloc (.mapIter none a s b), w.heap.size, rfl, rfl, hR.push (.mapIter0 a b s) (by simp), Ext.grow K w.heap.size 0 _, Nat.lt_succ_self _, ?_⟩
 rw [Kr.grow_σ, if_pos rfl]

theorem Sim.newMap : Sim E K w (Go.newObj (.map #[] 0)) (Go.newObj (.map #[] 0)) (fun K' r r' => r < K'.C.size ∧ r' = K'.σ r) := by
 intro hR x C' hc
 simp only [Go.newObj, crun, Option.some.injEq, Prod.mk.injEq] at hc
 obtain ⟨rfl, rfl⟩ := hc
 refine ⟨K.grow w.heap.size 0 (true, .map #[] 0), w.alloc (.map #[] 0), w.heap.size, rfl, rfl, hR.push (.map #[] #[] 0 rfl fun i x hx => by simp at hx) (by simp), Ext.grow K w.heap.size 0 _, Nat.lt_succ_self _, ?_⟩
 rw [Kr.grow_σ, if_pos rfl]

theorem Sim.shape {r : Nat} : Sim E K w (Go.shape r) (Go.shape (K.σ r)) (fun _ x y => y = x ∧ x.isSome = true) := by
 intro hR x C' hc
 simp only [Go.shape, crun] at hc
 split at hc
 ·rename_i c el f hb
  simp only [Option.some.injEq, Prod.mk.injEq] at hc
  obtain ⟨rfl, rfl⟩ := hc
  obtain ⟨o', ho, hro⟩ := hR.obj _ _ _ hb
  cases hro with
  | cells _ c' _ _ f' hsz he hf hh =>
   exact ⟨K, w, some (el, c'.size), rfl, by simp [Go.shape, Sem.run, World.shape?, ho], hR, Ext.refl _, by rw [(he rfl).1], rfl⟩
 ·simp at hc

theorem Sim.frozen {a : Addr} : Sim E K w (Go.frozen a) (Go.frozen (K.addr a)) (fun _ x y => y = x) := by
 intro hR x C' hc
 simp only [Go.frozen, crun] at hc
 split at hc
 ·rename_i c el lo hi hb
  simp only [Option.some.injEq, Prod.mk.injEq] at hc
  obtain ⟨rfl, rfl⟩ := hc
  obtain ⟨o', ho, hro⟩ := hR.obj _ _ _ hb
  cases hro with
  | cells _ c' _ _ f' hsz he hf hh =>
   have := (he rfl).2
   subst this
   exact ⟨K, w, _, rfl, by simp only [Go.frozen, Sem.run, World.frozen?, Kr.addr, ho], hR, Ext.refl _, rfl⟩
 ·simp at hc

theorem Sim.freeze {a : Addr} {n : Nat} : Sim E K w (Go.freeze a n) (Go.freeze (K.addr a) n) (fun _ _ _ => True) := by
 intro hR x C' hc
 simp only [Go.freeze, crun] at hc
 split at hc
 ·rename_i e c el lo hi hb
  cases hg : Nat.ble E.g a.block with
  | false => simp [hg] at hc
  | true =>
   simp only [hg, cond_true] at hc
   by_cases hn : n = 0
   ·subst hn
    simp only [Nat.beq, cond_true, Option.some.injEq, Prod.mk.injEq] at hc
    obtain ⟨_, rfl⟩ := hc
    exact ⟨K, w, (), rfl, by simp [Go.freeze, Sem.run, World.freeze], hR, Ext.refl _, trivial⟩
   ·have hbn : Nat.beq n 0 = false := by cases n with
     | zero => exact absurd rfl hn
     | succ n => rfl
    simp only [hbn, cond_false, Option.some.injEq, Prod.mk.injEq] at hc
    obtain ⟨_, rfl⟩ := hc
    obtain ⟨o', ho, hro⟩ := hR.obj _ _ _ hb
    cases hro with
    | cells _ c' _ _ f' hsz he hf hh =>
     obtain ⟨lo', hi'⟩ := f'
     have hfz : FZ (if lo == hi then (a.off, a.off + n) else (min lo a.off, max hi (a.off + n))) (if lo' == hi' then (a.off, a.off + n) else (min lo' a.off, max hi' (a.off + n))) := by
      rcases hf with h2 | ⟨h2, h4, h5⟩ | h2
      ·simp only [Prod.mk.injEq] at h2
       obtain ⟨rfl, rfl⟩ := h2
       by_cases h1 : lo = hi
       ·subst h1; simp; exact FZ.refl _
       ·simp only [beq_iff_eq, h1, if_false, if_true]
        exact .inr (.inl ⟨Nat.min_le_right _ _, Nat.le_max_right _ _, by simp only [ne_eq]; omega⟩)
      ·simp only at h2 h4 h5
       simp only [beq_iff_eq, h5, if_false]
       by_cases h3 : lo' = hi'
       ·subst h3
        simp only [if_true]
        exact .inr (.inl ⟨Nat.min_le_right _ _, Nat.le_max_right _ _, by simp only [ne_eq]; omega⟩)
       ·simp only [h3, if_false]
        exact .inr (.inl ⟨by simp only; omega, by simp only; omega, by simp only [ne_eq]; omega⟩)
      ·simp only [Prod.mk.injEq] at h2
       obtain ⟨rfl, rfl⟩ := h2
       exact FZ.refl _
     obtain ⟨h1, h2⟩ := hR.put (w' := w.freeze (K.addr a) n) hb (Nat.le_of_ble_eq_true hg)
      (o := .cells c el (if lo == hi then (a.off, a.off + n) else (min lo a.off, max hi (a.off + n))))
      (o' := .cells c' el (if lo' == hi' then (a.off, a.off + n) else (min lo' a.off, max hi' (a.off + n))))
      (.cells c c' el _ _ hsz (fun e0 => by obtain ⟨e1, e2⟩ := he e0; simp only [Prod.mk.injEq] at e2; rw [e2.1, e2.2]; exact ⟨e1, rfl⟩) hfz hh)
      (fun e0 => by have := hR.room a.block _ (e0 ▸ hb) _ ho; simpa [Obj.room] using this)
      (by simp [World.freeze, hn]) (by simp [World.freeze, hn]) (by simp [World.freeze, hn]) (by simp [World.freeze, hn])
      (by simp only [World.freeze, hn, if_false, Kr.addr, Array.getElem?_modify, if_true, ho, Option.map_some]) (fun k hk => by
       simp only [World.freeze, hn, if_false, Kr.addr, Array.getElem?_modify]
       rw [if_neg (fun e => hk e.symm)])
     exact ⟨⟨K.σ, K.pc, _⟩, _, (), rfl, by simp [Go.freeze, Sem.run], h1, h2, trivial⟩
 ·simp at hc

theorem RO.isCells {K : Kr} {e : Bool} {o o' : Obj} (h : RO K e o o') : isCells o' = isCells o := by cases h <;> rfl

theorem Obj.room_of {E : Env} {n : Nat} {o o' : Obj} (h : isCells o = false) : Obj.room E n o o' := by
 cases o <;> first | trivial | simp [Ev.isCells] at h

theorem Sim.getObj {r : Nat} : Sim E K w (Go.getObj r) (Go.getObj (K.σ r)) (fun K' o o' => r < K'.C.size ∧ ∃ e, RO K' e o o') := by
 intro hR x C' hc
 simp only [Go.getObj, crun] at hc
 split at hc
 ·rename_i e o hb
  cases ho : isCells o with
  | true => simp [ho] at hc
  | false =>
   simp only [ho, cond_false, Option.some.injEq, Prod.mk.injEq] at hc
   obtain ⟨rfl, rfl⟩ := hc
   obtain ⟨o', ho', hro⟩ := hR.obj _ _ _ hb
   refine ⟨K, w, o', rfl, ?_, hR, Ext.refl _, hR.dom _ _ hb, e, hro⟩
   have := hro.isCells
   rw [ho] at this
   simp only [Go.getObj, Sem.run, ho']
   cases o' <;> simp [Ev.isCells] at this <;> rfl
 ·simp at hc

theorem Sim.setObj {r : Nat} {o o' : Obj} (ho : ∀ e, RO K e o o') : Sim E K w (Go.setObj r o) (Go.setObj (K.σ r) o') (fun _ _ _ => True) := by
 intro hR x C' hc
 simp only [Go.setObj, crun] at hc
 split at hc
 ·rename_i e o1 hb
  cases hq : (Ev.isCells o1 || Ev.isCells o || Nat.blt r E.g) with
  | true => simp [hq] at hc
  | false =>
   simp only [hq, cond_false, Option.some.injEq, Prod.mk.injEq] at hc
   obtain ⟨_, rfl⟩ := hc
   simp only [Bool.or_eq_false_iff] at hq
   obtain ⟨⟨hq1, hq2⟩, hq3⟩ := hq
   have hg : E.g ≤ r := by
    rcases Nat.lt_or_ge r E.g with h' | h'
    ·have : Nat.blt r E.g = true := Nat.ble_eq_true_of_le h'
     rw [this] at hq3; cases hq3
    ·exact h'
   obtain ⟨o2, ho2, hro⟩ := hR.obj _ _ _ hb
   have hlt := hR.size_lt hb
   obtain ⟨h1, h2⟩ := hR.put (w' := { w with heap := w.heap.setIfInBounds (K.σ r) o' }) hb hg (ho e) (fun _ => Obj.room_of hq2) (by simp) rfl rfl rfl
    (by simp [hlt]) (fun k hk => by simp [Ne.symm hk])
   refine ⟨⟨K.σ, K.pc, _⟩, _, (), rfl, ?_, h1, h2, trivial⟩
   have := hro.isCells
   rw [hq1] at this
   simp only [Go.setObj, Sem.run, ho2]
   cases o2 <;> simp [Ev.isCells] at this <;> rfl
 ·simp at hc

end
end Go.Ev
end
section
/-
 What the canonical run of an operation does, the real one does.
-/
set_option linter.unusedVariables false
set_option linter.unusedSimpArgs false
namespace Go.Ev
variable {α β γ δ : Type}
section
variable {E : Env} {K : Kr} {w : World}

theorem addr_add (K : Kr) (a : Addr) (n : Nat) : (K.addr a).add n = K.addr (a.add n) := by
 unfold Addr.add Kr.addr
 by_cases h : n = 0 <;> simp [h]

theorem add_block (a : Addr) (n : Nat) : (a.add n).block = a.block := by
 unfold Addr.add
 by_cases h : n = 0 <;> simp [h]

def RAd (K : Kr) (a a' : Addr) : Prop := a.block < K.C.size ∧ a' = K.addr a

theorem RAd.ext {K K' : Kr} (h : Ext K K') {a a' : Addr} (r : RAd K a a') : RAd K' a a' := ⟨Nat.lt_of_lt_of_le r.1 h.size, by rw [r.2, h.addr r.1]⟩
theorem RAd.add {K : Kr} {a a' : Addr} (r : RAd K a a') (n : Nat) : RAd K (a.add n) (a'.add n) := ⟨by rw [add_block]; exact r.1, by rw [r.2, addr_add]⟩
theorem RAd.ptr {K : Kr} {a a' : Addr} (r : RAd K a a') : RV K (.pointer (some a)) (.pointer (some a')) := by rw [r.2]; exact .ptr a r.1

theorem Sim.sureAddr {v v' : Value} (h : RV K v v') : Sim E K w (Instr.sureAddr v) (Instr.sureAddr v') RAd := by
 cases h with
 | ptr a ha => exact Sim.pure ⟨ha, rfl⟩
 | _ => exact Sim.stuck

theorem Sim.asIntOf {v v' : Value} (h : RV K v v') : Sim E K w (Go.asIntOf v) (Go.asIntOf v') (fun _ x y => y = x ∧ v = .int x.1 x.2 ∧ v' = v) := by
 cases h with
 | int k n => exact Sim.pure ⟨rfl, rfl, rfl⟩
 | ptr a ha => exact Sim.unsupported
 | _ => exact Sim.stuck

theorem Sim.asInt {v v' : Value} (h : RV K v v') : Sim E K w (Go.asInt v) (Go.asInt v') (fun _ x y => y = x) :=
 Sim.bind (Sim.asIntOf h) fun K' w' x y _ hxy => by rw [hxy.1]; exact Sim.pure rfl

theorem Sim.asBool {v v' : Value} (h : RV K v v') : Sim E K w (Go.asBool v) (Go.asBool v') (fun _ x y => y = x) := by
 cases h with
 | bool b => exact Sim.pure rfl
 | _ => exact Sim.stuck

theorem Sim.asAgg {v v' : Value} (h : RV K v v') : Sim E K w (Go.asAgg v) (Go.asAgg v') RA := by
 cases h with
 | agg x x' hx hh => exact Sim.pure (RA.of_at hx hh)
 | _ => exact Sim.stuck

theorem Sim.asAddr {v v' : Value} (h : RV K v v') : Sim E K w (Go.asAddr v) (Go.asAddr v') RAd := by
 cases h with
 | ptr a ha => exact Sim.pure ⟨ha, rfl⟩
 | nilPtr => exact Sim.nope (crun_panic E.P E.g .nilDeref K.C)
 | _ => exact Sim.stuck

theorem Sim.loadCellsFrom : ∀ (n : Nat) {K : Kr} {w : World} {a a' : Addr} (i : Nat) {acc acc' : Array Value}, RAd K a a' → RA K acc acc' →
  Sim E K w (Go.loadCellsFrom a i n acc) (Go.loadCellsFrom a' i n acc') RA
 | 0, K, w, a, a', i, acc, acc', ha, hacc => Sim.pure hacc
 | n + 1, K, w, a, a', i, acc, acc', ha, hacc => by
  unfold Go.loadCellsFrom
  refine Sim.bind (R := RV) ?_ fun K' w' x y hE hxy => Sim.loadCellsFrom n (i + 1) (ha.ext hE) (RA.push (hacc.ext hE) hxy)
  rw [(ha.add i).2]
  exact Sim.load

theorem Sim.loadCells {a a' : Addr} (n : Nat) (ha : RAd K a a') : Sim E K w (Go.loadCells a n) (Go.loadCells a' n) RA := Sim.loadCellsFrom n 0 ha (RA.empty _)

theorem Sim.storeCells : ∀ {l l' : List Value} {K : Kr} {w : World} {a a' : Addr} (i : Nat), RAd K a a' → RL K l l' → Sim E K w (Go.storeCells a l i) (Go.storeCells a' l' i) (fun _ _ _ => True)
 | [], l', K, w, a, a', i, ha, hl => by cases hl; exact Sim.pure trivial
 | v :: l, l', K, w, a, a', i, ha, hl => by
  cases hl with
  | cons hv ht =>
   unfold Go.storeCells
   refine Sim.bind (R := fun _ _ _ => True) ?_ fun K' w' x y hE _ => Sim.storeCells (i + 1) (ha.ext hE) (ht.ext hE)
   rw [(ha.add i).2]
   exact Sim.store hv

theorem Sim.loadVar {t : TypeId} {a a' : Addr} (ha : RAd K a a') : Sim E K w (Go.loadVar t a) (Go.loadVar t a') RV := by
 unfold Go.loadVar
 refine Sim.after (Still.isAgg _ _) fun b hb => ?_
 cases b with
 | true => exact Sim.after (Still.sizeOf _ _) fun n hn => Sim.bind (Sim.loadCells n ha) fun K' w' x y hE h => Sim.pure (.agg' h)
 | false => rw [ha.2]; exact Sim.load

theorem Sim.storeVar {t : TypeId} {a a' : Addr} {v v' : Value} (ha : RAd K a a') (hv : RV K v v') : Sim E K w (Go.storeVar t a v) (Go.storeVar t a' v') (fun _ _ _ => True) := by
 unfold Go.storeVar
 refine Sim.after (Still.sizeOf _ _) fun n hn => ?_
 have := hv.cells.size
 by_cases h : v.cells.size ≠ n
 ·rw [if_pos h]; exact Sim.nope rfl
 ·rw [if_neg h, if_neg (by rw [← this]; exact h)]
  exact Sim.storeCells 0 ha hv.cells

theorem Sim.newRow {el : TypeId} {c c' : Array Value} (h : RA K c c') : Sim E K w (Go.newRow el c) (Go.newRow el c') (fun K' a a' => RAd K' a a' ∧ K'.C.fl a.block = 1) :=
 Sim.bind (Sim.newCells h) fun K' w' r r' hE hr => Sim.pure ⟨⟨hr.1, by rw [hr.2.1]; rfl⟩, hr.2.2⟩

theorem Sim.newVar {el : TypeId} {v v' : Value} (h : RV K v v') : Sim E K w (Go.newVar el v) (Go.newVar el v') (fun K' a a' => RAd K' a a' ∧ K'.C.fl a.block = 1) := Sim.newRow h.cells

theorem Sim.part {t : TypeId} {c c' : Array Value} {off : Nat} (h : RA K c c') : Sim E K w (Go.part t c off) (Go.part t c' off) RV := by
 unfold Go.part
 refine Sim.after (Still.isAgg _ _) fun b hb => ?_
 cases b with
 | true => exact Sim.after (Still.sizeOf _ _) fun n hn => Sim.pure (.agg' (h.extract _ _))
 | false =>
  cases hc : c[off]? with
  | none => exact Sim.nope (by simp only [Bool.false_eq_true, if_false]; rfl)
  | some v =>
   obtain ⟨v', h1, h2⟩ := h.get off v hc
   simp only [Bool.false_eq_true, if_false, h1]
   exact Sim.pure h2

/-! ### The operations -/

inductive RN (K : Kr) : Next → Next → Prop
 | value {v v' : Value} (h : RV K v v') : RN K (.value v) (.value v')
 | skip : RN K .skip .skip
 | enter (f : FuncId) {x x' : Array Value} (h : RA K x x') : RN K (.enter f x) (.enter f x')
 | round (l : Nat) (f : FuncId) {x x' : Array Value} (assign body : Code) (hl : l < K.C.size) (h : RA K x x') : RN K (.round l f x assign body) (.round (K.σ l) f x' assign body)

theorem Sim.v {s s' : Sem Value} (h : Sim E K w s s' RV) : Sim E K w (do Pure.pure (.value (← s))) (do Pure.pure (.value (← s'))) RN :=
 Sim.bind h fun K' w' x y hE hxy => Sim.pure (.value hxy)
theorem Sim.u {s s' : Sem Unit} {R : Kr → Unit → Unit → Prop} (h : Sim E K w s s' R) : Sim E K w (do s; Pure.pure .skip) (do s'; Pure.pure .skip) RN :=
 Sim.bind h fun K' w' x y hE hxy => Sim.pure .skip

def zeroOK (P : Program) (t : TypeId) : Bool := match P.info? t with
 | some i => match i.zero with
  | some v => plainN 2 v
  | none => true
 | none => true

theorem Sim.zeroValue {t : TypeId} (h : zeroOK E.P t = true) : Sim E K w (Go.zeroValue t) (Go.zeroValue t) (fun K' x y => RV K' x y ∧ y = x) := by
 intro hR x C' hc
 rcases Still.zeroValue E.P t with ⟨z, hz⟩ | hz
 ·rw [crun_of_prun E.g hz K.C] at hc
  simp only [Option.some.injEq, Prod.mk.injEq] at hc
  obtain ⟨rfl, rfl⟩ := hc
  refine ⟨K, w, z, rfl, run_of_prun hz w, hR, Ext.refl _, RV.plain _ 2 z ?_, rfl⟩
  unfold zeroOK at h
  simp only [Go.zeroValue, Go.typeInfo, prun_bind, Go.program, prun, Option.bind_some] at hz
  cases hi : E.P.info? t with
  | none => simp [hi, Go.stuck, prun] at hz
  | some i =>
   simp only [hi, Pure.pure, prun, Option.bind_some] at hz h
   cases hzz : i.zero with
   | none => simp [hzz, prun, Go.unsupported] at hz
   | some v =>
    simp only [hzz] at h
    simp only [hzz, prun, Option.some.injEq] at hz
    rw [← hz]; exact h
 ·rw [hz] at hc; cases hc

theorem Sim.alloc {t : TypeId} (h : zeroOK E.P t = true) : Sim E K w (Instr.alloc t true (.tuple #[])) (Instr.alloc t true (.tuple #[])) RV :=
 Sim.bind (Sim.zeroValue h) fun K' w' x y hE hxy => Sim.bind (Sim.newVar hxy.1) fun K2 w2 a a' hE2 ha => Sim.pure ha.1.ptr

theorem Sim.box {t : TypeId} {v v' : Value} (h : RV K v v') : Sim E K w (Instr.box t v) (Instr.box t v') RV :=
 Sim.bind (Sim.newVar h) fun K2 w2 a a' hE2 ha => Sim.pure ha.1.ptr

theorem Sim.loadAt {t : TypeId} {v v' : Value} (h : RV K v v') : Sim E K w (Instr.loadAt t v) (Instr.loadAt t v') RV :=
 Sim.bind (Sim.sureAddr h) fun K' w' a a' hE ha => Sim.loadVar ha

theorem Sim.storeAt {t : TypeId} {a a' v v' : Value} (h : RV K a a') (hv : RV K v v') : Sim E K w (Instr.storeAt t a v) (Instr.storeAt t a' v') (fun _ _ _ => True) :=
 Sim.bind (Sim.sureAddr h) fun K' w' a a' hE ha => Sim.storeVar ha (hv.ext hE)

inductive RP (K : Kr) : List (Nat × Value) → List (Nat × Value) → Prop
 | nil : RP K [] []
 | cons (i : Nat) {v v' : Value} {l l' : List (Nat × Value)} (h : RV K v v') (t : RP K l l') : RP K ((i, v) :: l) ((i, v') :: l')

theorem RP.ext {K K' : Kr} (h : Ext K K') {l l' : List (Nat × Value)} (r : RP K l l') : RP K' l l' := by
 induction r with
 | nil => exact .nil
 | cons i a _ ih => exact .cons i (a.ext h) ih

theorem foldl_set_rel {K : Kr} (off : Nat) : ∀ (l l' : List Value) (k : Nat) (c c' : Array Value), RL K l l' → RA K c c' →
  RA K ((l.zipIdx k).foldl (fun cs (x : Value × Nat) => cs.setIfInBounds (off + x.2) x.1) c) ((l'.zipIdx k).foldl (fun cs (x : Value × Nat) => cs.setIfInBounds (off + x.2) x.1) c')
 | [], l', k, c, c', hl, hc => by cases hl; exact hc
 | v :: l, l', k, c, c', hl, hc => by
  cases hl with
  | cons hv ht =>
   simp only [List.zipIdx_cons, List.foldl_cons]
   exact foldl_set_rel off l _ (k + 1) _ _ ht (hc.setIfInBounds hv _)

theorem fill_rel {K : Kr} (place : Nat → Option (Nat × Nat)) : ∀ {l l' : List (Nat × Value)} {c c' r : Array Value}, RP K l l' → RA K c c' → Instr.fill place c l = some r →
  ∃ r', Instr.fill place c' l' = some r' ∧ RA K r r'
 | [], l', c, c', r, hl, hc, h => by
  cases hl
  simp only [Instr.fill, Option.some.injEq] at h ⊢
  subst h; exact ⟨c', rfl, hc⟩
 | (i, v) :: l, l', c, c', r, hl, hc, h => by
  cases hl with
  | cons _ hv ht =>
   rename_i v' l2
   simp only [Instr.fill] at h ⊢
   cases hp : place i with
   | none => simp [hp] at h
   | some os =>
    obtain ⟨off, size⟩ := os
    simp only [hp] at h ⊢
    rw [← hv.cells.size, ← hc.size]
    split at h
    ·simp at h
    ·rename_i hq
     rw [if_neg hq]
     have hcells := foldl_set_rel off v.cells.toList v'.cells.toList 0 c c' hv.cells hc
     have e1 : ∀ (x c : Array Value), x.zipIdx.foldl (fun cs (c, j) => cs.setIfInBounds (off + j) c) c = (x.toList.zipIdx 0).foldl (fun cs (x : Value × Nat) => cs.setIfInBounds (off + x.2) x.1) c := by
      intro x c
      rw [← Array.foldl_toList]
      simp
     rw [e1] at h ⊢
     exact fill_rel place ht hcells h

theorem Sim.fill {place : Nat → Option (Nat × Nat)} {l l' : List (Nat × Value)} {c c' : Array Value} {f f' : Array Value → Sem α} {why : String} {R : Kr → α → α → Prop} (hl : RP K l l') (hc : RA K c c')
  (hf : ∀ r r', RA K r r' → Sim E K w (f r) (f' r') R) :
  Sim E K w (match Instr.fill place c l with | some r => f r | _ => Go.stuck why) (match Instr.fill place c' l' with | some r => f' r | _ => Go.stuck why) R := by
 cases h : Instr.fill place c l with
 | none => exact Sim.nope rfl
 | some r =>
  obtain ⟨r', h1, h2⟩ := fill_rel place hl hc h
  simp only [h1]
  exact hf r r' h2

end
end Go.Ev
end
section
/-
 What the canonical run of an operation does, the real one does: the instructions, one by one.
-/
set_option linter.unusedVariables false
set_option linter.unusedSimpArgs false
namespace Go.Ev
variable {α β γ δ : Type}
section
variable {E : Env} {K : Kr} {w : World}

theorem RP.of_map {K : Kr} {ρ ρ' : Operand → Value} : ∀ (l : List (Nat × Operand)), (∀ x ∈ l.map (·.2), RV K (ρ x) (ρ' x)) → RP K (l.map fun x => (x.1, ρ x.2)) (l.map fun x => (x.1, ρ' x.2))
 | [], _ => .nil
 | (i, x) :: l, h => .cons i (h x (by simp)) (RP.of_map l fun y hy => h y (by simp only [List.map_cons, List.mem_cons]; exact .inr hy))

theorem Still.places {P : Program} {fields : Array Field} : Still P (fields.mapM fun f => do Pure.pure (f.offset, ← Go.sizeOf f.type) : Sem (Array (Nat × Nat))) := by
 have key : ∀ (l : List Field), Still P (l.mapM fun f => do Pure.pure (f.offset, ← Go.sizeOf f.type) : Sem (List (Nat × Nat))) := by
  intro l
  induction l with
  | nil => exact .pure _ _
  | cons f l ih =>
   rw [List.mapM_cons]
   exact ((Still.sizeOf _ _).bind fun n _ => .pure _ _).bind fun x _ => ih.bind fun y _ => .pure _ _
 rw [Array.mapM_eq_mapM_toList]
 exact Still.bind (key _) fun x _ => .pure _ _

theorem Sim.build {t : TypeId} {parts parts' : Array (Nat × Value)} (hz : zeroOK E.P t = true) (h : RP K parts.toList parts'.toList) : Sim E K w (Instr.build t parts) (Instr.build t parts') RV := by
 unfold Instr.build
 refine Sim.bind (Sim.zeroValue hz) fun K' w' z z' hE hzz => ?_
 refine Sim.after (Still.underlying _ _) fun d hd => ?_
 cases d with
 | struct fields =>
  refine Sim.after Still.places fun places hp => ?_
  exact Sim.fill (h.ext hE) hzz.1.cells fun r r' hr => Sim.pure (.agg' hr)
 | array len elem =>
  refine Sim.after (Still.sizeOf _ _) fun size hp => ?_
  exact Sim.fill (h.ext hE) hzz.1.cells fun r r' hr => Sim.pure (.agg' hr)
 | _ => exact Sim.stuck

theorem zeroRow_rel {K : Kr} {z z' : Array Value} (h : RA K z z') (n : Nat) (hz : n = 0 ∨ 0 < z.size) : RA K ((Array.range n).map (fun i => z[i % z.size]!)) ((Array.range n).map (fun i => z'[i % z'.size]!)) := by
 refine RA.of_at (by simp) fun i hi => ?_
 simp only [Array.size_map, Array.size_range] at hi
 have hp : 0 < z.size := by omega
 have h1 := h.at (i % z.size) (Nat.mod_lt _ hp)
 have h2 : i % z'.size < z'.size := by rw [← h.size]; exact Nat.mod_lt _ hp
 have e1 : ((Array.range n).map (fun i => z[i % z.size]!)).getD i undef = z.getD (i % z.size) undef := by
  simp [Array.getD, hi, Nat.mod_lt _ hp]
 have e2 : ((Array.range n).map (fun i => z'[i % z'.size]!)).getD i undef = z'.getD (i % z'.size) undef := by
  simp [Array.getD, hi, h2]
 rw [e1, e2, ← h.size]
 exact h1

theorem Sim.ite {c : Prop} [Decidable c] {s t : Sem α} {s' t' : Sem β} {R : Kr → α → β → Prop} (h1 : c → Sim E K w s s' R) (h2 : ¬ c → Sim E K w t t' R) : Sim E K w (if c then s else t) (if c then s' else t') R := by
 by_cases h : c
 ·rw [if_pos h, if_pos h]; exact h1 h
 ·rw [if_neg h, if_neg h]; exact h2 h

theorem Sim.field {t : TypeId} {v v' : Value} {i : Nat} (h : RV K v v') : Sim E K w (Instr.field t v i) (Instr.field t v' i) RV := by
 unfold Instr.field
 refine Sim.after (Still.underlying _ _) fun d hd => ?_
 cases d with
 | struct fields =>
  cases hf : fields[i]? with
  | none => exact Sim.nope (by simp only [hf]; rfl)
  | some f =>
   simp only [hf]
   exact Sim.bind (Sim.asAgg h) fun K' w' c c' hE hc => Sim.part hc
 | _ => exact Sim.stuck

theorem Sim.fieldAt {t : TypeId} {v v' : Value} {i : Nat} (h : RV K v v') (hsz : ∀ fs f, E.P.underlying t = some (.struct fs) → fs[i]? = some f → prun E.P (Go.sizeOf f.type) ≠ some 0) :
  Sim E K w (Instr.fieldAt t v i) (Instr.fieldAt t v' i) RV := by
 unfold Instr.fieldAt
 refine Sim.after (Still.underlying _ _) fun d hd => ?_
 have hd' : E.P.underlying t = some d := by
  unfold Go.underlying at hd
  rw [prun_bind] at hd
  simp only [Go.program, prun, Option.bind_some] at hd
  cases hu : E.P.underlying t with
  | none => simp [hu, Go.stuck, prun] at hd
  | some d' => simp [hu, Pure.pure, prun] at hd; rw [hd]
 cases d with
 | struct fields =>
  cases hf : fields[i]? with
  | none => exact Sim.nope (by simp only [hf]; rfl)
  | some f =>
   simp only [hf]
   refine Sim.bind (Sim.sureAddr h) fun K' w' a a' hE ha => ?_
   unfold Go.fieldPlace
   refine Sim.bind (R := RAd) ?_ fun K2 w2 b b' hE2 hb => Sim.pure hb.ptr
   refine Sim.after (Still.sizeOf _ _) fun n hn => ?_
   have : n ≠ 0 := fun e => hsz fields f hd' hf (e ▸ hn)
   rw [if_neg this, if_neg this]
   exact Sim.pure (ha.add _)
 | _ => exact Sim.stuck

theorem Sim.index {t : TypeId} {v v' i i' : Value} (h : RV K v v') (hi : RV K i i') : Sim E K w (Instr.index t v i) (Instr.index t v' i') RV := by
 unfold Instr.index
 refine Sim.bind (Sim.asIntOf hi) fun K' w' x y hE hxy => ?_
 rw [hxy.1]
 obtain ⟨k, n⟩ := x
 refine Sim.after (Still.underlying _ _) fun d hd => ?_
 have h' := h.ext hE
 cases d with
 | array len elem =>
  cases h' with
  | agg c c' hc hh =>
   refine Sim.ite (fun hq => ?_) (fun hq => Sim.boundsPanic)
   exact Sim.after (Still.sizeOf _ _) fun sz hsz => Sim.part (RA.of_at hc hh)
  | _ => exact Sim.stuck
 | string =>
  cases h' with
  | string s =>
   dsimp only
   split
   ·exact Sim.pure (.int _ _)
   ·exact Sim.boundsPanic
  | _ => exact Sim.stuck
 | _ => cases h' <;> exact Sim.stuck

def RBase (K : Kr) (x y : Option Addr × Nat × TypeId) : Prop := y.2 = x.2 ∧ ((x.1 = none ∧ y.1 = none) ∨ ∃ a a', x.1 = some a ∧ y.1 = some a' ∧ RAd K a a')

def idxTail (why : Unsupported) (t : TypeId) (k : IntKind) (i : Int) (x : Option Addr × Nat × TypeId) : Sem Value := do
 let u ← Go.underlying t
 match x.1 with
 | some a =>
  if 0 ≤ i ∧ i < x.2.1 then do
   let s ← Go.sizeOf x.2.2
   Pure.pure (.pointer (some (a.add (i.toNat * s))))
  else if (decide (x.2.1 ≤ 1) && (match u with | .array .. => true | _ => false)) = true then Go.unsupported why
  else Go.boundsPanic k i x.2.1 .index
 | none => Go.boundsPanic k i 0 .index

theorem Sim.idxTail {why : Unsupported} {t : TypeId} {k : IntKind} {i : Int} {x y : Option Addr × Nat × TypeId} (h : RBase K x y) : Sim E K w (idxTail why t k i x) (idxTail why t k i y) RV := by
 obtain ⟨b, len, elem⟩ := x
 obtain ⟨b', len', elem'⟩ := y
 obtain ⟨h1, h2⟩ := h
 simp only [Prod.mk.injEq] at h1
 obtain ⟨rfl, rfl⟩ := h1
 unfold Ev.idxTail
 refine Sim.after (Still.underlying _ _) fun d hd => ?_
 rcases h2 with ⟨h3, h4⟩ | ⟨a, a', h3, h4, ha⟩
 ·simp only at h3 h4; subst h3; subst h4
  exact Sim.boundsPanic
 ·simp only at h3 h4; subst h3; subst h4
  dsimp only
  refine Sim.ite (fun hq => ?_) (fun hq => Sim.ite (fun _ => Sim.unsupported) (fun _ => Sim.boundsPanic))
  exact Sim.after (Still.sizeOf _ _) fun sz hsz => Sim.pure (ha.add _).ptr

theorem Sim.indexAt {t : TypeId} {v v' i i' : Value} (h : RV K v v') (hi : RV K i i') : Sim E K w (Instr.indexAt t v i) (Instr.indexAt t v' i') RV := by
 unfold Instr.indexAt
 refine Sim.bind (Sim.asIntOf hi) fun K' w' x y hE hxy => ?_
 rw [hxy.1]
 obtain ⟨k, n⟩ := x
 have h' := h.ext hE
 refine Sim.after (Still.underlying _ _) fun d hd => ?_
 cases d with
 | array len elem => exact Sim.bind (Sim.sureAddr h') fun K2 w2 a a' hE2 ha => Sim.idxTail (why := _) (t := t) (k := k) (i := n) (x := (some a, len, elem)) (y := (some a', len, elem)) ⟨rfl, .inr ⟨a, a', rfl, rfl, ha⟩⟩
 | slice elem =>
  cases h' with
  | nilSlice len cap => exact Sim.idxTail (why := .noEntry "none") (t := t) (k := k) (i := n) (x := (none, len, elem)) (y := (none, len, elem)) ⟨rfl, .inl ⟨rfl, rfl⟩⟩
  | slice a len cap cap' ha hc he hp => exact Sim.idxTail (why := _) (t := t) (k := k) (i := n) (x := (some a, len, elem)) (y := (some (K'.addr a), len, elem)) ⟨rfl, .inr ⟨a, _, rfl, rfl, ha, rfl⟩⟩
  | _ => exact Sim.nope rfl
 | _ => cases h' <;> exact Sim.nope rfl

theorem Sim.extract {v v' : Value} {i : Nat} (h : RV K v v') : Sim E K w (Instr.extract v i) (Instr.extract v' i) RV := by
 unfold Instr.extract
 cases h with
 | tuple x x' hx hh =>
  dsimp only
  cases hc : x[i]? with
  | none => exact Sim.stuck
  | some u =>
   obtain ⟨u', h1, h2⟩ := (RA.of_at hx hh : RA K x x').get i u hc
   simp only [h1]
   exact Sim.pure h2
 | _ => exact Sim.stuck

theorem Sim.makeInterface {t : TypeId} {v v' : Value} (h : RV K v v') : Sim E K w (Instr.makeInterface t v) (Instr.makeInterface t v') RV := by
 unfold Instr.makeInterface
 refine Sim.after (Still.underlying _ _) fun d hd => ?_
 cases d <;> first | exact Sim.stuck | exact Sim.pure (.iface t _ _ h)

theorem Sim.makeMap {t : TypeId} {r r' : Option Value} (h : (r = none ∧ r' = none) ∨ ∃ v v', r = some v ∧ r' = some v' ∧ RV K v v') : Sim E K w (Instr.makeMap t r) (Instr.makeMap t r') RV := by
 have hend : ∀ (K : Kr) (w : World), Sim E K w (do Pure.pure (.map (some (← Go.newObj (.map #[] 0)))) : Sem Value) (do Pure.pure (.map (some (← Go.newObj (.map #[] 0))))) RV :=
  fun K w => Sim.bind Sim.newMap fun K' w' r r' hE hr => Sim.pure (by rw [hr.2]; exact .map r hr.1)
 unfold Instr.makeMap
 rcases h with ⟨rfl, rfl⟩ | ⟨v, v', rfl, rfl, hv⟩
 ·exact hend _ _
 ·refine Sim.after (Still.underlying _ _) fun d hd => ?_
  cases d with
  | map k e => exact Sim.bind (Sim.asInt hv) fun K' w' x y hE hxy => hend _ _
  | _ => exact Sim.stuck



theorem Sim.makeFunc {fn : Fn} {x x' y y' : Array Value} (hf : RFn K fn fn) (hx : RA K x x') (hy : RA K y y') : Sim E K w (Instr.makeFunc fn x y) (Instr.makeFunc fn x' y') RV :=
 Sim.pure (.func' hf hx hy)

theorem Sim.typeAssert {v v' : Value} {xt at_ : TypeId} {ok : Bool} (h : RV K v v') (hz : ok = true → zeroOK E.P at_ = true) : Sim E K w (Instr.typeAssert v xt at_ ok) (Instr.typeAssert v' xt at_ ok) RV := by
 have holds : ∀ {K : Kr} {w : World} {u u' : Value}, RV K u u' → Sim E K w (Pure.pure (if ok then .tuple #[u, .bool true] else u) : Sem Value) (Pure.pure (if ok then .tuple #[u', .bool true] else u')) RV := by
  intro K w u u' hu
  refine Sim.pure ?_
  cases ok
  ·exact hu
  ·exact .tuple' (RA.push (RA.one hu) (.bool true))
 have fails : ∀ {K : Kr} {w : World} (a b : Option TypeId) (m : String), Sim E K w (do if ok then Pure.pure (.tuple #[← Go.zeroValue at_, .bool false]) else runtimePanic (.typeAssertion a b at_ m) : Sem Value)
   (do if ok then Pure.pure (.tuple #[← Go.zeroValue at_, .bool false]) else runtimePanic (.typeAssertion a b at_ m)) RV := by
  intro K w a b m
  cases ok with
  | false => exact Sim.nope (crun_panic E.P E.g (.typeAssertion a b at_ m) K.C)
  | true => exact Sim.bind (Sim.zeroValue (hz rfl)) fun K' w' x y hE hxy => Sim.pure (.tuple' (RA.push (RA.one hxy.1) (.bool false)))
 unfold Instr.typeAssert
 refine Sim.after (Still.underlying _ _) fun d hd => ?_
 cases d with
 | interface want =>
  cases h with
  | nilIface => exact fails _ _ _
  | iface t u u' hu =>
   refine Sim.after (Still.typeInfo _ _) fun i hi => ?_
   cases hm : Instr.missingMethod want i.methods with
   | none => exact holds (.iface t u u' hu)
   | some m => exact fails _ _ _
  | _ => exact Sim.stuck
 | _ =>
  cases h with
  | nilIface => exact fails _ _ _
  | iface t u u' hu => exact Sim.ite (fun _ => holds hu) (fun _ => fails _ _ _)
  | _ => exact Sim.stuck

theorem Sim.nextS {v v' : Value} {t : TypeId} (h : RV K v v') : Sim E K w (Instr.next v true t) (Instr.next v' true t) RV := by
 unfold Instr.next
 cases h with
 | ptr a ha =>
  obtain ⟨r, off, spot⟩ := a
  cases off with
  | succ n => exact Sim.stuck
  | zero =>
   refine Sim.bind Sim.getObj fun K' w' o o' hE ho => ?_
   obtain ⟨hlt, e, hro⟩ := ho
   cases hro with
   | iter s p =>
    refine Sim.ite (fun _ => ?_) (fun _ => Sim.pure (.tuple' (RA.one (.bool false))))
    refine Sim.bind (R := fun _ _ _ => True) ?_ fun K2 w2 _ _ _ _ => Sim.pure (.tuple' (RA.push (RA.push (RA.one (.bool true)) (.int _ _)) (.int _ _)))
    rw [← hE.σ r ha]
    exact Sim.setObj fun e => .iter _ _
   | _ => exact Sim.stuck
 | _ => exact Sim.stuck

theorem Sim.iterPtr {o o' : Obj} (h : Sim E K w (Go.newObj o) (Go.newObj o') (fun K' r r' => r < K'.C.size ∧ r' = K'.σ r)) :
  Sim E K w (do Pure.pure (Value.pointer (some ⟨← Go.newObj o, 0, none⟩)) : Sem Value) (do Pure.pure (Value.pointer (some ⟨← Go.newObj o', 0, none⟩))) RV :=
 Sim.bind h fun K' w' r r' hE hr => Sim.pure (by rw [hr.2]; exact .ptr ⟨r, 0, none⟩ hr.1)

theorem Sim.rangeS {v v' : Value} {t : TypeId} (h : RV K v v') : Sim E K w (Instr.range t v) (Instr.range t v') RV := by
 unfold Instr.range
 refine Sim.after (Still.underlying _ _) fun d hd => ?_
 cases d with
 | string =>
  cases h with
  | string s => exact Sim.iterPtr Sim.newIter
  | _ => exact Sim.stuck
 | map k el =>
  cases h with
  | nilMap => exact Sim.iterPtr Sim.newMapIter0
  | map r hr =>
   refine Sim.bind Sim.getObj fun K' w' o o' hE ho => ?_
   obtain ⟨hlt, e, hro⟩ := ho
   cases hro with
   | map es es' clock hs hh =>
    rw [← hE.σ r hr]
    exact Sim.iterPtr (Sim.newMapIter (Nat.lt_of_lt_of_le hr hE.size))
   | _ => exact Sim.stuck
  | _ => exact Sim.stuck
 | _ => exact Sim.stuck

theorem underlying_of_prun {P : Program} {t : TypeId} {d : TypeDesc} (hd : prun P (Go.underlying t) = some d) : P.underlying t = some d := by
 unfold Go.underlying at hd
 rw [prun_bind] at hd
 simp only [Go.program, prun, Option.bind_some] at hd
 cases hu : P.underlying t with
 | none => simp [hu, Go.stuck, prun] at hd
 | some d' => simp [hu, Pure.pure, prun] at hd; rw [hd]

theorem map_range0 (f : Nat → Value) : (Array.range 0).map f = #[] := by simp [Array.range]

theorem Still.askRoom {P : Program} (n : Nat) : Still P (Go.askRoom n) := by
 unfold Go.askRoom
 split
 ·exact .inl ⟨(), rfl⟩
 ·exact .pure _ _

theorem Sim.rowSlice {e : TypeId} {c c' : Array Value} {n m : Nat} (h : RA K c c') : Sim E K w (do let a ← Go.newRow e c; Pure.pure (Value.slice (some a) n m) : Sem Value) (do let a ← Go.newRow e c'; Pure.pure (Value.slice (some a) n m)) RV :=
 Sim.bind (Sim.newRow h) fun K' w' a a' hE ha => Sim.pure (by
  rw [ha.1.2]
  exact .slice a n m m ha.1.1 (Nat.le_refl _) (fun _ => rfl) (fun e0 => by rw [ha.2] at e0; cases e0))

def szOK (P : Program) (e : TypeId) : Bool := match P.info? e with
 | some i => match i.zero with
  | some v => plainN 2 v && (i.size == v.cells.size)
  | none => true
 | none => true

theorem zeroOK_of_sz {P : Program} {e : TypeId} (h : szOK P e = true) : zeroOK P e = true := by
 unfold szOK at h; unfold zeroOK
 split
 ·rename_i i hi
  simp only [hi] at h
  split
  ·rename_i v hv
   simp only [hv, Bool.and_eq_true] at h
   exact h.1
  ·rfl
 ·rfl

theorem sz_spec {P : Program} {e : TypeId} (h : szOK P e = true) {s : Nat} {z : Value} (hs : prun P (Go.sizeOf e) = some s) (hz : prun P (Go.zeroValue e) = some z) : z.cells.size = s := by
 unfold szOK at h
 simp only [Go.sizeOf, Go.zeroValue, Go.typeInfo, prun_bind, Go.program, prun, Option.bind_some] at hs hz
 cases hi : P.info? e with
 | none => simp [hi, Go.stuck, prun] at hs
 | some i =>
  simp only [hi, Pure.pure, prun, Option.bind_some, Option.some.injEq] at hs hz h
  cases hv : i.zero with
  | none => simp [hv, Go.unsupported, prun] at hz
  | some v =>
   simp only [hv, prun, Option.some.injEq, Bool.and_eq_true, beq_iff_eq] at hz h
   rw [← hz, ← hs]; exact h.2.symm

theorem Sim.zeroValue' {t : TypeId} (h : zeroOK E.P t = true) : Sim E K w (Go.zeroValue t) (Go.zeroValue t) (fun K' x y => RV K' x y ∧ y = x ∧ prun E.P (Go.zeroValue t) = some x) := by
 intro hR x C' hc
 obtain ⟨K', w', y, h0, h1, h2, h3, h4, h5⟩ := Sim.zeroValue (w := w) h hR x C' hc
 refine ⟨K', w', y, h0, h1, h2, h3, h4, h5, ?_⟩
 rcases Still.zeroValue E.P t with ⟨z, hz⟩ | hz
 ·rw [crun_of_prun E.g hz K.C] at hc
  simp only [Option.some.injEq, Prod.mk.injEq] at hc
  rw [← hc.1]; exact hz
 ·rw [hz] at hc; cases hc

theorem Sim.makeSlice {t : TypeId} {l l' c c' : Value} (hl : RV K l l') (hc : RV K c c') (hz : ∀ e, E.P.underlying t = some (.slice e) → szOK E.P e = true) :
  Sim E K w (Instr.makeSlice t l c) (Instr.makeSlice t l' c') RV := by
 unfold Instr.makeSlice
 refine Sim.after (Still.underlying _ _) fun d hd => ?_
 cases d with
 | slice e =>
  have hz := hz e (underlying_of_prun hd)
  refine Sim.bind (Sim.asInt hl) fun K1 w1 x y hE1 hxy => ?_
  subst hxy
  refine Sim.bind (Sim.asInt (hc.ext hE1)) fun K2 w2 x2 y2 hE2 hxy2 => ?_
  subst hxy2
  refine Sim.after (Still.typeInfo _ _) fun i hi => ?_
  dsimp only
  refine Sim.ite (fun _ => Sim.ite (fun _ => Sim.nope (crun_none_bind (crun_panic _ _ _ _))) (fun _ => Sim.ite (fun _ => Sim.nope (crun_none_bind (crun_panic _ _ _ _))) (fun _ => Sim.nope (crun_none_bind rfl)))) (fun _ => ?_)
  refine Sim.after (Still.askRoom _) fun _ _ => ?_
  refine Sim.after (Still.sizeOf _ _) fun s hs => ?_
  refine Sim.ite (fun h0 => ?_) (fun h0 => ?_)
  ·exact Sim.rowSlice (c := (Array.range _).map (fun x => (#[] : Array Value)[x % (#[] : Array Value).size]!)) (by rw [h0, map_range0]; exact RA.empty K2)
  ·refine Sim.bind (Sim.zeroValue' (zeroOK_of_sz hz)) fun K3 w3 z z' hE3 hzz => ?_
   rw [hzz.2.1]
   refine Sim.rowSlice (zeroRow_rel (by have := hzz.1.cells; rw [hzz.2.1] at this; exact this) _ (.inr ?_))
   rw [sz_spec hz hs hzz.2.2]
   exact Nat.pos_of_ne_zero fun e => h0 (by rw [e]; simp)
 | _ => exact Sim.stuck
theorem Sim.buildSlice {t : TypeId} {n : Nat} {parts parts' : Array (Nat × Value)} (hz : ∀ e, E.P.underlying t = some (.slice e) → szOK E.P e = true) (h : RP K parts.toList parts'.toList) :
  Sim E K w (Instr.buildSlice t n parts) (Instr.buildSlice t n parts') RV := by
 unfold Instr.buildSlice
 refine Sim.after (Still.underlying _ _) fun d hd => ?_
 cases d with
 | slice e =>
  have hz := hz e (underlying_of_prun hd)
  refine Sim.after (Still.sizeOf _ _) fun s hs => ?_
  refine Sim.ite (fun _ => Sim.nope (crun_none_bind rfl)) (fun _ => ?_)
  refine Sim.ite (fun h0 => ?_) (fun h0 => ?_)
  ·refine Sim.fill h (by rw [h0, map_range0]; exact RA.empty K) fun r r' hr => Sim.rowSlice hr
  ·refine Sim.bind (Sim.zeroValue' (zeroOK_of_sz hz)) fun K3 w3 z z' hE3 hzz => ?_
   rw [hzz.2.1]
   refine Sim.fill (h.ext hE3) (zeroRow_rel (by have := hzz.1.cells; rw [hzz.2.1] at this; exact this) _ (.inr ?_)) fun r r' hr => Sim.rowSlice hr
   rw [sz_spec hz hs hzz.2.2]
   exact Nat.pos_of_ne_zero fun e => h0 (by rw [e]; simp)
 | _ => exact Sim.stuck

theorem Sim.lenOf {v v' : Value} (h : RV K v v') : Sim E K w (Builtin.lenOf v) (Builtin.lenOf v') (fun _ x y => y = x) := by
 cases h <;> first | exact Sim.pure rfl | exact Sim.stuck

theorem Sim.firstCells {v v' : Value} (size n : Nat) (h : RV K v v') : Sim E K w (Builtin.firstCells size n v) (Builtin.firstCells size n v') RA := by
 cases h with
 | nilSlice a b => exact Sim.pure (RA.empty _)
 | slice a len c c' ha hc he hp => exact Sim.loadCells _ ⟨ha, rfl⟩
 | string s =>
  refine Sim.pure (RL.same (plainN 0) (RV.plain K 0) _ ?_)
  rw [Array.toList_map, List.all_map, List.all_eq_true]
  intro x hx
  rfl
 | _ => exact Sim.stuck

theorem Sim.copy {ts : Array TypeId} {t : TypeId} {x x' y y' : Value} (hx : RV K x x') (hy : RV K y y') : Sim E K w (Builtin.copy_ ts t #[x, y]) (Builtin.copy_ ts t #[x', y']) RV := by
 unfold Builtin.copy_
 cases ht : ts[0]? with
 | none => exact Sim.nope (by simp; rfl)
 | some dt =>
  simp only [List.getElem?_toArray, List.getElem?_cons_zero, List.getElem?_cons_succ]
  refine Sim.after (Still.underlying _ _) fun d hd => ?_
  cases d with
  | slice e =>
   cases hx with
   | nilSlice len cap =>
    refine Sim.bind (Sim.lenOf hy) fun K1 w1 a b hE hab => ?_
    subst hab
    refine Sim.after (Still.sizeOf _ _) fun s hs => ?_
    exact Sim.bind (Sim.firstCells _ _ (hy.ext hE)) fun K2 w2 c c' hE2 hc => Sim.pure (.int _ _)
   | slice a len c c' ha hc he hp =>
    refine Sim.bind (Sim.lenOf hy) fun K1 w1 n m hE hab => ?_
    subst hab
    refine Sim.after (Still.sizeOf _ _) fun s hs => ?_
    refine Sim.bind (Sim.firstCells _ _ (hy.ext hE)) fun K2 w2 q q' hE2 hq => ?_
    have ha' : RAd K2 a (K.addr a) := RAd.ext (hE.trans hE2) ⟨ha, rfl⟩
    exact Sim.bind (Sim.storeCells 0 ha' hq) fun K3 w3 _ _ _ _ => Sim.pure (.int _ _)
   | _ => exact Sim.stuck
  | _ => cases hx <;> exact Sim.stuck

theorem Sim.clear {ts : Array TypeId} {t dt e0 : TypeId} {x x' : Value} (ht : ts[0]? = some dt) (hd : E.P.underlying dt = some (.slice e0)) (hz : zeroOK E.P e0 = true) (hsl : ∃ a n c, x = .slice a n c) (hx : RV K x x') : Sim E K w (Builtin.clear_ ts t #[x]) (Builtin.clear_ ts t #[x']) RV := by
 unfold Builtin.clear_
 simp only [ht, List.getElem?_toArray, List.getElem?_cons_zero]
 refine Sim.after (Still.underlying _ _) fun d hd2 => ?_
 have hde := underlying_of_prun hd2
 rw [hd] at hde
 have hde := Option.some.inj hde
 subst hde
 cases hx with
 | nilSlice n c => cases n <;> exact Sim.pure (.tuple' (RA.empty _))
 | slice a n c c' ha hc he hp =>
  cases n with
  | zero => exact Sim.pure (.tuple' (RA.empty _))
  | succ n =>
   refine Sim.bind (Sim.zeroValue hz) fun K1 w1 z z' hE hzz => ?_
   obtain ⟨hz1, hz2⟩ := hzz
   subst hz2
   have hrow : RA K1 (Builtin.zeroCells z'.cells (n + 1)) (Builtin.zeroCells z'.cells (n + 1)) := by
    unfold Builtin.zeroCells
    refine zeroRow_rel hz1.cells _ ?_
    rcases Nat.eq_zero_or_pos z'.cells.size with h | h
    ·left; rw [h]; rfl
    ·exact .inr h
   refine Sim.bind (R := fun _ _ _ => True) (Sim.storeCells 0 (RAd.ext hE ⟨ha, rfl⟩) hrow) fun K3 w3 _ _ _ _ => Sim.pure (.tuple' (RA.empty _))
 | _ => (obtain ⟨_, _, _, h⟩ := hsl; cases h)

theorem Sim.len {ts : Array TypeId} {t : TypeId} {x x' : Value} (hx : RV K x x') : Sim E K w (Builtin.len_ ts t #[x]) (Builtin.len_ ts t #[x']) RV := by
 unfold Builtin.len_
 cases ht : ts[0]? with
 | none => exact Sim.nope (by simp; rfl)
 | some dt =>
  simp only [List.getElem?_toArray, List.getElem?_cons_zero]
  refine Sim.after (Still.underlying _ _) fun d hd => ?_
  cases d with
  | string => cases hx <;> first | exact Sim.pure (.int _ _) | exact Sim.stuck
  | array n e => exact Sim.pure (.int _ _)
  | pointer e =>
   refine Sim.after (Still.underlying _ _) fun d hd => ?_
   cases d <;> first | exact Sim.pure (.int _ _) | exact Sim.stuck
  | slice e => cases hx <;> first | exact Sim.pure (.int _ _) | exact Sim.stuck
  | map k e =>
   cases hx with
   | nilMap => exact Sim.pure (.int _ _)
   | map r hr =>
    refine Sim.bind Sim.getObj fun K2 w2 o o' hE ho => ?_
    obtain ⟨_, e, hro⟩ := ho
    cases hro with
    | map es es' clock hs hh =>
     refine Sim.pure ?_
     rw [hs]; exact .int _ _
    | _ => exact Sim.stuck
   | _ => exact Sim.stuck
  | _ => cases hx <;> exact Sim.stuck

end
end Go.Ev
end
section
set_option linter.unusedVariables false
set_option linter.unusedSimpArgs false
namespace Go.Ev
variable {α β γ δ : Type}
section
variable {E : Env} {K : Kr} {w : World}

theorem Sim.nilCheck {v v' : Value} (h : RV K v v') (hm : ∀ m x y, v ≠ .func (.method m) x y) (ρ ρ' : Operand → Value) (o : Oper) (x : Operand) (ho : o.op = .nilCheck x) (hv : ρ x = v) (hv' : ρ' x = v') :
  Sim E K w (execOp ρ o) (execOp ρ' o) RN := by
 unfold execOp
 simp only [ho, hv, hv']
 cases h with
 | nilPtr => exact Sim.panic
 | nilIface => exact Sim.panic
 | nilFunc => exact Sim.panic
 | func fn fn' hf x x' y y' hx hy h1 h2 =>
  cases hf with
  | method m => exact absurd rfl (hm _ _ _)
  | func f => exact Sim.pure (.value (.func _ _ (.func f) _ _ _ _ hx hy h1 h2))
  | methodOf t n => exact Sim.pure (.value (.func _ _ (.methodOf t n) _ _ _ _ hx hy h1 h2))
  | via t p f b => exact Sim.pure (.value (.func _ _ (.via t p f b) _ _ _ _ hx hy h1 h2))
  | yield l hl => exact Sim.pure (.value (.func _ _ (.yield l hl) _ _ _ _ hx hy h1 h2))
 | bool b => exact Sim.pure (.value (.bool b))
 | int k n => exact Sim.pure (.value (.int k n))
 | float k b => exact Sim.pure (.value (.float k b))
 | complex k x y => exact Sim.pure (.value (.complex k x y))
 | string s => exact Sim.pure (.value (.string s))
 | ptr a ha => exact Sim.pure (.value (.ptr a ha))
 | nilSlice n c => exact Sim.pure (.value (.nilSlice n c))
 | slice a n c c' ha hc he hp => exact Sim.pure (.value (.slice a n c c' ha hc he hp))
 | nilMap => exact Sim.pure (.value .nilMap)
 | map r hr => exact Sim.pure (.value (.map r hr))
 | iface t v v' hh => exact Sim.pure (.value (.iface t v v' hh))
 | agg x x' hx hh => exact Sim.pure (.value (.agg x x' hx hh))
 | tuple x x' hx hh => exact Sim.pure (.value (.tuple x x' hx hh))

def callOK (P : Program) (f : FuncId) : Bool := match P.funcs[f]? with
 | some fn => !(fn.name == "runtime.NumGoroutine") && fn.body.isSome
 | none => false

theorem run_callFunc {P : Program} {f : FuncId} (h : callOK P f = true) (x : Array Value) (w : World) : (Go.callFunc f x).run P w = .ok (.enter f x) w := by
 unfold callOK at h
 unfold Go.callFunc
 cases hf : P.funcs[f]? with
 | none => simp [hf] at h
 | some fn =>
  simp only [hf, Bool.and_eq_true, Bool.not_eq_true'] at h
  rw [Sem.run_bind]
  simp only [Go.program, Sem.run, Result.andThen_ok, hf, h.1, Bool.false_eq_true, if_false]
  have : fn.body.isNone = false := by cases hb : fn.body <;> simp [hb] at h ⊢
  simp only [this, Bool.false_eq_true, if_false]
  rfl

def callC (P : Program) (g : Nat) (C : W) (f : Value) (args : Array Value) : Option (Next × W) :=
 match f with
 | .func (.func k) first captured => cond (callOK P k) (some (.enter k (first ++ args ++ captured), C)) none
 | .func (.yield l) first captured => crun P g (Instr.yield l (first ++ args)) C
 | .func (.via t path k ptr) first captured => match (first ++ args)[0]? with
  | some x => cond (callOK P k && path.isEmpty) (match P.underlying t, ptr with
   | some (.pointer _), false => none
   | some (.pointer _), true => some (.enter k (#[x] ++ (first ++ args).extract 1 (first ++ args).size), C)
   | some _, false => some (.enter k (#[x] ++ (first ++ args).extract 1 (first ++ args).size), C)
   | _, _ => none) none
  | none => none
 | _ => none

theorem foldl_params {K : Kr} : ∀ (l : List (Tmp × Value)) (l' : List (Tmp × Value)) (c c' : Array Value), l.map (·.1) = l'.map (·.1) → RL K (l.map (·.2)) (l'.map (·.2)) → RA K c c' →
  RA K (l.foldl (fun tmps (x : Tmp × Value) => tmps.setIfInBounds x.1 x.2) c) (l'.foldl (fun tmps (x : Tmp × Value) => tmps.setIfInBounds x.1 x.2) c')
 | [], [], c, c', _, _, h => h
 | a :: l, b :: l', c, c', h1, h2, h => by
  simp only [List.map_cons, List.cons.injEq] at h1 h2
  cases h2 with
  | cons hv ht =>
   simp only [List.foldl_cons]
   rw [← h1.1]
   exact foldl_params l l' _ _ h1.2 ht (h.setIfInBounds hv _)
 | [], _ :: _, _, _, h1, _, _ => by simp at h1
 | _ :: _, [], _, _, h1, _, _ => by simp at h1

theorem Sim.yield {l : Nat} {x x' : Array Value} (h : RA K x x') (hl : l < K.C.size) : Sim E K w (Instr.yield l x) (Instr.yield (K.σ l) x') RN := by
 unfold Instr.yield Instr.getLoop
 refine Sim.bind (R := fun K' r r' => l < K'.C.size ∧ K'.σ l = K.σ l ∧ RLoop K' r r' ∧ Ext K K') ?_ ?_
 ·refine Sim.bind Sim.getObj fun K1 w1 o o' hE ho => ?_
  obtain ⟨hlt, e, hro⟩ := ho
  cases hro with
  | loop r r' hr => exact Sim.pure ⟨hlt, hE.σ l hl, hr, hE⟩
  | _ => exact Sim.nope rfl
 ·rintro K1 w1 r r' hE ⟨hlt, hσ, hr, _⟩
  have h' := h.ext hE
  rw [← hσ]
  have hsz := h.size
  have hp := hr.params
  by_cases hq : x.size ≠ r.params.size
  ·exact Sim.nope (by simp only [hq, ne_eq, not_false_eq_true, if_true]; exact crun_none_bind rfl)
  ·have hq' : ¬ (x'.size ≠ r'.params.size) := by rw [← hsz, hp]; exact hq
   simp only [hq, hq', if_false]
   refine Sim.pure ?_
   rw [hr.fn, hr.assign, hr.body, hp]
   refine .round l r.fn _ _ hlt ?_
   have hz : ∀ (ps : Array Tmp) (a : Array Value) (c : Array Value), (ps.zip a).foldl (fun tmps (t, a) => tmps.setIfInBounds t a) c = ((ps.toList.zip a.toList)).foldl (fun tmps (x : Tmp × Value) => tmps.setIfInBounds x.1 x.2) c := by
    intro ps a c
    rw [← Array.foldl_toList, Array.toList_zip]
   rw [hz, hz]
   have e1 : x.toList.length = r.params.toList.length := by simpa using hq
   have e2 : x'.toList.length = r.params.toList.length := by simpa [hp] using hq'
   refine foldl_params _ _ _ _ ?_ ?_ hr.tmps
   ·rw [List.map_fst_zip (by omega), List.map_fst_zip (by omega)]
   ·rw [List.map_snd_zip (by omega), List.map_snd_zip (by omega)]
    exact h'

theorem RA.map_ops {ρ ρ' : Operand → Value} (l : Array Operand) (h : ∀ x ∈ l, RV K (ρ x) (ρ' x)) : RA K (l.map ρ) (l.map ρ') := by
 have key : ∀ (l : List Operand), (∀ x ∈ l, RV K (ρ x) (ρ' x)) → RL K (l.map ρ) (l.map ρ') := by
  intro l
  induction l with
  | nil => intro _; exact .nil
  | cons a l ih => intro h; exact .cons (h a (by simp)) (ih fun x hx => h x (by simp [hx]))
 have := key l.toList fun x hx => h x (by simpa using hx)
 simpa [RA] using this

end
end Go.Ev
end
section
set_option linter.unusedVariables false
set_option linter.unusedSimpArgs false
namespace Go.Ev
variable {α β γ δ : Type}
section
variable {E : Env} {K : Kr} {w : World}

def Snd (E : Env) (K : Kr) (w : World) (r : Option (Next × W)) (s : Sem Next) : Prop :=
 Rel E K w → ∀ nx C', r = some (nx, C') → ∃ K' w' nx', K'.C = C' ∧ s.run E.P w = .ok nx' w' ∧ Rel E K' w' ∧ Ext K K' ∧ RN K' nx nx'

theorem Snd.of_sim {s s' : Sem Next} (h : Sim E K w s s' RN) : Snd E K w (crun E.P E.g s K.C) s' := fun hR nx C' hc => h hR nx C' hc

theorem Snd.none {s : Sem Next} : Snd E K w .none s := fun _ _ _ h => by cases h

theorem Snd.here {nx nx' : Next} {s : Sem Next} (h : s.run E.P w = .ok nx' w) (hr : RN K nx nx') : Snd E K w (some (nx, K.C)) s := by
 intro hR nx2 C' hc
 simp only [Option.some.injEq, Prod.mk.injEq] at hc
 obtain ⟨rfl, rfl⟩ := hc
 exact ⟨K, w, nx', rfl, h, hR, Ext.refl _, hr⟩

theorem Snd.cond {b : Bool} {r : Option (Next × W)} {s : Sem Next} (h : b = true → Snd E K w r s) : Snd E K w (cond b r .none) s := by
 cases b
 ·exact Snd.none
 ·exact h rfl

theorem Snd.congr {r : Option (Next × W)} {s s' : Sem Next} (h : Snd E K w r s) (hs : s'.run E.P w = s.run E.P w) : Snd E K w r s' := by
 intro hR nx C' hc
 rw [hs]
 exact h hR nx C' hc

theorem callC_sound {f f' : Value} {x x' : Array Value} (hf : RV K f f') (hx : RA K x x') :
  Snd E K w (callC E.P E.g K.C f x) (do let d ← Deferred.ofValue f' x'; invoke d.target d.args) := by
 cases hf with
 | func fn fn' hfn a a' b b' ha hb h1 h2 =>
  have hA : RA K a a' := RA.of_at ha h1
  have hB : RA K b b' := RA.of_at hb h2
  cases hfn with
  | func k =>
   refine Snd.cond fun hk => Snd.here (nx' := .enter k (a' ++ x' ++ b')) ?_ (.enter k ((hA.append hx).append hB))
   show (Go.callFunc k (a' ++ x' ++ b')).run E.P w = _
   exact run_callFunc hk _ _
  | yield l hl => exact Snd.of_sim (Sim.yield (hA.append hx) hl)
  | via t p k ptr =>
   unfold callC
   dsimp only
   split
   ·rename_i v hv
    obtain ⟨v', hv', hr⟩ := (hA.append hx).get 0 v hv
    have hx' : RA K (#[v] ++ (a ++ x).extract 1 (a ++ x).size) (#[v'] ++ (a' ++ x').extract 1 (a' ++ x').size) := by
     rw [(hA.append hx).size]
     exact (RA.one hr).append ((hA.append hx).extract _ _)
    refine Snd.cond fun hk => ?_
    simp only [Bool.and_eq_true] at hk
    have hp : p.toList = [] := by
     have := hk.2
     simp only [Array.isEmpty_iff] at this
     simp [this]
    have run0 : ∀ d, E.P.underlying t = some d → ((match d with | .pointer _ => ptr = true | _ => ptr = false)) →
      (do let d ← Deferred.ofValue (.func (.via t p k ptr) a' b') x'; invoke d.target d.args : Sem Next).run E.P w = .ok (.enter k (#[v'] ++ (a' ++ x').extract 1 (a' ++ x').size)) w := by
     intro d hd hq
     show (invoke (.fn (.via t p k ptr) b') (a' ++ x')).run E.P w = _
     unfold invoke
     simp only [hv']
     rw [Sem.run_bind]
     have : (receiverVia t v' p ptr).run E.P w = .ok v' w := by
      unfold receiverVia
      rw [hp]
      unfold follow
      rw [Sem.run_bind]
      simp only [Sem.run_pure, Result.andThen_ok]
      unfold receiverAt
      rw [Sem.run_bind]
      have hu : (Go.underlying t).run E.P w = .ok d w := by
       unfold Go.underlying
       rw [Sem.run_bind]
       simp [Go.program, Sem.run, hd, Pure.pure]
      rw [hu]
      simp only [Result.andThen_ok]
      cases d <;> simp only at hq <;> subst hq <;> rfl
     rw [this]
     simp only [Result.andThen_ok]
     exact run_callFunc hk.1 _ _
    split
    ·exact Snd.none
    ·rename_i e hd
     exact Snd.here (run0 _ hd rfl) (.enter k hx')
    ·rename_i d hne hd
     refine Snd.here (run0 _ hd ?_) (.enter k hx')
     cases d <;> first | rfl | (exfalso; exact hne _ rfl)
    ·exact Snd.none
   ·exact Snd.none
  | method n => exact Snd.none
  | methodOf t n => exact Snd.none
 | _ => exact Snd.none

def okRecv : TypeDesc → Bool → Bool
 | .pointer _, true => true
 | .pointer _, false => false
 | _, false => true
 | _, true => false
def invC (P : Program) (C : W) (recv : Value) (name : String) (args : Array Value) : Option (Next × W) :=
 match recv with
 | .iface t v => match P.info? t, P.underlying t with
  | some i, some d => match i.methods.toList.find? (·.name == name) with
   | some m => match m.func, m.path.toList with
    | some (f, ptr), [] => cond (callOK P f && okRecv d ptr) (some (.enter f (#[v] ++ args), C)) none
    | _, _ => none
   | none => none
  | _, _ => none
 | _ => none
theorem run_typeInfo7 {P : Program} {t : TypeId} {i : TypeInfo} (h : P.info? t = some i) (w : World) : (Go.typeInfo t).run P w = .ok i w := by
 unfold Go.typeInfo
 rw [Sem.run_bind]
 simp [Go.program, Sem.run, h, Pure.pure]
theorem run_receiverAt {P : Program} {t : TypeId} {d : TypeDesc} {ptr : Bool} (hd : P.underlying t = some d) (h : okRecv d ptr = true) (v : Value) (o : Option String) (w : World) : (receiverAt t (.val v) ptr o).run P w = .ok v w := by
 have hu : (Go.underlying t).run P w = .ok d w := by
  unfold Go.underlying
  rw [Sem.run_bind]
  simp [Go.program, Sem.run, hd, Pure.pure]
 unfold receiverAt
 rw [Sem.run_bind, hu]
 simp only [Result.andThen_ok]
 cases d <;> cases ptr <;> first | rfl | (cases h; done)
theorem invC_sound {recv recv' : Value} {x x' : Array Value} {name : String} (cap : Array Value) (hr : RV K recv recv') (hx : RA K x x') :
  Snd E K w (invC E.P K.C recv name x) (invoke (.fn (.method name) cap) (#[recv'] ++ x')) := by
 cases hr with
 | iface t v v' hv =>
  unfold invC
  dsimp only
  split
  ·rename_i i d hi hd
   split
   ·rename_i m hm
    split
    ·rename_i f ptr hf hp
     refine Snd.cond fun hk => Snd.here (nx' := .enter f (#[v'] ++ x')) ?_ (.enter f ((RA.one hv).append hx))
     rw [Bool.and_eq_true] at hk
     have hmeth : ∀ n, (method (n + 1) t v' name).run E.P w = .ok (f, v') w := by
      intro n
      unfold method
      rw [Sem.run_bind, run_typeInfo7 hi]
      have hm' : i.methods.find? (·.name == name) = some m := by rw [← Array.find?_toList]; exact hm
      simp only [Result.andThen_ok, hm']
      rw [Sem.run_bind, hp]
      unfold follow
      simp only [Sem.run_pure, Result.andThen_ok, hf]
      rw [Sem.run_bind, run_receiverAt hd hk.2]
      rfl
     have e0 : (#[Value.iface t v'] ++ x')[0]? = some (.iface t v') := by rw [Array.getElem?_append]; rfl
     have e1 : (#[Value.iface t v'] ++ x').extract 1 (#[Value.iface t v'] ++ x').size = x' := by
      apply Array.ext'
      simp
     unfold invoke
     simp only [e0, e1]
     unfold callMethod
     rw [Sem.run_bind]
     simp only [Go.program, Sem.run, Result.andThen_ok]
     obtain ⟨n, hn⟩ : ∃ n, E.P.types.size + Made.depth = n + 1 := ⟨E.P.types.size + Made.depth - 1, by unfold Made.depth; omega⟩
     rw [hn, Sem.run_bind, hmeth n]
     simp only [Result.andThen_ok]
     exact run_callFunc hk.1 _ _
    ·exact Snd.none
   ·exact Snd.none
  ·exact Snd.none
 | _ => exact Snd.none
end
end Go.Ev
end
section
set_option linter.unusedVariables false
set_option linter.unusedSimpArgs false
namespace Go.Ev
variable {α β γ δ : Type}
section
variable {E : Env} {K : Kr} {w : World}

def appIn (base : Option Addr) (sLen need cap size n : Nat) (x : Value) : Sem Value := do
 let new ← Builtin.firstCells size n x
 match base with
 | some a => do
  Go.storeCells (a.add (sLen * size)) new.toList
  Pure.pure (.slice base need cap)
 | none => Pure.pure (.slice base need cap)

def appGrow (elem : TypeId) (bytes size sLen n need cap : Nat) (s x : Value) : Sem Value := do
 let newCap ← Go.choose (.appendCap need cap elem)
 Go.askRoom (newCap * bytes)
 let old ← Builtin.firstCells size sLen s
 let new ← Builtin.firstCells size n x
 let z ← Go.zeroValue elem
 let a ← Go.newRow elem (old ++ new ++ Builtin.zeroCells z.cells (newCap - need))
 Pure.pure (.slice (some a) need newCap)

theorem growBy_le (m B : Nat) (hB : 2 * m + 768 ≤ B) : ∀ (r c : Nat), c ≤ B → Builtin.growBy m r c ≤ B
 | 0, c, h => h
 | r + 1, c, h => by
  unfold Builtin.growBy
  split
  ·exact h
  ·exact growBy_le m B hB r _ (by omega)

theorem nextslicecap_le (need old : Nat) (h : old < need) : Builtin.nextslicecap need old ≤ 2 * need + 768 := by
 unfold Builtin.nextslicecap
 split
 ·omega
 ·split
  ·omega
  ·exact growBy_le need _ (Nat.le_refl _) 4 old (by omega)

structure AppHyp (P : Program) (ts : Array TypeId) (elem size bytes : Nat) : Prop where
 t0 : ∃ st, ts[0]? = some st ∧ P.underlying st = some (.slice elem)
 t1 : ∀ xt, ts[1]? = some xt → ∃ d, P.underlying xt = some d ∧ ∀ k, d ≠ .int k
 sz : ∃ i, P.info? elem = some i ∧ i.size = size ∧ i.bytes = bytes

theorem run_underlying {P : Program} {t : TypeId} {d : TypeDesc} (h : P.underlying t = some d) (w : World) : (Go.underlying t).run P w = .ok d w := by
 unfold Go.underlying
 rw [Sem.run_bind]
 simp [Go.program, Sem.run, h, Pure.pure]

theorem run_typeInfo {P : Program} {t : TypeId} {i : TypeInfo} (h : P.info? t = some i) (w : World) : (Go.typeInfo t).run P w = .ok i w := by
 unfold Go.typeInfo
 rw [Sem.run_bind]
 simp [Go.program, Sem.run, h, Pure.pure]

theorem run_sizeOf {P : Program} {t : TypeId} {i : TypeInfo} (h : P.info? t = some i) (w : World) : (Go.sizeOf t).run P w = .ok i.size w := by
 unfold Go.sizeOf
 rw [Sem.run_bind, run_typeInfo h]
 rfl

theorem run_append_in {P : Program} {ts : Array TypeId} {t : TypeId} {elem size bytes : Nat} (h : AppHyp P ts elem size bytes) {base : Option Addr} {sLen cap n : Nat} {x : Value} (w : World)
  (hl : (Builtin.lenOf x).run P w = .ok n w) (hn : sLen + n ≤ cap) :
  (Builtin.append_ ts t #[.slice base sLen cap, x]).run P w = (appIn base sLen (sLen + n) cap size n x).run P w := by
 obtain ⟨st, hts, hst⟩ := h.t0
 obtain ⟨i, hi, hsz, hby⟩ := h.sz
 unfold Builtin.append_
 simp only [hts, List.getElem?_toArray, List.getElem?_cons_zero, List.getElem?_cons_succ]
 rw [Sem.run_bind, run_underlying hst]
 simp only [Result.andThen_ok]
 rw [Sem.run_bind, run_sizeOf hi]
 simp only [Result.andThen_ok]
 subst hsz
 cases h1 : ts[1]? with
 | none =>
  unfold appIn
  simp only [Sem.run_bind, Sem.run_pure, Result.andThen_ok, Bool.false_eq_true, if_false, hl, if_pos hn, Bool.not_false, if_true]
  cases (Builtin.firstCells i.size n x).run P w with
  | halt hh w1 => rfl
  | ok new w1 => cases base <;> rfl
 | some xt =>
  obtain ⟨d, hd, hne⟩ := h.t1 xt h1
  dsimp only
  rw [Sem.run_bind, run_underlying hd]
  simp only [Result.andThen_ok]
  unfold appIn
  simp only [Sem.run_bind, Sem.run_pure, Result.andThen_ok, Bool.false_eq_true, if_false, hl, if_pos hn, Bool.not_false, if_true]
  cases (Builtin.firstCells i.size n x).run P w with
  | halt hh w1 => rfl
  | ok new w1 => cases base <;> rfl

theorem run_append_grow {P : Program} {ts : Array TypeId} {t : TypeId} {elem size bytes : Nat} (h : AppHyp P ts elem size bytes) {base : Option Addr} {sLen cap n : Nat} {x : Value} (w : World)
  (hl : (Builtin.lenOf x).run P w = .ok n w) (hn : cap < sLen + n) (hb0 : 0 < bytes) (hroom : (2 * (sLen + n) + 768) * bytes ≤ 2 ^ 48) :
  (Builtin.append_ ts t #[.slice base sLen cap, x]).run P w = (appGrow elem bytes size sLen n (sLen + n) cap (.slice base sLen cap) x).run P w := by
 obtain ⟨st, hts, hst⟩ := h.t0
 obtain ⟨i, hi, hsz, hby⟩ := h.sz
 have hcap : ¬ (Builtin.nextslicecap (sLen + n) cap * i.bytes > 2 ^ 48) := by
  have := nextslicecap_le (sLen + n) cap hn
  have h2 : Builtin.nextslicecap (sLen + n) cap * i.bytes ≤ (2 * (sLen + n) + 768) * bytes := by
   rw [hby]; exact Nat.mul_le_mul_right _ this
  omega
 have hbig : ∀ z : Bool, z = false → ¬ (((sLen + n : Nat) : Int) > IntKind.i64.max ∧ (z = true ∨ i.bytes = 0)) := by
  intro z hz hq
  rcases hq.2 with h3 | h3
  ·rw [hz] at h3; cases h3
  ·omega
 have hn' : ¬ (sLen + n ≤ cap) := by omega
 unfold Builtin.append_
 simp only [hts, List.getElem?_toArray, List.getElem?_cons_zero, List.getElem?_cons_succ]
 rw [Sem.run_bind, run_underlying hst]
 simp only [Result.andThen_ok]
 rw [Sem.run_bind, run_sizeOf hi]
 simp only [Result.andThen_ok]
 subst hsz
 have hti : ∀ w, (Go.typeInfo elem).run P w = .ok i w := fun w => run_typeInfo hi w
 have hb9 := hbig false rfl
 cases h1 : ts[1]? with
 | none =>
  unfold appGrow
  simp only [Sem.run_bind, Sem.run_pure, Result.andThen_ok, Bool.false_eq_true, if_false, hl, if_neg hn', Bool.not_false, if_true, hti, false_or, hby]
  rw [if_neg (fun hq => absurd hq.2 (by omega))]
  simp only [Sem.run_bind, hti, Result.andThen_ok, hby]
  rw [if_neg (by rw [← hby]; exact hcap)]
  simp only [Sem.run_bind, hti, Result.andThen_ok, hby, Sem.run_pure]
 | some xt =>
  obtain ⟨d, hd, hne⟩ := h.t1 xt h1
  dsimp only
  rw [Sem.run_bind, run_underlying hd]
  simp only [Result.andThen_ok]
  unfold appGrow
  simp only [Sem.run_bind, Sem.run_pure, Result.andThen_ok, Bool.false_eq_true, if_false, hl, if_neg hn', Bool.not_false, if_true, hti, false_or, hby]
  rw [if_neg (fun hq => absurd hq.2 (by omega))]
  simp only [Sem.run_bind, hti, Result.andThen_ok, hby]
  rw [if_neg (by rw [← hby]; exact hcap)]
  simp only [Sem.run_bind, hti, Result.andThen_ok, hby, Sem.run_pure]
end
end Go.Ev
end
section
set_option linter.unusedVariables false
set_option linter.unusedSimpArgs false
namespace Go.Ev
variable {α β γ δ : Type}
section
variable {E : Env} {K : Kr} {w w' : World}

theorem Rel.adopt (h : Rel E K w) {p r : Nat} {e : Bool} {o o' : Obj} (hp : E.w0.heap.size ≤ p) (hfree : ∀ b x, E.g ≤ b → K.C.get b = some x → K.σ b ≠ p) (hgh : ∀ o, ¬ E.G p o)
  (hsz : w'.heap.size = w.heap.size) (hos : w'.os = w.os) (htp : w'.tape = w.tape) (hou : w'.output = w.output)
  (hnew : w'.heap[p]? = some o') (hold : ∀ k, k ≠ p → w'.heap[k]? = w.heap[k]?) (ho : RO (K.grow p r (e, o)) e o o') (hroom : e = false → Obj.room E r o o') :
  Rel E (K.grow p r (e, o)) w' := by
 have hE := Ext.grow K p r (e, o)
 have apart : ∀ b x, K.C.get b = some x → K.σ b ≠ p := by
  intro b x hb
  by_cases hg : E.g ≤ b
  ·exact hfree b x hg hb
  ·rw [h.base b (by omega)]; have := h.g0; omega
 refine ⟨?_, h.g0, Nat.le_succ_of_le h.gC, fun b hb => ?_, ?_, ?_, ?_, ?_, ?_, ?_, ?_⟩
 ·exact ⟨hos.trans h.below.os, htp.trans h.below.tape, hou.trans h.below.output, by rw [hsz]; exact h.below.size, fun k hk => by rw [hold k (by omega)]; exact h.below.block k hk⟩
 ·rw [Kr.grow_σ, if_neg (by have := h.gC; omega)]; exact h.base b hb
 ·intro b x hb
  rw [Kr.grow_get] at hb
  show b < K.C.size + 1
  by_cases hj : b = K.C.size
  ·omega
  ·rw [if_neg hj] at hb; have := h.dom _ _ hb; omega
 ·intro b e' ob hb
  rw [Kr.grow_get] at hb
  by_cases hj : b = K.C.size
  ·rw [if_pos hj] at hb
   simp only [Option.some.injEq, Prod.mk.injEq] at hb
   obtain ⟨rfl, rfl⟩ := hb
   exact ⟨o', by rw [Kr.grow_σ, if_pos hj]; exact hnew, ho⟩
  ·rw [if_neg hj] at hb
   obtain ⟨o2, h1, h2⟩ := h.obj _ _ _ hb
   exact ⟨o2, by rw [Kr.grow_σ, if_neg hj, hold _ (apart b _ hb)]; exact h1, h2.ext hE⟩
 ·intro b ob hb ob' hob'
  rw [Kr.grow_get] at hb
  by_cases hj : b = K.C.size
  ·rw [if_pos hj] at hb
   simp only [Option.some.injEq, Prod.mk.injEq] at hb
   obtain ⟨rfl, rfl⟩ := hb
   rw [Kr.grow_σ, if_pos hj, hnew] at hob'
   have : o' = ob' := Option.some.inj hob'
   rw [← this, Kr.grow_pc, if_pos hj]
   exact hroom rfl
  ·rw [if_neg hj] at hb
   rw [Kr.grow_σ, if_neg hj, hold _ (apart b _ hb)] at hob'
   rw [Kr.grow_pc, if_neg hj]
   exact h.room b ob hb ob' hob'
 ·intro b x hgb hb
  rw [Kr.grow_get] at hb
  rw [Kr.grow_σ]
  by_cases hj : b = K.C.size
  ·rw [if_pos hj]; exact hp
  ·rw [if_neg hj] at hb ⊢; exact h.own _ _ hgb hb
 ·intro b b' x x' hgb hgb' hb hb' heq
  rw [Kr.grow_get] at hb hb'
  rw [Kr.grow_σ, Kr.grow_σ] at heq
  by_cases hj : b = K.C.size
  ·by_cases hj' : b' = K.C.size
   ·omega
   ·rw [if_neg hj'] at hb' heq
    rw [if_pos hj] at heq
    exact absurd heq.symm (hfree b' _ hgb' hb')
  ·rw [if_neg hj] at hb heq
   by_cases hj' : b' = K.C.size
   ·rw [if_pos hj'] at heq
    exact absurd heq (hfree b _ hgb hb)
   ·rw [if_neg hj'] at hb' heq
    exact h.inj _ _ _ _ hgb hgb' hb hb' heq
 ·intro k ok hk
  have hkp : k ≠ p := fun e => hgh ok (e ▸ hk)
  obtain ⟨h1, h2, h3⟩ := h.ghost k ok hk
  refine ⟨h1, by rw [hold k hkp]; exact h2, fun j x hgj hj => ?_⟩
  rw [Kr.grow_get] at hj
  rw [Kr.grow_σ]
  by_cases hjs : j = K.C.size
  ·rw [if_pos hjs]; exact Ne.symm hkp
  ·rw [if_neg hjs] at hj ⊢
   exact h3 j x hgj hj
 ·intro j c hj
  obtain ⟨h1, h2⟩ := h.tab j c hj
  refine ⟨h1, fun i v hv => ?_⟩
  have h3 := h.g0
  rw [cell?_same (hold j (by omega))]
  exact h2 i v hv

theorem Rel.noGhost (h : Rel E K w) {b : Nat} {x : Bool × Obj} (hg : E.g ≤ b) (hb : K.C.get b = some x) (o : Obj) : ¬ E.G (K.σ b) o :=
 fun hk => absurd rfl ((h.ghost _ _ hk).2.2 b x hg hb)

theorem Ext.back {K K2 : Kr} (h0 : K2.C = K.C) (h : Ext K K2) : Ext K2 K :=
 ⟨by rw [h0]; exact Nat.le_refl _, fun b hb => (h.σ b (by rw [← h0]; exact hb)).symm, fun b hb => (h.pc b (by rw [← h0]; exact hb)).symm, fun b hb => .inr (by rw [h0])⟩

def firstC (P : Program) (C : W) (size n : Nat) (x : Value) : Option (Array Value) := rrun P (Builtin.firstCells size n x) C

theorem loadCellsFrom_world {P : Program} {a : Addr} : ∀ (n i : Nat) (acc arr : Array Value) (w w' : World), (Go.loadCellsFrom a i n acc).run P w = .ok arr w' → (∀ j, j < n → (w.cell? (a.add (i + j))).isSome = true) → w' = w
 | 0, i, acc, arr, w, w', h, _ => by simp [Go.loadCellsFrom, Pure.pure] at h; exact h.2.symm
 | n + 1, i, acc, arr, w, w', h, hc => by
  unfold Go.loadCellsFrom at h
  rw [Sem.run_bind] at h
  have h0 := hc 0 (by omega)
  simp only [Nat.add_zero] at h0
  cases hv : w.cell? (a.add i) with
  | none => rw [hv] at h0; cases h0
  | some v =>
   have : (Go.load (a.add i)).run P w = .ok v w := by simp [Go.load, Sem.run, hv]
   rw [this] at h
   exact loadCellsFrom_world n (i + 1) _ arr w w' h fun j hj => by
    have := hc (j + 1) (by omega)
    rw [show i + 1 + j = i + (j + 1) from by omega]
    exact this

theorem rrun_loadCellsFrom {P : Program} {C : W} {a : Addr} : ∀ (n i : Nat) (acc arr : Array Value), rrun P (Go.loadCellsFrom a i n acc) C = some arr → ∀ j, j < n → (C.cell? (a.add (i + j))).isSome = true
 | 0, i, acc, arr, h, j, hj => by omega
 | n + 1, i, acc, arr, h, j, hj => by
  have h' : rrun P (Sem.load .plain (a.add i) fun v => Go.loadCellsFrom a (i + 1) n (acc.push v)) C = some arr := h
  simp only [rrun] at h'
  cases hv : C.cell? (a.add i) with
  | none => simp [hv] at h'
  | some v =>
   simp only [hv] at h'
   cases j with
   | zero => simp [hv]
   | succ j =>
    have := rrun_loadCellsFrom n (i + 1) _ arr h' j (by omega)
    rw [show i + (j + 1) = i + 1 + j from by omega]
    exact this

def takeK : List Value → Nat → Option (List Value)
 | _, 0 => some []
 | [], _ + 1 => none
 | v :: l, n + 1 => match known v with
  | some v => match takeK l n with
   | some r => some (v :: r)
   | none => none
  | none => none

theorem cell?_add {C : W} {a : Addr} {e : Bool} {c : Array Value} {el : TypeId} {f : Nat × Nat} (hg : C.get a.block = some (e, .cells c el f)) (hs : a.spot = none) (i : Nat) : C.cell? (a.add i) = match c.toList[a.off + i]? with
  | some v => known v
  | none => none := by
 have h1 : a.add i = ⟨a.block, a.off + i, none⟩ := by
  obtain ⟨b, o, s⟩ := a
  simp only at hs
  subst hs
  unfold Addr.add
  by_cases h : i = 0 <;> simp [h]
 unfold W.cell?
 rw [h1, hg]
 simp only [lget_eq]
 try (cases c.toList[a.off + i]? <;> rfl)

theorem takeK_rrun {P : Program} {C : W} {a : Addr} {e : Bool} {c : Array Value} {el : TypeId} {f : Nat × Nat} (hg : C.get a.block = some (e, .cells c el f)) (hs : a.spot = none) : ∀ (n i : Nat) (acc : Array Value) (l : List Value), takeK (c.toList.drop (a.off + i)) n = some l →
  rrun P (Go.loadCellsFrom a i n acc) C = some (acc ++ l)
 | 0, i, acc, l, h => by
  simp only [takeK, Option.some.injEq] at h
  subst h
  simp [Go.loadCellsFrom, Pure.pure, rrun]
 | n + 1, i, acc, l, h => by
  show rrun P (Sem.load .plain (a.add i) fun v => Go.loadCellsFrom a (i + 1) n (acc.push v)) C = _
  simp only [rrun]
  rw [cell?_add hg hs]
  cases hd : c.toList.drop (a.off + i) with
  | nil => rw [hd] at h; cases h
  | cons v r =>
   rw [hd] at h
   have hv : c.toList[a.off + i]? = some v := by
    have : (c.toList.drop (a.off + i))[0]? = some v := by rw [hd]; rfl
    rw [List.getElem?_drop] at this
    simpa using this
   have hr : c.toList.drop (a.off + (i + 1)) = r := by
    have : (c.toList.drop (a.off + i)).drop 1 = r := by rw [hd]; rfl
    rw [List.drop_drop] at this
    rw [show a.off + (i + 1) = a.off + i + 1 from by omega]
    exact this
   rw [hv]
   unfold takeK at h
   cases hk : known v with
   | none => simp only [hk] at h; cases h
   | some u =>
    simp only [hk] at h ⊢
    split at h
    ·rename_i r2 hr2
     simp only [Option.some.injEq] at h
     subst h
     rw [takeK_rrun hg hs n (i + 1) (acc.push u) r2 (by rw [hr]; exact hr2)]
     simp
    ·cases h

def apA (x y : Array Value) : Array Value := ⟨x.toList ++ y.toList⟩
theorem apA_eq (x y : Array Value) : apA x y = x ++ y := by
 apply Array.toList_inj.1
 simp [apA]

def firstF (P : Program) (C : W) (size n : Nat) (x : Value) : Option (Array Value) := match x with
 | .slice (some a) _ _ => match C.get a.block with
  | some (_, .cells c _ _) => match a.spot with
   | none => match takeK (c.toList.drop a.off) (n * size) with
    | some l => some ⟨l⟩
    | none => none
   | some _ => none
  | _ => none
 | .string s => some ⟨(s.data.toList.take n).map fun b => .int .u8 b.toNat⟩
 | x => rrun P (Builtin.firstCells size n x) C

theorem firstF_firstC {P : Program} {C : W} {size n : Nat} {x : Value} {c : Array Value} (h : firstF P C size n x = some c) : firstC P C size n x = some c := by
 unfold firstF at h
 split at h
 ·rename_i a _ _
  split at h
  ·rename_i e c0 el f hg
   split at h
   ·rename_i hs
    split at h
    ·rename_i l hl
     simp only [Option.some.injEq] at h
     subst h
     have := takeK_rrun (P := P) hg hs (n * size) 0 #[] l (by simpa using hl)
     show rrun P (Go.loadCellsFrom a 0 (n * size) #[]) C = _
     rw [this]
     simp
    ·cases h
   ·cases h
  ·cases h
 ·rename_i s
  simp only [Option.some.injEq] at h
  subst h
  show some ((s.extract 0 n).data.map fun b => Value.int .u8 b.toNat) = _
  congr 1
  apply Array.toList_inj.1
  simp [ByteArray.extract, ByteArray.copySlice]
 ·exact h

theorem firstC_sound (h : Rel E K w) {size n : Nat} {x x' : Value} {c : Array Value} (hx : RV K x x') (hc : firstC E.P K.C size n x = some c) :
  ∃ c', (Builtin.firstCells size n x').run E.P w = .ok c' w ∧ RA K c c' := by
 cases hx with
 | nilSlice a b =>
  have : c = #[] := by simpa [firstC, Builtin.firstCells, Pure.pure, rrun] using hc.symm
  subst this
  exact ⟨#[], rfl, RA.empty _⟩
 | string s =>
  have : (s.extract 0 n).data.map (fun b => Value.int .u8 b.toNat) = c := by simpa [firstC, Builtin.firstCells, Pure.pure, rrun] using hc
  subst this
  refine ⟨_, rfl, RL.same (plainN 0) (RV.plain K 0) _ ?_⟩
  rw [Array.toList_map, List.all_map, List.all_eq_true]
  intro x hx
  rfl
 | slice a len cp cp' ha hcc he hp =>
  have hc' : rrun E.P (Go.loadCellsFrom a 0 (n * size) #[]) K.C = some c := hc
  have h1 := crun_of_rrun E.g hc'
  obtain ⟨K2, w2, y, h0, h2, h3, h4, h5⟩ := Sim.loadCellsFrom (E := E) (w := w) (n * size) 0 (⟨ha, rfl⟩ : RAd K a (K.addr a)) (RA.empty K) h _ _ h1
  have hw : w2 = w := loadCellsFrom_world _ _ _ _ _ _ h2 fun j hj => by
   have := rrun_loadCellsFrom _ _ _ _ hc' j hj
   cases hv : K.C.cell? (a.add (0 + j)) with
   | none => rw [hv] at this; cases this
   | some v =>
    obtain ⟨_, v', h6, _⟩ := h.cell hv
    rw [addr_add, h6]; rfl
  subst hw
  exact ⟨y, h2, h5.ext (Ext.back h0 h4)⟩
 | _ => simp [firstC, Builtin.firstCells, Go.stuck, rrun] at hc

end
end Go.Ev
end
section
set_option linter.unusedVariables false
set_option linter.unusedSimpArgs false
namespace Go.Ev
variable {α β γ δ : Type}
section
variable {E : Env} {K : Kr} {w w' : World}

def lenC : Value → Option Nat
 | .slice _ n _ => some n
 | .string s => some s.size
 | _ => none

theorem lenC_sound {x x' : Value} {n : Nat} (hx : RV K x x') (h : lenC x = some n) {P : Program} (w : World) : (Builtin.lenOf x').run P w = .ok n w := by
 cases hx <;> simp [lenC] at h <;> subst h <;> rfl

def zerosOK (P : Program) (ts : Array TypeId) : Bool := match ts[1]? with
 | none => true
 | some xt => match P.underlying xt with
  | some (.int _) => false
  | some _ => true
  | none => false

def grownC (E : Env) (C : W) (el : TypeId) (size need sLen : Nat) (base : Option Addr) (cells : Array Value) : Option (Next × W) :=
 match base with
 | none => some (.value (.slice (some ⟨C.size, 0, none⟩) need need), C.push (false, .cells cells el))
 | some a => match C.get a.block with
  | some (true, _) => some (.value (.slice (some ⟨C.size, 0, none⟩) need need), C.push (false, .cells cells el))
  | some (false, .cells _ el2 f) =>
   cond (Nat.beq a.off 0 && a.spot.isNone && Nat.beq el2 el && Nat.ble f.2 (sLen * size) && Nat.ble E.g a.block)
    (some (.value (.slice (some ⟨C.size, 0, none⟩) need need), (C.put a.block none).push (false, .cells cells el f))) none
  | _ => none

def appC (E : Env) (C : W) (ts : Array TypeId) (s x : Value) : Option (Next × W) :=
 match ts[0]?, s, lenC x with
 | some st, .slice base sLen sCap, some n => match E.P.underlying st with
  | some (.slice el) => match E.P.info? el with
   | some i => cond (zerosOK E.P ts) (match firstF E.P C i.size n x with
    | none => none
    | some new => cond (Nat.ble (sLen + n) sCap)
     (match base with
      | none => some (.value (.slice none (sLen + n) sCap), C)
      | some a => match crun E.P E.g (Go.storeCells (a.add (sLen * i.size)) new.toList) C with
       | some (_, C') => some (.value (.slice base (sLen + n) sCap), C')
       | none => none)
     (cond (Nat.blt 0 i.bytes && Nat.ble ((2 * (sLen + n) + 768) * i.bytes) (2 ^ 48) && szOK E.P el && i.zero.isSome && new.toList.all (·.oneCell'))
      (match firstF E.P C i.size sLen s with
       | none => none
       | some old => cond (Nat.beq old.size (sLen * i.size) && Nat.beq new.size (n * i.size)) (grownC E C el i.size (sLen + n) sLen base (apA old new)) none)
      none)) none
   | none => none
  | _ => none
 | _, _, _ => none

theorem appHyp {P : Program} {ts : Array TypeId} {st el : TypeId} {i : TypeInfo} (h0 : ts[0]? = some st) (h1 : P.underlying st = some (.slice el)) (h2 : P.info? el = some i) (hz : zerosOK P ts = true) :
  AppHyp P ts el i.size i.bytes := by
 refine ⟨⟨st, h0, h1⟩, fun xt hx => ?_, ⟨i, h2, rfl, rfl⟩⟩
 unfold zerosOK at hz
 simp only [hx] at hz
 split at hz
 ·cases hz
 ·rename_i d hne hd
  exact ⟨d, hd, fun k hk => by subst hk; exact hne k rfl⟩
 ·cases hz

theorem run_appGrow {P : Program} {elem : TypeId} {i : TypeInfo} {z : Value} (hi : P.info? elem = some i) (hz : i.zero = some z) {size sLen n need cap : Nat} {s x : Value} {old new : Array Value} {w : World}
  (ho : (Builtin.firstCells size sLen s).run P { w with drawn := w.drawn + 1 } = .ok old { w with drawn := w.drawn + 1 }) (hn : (Builtin.firstCells size n x).run P { w with drawn := w.drawn + 1 } = .ok new { w with drawn := w.drawn + 1 }) :
  ∃ newCap, need ≤ newCap ∧ (appGrow elem i.bytes size sLen n need cap s x).run P w =
   .ok (.slice (some ⟨w.heap.size, 0, none⟩) need newCap) (({ w with drawn := w.drawn + 1 } : World).alloc (.cells (old ++ new ++ Builtin.zeroCells z.cells (newCap - need)) elem)) := by
 refine ⟨(Question.appendCap need cap elem).cut (w.tape w.drawn (Question.appendCap need cap elem)), by simp only [Question.cut]; omega, ?_⟩
 unfold appGrow
 have hch : (Go.choose (.appendCap need cap elem)).run P w = .ok ((Question.appendCap need cap elem).cut (w.tape w.drawn (Question.appendCap need cap elem))) { w with drawn := w.drawn + 1 } := by
  simp [Go.choose, Sem.run, Question.forced]
 rw [Sem.run_bind, hch]
 simp only [Result.andThen_ok]
 have hask : ∀ (m : Nat) (w1 : World), (Go.askRoom m).run P w1 = .ok () w1 := by
  intro m w1
  unfold Go.askRoom
  split <;> rfl
 rw [Sem.run_bind, hask]
 simp only [Result.andThen_ok]
 rw [Sem.run_bind, ho]
 simp only [Result.andThen_ok]
 rw [Sem.run_bind, hn]
 simp only [Result.andThen_ok]
 have hzv : ∀ w1, (Go.zeroValue elem).run P w1 = .ok z w1 := by
  intro w1
  unfold Go.zeroValue
  rw [Sem.run_bind, run_typeInfo hi]
  simp [hz, Pure.pure]
 rw [Sem.run_bind, hzv]
 rfl

theorem oneCell_rel {v v' : Value} (h : RV K v v') : v'.oneCell' = v.oneCell' := by cases h <;> rfl

theorem all_oneCell {l l' : List Value} (h : RL K l l') : l.all (·.oneCell') = true → ∀ v ∈ l', v.oneCell' = true := by
 induction h with
 | nil => intro _ v hv; cases hv
 | cons h t ih =>
  intro ha v hv
  simp only [List.all_cons, Bool.and_eq_true] at ha
  cases hv with
  | head => rw [oneCell_rel h]; exact ha.1
  | tail _ hm => exact ih ha.2 v hm

theorem zeroCells_size (z : Array Value) (n : Nat) : (Builtin.zeroCells z n).size = n * z.size := by simp [Builtin.zeroCells]

theorem getD_append_left {a b : Array Value} {i : Nat} (h : i < a.size) : (a ++ b).getD i undef = a.getD i undef := by
 simp [Array.getD, h, Nat.lt_of_lt_of_le h (Nat.le_add_right _ _), Array.getElem_append_left h]

theorem grow_new (h : Rel E K w) {el : TypeId} {i : TypeInfo} {z : Value} (hi : E.P.info? el = some i) (hz : i.zero = some z) (hsz : i.size = z.cells.size) {need newCap : Nat} (hle : need ≤ newCap) {cells cells' : Array Value} {f : Nat × Nat}
  (hc : RA K cells cells') (hcs : cells.size = need * i.size) :
  Rel E (K.grow w.heap.size newCap (false, .cells cells el f)) (({ w with drawn := w.drawn + 1 } : World).alloc (.cells (cells' ++ Builtin.zeroCells z.cells (newCap - need)) el)) ∧
  RV (K.grow w.heap.size newCap (false, .cells cells el f)) (.slice (some ⟨K.C.size, 0, none⟩) need need) (.slice (some ⟨w.heap.size, 0, none⟩) need newCap) := by
 have hE := Ext.grow K w.heap.size newCap (false, .cells cells el f)
 have hcs' : cells'.size = need * i.size := by rw [← hc.size]; exact hcs
 have hcell : E.P.cellsOf el = i.size := by simp [Program.cellsOf, hi]
 have hw : Rel E K ({ w with drawn := w.drawn + 1 } : World) := h.same rfl rfl rfl rfl
 constructor
 ·refine Rel.push (K := K) (w := { w with drawn := w.drawn + 1 }) hw (e := false) (p := newCap) ?_ (fun _ => ?_)
  ·refine .cells _ _ el f (0, 0) ?_ (by intro e; cases e) (.inl rfl) fun j hj => .inr ?_
   ·simp only [Array.size_append]; rw [← hc.size]; omega
   ·rw [getD_append_left (by rw [← hc.size]; exact hj)]
    exact (hc.at j hj).ext hE
  ·show (cells' ++ Builtin.zeroCells z.cells (newCap - need)).size = newCap * E.P.cellsOf el
   rw [Array.size_append, zeroCells_size, hcs', hcell, ← hsz, ← Nat.add_mul, Nat.add_sub_cancel' hle]
 ·have ha : (K.grow w.heap.size newCap (false, .cells cells el f)).addr ⟨K.C.size, 0, none⟩ = ⟨w.heap.size, 0, none⟩ := by
   simp [Kr.addr, Kr.grow_σ]
  rw [← ha]
  refine .slice _ _ _ _ (Nat.lt_succ_self _) hle (fun e => ?_) (fun e _ => ?_)
  ·rw [Kr.grow_fl] at e; simp at e
  ·rw [Kr.grow_pc, if_pos rfl]; exact Nat.le_refl _

theorem grow_in (h : Rel E K w) {el : TypeId} {i : TypeInfo} (hi : E.P.info? el = some i) {b sLen n cap : Nat} {c : Array Value} {f : Nat × Nat} {old old' new new' : Array Value}
  (hb : K.C.get b = some (false, .cells c el f)) (hg : E.g ≤ b) (hf : f.2 ≤ sLen * i.size) (hcap : cap ≤ K.pc b) (hn : sLen + n ≤ cap)
  (hold : RA K old old') (hos : old.size = sLen * i.size) (hnew : RA K new new') (hns : new.size = n * i.size) (h1 : ∀ v ∈ new'.toList, v.oneCell' = true)
  (hread : ∀ j, j < old'.size → w.cell? ⟨K.σ b, j, none⟩ = some (old'.getD j undef)) :
  ∃ K' w', K'.C = (K.C.put b none).push (false, .cells (old ++ new) el f) ∧ (Go.storeCells (⟨K.σ b, sLen * i.size, none⟩ : Addr) new'.toList).run E.P w = .ok () w' ∧ Rel E K' w' ∧ Ext K K' ∧
   RV K' (.slice (some ⟨K.C.size, 0, none⟩) (sLen + n) (sLen + n)) (.slice (some ⟨K.σ b, 0, none⟩) (sLen + n) cap) := by
 obtain ⟨o', ho, hro⟩ := h.obj _ _ _ hb
 have hcell : E.P.cellsOf el = i.size := by simp [Program.cellsOf, hi]
 cases hro with
 | cells _ c' _ _ f' hsz he hfz hh =>
  have hroom : c'.size = K.pc b * i.size := by
   have := h.room b _ hb _ ho
   simpa [Obj.room, hcell] using this
  have hfit : sLen * i.size + 0 + new'.toList.length ≤ c'.size := by
   have e1 : new'.toList.length = n * i.size := by simp [← hnew.size, hns]
   rw [e1, hroom, Nat.add_zero, ← Nat.add_mul]
   exact Nat.mul_le_mul_right _ (by omega)
  have hrun := run_storeCells_atF E.P (K.σ b) (sLen * i.size) el f' new'.toList 0 c' w ho (by have := hfz.le hf; omega) hfit h1
  have hlen : new'.toList.length = n * i.size := by simp [← hnew.size, hns]
  have hos' : old'.size = sLen * i.size := by rw [← hold.size]; exact hos
  generalize hR : (c'.toList.take (sLen * i.size + 0) ++ new'.toList ++ c'.toList.drop (sLen * i.size + 0 + new'.toList.length)).toArray = R at hrun
  have hRs : R.size = c'.size := by
   rw [← hR]
   simp only [List.size_toArray, List.length_append, List.length_take, List.length_drop, Array.length_toList]
   simp only [Array.length_toList] at hfit
   omega
  obtain ⟨hd, hEd⟩ := h.drop b
  have hE2 := Ext.grow (⟨K.σ, K.pc, K.C.put b none⟩ : Kr) (K.σ b) (K.pc b) (false, .cells (old ++ new) el f)
  have hE := hEd.trans hE2
  have hp := h.own b _ hg hb
  have hold' : ∀ k, k ≠ K.σ b → (w.setRow (K.σ b) R).heap[k]? = w.heap[k]? := by
   intro k hk
   simp only [World.setRow, Array.getElem?_modify]
   rw [if_neg (fun e => hk e.symm)]
  refine ⟨(⟨K.σ, K.pc, K.C.put b none⟩ : Kr).grow (K.σ b) (K.pc b) (false, .cells (old ++ new) el f), _, rfl, hrun, ?_, hE, ?_⟩
  ·refine Rel.adopt hd hp (fun j x hgj hj => ?_) (h.noGhost hg hb) (by simp [World.setRow]) rfl rfl rfl (setRow_heap w (K.σ b) c' R el f' ho) hold' (e := false) ?_ (fun _ => ?_)
   ·have hj : (K.C.put b none).get j = some x := hj
    rw [W.get_put] at hj
    by_cases hjb : j = b
    ·simp [hjb] at hj
    ·simp only [hjb, if_false] at hj
     exact h.apart hg hb hj hjb
   ·refine .cells _ _ el f f' ?_ (by intro e; cases e) hfz fun j hj => .inr ?_
    ·rw [Array.size_append, hos, hns, hRs]
     simp only [hlen] at hfit
     omega
    ·rw [Array.size_append] at hj
     have hRj : ∀ k, R.getD k undef = (c'.toList.take (sLen * i.size + 0) ++ new'.toList ++ c'.toList.drop (sLen * i.size + 0 + new'.toList.length)).getD k undef := by
      intro k; rw [← hR]; simp
     have hc : sLen * i.size ≤ c'.size := by simp only [hlen] at hfit; omega
     by_cases hjo : j < old.size
     ·rw [getD_append_left hjo]
      have hj' : j < old'.size := by rw [← hold.size]; exact hjo
      have h9 := hread j hj'
      simp only [World.cell?, ho, Option.isSome_none, Bool.false_eq_true, if_false] at h9
      have h10 : R.getD j undef = old'.getD j undef := by
       rw [hRj, List.append_assoc]
       have hjt : j < (c'.toList.take (sLen * i.size + 0)).length := by simp; omega
       rw [List.getD_eq_getElem?_getD, List.getElem?_append_left hjt, List.getElem?_take, if_pos (by omega), Array.getElem?_toList, h9]
       rfl
      rw [h10]
      exact (hold.at j hjo).ext hE
     ·have h11 : (old ++ new).getD j undef = new.getD (j - old.size) undef := by
       simp only [Array.getD_eq_getD_getElem?]
       rw [Array.getElem?_append_right (by omega)]
      have h12 : R.getD j undef = new'.getD (j - old.size) undef := by
       rw [hRj, List.append_assoc]
       have hle : (c'.toList.take (sLen * i.size + 0)).length = old.size := by simp; omega
       simp only [List.getD_eq_getElem?_getD, Array.getD_eq_getD_getElem?]
       rw [List.getElem?_append_right (by omega), hle, List.getElem?_append_left (by simp [← hnew.size]; omega)]
       simp
      rw [h11, h12]
      exact (hnew.at _ (by omega)).ext hE
   ·show R.size = K.pc b * E.P.cellsOf el
    rw [hRs, hcell, hroom]
  ·have hsz2 : (K.C.put b none).size = K.C.size := rfl
   have ha : ((⟨K.σ, K.pc, K.C.put b none⟩ : Kr).grow (K.σ b) (K.pc b) (false, .cells (old ++ new) el f)).addr ⟨K.C.size, 0, none⟩ = ⟨K.σ b, 0, none⟩ := by
    simp [Kr.addr, Kr.grow_σ, hsz2]
   rw [← ha]
   refine .slice _ _ _ _ (Nat.lt_succ_self _) hn (fun e => ?_) (fun e _ => ?_)
   ·have := Kr.grow_fl (⟨K.σ, K.pc, K.C.put b none⟩ : Kr) (K.σ b) (K.pc b) (false, .cells (old ++ new) el f)
    have e := this.symm.trans e
    simp at e
   ·show cap ≤ (if K.C.size = K.C.size then K.pc b else K.pc K.C.size)
    rw [if_pos rfl]; exact hcap

end
end Go.Ev
end
section
set_option linter.unusedVariables false
set_option linter.unusedSimpArgs false
namespace Go.Ev
variable {α β γ δ : Type}
section
variable {E : Env} {K : Kr} {w w' : World}

theorem run_v {P : Program} {s : Sem Value} {y : Value} {w w' : World} (h : s.run P w = .ok y w') : (do Pure.pure (Next.value (← s)) : Sem Next).run P w = .ok (.value y) w' := by
 rw [Sem.run_bind, h]; rfl

theorem run_appIn_some {P : Program} {a : Addr} {sLen need cap size n : Nat} {x : Value} {new : Array Value} {w w' : World} (hn : (Builtin.firstCells size n x).run P w = .ok new w) (hs : (Go.storeCells (a.add (sLen * size)) new.toList).run P w = .ok () w') :
  (appIn (some a) sLen need cap size n x).run P w = .ok (.slice (some a) need cap) w' := by
 unfold appIn
 rw [Sem.run_bind, hn]
 simp only [Result.andThen_ok]
 rw [Sem.run_bind, hs]
 rfl

theorem run_appIn_none {P : Program} {sLen need cap size n : Nat} {x : Value} {new : Array Value} {w : World} (hn : (Builtin.firstCells size n x).run P w = .ok new w) :
  (appIn none sLen need cap size n x).run P w = .ok (.slice none need cap) w := by
 unfold appIn
 rw [Sem.run_bind, hn]
 rfl

theorem firstC_read (h : Rel E K w) {a : Addr} {len cap size n : Nat} {c c' : Array Value} (hc : firstC E.P K.C size n (.slice (some a) len cap) = some c) {len' cap' : Nat}
  (hc' : (Builtin.firstCells size n (.slice (some (K.addr a)) len' cap')).run E.P w = .ok c' w) : c'.size = n * size ∧ ∀ j, j < c'.size → w.cell? ((K.addr a).add j) = some (c'.getD j undef) := by
 have h1 : rrun E.P (Go.loadCellsFrom a 0 (n * size) #[]) K.C = some c := hc
 have h2 := rrun_loadCellsFrom _ _ _ _ h1
 have h3 : ∀ j, j < n * size → w.cell? ((K.addr a).add j) = some ((w.cell? ((K.addr a).add j)).getD undef) := by
  intro j hj
  have h4 := h2 j hj
  rw [Nat.zero_add] at h4
  cases hv : K.C.cell? (a.add j) with
  | none => rw [hv] at h4; cases h4
  | some v =>
   obtain ⟨_, v', h6, _⟩ := h.cell hv
   rw [addr_add, h6]; rfl
 have h5 := run_loadCells (P := E.P) w (K.addr a) (n * size) (fun j => (w.cell? ((K.addr a).add j)).getD undef) h3
 have h6 : (Go.loadCells (K.addr a) (n * size)).run E.P w = .ok c' w := hc'
 rw [h5] at h6
 simp only [Result.ok.injEq, and_true] at h6
 subst h6
 refine ⟨by simp, fun j hj => ?_⟩
 have hj' : j < n * size := by simpa using hj
 rw [h3 j hj']
 simp [Array.getD, hj']

theorem appC_sound {ts : Array TypeId} {t : TypeId} {s s' x x' : Value} (hs : RV K s s') (hx : RV K x x') :
  Snd E K w (appC E K.C ts s x) (do Pure.pure (.value (← Builtin.append_ ts t #[s', x']))) := by
 intro hR nx C' hc
 unfold appC at hc
 split at hc
 case h_2 => cases hc
 rename_i st base sLen sCap n hst hlen
 split at hc
 case h_2 => cases hc
 rename_i el hel
 split at hc
 case h_2 => cases hc
 rename_i i hi
 cases hz : zerosOK E.P ts with
 | false => simp [hz] at hc
 | true =>
  simp only [hz, cond_true] at hc
  have hyp := appHyp hst hel hi hz
  have hl' := fun w => lenC_sound hx hlen (P := E.P) w
  split at hc
  ·cases hc
  rename_i new hnew
  have hnew := firstF_firstC hnew
  obtain ⟨new', hnrun, hnrel⟩ := firstC_sound hR hx hnew
  cases hfit : Nat.ble (sLen + n) sCap with
  | true =>
   have hle := Nat.le_of_ble_eq_true hfit
   simp only [hfit, cond_true] at hc
   cases hs with
   | nilSlice _ _ =>
    simp only [Option.some.injEq, Prod.mk.injEq] at hc
    obtain ⟨rfl, rfl⟩ := hc
    refine ⟨K, w, .value (.slice none (sLen + n) sCap), rfl, run_v ?_, hR, Ext.refl _, .value (.nilSlice _ _)⟩
    rw [run_append_in hyp w (hl' w) hle]
    exact run_appIn_none hnrun
   | slice a _ _ cap' ha hcc he hp =>
    simp only at hc
    cases hst2 : crun E.P E.g (Go.storeCells (a.add (sLen * i.size)) new.toList) K.C with
    | none => simp [hst2] at hc
    | some p =>
     obtain ⟨_, C1⟩ := p
     simp only [hst2, Option.some.injEq, Prod.mk.injEq] at hc
     obtain ⟨rfl, rfl⟩ := hc
     have had : RAd K (a.add (sLen * i.size)) ((K.addr a).add (sLen * i.size)) := RAd.add ⟨ha, rfl⟩ _
     obtain ⟨K1, w1, y, h0, h1, h2, h3, _⟩ := Sim.storeCells (E := E) (w := w) 0 had hnrel hR _ _ hst2
     refine ⟨K1, w1, .value (.slice (some (K.addr a)) (sLen + n) cap'), h0, run_v ?_, h2, h3, .value ?_⟩
     ·rw [run_append_in hyp w (hl' w) (Nat.le_trans hle hcc)]
      exact run_appIn_some hnrun h1
     ·exact (RV.slice a _ _ _ ha hcc he hp).ext h3
  | false =>
   simp only [hfit, cond_false] at hc
   have hgt : sCap < sLen + n := by
    rcases Nat.lt_or_ge sCap (sLen + n) with h' | h'
    ·exact h'
    ·rw [Nat.ble_eq_true_of_le h'] at hfit; cases hfit
   cases hq : (Nat.blt 0 i.bytes && Nat.ble ((2 * (sLen + n) + 768) * i.bytes) (2 ^ 48) && szOK E.P el && i.zero.isSome && new.toList.all (·.oneCell')) with
   | false => rw [hq] at hc; cases hc
   | true =>
    rw [hq] at hc
    simp only [cond_true] at hc
    simp only [Bool.and_eq_true] at hq
    obtain ⟨⟨⟨⟨hq1, hq2⟩, hq3⟩, hq4⟩, hq5⟩ := hq
    have hb0 : 0 < i.bytes := Nat.le_of_ble_eq_true hq1
    have hroom := Nat.le_of_ble_eq_true hq2
    obtain ⟨z, hzz⟩ := Option.isSome_iff_exists.1 hq4
    have hsz : i.size = z.cells.size := by
     unfold szOK at hq3
     simp only [hi, hzz, Bool.and_eq_true, beq_iff_eq] at hq3
     exact hq3.2
    split at hc
    ·cases hc
    rename_i old hold
    have hold := firstF_firstC hold
    rw [apA_eq] at hc
    cases hsz2 : (Nat.beq old.size (sLen * i.size) && Nat.beq new.size (n * i.size)) with
    | false => simp [hsz2] at hc
    | true =>
     simp only [hsz2, cond_true] at hc
     simp only [Bool.and_eq_true] at hsz2
     have hos := Nat.eq_of_beq_eq_true hsz2.1
     have hns := Nat.eq_of_beq_eq_true hsz2.2
     obtain ⟨old', horun, horel⟩ := firstC_sound hR hs hold
     have hcs : (old ++ new).size = (sLen + n) * i.size := by rw [Array.size_append, hos, hns, Nat.add_mul]
     have hR1 : Rel E K ({ w with drawn := w.drawn + 1 } : World) := hR.same rfl rfl rfl rfl
     obtain ⟨old1, horun1, horel1⟩ := firstC_sound hR1 hs hold
     obtain ⟨new1, hnrun1, hnrel1⟩ := firstC_sound hR1 hx hnew
     unfold grownC at hc
     -- a new row, from K2, which has given up what it has
     have fresh : ∀ (K2 : Kr) (f : Nat × Nat) (base' : Option Addr) (cap' : Nat), s' = .slice base' sLen cap' → cap' < sLen + n → Rel E K2 w → Ext K K2 → K2.C.size = K.C.size →
       ∃ K' w' nx', K'.C = K2.C.push (false, .cells (old ++ new) el f) ∧ (do Pure.pure (.value (← Builtin.append_ ts t #[s', x'])) : Sem Next).run E.P w = .ok nx' w' ∧ Rel E K' w' ∧ Ext K K' ∧
        RN K' (.value (.slice (some ⟨K.C.size, 0, none⟩) (sLen + n) (sLen + n))) nx' := by
      intro K2 f base' cap' hs' hcap' hR2 hE2 hsz2
      subst hs'
      obtain ⟨newCap, hle, hrun⟩ := run_appGrow (P := E.P) hi hzz (need := sLen + n) (cap := cap') horun1 hnrun1
      obtain ⟨g1, g2⟩ := grow_new hR2 hi hzz hsz hle (f := f) ((horel1.append hnrel1).ext hE2) hcs
      refine ⟨_, _, .value (.slice (some ⟨w.heap.size, 0, none⟩) (sLen + n) newCap), rfl, run_v ?_, g1, hE2.trans (Ext.grow _ _ _ _), .value ?_⟩
      ·rw [run_append_grow hyp w (hl' w) hcap' hb0 hroom]
       exact hrun
      ·rw [hsz2] at g2
       exact g2
     cases hs with
     | nilSlice _ _ =>
      simp only [Option.some.injEq, Prod.mk.injEq] at hc
      obtain ⟨rfl, rfl⟩ := hc
      exact fresh K (0, 0) none sCap rfl hgt hR (Ext.refl _) rfl
     | slice a _ _ cap' ha hcc he hp =>
      simp only at hc
      split at hc
      ·rename_i ob hb
       simp only [Option.some.injEq, Prod.mk.injEq] at hc
       obtain ⟨rfl, rfl⟩ := hc
       have hcap : cap' = sCap := he (by simp [W.fl, hb])
       exact fresh K (0, 0) _ cap' rfl (by omega) hR (Ext.refl _) rfl
      ·rename_i c el2 f hb
       cases hq6 : (Nat.beq a.off 0 && a.spot.isNone && Nat.beq el2 el && Nat.ble f.2 (sLen * i.size) && Nat.ble E.g a.block) with
       | false => rw [hq6] at hc; cases hc
       | true =>
        rw [hq6] at hc
        simp only [cond_true, Option.some.injEq, Prod.mk.injEq] at hc
        obtain ⟨rfl, rfl⟩ := hc
        simp only [Bool.and_eq_true] at hq6
        obtain ⟨⟨⟨⟨q1, q2⟩, q3⟩, q4⟩, q5⟩ := hq6
        have hoff := Nat.eq_of_beq_eq_true q1
        have hspot : a.spot = none := by simpa using q2
        have hel2 := Nat.eq_of_beq_eq_true q3
        subst hel2
        have hg := Nat.le_of_ble_eq_true q5
        have hka : K.addr a = ⟨K.σ a.block, 0, none⟩ := by simp [Kr.addr, hoff, hspot]
        by_cases hin : sLen + n ≤ cap'
        ·have hread := firstC_read hR hold horun
         obtain ⟨K', w', e1, e2, e3, e4, e5⟩ := grow_in hR hi hb hg (Nat.le_of_ble_eq_true q4) (hp (by simp [W.fl, hb]) hoff) hin horel hos hnrel hns (all_oneCell hnrel hq5)
          (fun j hj => by
           have := hread.2 j hj
           rw [hka] at this
           have e9 : (⟨K.σ a.block, 0, none⟩ : Addr).add j = ⟨K.σ a.block, j, none⟩ := by unfold Addr.add; split <;> simp_all
           rw [e9] at this; exact this)
         refine ⟨K', w', .value (.slice (some (K.addr a)) (sLen + n) cap'), e1, run_v ?_, e3, e4, .value ?_⟩
         ·rw [run_append_in hyp w (hl' w) hin]
          refine run_appIn_some hnrun ?_
          rw [hka]
          have e9 : (⟨K.σ a.block, 0, none⟩ : Addr).add (sLen * i.size) = ⟨K.σ a.block, sLen * i.size, none⟩ := by unfold Addr.add; split <;> simp_all
          rw [e9]; exact e2
         ·rw [hka]; exact e5
        ·obtain ⟨hd, hEd⟩ := hR.drop a.block
         exact fresh ⟨K.σ, K.pc, K.C.put a.block none⟩ f _ cap' rfl (by omega) hd hEd rfl
      ·cases hc
     | _ => cases hc
def appZ (E : Env) (C : W) (ts : Array TypeId) (s x : Value) : Option (Next × W) :=
 match ts.toList, s, x with
 | [st, xt], .slice none 0 0, .int _ (Int.ofNat m) => match E.P.underlying st, E.P.underlying xt with
  | some (.slice el), some (.int _) => match E.P.info? el with
   | some i => match i.zero with
    | some z => cond (Nat.blt 0 m && Nat.blt 0 i.size && Nat.ble (m * i.bytes) 281474976710656 && Nat.ble m 9223372036854775807 && szOK E.P el)
     (some (.value (.slice (some ⟨C.size, 0, none⟩) m m), C.push (false, .cells (Builtin.zeroCells z.cells m) el))) none
    | none => none
   | none => none
  | _, _ => none
 | _, _, _ => none
theorem appZ_sound {ts : Array TypeId} {t : TypeId} {s s' x x' : Value} (hs : RV K s s') (hx : RV K x x') :
  Snd E K w (appZ E K.C ts s x) (do Pure.pure (.value (← Builtin.append_ ts t #[s', x']))) := by
 intro hR nx C' hc
 unfold appZ at hc
 split at hc
 case h_2 => cases hc
 rename_i st xt k m hts
 split at hc
 case h_2 => cases hc
 rename_i el kn hst hxt
 split at hc
 case h_2 => cases hc
 rename_i i hi
 split at hc
 case h_2 => cases hc
 rename_i z hz
 cases hq : (Nat.blt 0 m && Nat.blt 0 i.size && Nat.ble (m * i.bytes) 281474976710656 && Nat.ble m 9223372036854775807 && szOK E.P el) with
 | false => rw [hq] at hc; cases hc
 | true =>
  rw [hq] at hc
  simp only [cond_true, Option.some.injEq, Prod.mk.injEq] at hc
  obtain ⟨rfl, rfl⟩ := hc
  simp only [Bool.and_eq_true] at hq
  obtain ⟨⟨⟨⟨q1, q2⟩, q3⟩, q4⟩, q5⟩ := hq
  have h1 : 0 < m := Nat.le_of_ble_eq_true q1
  have h2 : 0 < i.size := Nat.le_of_ble_eq_true q2
  have h3 := Nat.le_of_ble_eq_true q3
  have h4 := Nat.le_of_ble_eq_true q4
  have hsz : plainN 2 z = true ∧ i.size = z.cells.size := by
   unfold szOK at q5
   simp only [hi, hz, Bool.and_eq_true, beq_iff_eq] at q5
   exact q5
  obtain rfl : ts = #[st, xt] := Array.toList_inj.1 hts
  cases hs with
  | nilSlice _ _ =>
   cases hx with
   | int _ _ =>
    have hrun := Lib.run_append_nil_zeros (P := E.P) w st xt t el i z k kn hst hxt hi hz m h1 h2 (by omega) h3
    have hle : m ≤ grownCap w m 0 el := by unfold grownCap; simp only [Question.cut]; omega
    have hzz : RA K (Builtin.zeroCells z.cells m) (Builtin.zeroCells z.cells m) := by
     have hzc := (RV.plain K 2 z hsz.1).cells
     refine RL.of_get _ _ rfl fun j hj => ?_
     have hj2 : j < m * z.cells.size := by rw [Array.length_toList, zeroCells_size] at hj; exact hj
     have hpos : 0 < z.cells.size := by rw [← hsz.2]; exact h2
     have hm := Nat.mod_lt j hpos
     have e : (Builtin.zeroCells z.cells m).toList.getD j undef = z.cells.getD (j % z.cells.size) undef := by
      unfold Builtin.zeroCells
      simp [List.getD, Array.getD, hj2, hm]
     rw [e]
     exact hzc.at _ hm
    obtain ⟨g1, g2⟩ := grow_new hR hi hz hsz.2 hle (f := (0, 0)) hzz (by rw [zeroCells_size, hsz.2])
    exact ⟨_, _, .value (.slice (some ⟨w.heap.size, 0, none⟩) m (grownCap w m 0 el)), rfl, run_v hrun, g1, Ext.grow _ _ _ _, .value g2⟩
def appB (E : Env) (C : W) (ts : Array TypeId) (s x : Value) : Option (Next × W) := match appC E C ts s x with
 | some r => some r
 | none => appZ E C ts s x
theorem appB_sound {ts : Array TypeId} {t : TypeId} {s s' x x' : Value} (hs : RV K s s') (hx : RV K x x') :
  Snd E K w (appB E K.C ts s x) (do Pure.pure (.value (← Builtin.append_ ts t #[s', x']))) := by
 unfold appB
 cases h : appC E K.C ts s x with
 | some r => have := appC_sound (E := E) (w := w) (ts := ts) (t := t) hs hx; rw [h] at this; exact this
 | none => exact appZ_sound hs hx
end
end Go.Ev
end
section
set_option linter.unusedVariables false
set_option linter.unusedSimpArgs false
namespace Go.Ev
variable {α β γ δ : Type}
section
variable {E : Env} {K : Kr} {w w' : World}

def plainO (o : Option Value) : Bool := match o with
 | some v => plainN 0 v
 | none => true

theorem prun_panic (P : Program) (e : RuntimeError) : prun P (runtimePanic e : Sem α) = none := by
 unfold runtimePanic
 rw [prun_bind]
 simp only [Go.program, prun, Option.bind_some]
 cases e <;> first | rfl | (simp only [prun_bind, Go.newVar, Go.newRow, Go.newObj, prun]; rfl) | skip
 all_goals
  rw [prun_bind]
  cases prun P (elemOf _) with
  | none => rfl
  | some e => rfl

theorem prun_boundsPanic (P : Program) (k : IntKind) (x y : Int) (c : BoundsCode) : prun P (Go.boundsPanic k x y c : Sem α) = none := by
 unfold Go.boundsPanic
 dsimp only
 split <;> (rw [prun_bind]; cases prun P _ <;> first | rfl | exact prun_panic _ _)

theorem sliceBound_spec {P : Program} {v : Value} {y : Nat} {c : BoundsCode} {n : Nat} (h : prun P (Instr.sliceBound v y c) = some n) : n ≤ y ∧ ∀ y', y ≤ y' → prun P (Instr.sliceBound v y' c) = some n := by
 unfold Instr.sliceBound at h ⊢
 rw [prun_bind] at h
 cases hv : prun P (Go.asIntOf v) with
 | none => simp [hv] at h
 | some x =>
  obtain ⟨k, i⟩ := x
  simp only [hv, Option.bind_some] at h
  by_cases hq : 0 ≤ i ∧ i ≤ (y : Int)
  ·rw [if_pos hq] at h
   have : i.toNat = n := by simpa [Pure.pure, prun] using h
   refine ⟨by omega, fun y' hy => ?_⟩
   rw [prun_bind, hv]
   simp only [Option.bind_some]
   rw [if_pos (by omega)]
   simp [Pure.pure, prun, this]
  ·rw [if_neg hq, prun_boundsPanic] at h; cases h

theorem sliceBounds_spec {P : Program} {len cap : Nat} {lo hi : Option Value} {r : Nat × Nat × Nat} (h : prun P (Instr.sliceBounds true len cap lo hi none) = some r) :
  r.2.2 = cap ∧ ∀ cap', cap ≤ cap' → prun P (Instr.sliceBounds true len cap' lo hi none) = some (r.1, r.2.1, cap') := by
 unfold Instr.sliceBounds at h ⊢
 cases hi with
 | none =>
  cases lo with
  | none =>
   simp only [prun_bind, Pure.pure, prun, Option.bind_some, Option.some.injEq] at h ⊢
   subst h
   exact ⟨rfl, fun _ _ => rfl⟩
  | some v =>
   simp only [prun_bind, Pure.pure, prun, Option.bind_some] at h ⊢
   cases hb : prun P (Instr.sliceBound v len .sliceB) with
   | none => simp [hb] at h
   | some l =>
    simp only [Option.isSome_none, Bool.false_eq_true, if_false, hb, Option.bind_some, Option.some.injEq] at h ⊢
    subst h
    exact ⟨rfl, fun _ _ => rfl⟩
 | some u =>
  cases hb : prun P (Instr.sliceBound u cap .sliceAcap) with
  | none => simp [prun_bind, Pure.pure, prun, hb] at h
  | some hh =>
   have hspec := sliceBound_spec hb
   cases lo with
   | none =>
    simp only [prun_bind, Pure.pure, prun, Option.bind_some, if_true, hb, Option.some.injEq] at h ⊢
    subst h
    refine ⟨rfl, fun cap' hc => ?_⟩
    rw [hspec.2 cap' hc]
    rfl
   | some v =>
    simp only [prun_bind, Pure.pure, prun, Option.bind_some, if_true, hb, Option.isSome_none, Bool.false_eq_true, if_false] at h ⊢
    cases hb2 : prun P (Instr.sliceBound v hh .sliceB) with
    | none => simp [hb2] at h
    | some l =>
     simp only [hb2, Option.bind_some, Option.some.injEq] at h
     subst h
     refine ⟨rfl, fun cap' hc => ?_⟩
     rw [hspec.2 cap' hc]
     simp only [Option.bind_some, hb2]

theorem sliceBounds_max {P : Program} {len cap : Nat} {lo hi : Option Value} {x : Value} {r : Nat × Nat × Nat} (h : prun P (Instr.sliceBounds true len cap lo hi (some x)) = some r) :
  r.2.2 ≤ cap ∧ ∀ cap', cap ≤ cap' → prun P (Instr.sliceBounds true len cap' lo hi (some x)) = some r := by
 unfold Instr.sliceBounds at h ⊢
 cases hb : prun P (Instr.sliceBound x cap .slice3Acap) with
 | none => simp [prun_bind, hb] at h
 | some m =>
  have hspec := sliceBound_spec hb
  simp only [prun_bind, Pure.pure, prun, Option.bind_some, if_true, hb] at h ⊢
  have hm : r.2.2 = m := by
   cases hi with
   | none => simp [prun_bind, Go.stuck, prun] at h
   | some u =>
    cases hb2 : prun P (Instr.sliceBound u m .slice3B) with
    | none => simp [prun_bind, hb2] at h
    | some hh =>
     cases lo with
     | none =>
      simp [prun_bind, hb2, prun, Pure.pure] at h
      rw [← h]
     | some v =>
      cases hb3 : prun P (Instr.sliceBound v hh .slice3C) with
      | none => simp [prun_bind, hb2, hb3, prun, Pure.pure] at h
      | some l =>
       simp [prun_bind, hb2, hb3, prun, Pure.pure] at h
       rw [← h]
  refine ⟨by rw [hm]; exact hspec.1, fun cap' hc => ?_⟩
  rw [hspec.2 cap' hc]
  exact h

def sliceC (P : Program) (C : W) (t : TypeId) (v : Value) (lo hi mx : Option Value) : Option Value :=
 cond (plainO lo && plainO hi && plainO mx) (match P.underlying t, v with
  | some (.slice elem), .slice (some a) n c => match prun P (Instr.sliceBounds true n c lo hi mx), prun P (Go.sizeOf elem) with
   | some (l, h, m), some sz => cond (Nat.beq (C.fl a.block) 1 || (mx.isSome || Nat.blt l m)) (some (.slice (some (cond (Nat.beq m l) a (a.add (l * sz)))) (h - l) (m - l))) none
   | _, _ => none
  | some (.array len elem), .pointer (some a) => match prun P (Instr.sliceBounds false len len lo hi mx), prun P (Go.sizeOf elem) with
   | some (l, h, m), some sz => cond (Nat.beq (C.fl a.block) 1) (some (.slice (some (cond (Nat.beq m l) a (a.add (l * sz)))) (h - l) (m - l))) none
   | _, _ => none
  | _, _ => none) none

def ROp (K : Kr) (o o' : Option Value) : Prop := (o = none ∧ o' = none) ∨ ∃ v v', o = some v ∧ o' = some v' ∧ RV K v v'

theorem ROp.eq {o o' : Option Value} (h : ROp K o o') (hp : plainO o = true) : o' = o := by
 rcases h with ⟨rfl, rfl⟩ | ⟨v, v', rfl, rfl, hv⟩
 ·rfl
 ·rw [RV.plain_eq K 0 v v' hp hv]

theorem cond_beq (m l : Nat) (a b : Addr) : (cond (Nat.beq m l) a b) = if m = l then a else b := by
 by_cases h : m = l
 ·subst h; simp
 ·have : Nat.beq m l = false := by
   cases hb : Nat.beq m l with
   | false => rfl
   | true => exact absurd (Nat.eq_of_beq_eq_true hb) h
  rw [this, if_neg h]; rfl

theorem sliceC_sound {t : TypeId} {v v' r : Value} {lo hi mx lo' hi' mx' : Option Value} (hv : RV K v v') (hlo : ROp K lo lo') (hhi : ROp K hi hi') (hmx : ROp K mx mx')
  (h : sliceC E.P K.C t v lo hi mx = some r) : ∃ r', (Instr.sliceAt t v' lo' hi' mx').run E.P w = .ok r' w ∧ RV K r r' := by
 unfold sliceC at h
 cases hp : (plainO lo && plainO hi && plainO mx) with
 | false => rw [hp] at h; cases h
 | true =>
  rw [hp] at h
  simp only [cond_true] at h
  simp only [Bool.and_eq_true] at hp
  rw [hlo.eq hp.1.1, hhi.eq hp.1.2, hmx.eq hp.2]
  split at h
  ·rename_i elem a n c hu
   cases hv with
   | slice _ _ _ c' ha hcc he hpc =>
    split at h
    case h_2 => cases h
    rename_i l hh m sz hb hsz
    cases hq : (Nat.beq (K.C.fl a.block) 1 || (mx.isSome || Nat.blt l m)) with
    | false => rw [hq] at h; cases h
    | true =>
     rw [hq] at h
     simp only [cond_true, Option.some.injEq] at h
     subst h
     have hrun : ∀ (m' : Nat), prun E.P (Instr.sliceBounds true n c' lo hi mx) = some (l, hh, m') →
       (Instr.sliceAt t (.slice (some (K.addr a)) n c') lo hi mx).run E.P w = .ok (.slice (some (if m' = l then K.addr a else (K.addr a).add (l * sz))) (hh - l) (m' - l)) w := by
      intro m' hm'
      unfold Instr.sliceAt
      rw [Sem.run_bind, run_underlying hu]
      simp only [Result.andThen_ok]
      unfold Instr.slice
      rw [Sem.run_bind, run_underlying hu]
      simp only [Result.andThen_ok]
      rw [Sem.run_bind, run_of_prun hm']
      simp only [Result.andThen_ok]
      rw [Sem.run_bind, run_of_prun hsz]
      simp only [Result.andThen_ok, Option.map_some]
      by_cases hml : m' = l
      ·simp [hml, Pure.pure]
      ·simp [hml, Pure.pure]
     by_cases h1 : K.C.fl a.block = 1
     ·have hc' : c' = c := he h1
      subst hc'
      refine ⟨_, hrun m hb, ?_⟩
      rw [cond_beq]
      by_cases hml : m = l
      ·rw [if_pos hml, if_pos hml]
       exact .slice a _ _ _ ha (Nat.le_refl _) (fun _ => rfl) (fun e => by rw [h1] at e; cases e)
      ·rw [if_neg hml, if_neg hml, addr_add]
       refine .slice _ _ _ _ (by rw [add_block]; exact ha) (Nat.le_refl _) (fun _ => rfl) (fun e => ?_)
       rw [add_block, h1] at e; cases e
     ·have h2 : mx.isSome = true ∨ l < m := by
       have : Nat.beq (K.C.fl a.block) 1 = false := by
        cases hb1 : Nat.beq (K.C.fl a.block) 1 with
        | false => rfl
        | true => exact absurd (Nat.eq_of_beq_eq_true hb1) h1
       rw [this] at hq
       simp only [Bool.false_or, Bool.or_eq_true] at hq
       rcases hq with hq | hq
       ·exact .inl hq
       ·exact .inr (Nat.le_of_ble_eq_true hq)
      cases mx with
      | some x =>
       obtain ⟨e1, e2⟩ := sliceBounds_max hb
       simp only at e1
       refine ⟨_, hrun m (e2 c' hcc), ?_⟩
       rw [cond_beq]
       by_cases hml : m = l
       ·rw [if_pos hml, if_pos hml]
        refine .slice a _ _ _ ha (Nat.le_refl _) (fun _ => rfl) (fun e ho => ?_)
        have := hpc e ho
        omega
       ·rw [if_neg hml, if_neg hml, addr_add]
        refine .slice _ _ _ _ (by rw [add_block]; exact ha) (Nat.le_refl _) (fun _ => rfl) (fun e ho => ?_)
        rw [add_block] at e ⊢
        by_cases hz : l * sz = 0
        ·have : a.off = 0 := by simpa [Addr.add, hz] using ho
         have := hpc e this
         omega
        ·exfalso
         have ho' : (a.add (l * sz)).off = 0 := ho
         simp only [Addr.add, hz, if_false] at ho'
         omega
      | none =>
       have hlm : l < m := by
        rcases h2 with h2 | h2
        ·cases h2
        ·exact h2
       obtain ⟨e1, e2⟩ := sliceBounds_spec hb
       simp only at e1 e2
       subst e1
       refine ⟨_, hrun c' (e2 c' hcc), ?_⟩
       rw [cond_beq, if_neg (by omega), if_neg (by omega), addr_add]
       refine .slice _ _ _ _ (by rw [add_block]; exact ha) (by omega) (fun e => ?_) (fun e ho => ?_)
       ·rw [add_block] at e; exact absurd e h1
       ·rw [add_block] at e ⊢
        by_cases hz : l * sz = 0
        ·have : a.off = 0 := by simpa [Addr.add, hz] using ho
         have := hpc e this
         omega
        ·exfalso
         have ho' : (a.add (l * sz)).off = 0 := ho
         simp only [Addr.add, hz, if_false] at ho'
         omega
  ·rename_i len elem a hu
   cases hv with
   | ptr _ ha =>
    split at h
    case h_2 => cases h
    rename_i l hh m sz hb hsz
    cases hq : Nat.beq (K.C.fl a.block) 1 with
    | false => rw [hq] at h; cases h
    | true =>
     rw [hq] at h
     simp only [cond_true, Option.some.injEq] at h
     subst h
     have h1 := Nat.eq_of_beq_eq_true hq
     refine ⟨.slice (some (if m = l then K.addr a else (K.addr a).add (l * sz))) (hh - l) (m - l), ?_, ?_⟩
     ·unfold Instr.sliceAt
      rw [Sem.run_bind, run_underlying hu]
      simp only [Result.andThen_ok, Instr.sureAddr]
      rw [Sem.run_bind]
      simp only [Sem.run_pure, Result.andThen_ok]
      rw [Sem.run_bind, run_of_prun hb]
      simp only [Result.andThen_ok]
      rw [Sem.run_bind, run_of_prun hsz]
      rfl
     ·rw [cond_beq]
      by_cases hml : m = l
      ·rw [if_pos hml, if_pos hml]
       exact .slice a _ _ _ ha (Nat.le_refl _) (fun _ => rfl) (fun e => by rw [h1] at e; cases e)
      ·rw [if_neg hml, if_neg hml, addr_add]
       refine .slice _ _ _ _ (by rw [add_block]; exact ha) (Nat.le_refl _) (fun _ => rfl) (fun e => ?_)
       rw [add_block, h1] at e; cases e
  ·cases h
end
end Go.Ev
end
section
set_option linter.unusedVariables false
set_option linter.unusedSimpArgs false
namespace Go.Ev
variable {α β γ δ : Type}
section
variable {E : Env} {K : Kr} {w w' : World}

def keyKind (d : TypeDesc) : Bool := match d with
 | .int _ => true
 | .string => true
 | .bool => true
 | _ => false

inductive RE (K : Kr) : List MapEntry → List MapEntry → Prop
 | nil : RE K [] []
 | cons {e e' : MapEntry} {l l' : List MapEntry} (h : REn K e e') (t : RE K l l') : RE K (e :: l) (e' :: l')

theorem RE.of_get : ∀ (l l' : List MapEntry), l.length = l'.length → (∀ (i : Nat) (x : MapEntry), l[i]? = some x → ∃ x', l'[i]? = some x' ∧ REn K x x') → RE K l l'
 | [], [], _, _ => .nil
 | a :: l, b :: l', hl, h => by
  obtain ⟨x', h1, h2⟩ := h 0 a rfl
  simp only [List.getElem?_cons_zero, Option.some.injEq] at h1
  subst h1
  exact .cons h2 (RE.of_get l l' (by simpa using hl) fun i x hx => by simpa using h (i + 1) x (by simpa using hx))
 | [], _ :: _, hl, _ => by simp at hl
 | _ :: _, [], hl, _ => by simp at hl

theorem sameNow_rel {d : TypeDesc} {k v v' : Value} {b : Bool} (hv : RV K v v') (h : Instr.sameNow d k v = some b) : Instr.sameNow d k v' = some b := by
 have : v' = v := by
  refine RV.plain_eq K 0 v v' ?_ hv
  unfold Instr.sameNow at h
  split at h <;> first | rfl | cases h
 rw [this]; exact h

def RFnd (K : Kr) (r r' : Option (Nat × Value)) : Prop := (r = none ∧ r' = none) ∨ ∃ i v v', r = some (i, v) ∧ r' = some (i, v') ∧ RV K v v'

theorem findNow_rel {d : TypeDesc} {k : Value} : ∀ {l l' : List MapEntry} (i : Nat) {r : Option (Nat × Value)}, RE K l l' → Instr.findNow d k l i = some r → ∃ r', Instr.findNow d k l' i = some r' ∧ RFnd K r r'
 | [], l', i, r, hl, h => by
  cases hl
  simp only [Instr.findNow, Option.some.injEq] at h
  exact ⟨none, rfl, .inl ⟨h.symm, rfl⟩⟩
 | e :: l, l', i, r, hl, h => by
  cases hl with
  | cons he ht =>
   rename_i e' l2
   unfold Instr.findNow at h ⊢
   cases hs : Instr.sameNow d k e.key with
   | none => simp [hs] at h
   | some b =>
    rw [sameNow_rel he.1 hs]
    cases b with
    | true =>
     simp only [hs, Option.some.injEq] at h
     exact ⟨_, rfl, .inr ⟨i, e.val, e'.val, h.symm, rfl, he.2.1⟩⟩
    | false =>
     simp only [hs] at h ⊢
     exact findNow_rel (i + 1) ht h

theorem run_checkKey {P : Program} {empty : Bool} {t : TypeId} {d : TypeDesc} {v : Value} (hd : P.underlying t = some d) (hk : keyKind d = true) (w : World) : (Instr.checkKey empty 10000 t v).run P w = .ok () w := by
 rw [show (10000 : Nat) = 9999 + 1 from rfl]
 unfold Instr.checkKey
 rw [Sem.run_bind, run_underlying hd]
 simp only [Result.andThen_ok]
 cases d <;> simp [keyKind] at hk <;> rfl

theorem run_findKey {P : Program} {t : TypeId} {d : TypeDesc} {k : Value} {l : List MapEntry} {r : Option (Nat × Value)} (hd : P.underlying t = some d) (h : Instr.findNow d k l 0 = some r) (w : World) : (Instr.findKey t k l).run P w = .ok r w := by
 unfold Instr.findKey
 rw [Sem.run_bind, run_underlying hd]
 simp only [Result.andThen_ok, h]
 rfl

def findS (P : Program) (key : TypeId) (k : Value) : List MapEntry → Nat → Option (Option (Nat × Value))
 | [], _ => some none
 | e :: es, i => cond (plainN 2 e.key) (match prun P (Op.equal key k e.key) with
   | some true => cond (Instr.sameBits 10000 e.key k) (some (some (i, e.val))) none
   | some false => findS P key k es (i + 1)
   | none => none) none
theorem findS_ok {P : Program} {key : TypeId} {k : Value} : ∀ {l l' : List MapEntry} (i : Nat) {r : Option (Nat × Value)}, RE K l l' → findS P key k l i = some r →
  ∃ r', RFnd K r r' ∧ (∀ w, (Instr.findAsking key k l' i).run P w = .ok r' w) ∧ (∀ j v, r' = some (j, v) → ∃ e, i ≤ j ∧ l'[j - i]? = some e ∧ Instr.sameBits 10000 e.key k = true)
 | [], l', i, r, hl, h => by
  cases hl
  simp only [findS, Option.some.injEq] at h
  exact ⟨none, .inl ⟨h.symm, rfl⟩, fun w => rfl, fun j v e => by cases e⟩
 | e :: l, l', i, r, hl, h => by
  cases hl with
  | cons he ht =>
   rename_i e' l2
   unfold findS at h
   cases hp : plainN 2 e.key with
   | false => rw [hp] at h; cases h
   | true =>
    rw [hp] at h
    simp only [cond_true] at h
    have hk : e'.key = e.key := RV.plain_eq K 2 e.key e'.key hp he.1
    cases hq : prun P (Op.equal key k e.key) with
    | none => rw [hq] at h; cases h
    | some b =>
     have hrun := fun w => run_of_prun hq w
     rw [hq] at h
     cases b with
     | true =>
      simp only at h
      cases hb : Instr.sameBits 10000 e.key k with
      | false => rw [hb] at h; cases h
      | true =>
       rw [hb] at h
       simp only [cond_true, Option.some.injEq] at h
       refine ⟨some (i, e'.val), .inr ⟨i, e.val, e'.val, h.symm, rfl, he.2.1⟩, fun w => ?_, fun j v hj => ?_⟩
       ·unfold Instr.findAsking
        rw [hk, Sem.run_bind, hrun]
        simp
       ·simp only [Option.some.injEq, Prod.mk.injEq] at hj
        obtain ⟨rfl, rfl⟩ := hj
        exact ⟨e', Nat.le_refl _, by simp, by rw [hk]; exact hb⟩
     | false =>
      simp only at h
      obtain ⟨r', h1, h2, h3⟩ := findS_ok (i + 1) ht h
      refine ⟨r', h1, fun w => ?_, fun j v hj => ?_⟩
      ·unfold Instr.findAsking
       rw [hk, Sem.run_bind, hrun]
       simpa using h2 w
      ·obtain ⟨e2, g1, g2, g3⟩ := h3 j v hj
       refine ⟨e2, by omega, ?_, g3⟩
       rw [show j - i = (j - (i + 1)) + 1 by omega]
       simpa using g2
def isStruct : TypeDesc → Bool
 | .struct _ => true
 | _ => false
def keyOK (P : Program) (key : TypeId) (kd : TypeDesc) (ix : Value) : Bool :=
 (keyKind kd && plainN 0 ix) || (isStruct kd && plainN 2 ix && (prun P (Instr.checkKey true 10000 key ix)).isSome && (prun P (Instr.checkKey false 10000 key ix)).isSome)
def findG (P : Program) (key : TypeId) (kd : TypeDesc) (ix : Value) (l : List MapEntry) : Option (Option (Nat × Value)) := cond (isStruct kd) (findS P key ix l 0) (Instr.findNow kd ix l 0)
theorem keyOK_eq {P : Program} {key : TypeId} {kd : TypeDesc} {ix ix' : Value} (h : keyOK P key kd ix = true) (hr : RV K ix ix') : ix' = ix := by
 unfold keyOK at h
 rw [Bool.or_eq_true] at h
 rcases h with h | h
 ·rw [Bool.and_eq_true] at h; exact RV.plain_eq K 0 ix ix' h.2 hr
 ·simp only [Bool.and_eq_true] at h; exact RV.plain_eq K 2 ix ix' h.1.1.2 hr
theorem run_checkKeyG {P : Program} {empty : Bool} {t : TypeId} {d : TypeDesc} {v : Value} (hd : P.underlying t = some d) (hk : keyOK P t d v = true) (w : World) : (Instr.checkKey empty 10000 t v).run P w = .ok () w := by
 unfold keyOK at hk
 rw [Bool.or_eq_true] at hk
 rcases hk with h | h
 ·rw [Bool.and_eq_true] at h; exact run_checkKey hd h.1 w
 ·simp only [Bool.and_eq_true] at h
  cases empty with
  | true =>
   obtain ⟨u, hu⟩ := Option.isSome_iff_exists.1 h.1.2
   exact run_of_prun hu w
  | false =>
   obtain ⟨u, hu⟩ := Option.isSome_iff_exists.1 h.2
   exact run_of_prun hu w
theorem findNow_struct (fs : Array Field) (k : Value) (l : List MapEntry) : Instr.findNow (.struct fs) k l 0 = some none ∧ l = [] ∨ Instr.findNow (.struct fs) k l 0 = none := by
 cases l with
 | nil => exact .inl ⟨rfl, rfl⟩
 | cons e l => right; unfold Instr.findNow; rfl
theorem run_getObj_map {P : Program} {r : Nat} {es : Array MapEntry} {clock : Nat} {w : World} (h : w.heap[r]? = some (.map es clock)) : (Go.getObj r).run P w = .ok (.map es clock) w := by
 simp [Go.getObj, Sem.run, h]

theorem Rel.map (h : Rel E K w) {r : Nat} {e : Bool} {es : Array MapEntry} {clock : Nat} (hg : K.C.get r = some (e, .map es clock)) :
  ∃ es', w.heap[K.σ r]? = some (.map es' clock) ∧ RE K es.toList es'.toList ∧ es.size = es'.size := by
 obtain ⟨o', ho, hro⟩ := h.obj _ _ _ hg
 cases hro with
 | map _ es' _ hs hh => exact ⟨es', ho, RE.of_get _ _ (by simpa using hs) (fun i x hx => by
   obtain ⟨x', h1, h2⟩ := hh i x (by simpa using hx)
   exact ⟨x', by simpa using h1, h2⟩), hs⟩

theorem ba_eq {a b : ByteArray} (h : (a == b) = true) : a = b := by
 cases a; cases b
 exact congrArg ByteArray.mk (eq_of_beq h)
theorem ba_self (a : ByteArray) : (a == a) = true := by
 cases a
 exact beq_self_eq_true (α := Array UInt8) _
theorem sameNow_eq {d : TypeDesc} {k x : Value} (h : Instr.sameNow d k x = some true) : x = k ∧ Instr.sameBits 10000 x k = true := by
 unfold Instr.sameNow at h
 split at h
 ·rename_i q a q' b
  split at h
  ·rename_i hk
   subst hk
   have : a = b := by simpa using h
   subst this
   exact ⟨rfl, by simp [Instr.sameBits]⟩
  ·cases h
 ·rename_i a b
  have : a = b := ba_eq (by simpa using h)
  subst this
  exact ⟨rfl, by simp only [Instr.sameBits]; exact ba_self a⟩
 ·rename_i a b
  have : a = b := by simpa using h
  subst this
  exact ⟨rfl, by simp [Instr.sameBits]⟩
 ·cases h

theorem findNow_at {d : TypeDesc} {k : Value} : ∀ (l : List MapEntry) (i0 : Nat) {i : Nat} {v : Value}, Instr.findNow d k l i0 = some (some (i, v)) → ∃ e, i0 ≤ i ∧ l[i - i0]? = some e ∧ Instr.sameNow d k e.key = some true ∧ e.val = v
 | [], i0, i, v, h => by simp [Instr.findNow] at h
 | e :: l, i0, i, v, h => by
  unfold Instr.findNow at h
  cases hs : Instr.sameNow d k e.key with
  | none => simp [hs] at h
  | some b =>
   cases b with
   | true =>
    simp only [hs, Option.some.injEq, Prod.mk.injEq] at h
    obtain ⟨rfl, rfl⟩ := h
    exact ⟨e, Nat.le_refl _, by simp, hs, rfl⟩
   | false =>
    simp only [hs] at h
    obtain ⟨e2, h1, h2, h3, h4⟩ := findNow_at l (i0 + 1) h
    refine ⟨e2, by omega, ?_, h3, h4⟩
    rw [show i - i0 = (i - (i0 + 1)) + 1 by omega]
    simpa using h2

theorem findG_ok {P : Program} {key : TypeId} {kd : TypeDesc} (hkd : P.underlying key = some kd) {ix : Value} {l l' : List MapEntry} {r : Option (Nat × Value)} (hl : RE K l l') (h : findG P key kd ix l = some r) :
  ∃ r', RFnd K r r' ∧ (∀ w, (Instr.findKey key ix l').run P w = .ok r' w) ∧ (∀ j v, r' = some (j, v) → ∃ e, l'[j]? = some e ∧ Instr.sameBits 10000 e.key ix = true) := by
 unfold findG at h
 cases hs : isStruct kd with
 | false =>
  rw [hs] at h
  simp only [cond_false] at h
  obtain ⟨r', h1, h2⟩ := findNow_rel 0 hl h
  refine ⟨r', h2, fun w => run_findKey hkd h1 w, fun j v hj => ?_⟩
  subst hj
  obtain ⟨e, _, g1, g2, _⟩ := findNow_at l' 0 h1
  exact ⟨e, by simpa using g1, (sameNow_eq g2).2⟩
 | true =>
  rw [hs] at h
  simp only [cond_true] at h
  obtain ⟨r', h1, h2, h3⟩ := findS_ok 0 hl h
  refine ⟨r', h1, fun w => ?_, fun j v hj => ?_⟩
  ·obtain ⟨fs, rfl⟩ : ∃ fs, kd = .struct fs := by
    cases kd <;> first | exact ⟨_, rfl⟩ | cases hs
   unfold Instr.findKey
   rw [Sem.run_bind, run_underlying hkd]
   simp only [Result.andThen_ok]
   rcases findNow_struct fs ix l' with ⟨e1, e2⟩ | e1
   ·rw [e1]
    subst e2
    have := h2 w
    simpa [Instr.findAsking] using this
   ·rw [e1]
    exact h2 w
  ·obtain ⟨e, _, g1, g2⟩ := h3 j v hj
   exact ⟨e, by simpa using g1, g2⟩

def entriesC (C : W) (x : Value) : Option (Array MapEntry) := match x with
 | .map none => some #[]
 | .map (some r) => match C.get r with
  | some (_, .map es _) => some es
  | _ => none
 | _ => none

def lookupC (P : Program) (C : W) (t : TypeId) (x ix : Value) (ok : Bool) : Option Value :=
 match P.underlying t, entriesC C x with
 | some (.map key elem), some es => match P.underlying key with
  | some kd => cond (keyOK P key kd ix && zeroOK P elem) (match findG P key kd ix es.toList with
   | some (some (_, v)) => some (cond ok (.tuple #[v, .bool true]) v)
   | some none => match P.info? elem with
    | some i => match i.zero with
     | some z => some (cond ok (.tuple #[z, .bool false]) z)
     | none => none
    | none => none
   | none => none) none
  | none => none
 | _, _ => none

theorem lookupC_sound (hR : Rel E K w) {t : TypeId} {x x' ix ix' r : Value} {ok : Bool} (hx : RV K x x') (hix : RV K ix ix') (h : lookupC E.P K.C t x ix ok = some r) :
  ∃ r', (Instr.lookup t x' ix' ok).run E.P w = .ok r' w ∧ RV K r r' := by
 unfold lookupC at h
 split at h
 case h_2 => cases h
 rename_i key elem es hu hes
 split at h
 case h_2 => cases h
 rename_i kd hkd
 cases hq : (keyOK E.P key kd ix && zeroOK E.P elem) with
 | false => rw [hq] at h; cases h
 | true =>
  rw [hq] at h
  simp only [cond_true] at h
  simp only [Bool.and_eq_true] at hq
  obtain ⟨q1, q3⟩ := hq
  have hixe := keyOK_eq q1 hix
  subst hixe
  -- behind the entries
  have tail : ∀ (es' : Array MapEntry) (w : World), RE K es.toList es'.toList → ∃ r', (do
    Instr.checkKey es'.isEmpty 10000 key ix'
    match ← Instr.findKey key ix' es'.toList with
    | some (_, v) => Pure.pure (if ok = true then Value.tuple #[v, .bool true] else v)
    | none => do
     let z ← Go.zeroValue elem
     Pure.pure (if ok = true then Value.tuple #[z, .bool false] else z) : Sem Value).run E.P w = .ok r' w ∧ RV K r r' := by
   intro es' w hre
   rw [Sem.run_bind, run_checkKeyG hkd q1]
   simp only [Result.andThen_ok]
   split at h
   ·rename_i i v hf
    obtain ⟨q, hq, hf', _⟩ := findG_ok hkd hre hf
    rcases hq with ⟨hq, _⟩ | ⟨i2, v2, v', hq, hq', hv⟩
    ·cases hq
    ·simp only [Option.some.injEq, Prod.mk.injEq] at hq
     obtain ⟨rfl, rfl⟩ := hq
     subst hq'
     rw [Sem.run_bind, hf']
     simp only [Option.some.injEq] at h
     subst h
     refine ⟨_, rfl, ?_⟩
     cases ok
     ·exact hv
     ·exact .tuple' (RA.push (RA.one hv) (.bool true))
   ·rename_i hf
    obtain ⟨q, hq, hf', _⟩ := findG_ok hkd hre hf
    rcases hq with ⟨_, hq⟩ | ⟨i2, v2, v', hq, _, _⟩
    ·subst hq
     rw [Sem.run_bind, hf']
     simp only [Result.andThen_ok]
     split at h
     case h_2 => cases h
     rename_i inf hinf
     split at h
     case h_2 => cases h
     rename_i z hz
     simp only [Option.some.injEq] at h
     subst h
     have hzv : (Go.zeroValue elem).run E.P w = .ok z w := by
      unfold Go.zeroValue
      rw [Sem.run_bind, run_typeInfo hinf]
      simp [hz, Pure.pure]
     rw [Sem.run_bind, hzv]
     refine ⟨_, rfl, ?_⟩
     have hz2 : RV K z z := by
      unfold zeroOK at q3
      simp only [hinf, hz] at q3
      exact RV.plain K 2 z q3
     cases ok
     ·exact hz2
     ·exact .tuple' (RA.push (RA.one hz2) (.bool false))
    ·cases hq
   ·cases h
  unfold Instr.lookup
  rw [Sem.run_bind, run_underlying hu]
  simp only [Result.andThen_ok]
  cases hx with
  | nilMap =>
   have : es = #[] := by simpa [entriesC] using hes.symm
   subst this
   obtain ⟨r', h1, h2⟩ := tail #[] w .nil
   refine ⟨r', ?_, h2⟩
   rw [← h1]
   simp only [Sem.run_bind, Sem.run_pure, Result.andThen_ok]
   cases (Instr.checkKey (#[] : Array MapEntry).isEmpty 10000 key ix').run E.P w with
   | halt _ _ => rfl
   | ok u w1 =>
    simp only [Result.andThen_ok]
    cases (Instr.findKey key ix' (#[] : Array MapEntry).toList).run E.P w1 with
    | halt _ _ => rfl
    | ok q w2 =>
     cases q with
     | none => simp only [Result.andThen_ok, Sem.run_bind, Sem.run_pure]
     | some p => rfl
  | map r0 hr =>
   unfold entriesC at hes
   simp only at hes
   split at hes
   ·rename_i e es2 clock hg
    simp only [Option.some.injEq] at hes
    subst hes
    obtain ⟨es', h1, h2, _⟩ := hR.map hg
    obtain ⟨r', h3, h4⟩ := tail es' w h2
    refine ⟨r', ?_, h4⟩
    rw [← h3, Sem.run_bind, run_getObj_map h1]
    simp only [Sem.run_bind, Sem.run_pure, Result.andThen_ok]
    cases (Instr.checkKey es'.isEmpty 10000 key ix').run E.P w with
    | halt _ _ => rfl
    | ok u w1 =>
     simp only [Result.andThen_ok]
     cases (Instr.findKey key ix' es'.toList).run E.P w1 with
     | halt _ _ => rfl
     | ok q w2 =>
      cases q with
      | none => simp only [Result.andThen_ok, Sem.run_bind, Sem.run_pure]
      | some p => rfl
   ·cases hes
  | _ => simp [entriesC] at hes

def lmod (k v : Value) : List MapEntry → Nat → List MapEntry
 | [], _ => []
 | e :: l, n => match n with
  | 0 => ⟨k, v, e.born⟩ :: l
  | n + 1 => e :: lmod k v l n

theorem lmod_get (k v : Value) : ∀ (l : List MapEntry) (i j : Nat), (lmod k v l i)[j]? = if j = i then (l[j]?).map (fun e => ⟨k, v, e.born⟩) else l[j]?
 | [], i, j => by simp [lmod]
 | e :: l, 0, j => by
  cases j with
  | zero => simp [lmod]
  | succ j => simp [lmod]
 | e :: l, i + 1, j => by
  cases j with
  | zero => simp [lmod]
  | succ j =>
   simp only [lmod, List.getElem?_cons_succ, Nat.add_right_cancel_iff]
   exact lmod_get k v l i j
theorem lmod_length (k v : Value) : ∀ (l : List MapEntry) (i : Nat), (lmod k v l i).length = l.length
 | [], i => rfl
 | e :: l, 0 => rfl
 | e :: l, i + 1 => by simp [lmod, lmod_length k v l i]

def insertC (E : Env) (C : W) (t : TypeId) (m k v : Value) : Option W :=
 match E.P.underlying t, m with
 | some (.map key _), .map (some r) => match C.get r, E.P.underlying key with
  | some (e, .map es clock), some kd => cond (keyOK E.P key kd k && Nat.ble E.g r) (match findG E.P key kd k es.toList with
   | some none => some (C.put r (some (e, .map (es.push { key := k, val := v, born := clock }) (clock + 1))))
   | some (some p) => some (C.put r (some (e, .map ⟨lmod k v es.toList p.1⟩ clock)))
   | none => none) none
  | _, _ => none
 | _, _ => none

theorem insertC_sound {t : TypeId} {m m' k k' v v' : Value} (hm : RV K m m') (hk : RV K k k') (hv : RV K v v') {C' : W} (hR : Rel E K w) (h : insertC E K.C t m k v = some C') :
  ∃ K' w', K'.C = C' ∧ (Instr.mapUpdate t m' k' v').run E.P w = .ok () w' ∧ Rel E K' w' ∧ Ext K K' := by
 unfold insertC at h
 split at h
 case h_2 => cases h
 rename_i key el r hu
 split at h
 case h_2 => cases h
 rename_i e es clock kd hg hkd
 cases hq : (keyOK E.P key kd k && Nat.ble E.g r) with
 | false => rw [hq] at h; cases h
 | true =>
  rw [hq] at h
  simp only [cond_true] at h
  simp only [Bool.and_eq_true] at hq
  obtain ⟨q1, q3⟩ := hq
  have hke := keyOK_eq q1 hk
  subst hke
  cases hf : findG E.P key kd k' es.toList with
  | none => rw [hf] at h; cases h
  | some ans =>
  rw [hf] at h
  cases ans with
  | some p =>
   obtain ⟨i, v0⟩ := p
   simp only [Option.some.injEq] at h
   subst h
   cases hm with
   | map _ hr =>
    obtain ⟨es', h1, h2, hsz⟩ := hR.map hg
    obtain ⟨q, hq, hf', hq9⟩ := findG_ok hkd h2 hf
    obtain ⟨v3, rfl⟩ : ∃ v3, q = some (i, v3) := by
     rcases hq with ⟨hq, _⟩ | ⟨i2, v2, v3, hq, hq2, _⟩
     ·cases hq
     ·simp only [Option.some.injEq, Prod.mk.injEq] at hq
      obtain ⟨rfl, rfl⟩ := hq
      exact ⟨v3, hq2⟩
    obtain ⟨e2, hat, hbits⟩ := hq9 i v3 rfl
    have hat' : es'[i]? = some e2 := by simpa using hat
    have hlt := hR.size_lt hg
    have hro : RO K e (.map ⟨lmod k' v es.toList i⟩ clock) (.map (es'.modify i fun e => { e with key := k', val := v' }) clock) := by
     obtain ⟨o', ho, hro⟩ := hR.obj _ _ _ hg
     rw [h1] at ho
     have ho := Option.some.inj ho
     subst ho
     cases hro with
     | map _ _ _ hs hh =>
      refine .map _ _ _ (by simp [lmod_length, hsz]) fun j x hx => ?_
      have hx : (lmod k' v es.toList i)[j]? = some x := by simpa using hx
      rw [lmod_get] at hx
      by_cases hj : j = i
      ·subst hj
       rw [if_pos rfl] at hx
       obtain ⟨e3, h3, rfl⟩ := Option.map_eq_some_iff.1 hx
       obtain ⟨x', h4, h5⟩ := hh j e3 (by simpa using h3)
       rw [hat'] at h4
       obtain rfl := Option.some.inj h4
       refine ⟨{ e2 with key := k', val := v' }, ?_, hk, hv, h5.2.2⟩
       rw [Array.getElem?_modify, if_pos rfl, hat']
       rfl
      ·rw [if_neg hj] at hx
       obtain ⟨x', h4, h5⟩ := hh j x (by simpa using hx)
       refine ⟨x', ?_, h5⟩
       rw [Array.getElem?_modify, if_neg (fun e => hj e.symm)]
       exact h4
    obtain ⟨g1, g2⟩ := hR.put (w' := { w with heap := w.heap.setIfInBounds (K.σ r) (.map (es'.modify i fun e => { e with key := k', val := v' }) clock) }) hg (Nat.le_of_ble_eq_true q3) hro (fun _ => trivial) (by simp) rfl rfl rfl
     (by simp [hlt]) (fun k hk => by simp [Ne.symm hk])
    refine ⟨⟨K.σ, K.pc, _⟩, _, rfl, ?_, g1, g2⟩
    unfold Instr.mapUpdate
    rw [Sem.run_bind, run_underlying hu]
    simp only [Result.andThen_ok]
    rw [Sem.run_bind, run_getObj_map h1]
    simp only [Result.andThen_ok]
    rw [Sem.run_bind, run_checkKeyG hkd q1]
    simp only [Result.andThen_ok]
    rw [Sem.run_bind, hf']
    simp only [Result.andThen_ok, hat', Option.map_some, Option.getD_some]
    unfold Instr.keyThatStays
    rw [if_pos hbits, Sem.run_bind]
    simp only [Sem.run_pure, Result.andThen_ok, Go.setObj, Sem.run, h1]
  | none =>
  simp only [Option.some.injEq] at h
  subst h
  cases hm with
  | map _ hr =>
   obtain ⟨es', h1, h2, hsz⟩ := hR.map hg
   obtain ⟨q, hq, hf', _⟩ := findG_ok hkd h2 hf
   have hq : q = none := by
    rcases hq with ⟨_, hq⟩ | ⟨i2, v2, v3, hq, _, _⟩
    ·exact hq
    ·cases hq
   subst hq
   have hlt := hR.size_lt hg
   have hro : RO K e (.map (es.push { key := k', val := v, born := clock }) (clock + 1)) (.map (es'.push { key := k', val := v', born := clock }) (clock + 1)) := by
    refine .map _ _ _ (by simp [hsz]) fun i x hx => ?_
    obtain ⟨o', ho, hro⟩ := hR.obj _ _ _ hg
    rw [h1] at ho
    have ho := Option.some.inj ho
    subst ho
    cases hro with
    | map _ _ _ hs hh =>
     rw [Array.getElem?_push] at hx ⊢
     by_cases hi : i = es.size
     ·rw [if_pos hi] at hx
      rw [if_pos (by omega)]
      simp only [Option.some.injEq] at hx
      subst hx
      exact ⟨_, rfl, hk, hv, rfl⟩
     ·rw [if_neg hi] at hx
      rw [if_neg (by omega)]
      exact hh i x hx
   obtain ⟨g1, g2⟩ := hR.put (w' := { w with heap := w.heap.setIfInBounds (K.σ r) (.map (es'.push { key := k', val := v', born := clock }) (clock + 1)) }) hg (Nat.le_of_ble_eq_true q3) hro (fun _ => trivial) (by simp) rfl rfl rfl
    (by simp [hlt]) (fun k hk => by simp [Ne.symm hk])
   refine ⟨⟨K.σ, K.pc, _⟩, _, rfl, ?_, g1, g2⟩
   unfold Instr.mapUpdate
   rw [Sem.run_bind, run_underlying hu]
   simp only [Result.andThen_ok]
   rw [Sem.run_bind, run_getObj_map h1]
   simp only [Result.andThen_ok]
   rw [Sem.run_bind, run_checkKeyG hkd q1]
   simp only [Result.andThen_ok]
   rw [Sem.run_bind, hf']
   simp only [Result.andThen_ok, Go.setObj, Sem.run, h1]
def lkey (k : Value) : List MapEntry → Nat → List MapEntry
 | [], _ => []
 | e :: l, n => match n with
  | 0 => ⟨k, e.val, e.born⟩ :: l
  | n + 1 => e :: lkey k l n
theorem lkey_get (k : Value) : ∀ (l : List MapEntry) (i j : Nat), (lkey k l i)[j]? = if j = i then (l[j]?).map (fun e => ⟨k, e.val, e.born⟩) else l[j]?
 | [], i, j => by simp [lkey]
 | e :: l, 0, j => by
  cases j with
  | zero => simp [lkey]
  | succ j => simp [lkey]
 | e :: l, i + 1, j => by
  cases j with
  | zero => simp [lkey]
  | succ j =>
   simp only [lkey, List.getElem?_cons_succ, Nat.add_right_cancel_iff]
   exact lkey_get k l i j
theorem lkey_length (k : Value) : ∀ (l : List MapEntry) (i : Nat), (lkey k l i).length = l.length
 | [], i => rfl
 | e :: l, 0 => rfl
 | e :: l, i + 1 => by simp [lkey, lkey_length k l i]

def entryC (E : Env) (C : W) (t : TypeId) (m k : Value) : Option (Value × W) :=
 match E.P.underlying t, m with
 | some (.map key elem), .map (some r) => match C.get r, E.P.underlying key with
  | some (e, .map es clock), some kd => cond (keyOK E.P key kd k && Nat.ble E.g r && zeroOK E.P elem) (match findG E.P key kd k es.toList with
   | some none => match E.P.info? elem with
    | some i => match i.zero with
     | some z => some (.tuple #[z, goInt clock], C.put r (some (e, .map (es.push { key := k, val := z, born := clock }) (clock + 1))))
     | none => none
    | none => none
   | some (some p) => some (.tuple #[p.2, goInt (((es[p.1]?).map (·.born)).getD 0)], C.put r (some (e, .map ⟨lkey k es.toList p.1⟩ clock)))
   | none => none) none
  | _, _ => none
 | _, _ => none

theorem entryC_sound {t : TypeId} {m m' k k' v : Value} (hm : RV K m m') (hk : RV K k k') {C' : W} (hR : Rel E K w) (h : entryC E K.C t m k = some (v, C')) :
  ∃ K' w' v', K'.C = C' ∧ (Instr.mapEntry t m' k').run E.P w = .ok v' w' ∧ Rel E K' w' ∧ Ext K K' ∧ RV K' v v' := by
 unfold entryC at h
 split at h
 case h_2 => cases h
 rename_i key el r hu
 split at h
 case h_2 => cases h
 rename_i e es clock kd hg hkd
 cases hq : (keyOK E.P key kd k && Nat.ble E.g r && zeroOK E.P el) with
 | false => rw [hq] at h; cases h
 | true =>
  rw [hq] at h
  simp only [cond_true] at h
  simp only [Bool.and_eq_true] at hq
  obtain ⟨⟨q1, q3⟩, q4⟩ := hq
  have hke := keyOK_eq q1 hk
  subst hke
  cases hf : findG E.P key kd k' es.toList with
  | none => rw [hf] at h; cases h
  | some ans =>
  rw [hf] at h
  cases ans with
  | some p =>
   obtain ⟨i, v0⟩ := p
   simp only [Option.some.injEq, Prod.mk.injEq] at h
   obtain ⟨rfl, rfl⟩ := h
   cases hm with
   | map _ hr =>
    obtain ⟨es', h1, h2, hsz⟩ := hR.map hg
    obtain ⟨q, hq, hf', hq9⟩ := findG_ok hkd h2 hf
    obtain ⟨v3, rfl, hv3⟩ : ∃ v3, q = some (i, v3) ∧ RV K v0 v3 := by
     rcases hq with ⟨hq, _⟩ | ⟨i2, v2, v3, hq, hq2, hv⟩
     ·cases hq
     ·simp only [Option.some.injEq, Prod.mk.injEq] at hq
      obtain ⟨rfl, rfl⟩ := hq
      exact ⟨v3, hq2, hv⟩
    obtain ⟨e2, hat, hbits⟩ := hq9 i v3 rfl
    have hat' : es'[i]? = some e2 := by simpa using hat
    have hlt := hR.size_lt hg
    have hi' : i < es'.size := by
     rcases Nat.lt_or_ge i es'.size with h | h
     ·exact h
     ·rw [Array.getElem?_eq_none h] at hat'; cases hat'
    have hi : i < es.size := by rw [hsz]; exact hi'
    obtain ⟨e1, he1⟩ : ∃ e1, es[i]? = some e1 := ⟨es[i], Array.getElem?_eq_getElem hi⟩
    obtain ⟨o', ho, hro0⟩ := hR.obj _ _ _ hg
    rw [h1] at ho
    have ho := Option.some.inj ho
    subst ho
    have hborn : e2.born = e1.born := by
     cases hro0 with
     | map _ _ _ hs hh =>
      obtain ⟨x', h4, h5⟩ := hh i e1 he1
      rw [hat'] at h4
      obtain rfl := Option.some.inj h4
      exact h5.2.2
    have hro : RO K e (.map ⟨lkey k' es.toList i⟩ clock) (.map (es'.modify i fun e => { e with key := k' }) clock) := by
     cases hro0 with
     | map _ _ _ hs hh =>
      refine .map _ _ _ (by simp [lkey_length, hsz]) fun j x hx => ?_
      have hx : (lkey k' es.toList i)[j]? = some x := by simpa using hx
      rw [lkey_get] at hx
      by_cases hj : j = i
      ·subst hj
       rw [if_pos rfl] at hx
       obtain ⟨e3, h3, rfl⟩ := Option.map_eq_some_iff.1 hx
       obtain ⟨x', h4, h5⟩ := hh j e3 (by simpa using h3)
       rw [hat'] at h4
       obtain rfl := Option.some.inj h4
       refine ⟨{ e2 with key := k' }, ?_, hk, h5.2.1, h5.2.2⟩
       rw [Array.getElem?_modify, if_pos rfl, hat']
       rfl
      ·rw [if_neg hj] at hx
       obtain ⟨x', h4, h5⟩ := hh j x (by simpa using hx)
       refine ⟨x', ?_, h5⟩
       rw [Array.getElem?_modify, if_neg (fun e => hj e.symm)]
       exact h4
    obtain ⟨g1, g2⟩ := hR.put (w' := { w with heap := w.heap.setIfInBounds (K.σ r) (.map (es'.modify i fun e => { e with key := k' }) clock) }) hg (Nat.le_of_ble_eq_true q3) hro (fun _ => trivial) (by simp) rfl rfl rfl
     (by simp [hlt]) (fun k hk => by simp [Ne.symm hk])
    refine ⟨⟨K.σ, K.pc, _⟩, _, .tuple #[v3, goInt e2.born], rfl, ?_, g1, g2, ?_⟩
    ·unfold Instr.mapEntry
     rw [Sem.run_bind, run_underlying hu]
     simp only [Result.andThen_ok]
     rw [Sem.run_bind, run_getObj_map h1]
     simp only [Result.andThen_ok]
     rw [Sem.run_bind, run_checkKeyG hkd q1]
     simp only [Result.andThen_ok]
     rw [Sem.run_bind, hf']
     simp only [Result.andThen_ok, hat', Option.map_some, Option.getD_some]
     unfold Instr.keyThatStays
     rw [if_pos hbits, Sem.run_bind]
     simp only [Sem.run_pure, Result.andThen_ok, Go.setObj, Sem.run_bind]
     simp only [Sem.run, h1, Result.andThen, Pure.pure]
    ·rw [he1]
     simp only [Option.map_some, Option.getD_some, ← hborn]
     exact .tuple' (RA.push (RA.one (hv3.ext g2)) (.int _ _))
  | none =>
  simp only at h
  split at h
  case h_2 => cases h
  rename_i inf hinf
  split at h
  case h_2 => cases h
  rename_i z hz
  simp only [Option.some.injEq, Prod.mk.injEq] at h
  obtain ⟨rfl, rfl⟩ := h
  have hzv : ∀ w, (Go.zeroValue el).run E.P w = .ok z w := by
   intro w
   unfold Go.zeroValue
   rw [Sem.run_bind, run_typeInfo hinf]
   simp [hz, Pure.pure]
  have hz2 : ∀ K : Kr, RV K z z := by
   intro K
   unfold zeroOK at q4
   simp only [hinf, hz] at q4
   exact RV.plain K 2 z q4
  cases hm with
  | map _ hr =>
   obtain ⟨es', h1, h2, hsz⟩ := hR.map hg
   obtain ⟨q, hq, hf', _⟩ := findG_ok hkd h2 hf
   have hq : q = none := by
    rcases hq with ⟨_, hq⟩ | ⟨i2, v2, v3, hq, _, _⟩
    ·exact hq
    ·cases hq
   subst hq
   have hlt := hR.size_lt hg
   have hro : RO K e (.map (es.push { key := k', val := z, born := clock }) (clock + 1)) (.map (es'.push { key := k', val := z, born := clock }) (clock + 1)) := by
    refine .map _ _ _ (by simp [hsz]) fun i x hx => ?_
    obtain ⟨o', ho, hro⟩ := hR.obj _ _ _ hg
    rw [h1] at ho
    have ho := Option.some.inj ho
    subst ho
    cases hro with
    | map _ _ _ hs hh =>
     rw [Array.getElem?_push] at hx ⊢
     by_cases hi : i = es.size
     ·rw [if_pos hi] at hx
      rw [if_pos (by omega)]
      simp only [Option.some.injEq] at hx
      subst hx
      exact ⟨_, rfl, hk, hz2 K, rfl⟩
     ·rw [if_neg hi] at hx
      rw [if_neg (by omega)]
      exact hh i x hx
   obtain ⟨g1, g2⟩ := hR.put (w' := { w with heap := w.heap.setIfInBounds (K.σ r) (.map (es'.push { key := k', val := z, born := clock }) (clock + 1)) }) hg (Nat.le_of_ble_eq_true q3) hro (fun _ => trivial) (by simp) rfl rfl rfl
    (by simp [hlt]) (fun k hk => by simp [Ne.symm hk])
   refine ⟨⟨K.σ, K.pc, _⟩, _, .tuple #[z, goInt clock], rfl, ?_, g1, g2, .tuple' (RA.push (RA.one (hz2 _)) (.int _ _))⟩
   unfold Instr.mapEntry
   rw [Sem.run_bind, run_underlying hu]
   simp only [Result.andThen_ok]
   rw [Sem.run_bind, run_getObj_map h1]
   simp only [Result.andThen_ok]
   rw [Sem.run_bind, run_checkKeyG hkd q1]
   simp only [Result.andThen_ok]
   rw [Sem.run_bind, hf']
   simp only [Result.andThen_ok]
   rw [Sem.run_bind, hzv]
   simp only [Result.andThen_ok, Go.setObj, Sem.run_bind]
   simp only [Sem.run, h1, Result.andThen, Pure.pure]

def lval (v : Value) : List MapEntry → Nat → List MapEntry
 | [], _ => []
 | e :: l, n => match n with
  | 0 => ⟨e.key, v, e.born⟩ :: l
  | n + 1 => e :: lval v l n
theorem lval_get (v : Value) : ∀ (l : List MapEntry) (i j : Nat), (lval v l i)[j]? = if j = i then (l[j]?).map (fun e => ⟨e.key, v, e.born⟩) else l[j]?
 | [], i, j => by simp [lval]
 | e :: l, 0, j => by
  cases j with
  | zero => simp [lval]
  | succ j => simp [lval]
 | e :: l, i + 1, j => by
  cases j with
  | zero => simp [lval]
  | succ j =>
   simp only [lval, List.getElem?_cons_succ, Nat.add_right_cancel_iff]
   exact lval_get v l i j
theorem lval_length (v : Value) : ∀ (l : List MapEntry) (i : Nat), (lval v l i).length = l.length
 | [], i => rfl
 | e :: l, 0 => rfl
 | e :: l, i + 1 => by simp [lval, lval_length v l i]

def bornAt (b : Int) : List MapEntry → Option Nat
 | [] => none
 | e :: l => cond (decide ((e.born : Int) = b)) (some 0) ((bornAt b l).map (· + 1))
theorem bornAt_eq (b : Int) : ∀ l : List MapEntry, l.findIdx? (fun e => (e.born : Int) == b) = bornAt b l
 | [] => rfl
 | e :: l => by
  rw [List.findIdx?_cons, bornAt_eq b l, bornAt]
  by_cases h : (e.born : Int) = b
  ·simp [h]
  ·simp [h]
theorem bornAt_rel (b : Int) : ∀ {l l' : List MapEntry}, RE K l l' → bornAt b l' = bornAt b l
 | _, _, .nil => rfl
 | _, _, .cons h t => by
  rw [bornAt, bornAt, bornAt_rel b t, h.2.2]

def estoreC (E : Env) (C : W) (m s x : Value) : Option W :=
 match m, s with
 | .map (some r), .int _ b => match C.get r with
  | some (e, .map es clock) => cond (Nat.ble E.g r) (match bornAt b es.toList with
   | some i => some (C.put r (some (e, .map ⟨lval x es.toList i⟩ clock)))
   | none => none) none
  | _ => none
 | _, _ => none

theorem estoreC_sound {t : TypeId} {m m' s s' v v' : Value} (hm : RV K m m') (hs : RV K s s') (hv : RV K v v') {C' : W} (hR : Rel E K w) (h : estoreC E K.C m s v = some C') :
  ∃ K' w', K'.C = C' ∧ (Instr.entryStore t m' s' v').run E.P w = .ok () w' ∧ Rel E K' w' ∧ Ext K K' := by
 unfold estoreC at h
 split at h
 case h_2 => cases h
 rename_i r kd b
 split at h
 case h_2 => cases h
 rename_i e es clock hg
 cases q3 : Nat.ble E.g r with
 | false => rw [q3] at h; cases h
 | true =>
  rw [q3] at h
  simp only [cond_true] at h
  split at h
  case h_2 => cases h
  rename_i i hi
  simp only [Option.some.injEq] at h
  subst h
  cases hs
  cases hm with
  | map _ hr =>
   obtain ⟨es', h1, h2, hsz⟩ := hR.map hg
   have hi' : es'.findIdx? (fun e => (e.born : Int) == b) = some i := by
    have := bornAt_eq b es'.toList
    rw [bornAt_rel b h2, hi] at this
    rw [← this]
    have hl : ∀ (a : Array MapEntry) (p : MapEntry → Bool), a.findIdx? p = a.toList.findIdx? p := fun a p => by cases a; simp
    exact hl _ _
   have hlt := hR.size_lt hg
   have hro : RO K e (.map ⟨lval v es.toList i⟩ clock) (.map (es'.modify i fun e => { e with val := v' }) clock) := by
    obtain ⟨o', ho, hro0⟩ := hR.obj _ _ _ hg
    rw [h1] at ho
    have ho := Option.some.inj ho
    subst ho
    cases hro0 with
    | map _ _ _ hs hh =>
     refine .map _ _ _ (by simp [lval_length, hsz]) fun j x hx => ?_
     have hx : (lval v es.toList i)[j]? = some x := by simpa using hx
     rw [lval_get] at hx
     by_cases hj : j = i
     ·subst hj
      rw [if_pos rfl] at hx
      obtain ⟨e3, h3, rfl⟩ := Option.map_eq_some_iff.1 hx
      obtain ⟨x', h4, h5⟩ := hh j e3 (by simpa using h3)
      refine ⟨{ x' with val := v' }, ?_, h5.1, hv, h5.2.2⟩
      rw [Array.getElem?_modify, if_pos rfl, h4]
      rfl
     ·rw [if_neg hj] at hx
      obtain ⟨x', h4, h5⟩ := hh j x (by simpa using hx)
      refine ⟨x', ?_, h5⟩
      rw [Array.getElem?_modify, if_neg (fun e => hj e.symm)]
      exact h4
   obtain ⟨g1, g2⟩ := hR.put (w' := { w with heap := w.heap.setIfInBounds (K.σ r) (.map (es'.modify i fun e => { e with val := v' }) clock) }) hg (Nat.le_of_ble_eq_true q3) hro (fun _ => trivial) (by simp) rfl rfl rfl
    (by simp [hlt]) (fun k hk => by simp [Ne.symm hk])
   refine ⟨⟨K.σ, K.pc, _⟩, _, rfl, ?_, g1, g2⟩
   unfold Instr.entryStore
   rw [Sem.run_bind, run_getObj_map h1]
   simp only [Result.andThen_ok]
   rw [Sem.run_bind, show (Go.asInt (.int kd b)).run E.P w = .ok b w from rfl]
   simp only [Result.andThen_ok, hi', Go.setObj, Sem.run, h1]
def bornFind (b : Nat) : List MapEntry → Option MapEntry
 | [] => none
 | e :: l => cond (decide (e.born = b)) (some e) (bornFind b l)
theorem bornFind_eq (b : Nat) : ∀ l : List MapEntry, l.find? (fun e => e.born == b) = bornFind b l
 | [] => rfl
 | e :: l => by
  rw [List.find?_cons, bornFind_eq b l, bornFind]
  by_cases h : e.born = b
  ·simp [h]
  ·have h2 : (e.born == b) = false := by simpa using h
   rw [h2]
   simp [h]
theorem bornFind_rel (b : Nat) {e : MapEntry} : ∀ {l l' : List MapEntry}, RE K l l' → bornFind b l = some e → ∃ e', bornFind b l' = some e' ∧ REn K e e'
 | _, _, .nil, h => by cases h
 | _, _, .cons (e := a) (e' := a') (l := l) (l' := l') h t, h2 => by
  unfold bornFind at h2 ⊢
  rw [h.2.2]
  cases hb : decide (a.born = b) with
  | true =>
   rw [hb] at h2
   simp only [cond_true, Option.some.injEq] at h2 ⊢
   subst h2
   exact ⟨_, rfl, h⟩
  | false =>
   rw [hb] at h2
   simp only [cond_false] at h2 ⊢
   exact bornFind_rel b t h2

def iterC (C : W) (x : Value) : Option Value := match x with
 | .pointer (some ⟨r, 0, _⟩) => match C.get r with
  | some (_, .mapIter (some m) _ seen stepped) => match C.get m with
   | some (_, .map es clock) => match seen.back? with
    | some st => cond (Nat.beq clock stepped) (match bornFind st es.toList with
     | some e => some (.tuple #[e.key, e.val])
     | none => none) none
    | none => none
   | _ => none
  | _ => none
 | _ => none

theorem run_getObj_iter {P : Program} {r : Nat} {m : Option Nat} {a b : Nat} {s : Array Nat} {w : World} (h : w.heap[r]? = some (.mapIter m a s b)) : (Go.getObj r).run P w = .ok (.mapIter m a s b) w := by
 simp [Go.getObj, Sem.run, h]

theorem Rel.mapIter (h : Rel E K w) {r : Nat} {e : Bool} {m a b : Nat} {s : Array Nat} (hg : K.C.get r = some (e, .mapIter (some m) a s b)) :
  w.heap[K.σ r]? = some (.mapIter (some (K.σ m)) a s b) ∧ m < K.C.size := by
 obtain ⟨o', ho, hro⟩ := h.obj _ _ _ hg
 cases hro with
 | mapIter _ _ _ _ hm => exact ⟨ho, hm⟩

theorem iterC_sound (hR : Rel E K w) {x x' r : Value} (hx : RV K x x') (h : iterC K.C x = some r) :
  ∃ r', (Instr.entry x').run E.P w = .ok r' w ∧ RV K r r' := by
 unfold iterC at h
 split at h
 case h_2 => cases h
 rename_i b sp
 split at h
 case h_2 => cases h
 rename_i e m since seen stepped hg
 split at h
 case h_2 => cases h
 rename_i e2 es clock hg2
 split at h
 case h_2 => cases h
 rename_i st hst
 have hq : Nat.beq clock stepped = true := by
  cases hc : Nat.beq clock stepped with
  | false => rw [hc] at h; cases h
  | true => rfl
 rw [hq] at h
 simp only [cond_true] at h
 split at h
 case h_2 => cases h
 rename_i en hen
 simp only [Option.some.injEq] at h
 subst h
 have hq : clock = stepped := Nat.eq_of_beq_eq_true hq
 subst hq
 obtain ⟨h1, hm⟩ := hR.mapIter hg
 obtain ⟨es', h2, h3, _⟩ := hR.map hg2
 obtain ⟨e', h4, h5⟩ := bornFind_rel st h3 hen
 have hl : ∀ (a : Array MapEntry) (p : MapEntry → Bool), a.find? p = a.toList.find? p := fun a p => by cases a; simp
 refine ⟨.tuple #[e'.key, e'.val], ?_, .tuple' (RA.push (RA.one h5.1) h5.2.1)⟩
 cases hx with
 | ptr a ha =>
  unfold Instr.entry
  simp only [Kr.addr]
  rw [Sem.run_bind, run_getObj_iter h1]
  simp only [Result.andThen_ok, hst]
  rw [Sem.run_bind, run_getObj_map h2]
  simp only [Result.andThen_ok, bne_self_eq_false, Bool.false_eq_true, if_false]
  rw [hl, bornFind_eq, h4]
  rfl
end
end Go.Ev
end
section
set_option linter.unusedVariables false
set_option linter.unusedSimpArgs false
namespace Go.Ev
variable {α β γ δ : Type}
section
variable {E : Env} {K : Kr} {w w' : World}

def eqC (P : Program) (t : TypeId) (x y : Value) : Option Bool :=
 match P.underlying t, x, y with
 | some (.slice _), .slice none _ _, .slice b _ _ => some b.isNone
 | some (.slice _), .slice (some _) _ _, .slice none _ _ => some false
 | some (.pointer _), .pointer none, .pointer b => some b.isNone
 | some (.pointer _), .pointer (some _), .pointer none => some false
 | some (.pointer e), .pointer (some a), .pointer (some b) => match prun P (Go.sizeOf e) with
  | some s => cond (!Nat.beq s 0 && Nat.beq a.block b.block) (some (a == b)) none
  | none => none
 | some (.map _ _), .map none, .map b => some b.isNone
 | some (.map _ _), .map (some _), .map none => some false
 | some (.func ..), .nilFunc, .func .. => some false
 | some (.func ..), .func .., .nilFunc => some false
 | some (.interface _), .nilIface, .iface .. => some false
 | some (.interface _), .iface .., .nilIface => some false
 | _, _, _ => none

theorem eqC_sound {t : TypeId} {x x' y y' : Value} {b : Bool} (hx : RV K x x') (hy : RV K y y') (h : eqC E.P t x y = some b) : (Op.equal t x' y').run E.P w = .ok b w := by
  unfold Op.equal
  rw [show Op.maxDepth = 9999 + 1 from rfl]
  unfold Op.equalIn
  unfold eqC at h
  split at h
  case h_5 e a c hu =>
    split at h
    case h_2 => cases h
    rename_i s hs
    cases hq : (!Nat.beq s 0 && Nat.beq a.block c.block) with
    | false => rw [hq] at h; cases h
    | true =>
      rw [hq] at h
      simp only [cond_true, Option.some.injEq] at h
      subst h
      simp only [Bool.and_eq_true, Bool.not_eq_true'] at hq
      have hs0 : s ≠ 0 := by intro e; subst e; simp at hq
      have hbl := Nat.eq_of_beq_eq_true hq.2
      cases hx with
      | ptr _ ha =>
        cases hy with
        | ptr _ hc =>
          rw [Sem.run_bind, run_underlying hu]
          simp only [Result.andThen_ok]
          rw [Sem.run_bind, run_of_prun hs]
          simp only [Result.andThen_ok]
          rw [if_pos hs0]
          unfold Go.sameAddr
          have e1 : ((K.addr a).block == (K.addr c).block) = true := by simp [Kr.addr, hbl]
          simp only [e1, if_true]
          have e2 : (K.addr a == K.addr c) = (a == c) := by
            obtain ⟨ab, ao, asp⟩ := a
            obtain ⟨cb, co, cs⟩ := c
            simp only at hbl
            subst hbl
            rw [Bool.eq_iff_iff]
            simp [Kr.addr]
          rw [e2]
          rfl
  all_goals first
    | (cases h; done)
    | (rename_i hu
       cases hx <;> cases hy <;> (simp only [Option.some.injEq] at h; subst h; rw [Sem.run_bind, run_underlying hu]; rfl))

theorem Sim.loadBytes : ∀ (n : Nat) {K : Kr} {w : World} {a a' : Addr} {acc : ByteArray}, RAd K a a' → Sim E K w (Go.loadBytes a acc n) (Go.loadBytes a' acc n) (fun _ x y => y = x)
 | 0, K, w, a, a', acc, ha => Sim.pure rfl
 | n + 1, K, w, a, a', acc, ha => by
  unfold Go.loadBytes
  refine Sim.bind (R := RV) ?_ fun K' w' x y hE hxy => ?_
  ·rw [ha.2]; exact Sim.load
  ·cases hxy with
   | int k m =>
    cases k with
    | u8 => exact Sim.loadBytes n ((ha.ext hE).add 1)
    | _ => exact Sim.stuck
   | _ => exact Sim.stuck

def capC (C : W) (P : Program) (t : TypeId) (x : Value) : Option Value :=
 match P.underlying t, x with
 | some (.slice _), .slice (some a) _ c => cond (Nat.beq (C.fl a.block) 1) (some (.int .i64 c)) none
 | _, _ => none

theorem capC_sound {ts : Array TypeId} {t0 t : TypeId} {x x' r : Value} (ht : ts[0]? = some t0) (hx : RV K x x') (h : capC K.C E.P t0 x = some r) : (Builtin.cap_ ts t #[x']).run E.P w = .ok r w ∧ RV K r r := by
 unfold capC at h
 split at h
 ·rename_i e a n c hu
  cases hq : Nat.beq (K.C.fl a.block) 1 with
  | false => rw [hq] at h; cases h
  | true =>
   rw [hq] at h
   simp only [cond_true, Option.some.injEq] at h
   subst h
   cases hx with
   | slice _ _ _ c' ha hcc he hp =>
    have := he (Nat.eq_of_beq_eq_true hq)
    subst this
    refine ⟨?_, .int _ _⟩
    unfold Builtin.cap_
    simp only [ht, List.getElem?_toArray, List.getElem?_cons_zero]
    rw [Sem.run_bind, run_underlying hu]
    rfl
 ·cases h

def sliceDataC (x : Value) : Option Value := match x with
 | .slice (some a) _ c => cond (Nat.beq c 0) none (some (.pointer (some a)))
 | .slice none _ _ => some (.pointer none)
 | _ => none

theorem sliceDataC_sound {ts : Array TypeId} {t : TypeId} {x x' r : Value} (hx : RV K x x') (h : sliceDataC x = some r) : ∃ r', (Builtin.unsafeSliceData_ ts t #[x']).run E.P w = .ok r' w ∧ RV K r r' := by
 unfold sliceDataC at h
 split at h
 ·rename_i a n c
  cases hq : Nat.beq c 0 with
  | true => rw [hq] at h; cases h
  | false =>
   rw [hq] at h
   simp only [cond_false, Option.some.injEq] at h
   subst h
   cases hx with
   | slice _ _ _ c' ha hcc he hp =>
    refine ⟨_, ?_, .ptr a ha⟩
    have : c ≠ 0 := by intro e; subst e; simp at hq
    have hdef : Builtin.unsafeSliceData_ ts t #[.slice (some (K.addr a)) n c'] = (if c' ≠ 0 then _ else _) := rfl
    rw [hdef, if_pos (by omega)]
    rfl
 ·cases hx with
  | nilSlice _ _ =>
   simp only [Option.some.injEq] at h
   subst h
   exact ⟨_, rfl, .nilPtr⟩
 ·cases h

def takeB : List Value → Nat → Option (List UInt8)
 | _, 0 => some []
 | .int .u8 b :: l, n + 1 => match takeB l n with
  | some r => some (b.toNat.toUInt8 :: r)
  | none => none
 | _, _ + 1 => none

theorem takeB_crun {P : Program} {g : Nat} {C : W} {e : Bool} {c : Array Value} {el : TypeId} {f : Nat × Nat} {blk : Nat} (hg : C.get blk = some (e, .cells c el f)) : ∀ (n off : Nat) (acc : ByteArray) (l : List UInt8), takeB (c.toList.drop off) n = some l →
  crun P g (Go.loadBytes ⟨blk, off, none⟩ acc n) C = some (⟨acc.data ++ l⟩, C)
 | 0, off, acc, l, h => by
  simp only [takeB, Option.some.injEq] at h
  subst h
  simp [Go.loadBytes, Pure.pure, crun]
 | n + 1, off, acc, l, h => by
  unfold Go.loadBytes
  rw [crun_bind]
  cases hd : c.toList.drop off with
  | nil => rw [hd] at h; cases h
  | cons v r =>
   rw [hd] at h
   have hv : c.toList[off]? = some v := by
    have : (c.toList.drop off)[0]? = some v := by rw [hd]; rfl
    rw [List.getElem?_drop] at this
    simpa using this
   have hr : c.toList.drop (off + 1) = r := by
    have : (c.toList.drop off).drop 1 = r := by rw [hd]; rfl
    rw [List.drop_drop] at this
    exact this
   unfold takeB at h
   split at h
   ·rename_i hz; exact absurd hz (Nat.succ_ne_zero _)
   ·rename_i b r0 n0 heq hn
    simp only [List.cons.injEq] at heq
    obtain ⟨rfl, rfl⟩ := heq
    simp only [Nat.succ.injEq] at hn
    subst hn
    split at h
    ·rename_i r2 hr2
     simp only [Option.some.injEq] at h
     subst h
     have hl : crun P g (Go.load (⟨blk, off, none⟩ : Addr)) C = some (.int .u8 b, C) := by
      simp only [Go.load, crun]
      have := cell?_add (a := ⟨blk, off, none⟩) hg rfl 0
      simp only [Nat.add_zero, hv, known] at this
      rw [show (⟨blk, off, none⟩ : Addr).add 0 = ⟨blk, off, none⟩ from by simp [Addr.add]] at this
      rw [this]
     rw [hl]
     simp only [Option.bind_some]
     rw [show (⟨blk, off, none⟩ : Addr).add 1 = ⟨blk, off + 1, none⟩ from by simp [Addr.add]]
     rw [takeB_crun hg n (off + 1) _ r2 (by rw [hr]; exact hr2)]
     simp [ByteArray.push]
    ·cases h
   ·cases h

def bytesF (C : W) (a : Addr) (n : Nat) : Option ByteArray := match C.get a.block with
 | some (_, .cells c _ _) => match a.spot with
  | none => match takeB (c.toList.drop a.off) n with
   | some l => some ⟨⟨l⟩⟩
   | none => none
  | some _ => none
 | _ => none

theorem bytesF_crun {P : Program} {g : Nat} {C : W} {a : Addr} {n : Nat} {s : ByteArray} (h : bytesF C a n = some s) : crun P g (Go.loadBytes a .empty n) C = some (s, C) := by
 obtain ⟨blk, off, spot⟩ := a
 unfold bytesF at h
 split at h
 ·rename_i e c el f hg
  split at h
  ·rename_i hs
   simp only at hs hg
   subst hs
   split at h
   ·rename_i l hl
    simp only [Option.some.injEq] at h
    subst h
    rw [takeB_crun hg n off .empty l hl]
    show some (ByteArray.mk (#[] ++ l), C) = _
    simp
   ·cases h
  ·cases h
 ·cases h

def unsafeStringC (E : Env) (C : W) (pt : TypeId) (x y : Value) : Option (Value × W) :=
 match E.P.underlying pt, x, y with
 | some (.pointer u), .pointer (some a), .int _ n => match C.get a.block with
  | some (_, .cells c e _) => cond (decide (0 < n) && decide (n ≤ 9223372036854775807) && !Nat.beq (E.P.cellsOf e) 0 && Nat.beq (a.off % E.P.cellsOf e) 0 && Nat.ble (a.off / E.P.cellsOf e + n.toNat) (c.size / E.P.cellsOf e) && sameLayout E.P E.P.depth e u)
   (match bytesF C a n.toNat with
    | some s => match crun E.P E.g (Go.freeze a n.toNat) C with
     | some (_, C') => some (.string s, C')
     | none => none
    | none => none) none
  | _ => none
 | some (.pointer _), .pointer none, .int _ n => cond (decide (n = 0)) (some (.string .empty, C)) none
 | _, _, _ => none

theorem unsafeStringC_sound {ts : Array TypeId} {t0 t : TypeId} {x x' y y' r : Value} {C' : W} (ht : ts[0]? = some t0) (hx : RV K x x') (hy : RV K y y') (hR : Rel E K w) (h : unsafeStringC E K.C t0 x y = some (r, C')) :
  ∃ K' w' r', K'.C = C' ∧ (Builtin.unsafeString_ ts t #[x', y']).run E.P w = .ok r' w' ∧ Rel E K' w' ∧ Ext K K' ∧ RV K' r r' := by
 unfold unsafeStringC at h
 split at h
 ·rename_i u a k n hu
  split at h
  case h_2 => cases h
  rename_i fl c e f hg
  cases hq : (decide (0 < n) && decide (n ≤ 9223372036854775807) && !Nat.beq (E.P.cellsOf e) 0 && Nat.beq (a.off % E.P.cellsOf e) 0 && Nat.ble (a.off / E.P.cellsOf e + n.toNat) (c.size / E.P.cellsOf e) && sameLayout E.P E.P.depth e u) with
  | false => rw [hq] at h; cases h
  | true =>
   rw [hq] at h
   simp only [cond_true] at h
   simp only [Bool.and_eq_true, decide_eq_true_eq, Bool.not_eq_true'] at hq
   obtain ⟨⟨⟨⟨⟨q1, q2⟩, q3⟩, q4⟩, q5⟩, q6⟩ := hq
   have hs0 : E.P.cellsOf e ≠ 0 := by intro e0; rw [e0] at q3; simp at q3
   have q4 := Nat.eq_of_beq_eq_true q4
   have q5 := Nat.le_of_ble_eq_true q5
   cases hx with
   | ptr _ ha =>
    cases hy with
    | int _ _ =>
     obtain ⟨o', ho, hro⟩ := hR.obj _ _ _ hg
     cases hro with
     | cells _ c' _ _ f' hsz he hf hh =>
      have hcr : crun E.P E.g (do
        let s ← Go.loadBytes a .empty n.toNat
        Go.freeze a n.toNat
        Pure.pure (Value.string s)) K.C = some (r, C') := by
       split at h
       ·rename_i s hs
        split at h
        ·rename_i u0 C0 hfz
         simp only [Option.some.injEq, Prod.mk.injEq] at h
         obtain ⟨rfl, rfl⟩ := h
         rw [crun_bind, bytesF_crun hs]
         simp only [Option.bind_some]
         rw [crun_bind, hfz]
         rfl
        ·cases h
       ·cases h
      have hsim : Sim E K w (do
        let s ← Go.loadBytes a .empty n.toNat
        Go.freeze a n.toNat
        Pure.pure (Value.string s)) (do
        let s ← Go.loadBytes (K.addr a) .empty n.toNat
        Go.freeze (K.addr a) n.toNat
        Pure.pure (Value.string s)) RV := by
       refine Sim.bind (Sim.loadBytes n.toNat ⟨ha, rfl⟩) fun K1 w1 s s' hE hs => ?_
       subst hs
       refine Sim.bind (R := fun _ _ _ => True) ?_ fun K2 w2 _ _ _ _ => Sim.pure (.string _)
       rw [← hE.addr ha]
       exact Sim.freeze
      obtain ⟨K', w', r', h0, h1, h2, h3, h4⟩ := hsim hR _ _ hcr
      refine ⟨K', w', r', h0, ?_, h2, h3, h4⟩
      have hva : (variablesAt (K.addr a) u n.toNat).run E.P w = .ok true w := by
       unfold variablesAt
       rw [Sem.run_bind]
       simp only [Go.program, Sem.run, Result.andThen_ok]
       rw [Sem.run_bind]
       have hshape : (Go.shape (K.addr a).block).run E.P w = .ok (some (e, c'.size)) w := by
        simp [Go.shape, Sem.run, World.shape?, Kr.addr, ho]
       rw [hshape]
       simp only [Result.andThen_ok]
       have hlies : liesAt E.P E.P.depth e (c'.size / E.P.cellsOf e) (K.addr a).off u n.toNat = true := by
        rw [show E.P.depth = (2 * (E.P.types.size + Made.depth) + 1) + 1 from rfl] at q6 ⊢
        unfold liesAt
        rw [show E.P.depth = (2 * (E.P.types.size + Made.depth) + 1) + 1 from rfl]
        unfold rowAt
        have e1 : (K.addr a).off = a.off := rfl
        have e2 : a.off / E.P.cellsOf e + n.toNat ≤ c'.size / E.P.cellsOf e := Nat.le_trans q5 (Nat.div_le_div_right hsz)
        simp only [e1, hs0, if_false, q4]
        simp [e2, q6]
       rw [hlies]
       rfl
      have hd : Builtin.unsafeString_ ts t #[.pointer (some (K.addr a)), .int k n] = (Go.asInt (.int k n) >>= _) := rfl
      rw [hd]
      simp only [Go.asInt, Go.asIntOf]
      rw [Sem.run_bind]
      simp only [Sem.run_bind, Sem.run_pure, Result.andThen_ok, ht]
      rw [if_neg (by omega), if_neg (by simp only [IntKind.max, IntKind.signed, IntKind.bits]; simp; omega)]
      rw [if_neg (by omega)]
      simp only [Sem.run_bind, Go.elemOf, run_underlying hu, Result.andThen_ok, Sem.run_pure, hva, if_true]
      simp only [Sem.run_bind, Sem.run_pure] at h1
      exact h1
 ·rename_i e k n hu
  cases hx with
  | nilPtr =>
   cases hy with
   | int _ _ =>
    cases hq : decide (n = 0) with
    | false => rw [hq] at h; cases h
    | true =>
     have hn : n = 0 := by simpa using hq
     subst hn
     simp only [decide_true, cond_true, Option.some.injEq, Prod.mk.injEq] at h
     obtain ⟨rfl, rfl⟩ := h
     refine ⟨K, w, .string .empty, rfl, ?_, hR, Ext.refl _, .string _⟩
     have hd : Builtin.unsafeString_ ts t #[.pointer none, .int k 0] = (Go.asInt (.int k 0) >>= _) := rfl
     rw [hd]
     simp [Go.asInt, Go.asIntOf, ht, IntKind.max, IntKind.signed, IntKind.bits]
 ·cases h
end
end Go.Ev
end
