/-
  Proved: the law's copies of cards in new
-/
import Derived.Test.YthgkaojplomapaaGreatDoorFga
import Derived.Test.YthgkaojplomapaaGreatDoorFa
import Derived.Test.YthgkaojplomapaaGreatDoorFrk
set_option maxHeartbeats 32000000
set_option linter.unusedVariables false
set_option linter.unusedSimpArgs false
open Go Go.Proofs Go.RowKit
set_option maxRecDepth 100000
namespace Go.Mk
def OT (B : Nat) (w : World) (A : Option Addr) (c n : Nat) (L : List ByteArray) : Prop :=
 TextsZ w A n L ∧ n ≤ c ∧ (A = none → c = 0) ∧ ∀ ad : Addr, A = some ad → B ≤ ad.block ∧ ad.block < w.heap.size ∧ ∃ cs, w.heap[ad.block]? = some (.cells cs 9 (0, 0))
theorem OT.keep {B : Nat} {w w' : World} {A : Option Addr} {c n : Nat} {L : List ByteArray} (h : OT B w A c n L) (hs : w.heap.size ≤ w'.heap.size) (hb : ∀ ad : Addr, A = some ad → w'.heap[ad.block]? = w.heap[ad.block]?) : OT B w' A c n L := by
 refine ⟨⟨h.1.1, fun h0 => ?_⟩, h.2.1, h.2.2.1, fun ad e => ⟨(h.2.2.2 ad e).1, Nat.lt_of_lt_of_le (h.2.2.2 ad e).2.1 hs, by obtain ⟨cs, hcs⟩ := (h.2.2.2 ad e).2.2; exact ⟨cs, (hb ad e).trans hcs⟩⟩⟩
 obtain ⟨q, off, e, hlt, hc⟩ := h.1.2 h0
 exact ⟨q, off, e, Nat.lt_of_lt_of_le hlt hs, fun j x hx => (World.cell?_of_block (a := ⟨q, off + j, none⟩) (show w'.heap[q]? = w.heap[q]? from hb _ e)).trans (hc j x hx)⟩
theorem OT.alloc {B : Nat} {w : World} {A : Option Addr} {c n : Nat} {L : List ByteArray} (h : OT B w A c n L) (o : Obj) : OT B (w.alloc o) A c n L :=
 h.keep (by simp) fun ad e => by
  have := (h.2.2.2 ad e).2.1
  show (w.heap.push o)[ad.block]? = _
  rw [Array.getElem?_push_lt this, Array.getElem?_eq_getElem this]
theorem OT.grow {B q : Nat} {w w' : World} {A : Option Addr} {c n : Nat} {L : List ByteArray} (h : OT B w A c n L) (hg : w.grownBy w' (some q)) (hne : ∀ ad : Addr, A = some ad → ad.block ≠ q) : OT B w' A c n L :=
 h.keep hg.size fun ad e => hg.block _ (h.2.2.2 ad e).2.1 (fun z => hne ad e (Option.some.inj z))
theorem OT.set {B p i : Nat} {w : World} {A : Option Addr} {c n : Nat} {L : List ByteArray} {v : Value} (h : OT B w A c n L) (hp : p < B) : OT B (w.setCell ⟨p, i, none⟩ v) A c n L :=
 h.keep (by simp) fun ad e => by
  have := (h.2.2.2 ad e).1
  exact heap_setCell_other _ _ _ _ (by show ad.block ≠ p; omega)
theorem OT.mono {B B' : Nat} {w : World} {A : Option Addr} {c n : Nat} {L : List ByteArray} (h : OT B w A c n L) (hB : B' ≤ B) : OT B' w A c n L :=
 ⟨h.1, h.2.1, h.2.2.1, fun ad e => ⟨Nat.le_trans hB (h.2.2.2 ad e).1, (h.2.2.2 ad e).2⟩⟩
theorem OT.below {B : Nat} {w w' : World} {A : Option Addr} {c n : Nat} {L : List ByteArray} (h : OT B w A c n L) (hb : Below w.heap.size w w') : OT B w' A c n L :=
 h.keep hb.size fun ad e => hb.block _ (h.2.2.2 ad e).2.1
theorem OT.growV {B : Nat} {blk : Option Nat} {w w' : World} {A : Option Addr} {c n : Nat} {L : List ByteArray} (h : OT B w A c n L) (hg : w.grownBy w' blk) (hne : ∀ ad : Addr, A = some ad → blk ≠ some ad.block) : OT B w' A c n L :=
 h.keep hg.size fun ad e => hg.block _ (h.2.2.2 ad e).2.1 (fun z => hne ad e z.symm)
theorem OT.apart {B B' n' : Nat} {w : World} {A : Option Addr} {c n : Nat} {L : List ByteArray} {v : Value} {xs : List Value} (h : OT B w A c n L) (ho : w.ownsRow B' 94 4 v n' xs) : ∀ ad : Addr, A = some ad → v.ownBlock ≠ some ad.block := fun ad e hv => by
 obtain ⟨cs, hcs⟩ := (h.2.2.2 ad e).2.2
 rcases ho.2 with ⟨a, b⟩ | ⟨g, cap, cur, a, _, hk, _⟩
 ·rw [a] at hv; simp [Value.ownBlock] at hv
 ·rw [a] at hv
  have hg : g = ad.block := by simpa [Value.ownBlock] using hv
  subst hg
  rw [hk] at hcs
  simp at hcs
theorem OT.of_row {B n : Nat} {w : World} {v : Value} {L : List ByteArray} (h : w.ownsRow B 9 1 v (0 + n) ([] ++ L.map Value.string)) (hL : L.length = n) : ∃ A c, v = .slice A n c ∧ OT B w A c n L ∧ (∀ ad : Addr, A = some ad → v.ownBlock = some ad.block) := by
 have h' : OwnNames w B v L := by unfold OwnNames; rw [hL]; simpa using h
 obtain ⟨A, c, hv, h1, h2, h3⟩ := TextsZ.of_own h'
 rw [hL] at hv h1 h3
 refine ⟨A, c, hv, ⟨h3, h1, h2, fun ad e => ?_⟩, fun ad e => by rw [hv, e]; rfl⟩
 have := World.ownsRow.lt h ad.block (by rw [hv, e]; rfl)
 refine ⟨this.1, this.2, ?_⟩
 rcases h.2 with ⟨a, b⟩ | ⟨g, cap, cur, a, _, hk, _⟩
 ·rw [hv, e] at a; simp at a
 ·rw [hv, e] at a
  simp only [Value.slice.injEq, Option.some.injEq] at a
  rw [a.1]
  exact ⟨cur, hk⟩
theorem litRow {B q : Nat} {w : World} (h : B ≤ q ∧ w.heap[q]? = some (.cells #[] 9 (0, 0))) : w.ownsRow B 9 1 (.slice (some ⟨q, 0, none⟩) 0 0) 0 [] :=
 ⟨rfl, .inr ⟨q, 0, #[], rfl, h.1, h.2, Nat.le_refl _, by unfold maxLen; omega, rfl, rfl⟩⟩
theorem old_alloc {w : World} {q : Nat} {x : Obj} (h : w.heap[q]? = some x) (o : Obj) : (w.alloc o).heap[q]? = some x := by
 have := (Array.getElem?_eq_some_iff.1 h).1
 show (w.heap.push o)[q]? = _
 rw [Array.getElem?_push_lt this, ← Array.getElem?_eq_getElem this]; exact h
theorem lt_of_block {w : World} {q : Nat} {x : Obj} (h : w.heap[q]? = some x) : q < w.heap.size := (Array.getElem?_eq_some_iff.1 h).1
theorem infoFdCard : (Tryz.prog.info? 94).map (fun i => (i.zero, i.size, i.bytes)) = some (some (.agg #[.string ⟨#[]⟩, .slice none 0 0, .slice none 0 0, .bool false]), 4, 72) := by kernel_rfl
theorem with_leaf {P : Program} {md : Region.Mode} {ops : Array Oper} {Q : Exit → Act → World → Prop} {S : World → Prop} {fuel : Nat} {listed : Array Bool} {a0 : Act} {w0 : World} (F : Nat) (LL : Array Bool) (X : Act → World → Prop)
  (hX : ∀ a w, X a w → wpAnyH P md ops Q S F LL a w) (h : (∀ a w, X a w → wpAnyH P md ops Q S F LL a w) → wpAnyH P md ops Q S fuel listed a0 w0) : wpAnyH P md ops Q S fuel listed a0 w0 := h hX
def cnrm (r : CardR) : CardR := { r with AH := none, ch := 0, AO := none, co := 0 }
def OwnCards (w : World) (B : Nat) (v : Value) (L : List CardR) : Prop := w.ownsRow B 94 4 v L.length (L.flatMap CardR.cells) ∧ ∀ r ∈ L, OT B w r.AH r.ch r.nh r.H ∧ OT B w r.AO r.co r.no r.O
theorem OwnCards.below {w w' : World} {B : Nat} {v : Value} {L : List CardR} (h : OwnCards w B v L) (hb : Below w.heap.size w w') : OwnCards w' B v L := ⟨ownN h.1 hb, fun r hr => ⟨(h.2 r hr).1.below hb, (h.2 r hr).2.below hb⟩⟩
theorem card_at : ∀ (L : List CardR) (i : Nat) (r : CardR) (c : Nat), L[i]? = some r → c < 4 → (L.flatMap CardR.cells)[i * 4 + c]? = r.cells[c]?
 | [], i, p, c, h, _ => by simp at h
 | x :: L, 0, p, c, h, hc => by
  obtain rfl : x = p := by simpa using h
  rw [List.flatMap_cons, List.getElem?_append_left (by simp [CardR.cells]; omega)]
  simp
 | x :: L, i + 1, p, c, h, hc => by
  rw [List.flatMap_cons, List.getElem?_append_right (by simp [CardR.cells]; omega), show (i + 1) * 4 + c - x.cells.length = i * 4 + c by simp [CardR.cells]; omega]
  exact card_at L i p c (by simpa using h) hc
theorem Cards.of_own {w : World} {B : Nat} {v : Value} {L : List CardR} (h : OwnCards w B v L) : ∃ A c, v = .slice A L.length c ∧ Cards w A L.length L := by
 rcases h.1.2 with ⟨a, b⟩ | ⟨g, cap, cur, a, b, c, d, e1, f, hx⟩
 ·exact ⟨none, 0, by rw [a, b], rfl, fun hn => absurd hn (by omega)⟩
 ·refine ⟨_, cap, a, rfl, fun _ => ⟨g, 0, rfl, (Array.getElem?_eq_some_iff.1 c).1, fun j p hp => ?_⟩⟩
  have hj := (List.getElem?_eq_some_iff.1 hp).1
  have h1 := h.1
  rw [a] at h1
  obtain ⟨t1, t2⟩ := h.2 p (List.mem_of_getElem? hp)
  refine ⟨⟨?_, ?_, ?_, ?_⟩, t1.1, t1.2.1, t2.1, t2.2.1⟩ <;> rw [Nat.zero_add]
  ·rw [World.ownsRow.cellAt h1 (j * 4) (by omega)]; exact (card_at _ j _ 0 hp (by decide)).trans rfl
  ·rw [World.ownsRow.cellAt h1 (j * 4 + 1) (by omega)]; exact (card_at _ j _ 1 hp (by decide)).trans rfl
  ·rw [World.ownsRow.cellAt h1 (j * 4 + 2) (by omega)]; exact (card_at _ j _ 2 hp (by decide)).trans rfl
  ·rw [World.ownsRow.cellAt h1 (j * 4 + 3) (by omega)]; exact (card_at _ j _ 3 hp (by decide)).trans rfl
theorem cards_next {w1 w2 : World} {B : Nat} {v v' : Value} {P : List CardR} {r : CardR} (h : OwnCards w1 B v P) (t1 : OT B w1 r.AH r.ch r.nh r.H) (t2 : OT B w1 r.AO r.co r.no r.O)
  (hn : w2.ownsRow B 94 4 v' (P.length + 1) (P.flatMap CardR.cells ++ r.cells)) (hg : w1.grownBy w2 v.ownBlock) : OwnCards w2 B v' (P ++ [r]) := by
 refine ⟨?_, fun q hq => ?_⟩
 ·rw [List.length_append, List.length_singleton, List.flatMap_append, List.flatMap_singleton]
  exact hn
 ·rcases List.mem_append.1 hq with hq | hq
  ·exact ⟨(h.2 q hq).1.growV hg ((h.2 q hq).1.apart h.1), (h.2 q hq).2.growV hg ((h.2 q hq).2.apart h.1)⟩
  ·obtain rfl := List.mem_singleton.1 hq
   exact ⟨t1.growV hg (t1.apart h.1), t2.growV hg (t2.apart h.1)⟩
theorem l6cards_any (L : List CardR) (n cap : Nat) (A : Option Addr) (w : World) (hZ : Cards w A n L) (hn : n ≤ 100) (hs : ∀ r ∈ L, r.nh ≤ 100 ∧ r.no ≤ 100 ∧ (r.AH = none → r.ch = 0) ∧ (r.AO = none → r.co = 0)) :
  Calls Tryz.prog 9 #[.slice A n cap] w (fun e w' => ∃ v L', e = .returned v ∧ L'.map cnrm = L.map cnrm ∧ OwnCards w' w.heap.size v L' ∧ Below w.heap.size w w') := by
 obtain ⟨i0, hi, hz0, hz1, hz2⟩ := info_parts infoStr
 obtain ⟨i1, hj, hy0, hy1, hy2⟩ := info_parts infoFdCard
 have hni : (n : Int) ≤ 100 := by omega
 have H := Lib.hid hZ
 have HLn := Lib.hid hZ.1
 have HS := Lib.hid hs
 clear hZ hs
 go_enter Tryz.func9, Tryz.ntmps9
 go_wp2
 go_loopw [3, 8] (fun v i wr => ∃ (k : Nat) (P : List CardR), k ≤ n ∧ i = .int .i64 k ∧ Hid (P.map cnrm = (L.take k).map cnrm) ∧ OwnCards wr w.heap.size v P ∧ Below w.heap.size w wr) (fun _ i _ => n - (RowKit.intOf i).toNat)
 case atStart => exact ⟨0, [], by omega, rfl, Lib.hid rfl, ⟨World.ownsRow_nil _ _ _ _, fun r h => by cases h⟩, Below.refl _ _⟩
 case round =>
  obtain ⟨k, P, hk, rfl, HPP, hown, hb⟩ := hrel
  by_cases hlt : k < n
  ·obtain ⟨b', off, r, rfl, hbl, hx, ⟨hc0, hc1, hc2, hc3⟩, hCZ⟩ := (H.out.below hb).at_ hlt
   have hki : (k : Int) < (n : Int) := by omega
   have hk0 : (0 : Int) ≤ (k : Int) := by omega
   have hkt : ((k : Int)).toNat = k := by omega
   obtain ⟨hn1, hn2, hA1, hA2⟩ := HS.out r (List.mem_of_getElem? hx)
   have hPl : P.length = k := by
    have := congrArg List.length HPP.out
    rw [List.length_map, List.length_map, List.length_take, HLn.out] at this
    omega
   have HPL := Lib.hid hPl
   have HST : Hid (∀ q : CardR, cnrm q = cnrm r → (P ++ [q]).map cnrm = (L.take (k + 1)).map cnrm) := Lib.hid fun q hq => by
    rw [List.take_add_one, hx, Option.toList_some, List.map_append, List.map_append, HPP.out]
    simp [hq]
   have HOX := Lib.hid hown
   obtain ⟨s, AH, nh, ch, H, AO, no, co, O, rt⟩ := r
   try dsimp only at *
   have HL1 : Hid (H.length = nh) := hCZ.1.1
   have HL2 : Hid (O.length = no) := hCZ.2.2.1.1
   have HA1 : Hid (AH = none → nh = 0 ∧ ch = 0) := Lib.hid fun e => by have := hA1 e; have := hCZ.2.1; dsimp only at this; omega
   have HA2 : Hid (AO = none → no = 0 ∧ co = 0) := Lib.hid fun e => by have := hA2 e; have := hCZ.2.2.2; dsimp only at this; omega
   obtain ⟨p, hp⟩ : ∃ p, wr.heap.size = p := ⟨_, rfl⟩
   obtain ⟨wx, hwx⟩ : ∃ wx, wr.alloc (.cells #[.string s, .slice AH nh ch, .slice AO no co, .bool rt] 66) = wx := ⟨_, rfl⟩
   have hbr : Below p wr wx := by rw [← hwx, ← hp]; exact balloc _ (Below.refl _ _)
   have hbx : Below w.heap.size w wx := by rw [← hwx]; exact balloc _ hb
   have hsx : wx.heap.size = p + 1 := by rw [← hwx, ← hp]; simp
   have hwp : w.heap.size ≤ p := by rw [← hp]; exact hb.size
   have hkp : wx.heap[p]? = some (.cells #[.string s, .slice AH nh ch, .slice AO no co, .bool rt] 66 (0, 0)) := by rw [← hwx, ← hp]; exact Array.getElem?_push_size ..
   have HP : Hid (∀ w', Below wx.heap.size wx w' → w'.heap[p]? = some (.cells #[.string s, .slice AH nh ch, .slice AO no co, .bool rt] 66 (0, 0))) := Lib.hid fun w' hb' => (hb'.block p (by omega)).trans hkp
   have HPX : Hid (p < wx.heap.size) := Lib.hid (by omega)
   have HWP := Lib.hid hwp
   have HBX := Lib.hid hbx
   have HBR := Lib.hid (And.intro hp hbr)
   have hbr' : Below wr.heap.size wr wx := by rw [hp]; exact hbr
   have HZ1 := Lib.hid (hCZ.1.below hbr')
   have HZ2 := Lib.hid (hCZ.2.2.1.below hbr')
   clear hbr' hbr hbx hsx hkp hwp hb hA1 hA2 hCZ hx hown hPl HPP
   go_wp2_with fail
   refine wp_mono (Q := fun e a' w' => e = .normal ∧ ∃ (A1 : Option Addr) (c1 : Nat) (A2 : Option Addr) (c2 : Nat) (u9 u10 u11 u12 u13 u14 u15 u16 u17 u18 u19 u20 u21 u22 u23 u24 u25 u26 : Value), a' = ⟨#[.slice (some ⟨b', off, none⟩) n cap, undef, .slice none 0 0, u3, undef, .pointer (some ⟨p, 0, none⟩), .slice (some ⟨b', off, none⟩) n cap, .int .i64 n, .int .i64 k, u9, u10, u11, u12, u13, u14, u15, u16, u17, u18, u19, u20, u21, u22, u23, u24, u25, u26, undef], []⟩ ∧ w'.heap[p]? = some (.cells #[.string s, .slice A1 nh c1, .slice A2 no c2, .bool rt] 66 (0, 0)) ∧ Below p wx w' ∧ OT wx.heap.size w' A1 c1 nh H ∧ OT wx.heap.size w' A2 c2 no O) ?_ ?_
   ·skip
    refine wp_region_held_drew (S := (fun _ => True)) (by kernel_rfl) ?_ (fun hHeld => ?_)
    ·trivial
    have hacc : Below wx.heap.size wx wx.drew := (Below.refl _ _).drew
    generalize World.drew wx = wc0 at hHeld hacc ⊢
    clear hHeld
    have hHeld : True := trivial
    refine zV 1 (hQ := fun _ _ _ h => by cases h.1) (h := ?_)
    try simp only [zP, zQ, zA2, zA3]
    clear hHeld
    have hHeld : True := trivial
    refine zV 5 (hQ := fun _ _ _ h => by cases h.1) (h := ?_)
    try simp only [zP, zQ, zA2, zA3]
    clear hHeld
    refine with_leaf 3 #[true, true, true, true, true, true, true, true, true, false, false, false] (fun a' w' => ∃ (A1 : Option Addr) (c1 : Nat) (A2 : Option Addr) (c2 : Nat) (u9 u10 u11 u12 u14 u16 u18 u21 u22 u23 u24 u25 u26 : Value), a' = ⟨#[.slice (some ⟨b', off, none⟩) n cap, undef, .slice none 0 0, u3, undef, .pointer (some ⟨p, 0, none⟩), .slice (some ⟨b', off, none⟩) n cap, .int .i64 n, .int .i64 k, u9, u10, u11, u12, .pointer (some ⟨p, 1, none⟩), u14, .slice A1 nh c1, u16, .pointer (some ⟨p, 2, none⟩), u18, .slice A2 no c2, .pointer (some ⟨p, 1, none⟩), u21, u22, u23, u24, u25, u26, undef], []⟩ ∧ Below wx.heap.size wx w' ∧ OT wx.heap.size w' A1 c1 nh H ∧ OT wx.heap.size w' A2 c2 no O) ?_ (fun L023467 => ?_)
    ·skip
     rintro a' wc0 ⟨A1, c1, A2, c2, u9, u10, u11, u12, u14, u16, u18, u21, u22, u23, u24, u25, u26, rfl, hacc, ht1, ht2⟩
     have yk := HP.out wc0 hacc
     have yk1 := Go.Joins.block_setCell (i := 1) yk (.slice A1 nh c1)
     have yk2 := Go.Joins.block_setCell (i := 2) yk1 (.slice A2 no c2)
     have c1' := Go.Joins.cell_of_block yk 1
     have f1 := Go.Joins.unfrozen_of_block yk 1
     have c2' := Go.Joins.cell_of_block yk1 2
     have f2 := Go.Joins.unfrozen_of_block yk1 2
     have YK2 := Lib.hid yk2
     have HACC := Lib.hid hacc
     have HT1 := Lib.hid ht1
     have HT2 := Lib.hid ht2
     clear yk yk1 yk2 hacc ht1 ht2
     refine zN 9 fun K hKK => ?_
     go_simp
     refine hKK.out _ _ ?_ (fun hHeld => ?_)
     ·trivial
     clear hKK K hHeld
     try simp only [zP, zQ, zA2, zA3]
     have hHeld : True := trivial
     refine zV 10 (hQ := fun _ _ _ h => by cases h.1) (h := ?_)
     try simp only [zP, zQ, zA2, zA3]
     clear hHeld
     refine zN 11 fun K hKK => ?_
     go_simp
     refine hKK.out _ _ ?_ (fun hHeld => ?_)
     ·trivial
     clear hKK K hHeld
     try simp only [zP, zQ, zA2, zA3]
     refine wpAnyH_done (by kernel_rfl) ?_ _
     exact ⟨rfl, A1, c1, A2, c2, _, _, _, _, _, _, _, _, _, _, _, _, _, _, _, _, _, _, rfl, YK2.out, (((HACC.out).mono (Nat.le_of_lt HPX.out)).setCell (Nat.le_refl _) _).setCell (Nat.le_refl _) _, ((HT1.out).set HPX.out).set HPX.out, ((HT2.out).set HPX.out).set HPX.out⟩
    refine with_leaf 4 #[true, true, true, true, true, true, true, false, true, false, false, false] (fun a' w' => ∃ (q2 : Nat) (A1 : Option Addr) (c1 : Nat) (u9 u10 u11 u12 u14 u19 u21 u22 u23 u24 u25 u26 : Value), a' = ⟨#[.slice (some ⟨b', off, none⟩) n cap, undef, .slice none 0 0, u3, undef, .pointer (some ⟨p, 0, none⟩), .slice (some ⟨b', off, none⟩) n cap, .int .i64 n, .int .i64 k, u9, u10, u11, u12, .pointer (some ⟨p, 1, none⟩), u14, .slice A1 nh c1, .slice (some ⟨q2, 0, none⟩) 0 0, .pointer (some ⟨p, 2, none⟩), .slice AO no co, u19, .pointer (some ⟨p, 1, none⟩), u21, u22, u23, u24, u25, u26, undef], []⟩ ∧ Below wx.heap.size wx w' ∧ (wx.heap.size ≤ q2 ∧ w'.heap[q2]? = some (.cells #[] 9 (0, 0))) ∧ OT wx.heap.size w' A1 c1 nh H ∧ (∀ ad : Addr, A1 = some ad → ad.block ≠ q2)) ?_ (fun L02346 => ?_)
    ·skip
     rintro a' wc0 ⟨q2, A1, c1, u9, u10, u11, u12, u14, u19, u21, u22, u23, u24, u25, u26, rfl, hacc, hk2, ht1, hne1⟩
     refine zN 7 fun K hKK => ?_
     ·skip
      refine step_append_src rfl (.tmp 16) (.tmp 18) 22 rfl wx.heap.size 9 i0 (.string ⟨#[]⟩) 1 16 Tryz.underlying22 hi hz0 hz1 hz2 rfl (by decide) _ _ _ rfl (litRow hk2) AO no co (O.map Value.string) rfl (by rw [List.length_map, HL2.out]; omega) HA2.out (fun ad had j u hu => texts_cell ((HZ2.out).below hacc) ad had j u hu) (strs_one _) (by unfold maxLen; omega) (by omega) hacc.size ?_
      intro v9 wc1 hown hgrow hat
      obtain ⟨A2, c2, rfl, ht2, hbk⟩ := OT.of_row hown HL2.out
      replace hgrow : wc0.grownBy wc1 (some q2) := hgrow
      replace ht1 : OT wx.heap.size wc1 A1 c1 nh H := ht1.grow hgrow hne1
      replace hacc : Below wx.heap.size wx wc1 := hacc.grown hgrow hacc.size (fun r hr => by have : q2 = r := Option.some.inj hr; have := hk2.1; omega)
      clear hown hgrow hat hbk hk2 hne1
      refine hKK.out _ _ ?_ (fun hHeld => ?_)
      ·trivial
      clear hKK K hHeld
      try simp only [zP, zQ, zA2, zA3]
      exact L023467 _ _ ⟨A1, c1, A2, c2, _, _, _, _, _, _, _, _, _, _, _, _, _, rfl, hacc, ht1, ht2⟩
    refine with_leaf 6 #[true, true, true, false, true, true, true, false, false, false, false, false] (fun a' w' => ∃ (q1 : Nat) (q2 : Nat) (u9 u10 u11 u15 u19 u20 u21 u22 u23 u24 u25 u26 : Value), a' = ⟨#[.slice (some ⟨b', off, none⟩) n cap, undef, .slice none 0 0, u3, undef, .pointer (some ⟨p, 0, none⟩), .slice (some ⟨b', off, none⟩) n cap, .int .i64 n, .int .i64 k, u9, u10, u11, .slice (some ⟨q1, 0, none⟩) 0 0, .pointer (some ⟨p, 1, none⟩), .slice AH nh ch, u15, .slice (some ⟨q2, 0, none⟩) 0 0, .pointer (some ⟨p, 2, none⟩), .slice AO no co, u19, u20, u21, u22, u23, u24, u25, u26, undef], []⟩ ∧ Below wx.heap.size wx w' ∧ (wx.heap.size ≤ q1 ∧ w'.heap[q1]? = some (.cells #[] 9 (0, 0))) ∧ (wx.heap.size ≤ q2 ∧ w'.heap[q2]? = some (.cells #[] 9 (0, 0))) ∧ q1 ≠ q2) ?_ (fun L0246 => ?_)
    ·skip
     rintro a' wc0 ⟨q1, q2, u9, u10, u11, u15, u19, u20, u21, u22, u23, u24, u25, u26, rfl, hacc, hk1, hk2, hne⟩
     refine zN 3 fun K hKK => ?_
     ·skip
      refine step_append_src rfl (.tmp 12) (.tmp 14) 22 rfl wx.heap.size 9 i0 (.string ⟨#[]⟩) 1 16 Tryz.underlying22 hi hz0 hz1 hz2 rfl (by decide) _ _ _ rfl (litRow hk1) AH nh ch (H.map Value.string) rfl (by rw [List.length_map, HL1.out]; omega) HA1.out (fun ad had j u hu => texts_cell ((HZ1.out).below hacc) ad had j u hu) (strs_one _) (by unfold maxLen; omega) (by omega) hacc.size ?_
      intro v9 wc1 hown hgrow hat
      obtain ⟨A1, c1, rfl, ht1, hbk⟩ := OT.of_row hown HL1.out
      replace hgrow : wc0.grownBy wc1 (some q1) := hgrow
      have hne1 : ∀ ad : Addr, A1 = some ad → ad.block ≠ q2 := fun ad h => by
       have h1 := hbk ad h; have h2 := lt_of_block hk2.2
       rcases hat with q | q
       ·rw [h1] at q; have q3 : ad.block = q1 := Option.some.inj q; omega
       ·rw [h1] at q; have q3 : ad.block = wc0.heap.size := Option.some.inj q; omega
      replace hk2 : wx.heap.size ≤ q2 ∧ wc1.heap[q2]? = some (.cells #[] 9 (0, 0)) := ⟨hk2.1, by rw [hgrow.block q2 (lt_of_block hk2.2) (fun z => hne (by have := Option.some.inj z; omega))]; exact hk2.2⟩
      replace hacc : Below wx.heap.size wx wc1 := hacc.grown hgrow hacc.size (fun r hr => by have : q1 = r := Option.some.inj hr; have := hk1.1; omega)
      clear hown hgrow hat hbk hk1 hne
      refine hKK.out _ _ ?_ (fun hHeld => ?_)
      ·trivial
      clear hKK K hHeld
      try simp only [zP, zQ, zA2, zA3]
      have hHeld : True := trivial
      refine zV 8 (hQ := fun _ _ _ h => by cases h.1) (h := ?_)
      try simp only [zP, zQ, zA2, zA3]
      clear hHeld
      exact L02346 _ _ ⟨q2, A1, c1, _, _, _, _, _, _, _, _, _, _, _, _, rfl, hacc, hk2, ht1, hne1⟩
    refine with_leaf 5 #[true, true, true, true, false, true, true, false, true, false, false, false] (fun a' w' => ∃ (A1 : Option Addr) (c1 : Nat) (u9 u10 u11 u12 u14 u16 u19 u21 u22 u23 u24 u25 u26 : Value), a' = ⟨#[.slice (some ⟨b', off, none⟩) n cap, undef, .slice none 0 0, u3, undef, .pointer (some ⟨p, 0, none⟩), .slice (some ⟨b', off, none⟩) n cap, .int .i64 n, .int .i64 k, u9, u10, u11, u12, .pointer (some ⟨p, 1, none⟩), u14, .slice A1 nh c1, u16, .pointer (some ⟨p, 2, none⟩), .slice AO no co, u19, .pointer (some ⟨p, 1, none⟩), u21, u22, u23, u24, u25, u26, undef], []⟩ ∧ Below wx.heap.size wx w' ∧ OT wx.heap.size w' A1 c1 nh H) ?_ (fun L0236 => ?_)
    ·skip
     rintro a' wc0 ⟨A1, c1, u9, u10, u11, u12, u14, u16, u19, u21, u22, u23, u24, u25, u26, rfl, hacc, ht1⟩
     refine zN 4 fun K hKK => ?_
     ·skip
      obtain ⟨q2, e2⟩ : ∃ q, wc0.heap.size = q := ⟨_, rfl⟩
      obtain ⟨wc1, en⟩ : ∃ wn, wc0.alloc (.cells #[] 9) = wn := ⟨_, rfl⟩
      go_simp
      try rw [e2]
      try rw [en]
      have hk2 : wx.heap.size ≤ q2 ∧ wc1.heap[q2]? = some (.cells #[] 9 (0, 0)) := by rw [← en, ← e2]; exact ⟨hacc.size, Array.getElem?_push_size ..⟩
      have hne1 : ∀ ad : Addr, A1 = some ad → ad.block ≠ q2 := fun ad h => by have := (ht1.2.2.2 ad h).2.1; omega
      replace ht1 : OT wx.heap.size wc1 A1 c1 nh H := by rw [← en]; exact ht1.alloc _
      replace hacc : Below wx.heap.size wx wc1 := by rw [← en]; exact hacc.alloc hacc.size _
      clear en e2
      refine hKK.out _ _ ?_ (fun hHeld => ?_)
      ·trivial
      clear hKK K hHeld
      try simp only [zP, zQ, zA2, zA3]
      exact L02346 _ _ ⟨q2, A1, c1, _, _, _, _, _, _, _, _, _, _, _, _, rfl, hacc, hk2, ht1, hne1⟩
    refine with_leaf 6 #[true, true, true, true, true, true, false, false, false, false, false, false] (fun a' w' => ∃ (q2 : Nat) (A1 : Option Addr) (c1 : Nat) (u9 u10 u11 u12 u14 u18 u19 u20 u21 u22 u23 u24 u25 u26 : Value), a' = ⟨#[.slice (some ⟨b', off, none⟩) n cap, undef, .slice none 0 0, u3, undef, .pointer (some ⟨p, 0, none⟩), .slice (some ⟨b', off, none⟩) n cap, .int .i64 n, .int .i64 k, u9, u10, u11, u12, .pointer (some ⟨p, 1, none⟩), u14, .slice A1 nh c1, .slice (some ⟨q2, 0, none⟩) 0 0, .pointer (some ⟨p, 2, none⟩), u18, u19, u20, u21, u22, u23, u24, u25, u26, undef], []⟩ ∧ Below wx.heap.size wx w' ∧ (wx.heap.size ≤ q2 ∧ w'.heap[q2]? = some (.cells #[] 9 (0, 0))) ∧ OT wx.heap.size w' A1 c1 nh H ∧ (∀ ad : Addr, A1 = some ad → ad.block ≠ q2)) ?_ (fun L0234 => ?_)
    ·skip
     rintro a' wc0 ⟨q2, A1, c1, u9, u10, u11, u12, u14, u18, u19, u20, u21, u22, u23, u24, u25, u26, rfl, hacc, hk2, ht1, hne1⟩
     refine zN 6 fun K hKK => ?_
     ·skip
      have y1 := Go.Joins.cell_of_block (HP.out _ hacc) 2
      go_simp
      clear y1
      obtain ⟨wc1, rfl⟩ : ∃ wn, wc0 = wn := ⟨_, rfl⟩
      refine hKK.out _ _ ?_ (fun hHeld => ?_)
      ·trivial
      clear hKK K hHeld
      try simp only [zP, zQ, zA2, zA3]
      have hHeld : True := trivial
      refine zV 8 (hQ := fun _ _ _ h => by cases h.1) (h := ?_)
      try simp only [zP, zQ, zA2, zA3]
      clear hHeld
      exact L02346 _ _ ⟨q2, A1, c1, _, _, _, _, _, _, _, _, _, _, _, _, rfl, hacc, hk2, ht1, hne1⟩
    refine with_leaf 7 #[false, true, true, false, true, true, true, false, false, false, false, false] (fun a' w' => ∃ (q2 : Nat) (u9 u10 u11 u12 u15 u19 u20 u21 u22 u23 u24 u25 u26 : Value), a' = ⟨#[.slice (some ⟨b', off, none⟩) n cap, undef, .slice none 0 0, u3, undef, .pointer (some ⟨p, 0, none⟩), .slice (some ⟨b', off, none⟩) n cap, .int .i64 n, .int .i64 k, u9, u10, u11, u12, .pointer (some ⟨p, 1, none⟩), .slice AH nh ch, u15, .slice (some ⟨q2, 0, none⟩) 0 0, .pointer (some ⟨p, 2, none⟩), .slice AO no co, u19, u20, u21, u22, u23, u24, u25, u26, undef], []⟩ ∧ Below wx.heap.size wx w' ∧ (wx.heap.size ≤ q2 ∧ w'.heap[q2]? = some (.cells #[] 9 (0, 0)))) ?_ (fun L246 => ?_)
    ·skip
     rintro a' wc0 ⟨q2, u9, u10, u11, u12, u15, u19, u20, u21, u22, u23, u24, u25, u26, rfl, hacc, hk2⟩
     refine zN 0 fun K hKK => ?_
     ·skip
      obtain ⟨q1, e1⟩ : ∃ q, wc0.heap.size = q := ⟨_, rfl⟩
      obtain ⟨wc1, en⟩ : ∃ wn, wc0.alloc (.cells #[] 9) = wn := ⟨_, rfl⟩
      go_simp
      try rw [e1]
      try rw [en]
      have hk1 : wx.heap.size ≤ q1 ∧ wc1.heap[q1]? = some (.cells #[] 9 (0, 0)) := by rw [← en, ← e1]; exact ⟨hacc.size, Array.getElem?_push_size ..⟩
      have hne : q1 ≠ q2 := by have := lt_of_block hk2.2; omega
      replace hk2 : wx.heap.size ≤ q2 ∧ wc1.heap[q2]? = some (.cells #[] 9 (0, 0)) := ⟨hk2.1, by rw [← en]; exact old_alloc hk2.2 _⟩
      replace hacc : Below wx.heap.size wx wc1 := by rw [← en]; exact hacc.alloc hacc.size _
      clear en e1
      refine hKK.out _ _ ?_ (fun hHeld => ?_)
      ·trivial
      clear hKK K hHeld
      try simp only [zP, zQ, zA2, zA3]
      exact L0246 _ _ ⟨q1, q2, _, _, _, _, _, _, _, _, _, _, _, _, rfl, hacc, hk1, hk2, hne⟩
    refine with_leaf 7 #[true, true, false, false, true, true, true, false, false, false, false, false] (fun a' w' => ∃ (q1 : Nat) (q2 : Nat) (u9 u10 u11 u14 u15 u19 u20 u21 u22 u23 u24 u25 u26 : Value), a' = ⟨#[.slice (some ⟨b', off, none⟩) n cap, undef, .slice none 0 0, u3, undef, .pointer (some ⟨p, 0, none⟩), .slice (some ⟨b', off, none⟩) n cap, .int .i64 n, .int .i64 k, u9, u10, u11, .slice (some ⟨q1, 0, none⟩) 0 0, .pointer (some ⟨p, 1, none⟩), u14, u15, .slice (some ⟨q2, 0, none⟩) 0 0, .pointer (some ⟨p, 2, none⟩), .slice AO no co, u19, u20, u21, u22, u23, u24, u25, u26, undef], []⟩ ∧ Below wx.heap.size wx w' ∧ (wx.heap.size ≤ q1 ∧ w'.heap[q1]? = some (.cells #[] 9 (0, 0))) ∧ (wx.heap.size ≤ q2 ∧ w'.heap[q2]? = some (.cells #[] 9 (0, 0))) ∧ q1 ≠ q2) ?_ (fun L046 => ?_)
    ·skip
     rintro a' wc0 ⟨q1, q2, u9, u10, u11, u14, u15, u19, u20, u21, u22, u23, u24, u25, u26, rfl, hacc, hk1, hk2, hne⟩
     refine zN 2 fun K hKK => ?_
     ·skip
      have y1 := Go.Joins.cell_of_block (HP.out _ hacc) 1
      go_simp
      clear y1
      obtain ⟨wc1, rfl⟩ : ∃ wn, wc0 = wn := ⟨_, rfl⟩
      refine hKK.out _ _ ?_ (fun hHeld => ?_)
      ·trivial
      clear hKK K hHeld
      try simp only [zP, zQ, zA2, zA3]
      exact L0246 _ _ ⟨q1, q2, _, _, _, _, _, _, _, _, _, _, _, _, rfl, hacc, hk1, hk2, hne⟩
    refine with_leaf 7 #[true, true, true, false, false, true, true, false, false, false, false, false] (fun a' w' => ∃ (q1 : Nat) (u9 u10 u11 u15 u16 u19 u20 u21 u22 u23 u24 u25 u26 : Value), a' = ⟨#[.slice (some ⟨b', off, none⟩) n cap, undef, .slice none 0 0, u3, undef, .pointer (some ⟨p, 0, none⟩), .slice (some ⟨b', off, none⟩) n cap, .int .i64 n, .int .i64 k, u9, u10, u11, .slice (some ⟨q1, 0, none⟩) 0 0, .pointer (some ⟨p, 1, none⟩), .slice AH nh ch, u15, u16, .pointer (some ⟨p, 2, none⟩), .slice AO no co, u19, u20, u21, u22, u23, u24, u25, u26, undef], []⟩ ∧ Below wx.heap.size wx w' ∧ (wx.heap.size ≤ q1 ∧ w'.heap[q1]? = some (.cells #[] 9 (0, 0)))) ?_ (fun L026 => ?_)
    ·skip
     rintro a' wc0 ⟨q1, u9, u10, u11, u15, u16, u19, u20, u21, u22, u23, u24, u25, u26, rfl, hacc, hk1⟩
     refine wpAnyH_ready (rs := [3, 4]) (by kernel_rfl) (by simp) ?_
     refine AllReadyH.cons (o := _) rfl (fun K hKK => ?_) (AllReadyH.cons (o := _) rfl (fun K hKK => ?_) AllReadyH.nil)
     ·skip
      refine step_append_src rfl (.tmp 12) (.tmp 14) 22 rfl wx.heap.size 9 i0 (.string ⟨#[]⟩) 1 16 Tryz.underlying22 hi hz0 hz1 hz2 rfl (by decide) _ _ _ rfl (litRow hk1) AH nh ch (H.map Value.string) rfl (by rw [List.length_map, HL1.out]; omega) HA1.out (fun ad had j u hu => texts_cell ((HZ1.out).below hacc) ad had j u hu) (strs_one _) (by unfold maxLen; omega) (by omega) hacc.size ?_
      intro v9 wc1 hown hgrow hat
      obtain ⟨A1, c1, rfl, ht1, hbk⟩ := OT.of_row hown HL1.out
      replace hgrow : wc0.grownBy wc1 (some q1) := hgrow
      replace hacc : Below wx.heap.size wx wc1 := hacc.grown hgrow hacc.size (fun r hr => by have : q1 = r := Option.some.inj hr; have := hk1.1; omega)
      clear hown hgrow hat hbk hk1
      refine hKK.out _ _ ?_ (fun hHeld => ?_)
      ·trivial
      clear hKK K hHeld
      try simp only [zP, zQ, zA2, zA3]
      have hHeld : True := trivial
      refine zV 8 (hQ := fun _ _ _ h => by cases h.1) (h := ?_)
      try simp only [zP, zQ, zA2, zA3]
      clear hHeld
      exact L0236 _ _ ⟨A1, c1, _, _, _, _, _, _, _, _, _, _, _, _, _, rfl, hacc, ht1⟩
     ·skip
      obtain ⟨q2, e2⟩ : ∃ q, wc0.heap.size = q := ⟨_, rfl⟩
      obtain ⟨wc1, en⟩ : ∃ wn, wc0.alloc (.cells #[] 9) = wn := ⟨_, rfl⟩
      go_simp
      try rw [e2]
      try rw [en]
      have hk2 : wx.heap.size ≤ q2 ∧ wc1.heap[q2]? = some (.cells #[] 9 (0, 0)) := by rw [← en, ← e2]; exact ⟨hacc.size, Array.getElem?_push_size ..⟩
      have hne : q1 ≠ q2 := by have := lt_of_block hk1.2; omega
      replace hk1 : wx.heap.size ≤ q1 ∧ wc1.heap[q1]? = some (.cells #[] 9 (0, 0)) := ⟨hk1.1, by rw [← en]; exact old_alloc hk1.2 _⟩
      replace hacc : Below wx.heap.size wx wc1 := by rw [← en]; exact hacc.alloc hacc.size _
      clear en e2
      refine hKK.out _ _ ?_ (fun hHeld => ?_)
      ·trivial
      clear hKK K hHeld
      try simp only [zP, zQ, zA2, zA3]
      exact L0246 _ _ ⟨q1, q2, _, _, _, _, _, _, _, _, _, _, _, _, rfl, hacc, hk1, hk2, hne⟩
    refine with_leaf 7 #[true, true, true, false, true, true, false, false, false, false, false, false] (fun a' w' => ∃ (q1 : Nat) (q2 : Nat) (u9 u10 u11 u15 u18 u19 u20 u21 u22 u23 u24 u25 u26 : Value), a' = ⟨#[.slice (some ⟨b', off, none⟩) n cap, undef, .slice none 0 0, u3, undef, .pointer (some ⟨p, 0, none⟩), .slice (some ⟨b', off, none⟩) n cap, .int .i64 n, .int .i64 k, u9, u10, u11, .slice (some ⟨q1, 0, none⟩) 0 0, .pointer (some ⟨p, 1, none⟩), .slice AH nh ch, u15, .slice (some ⟨q2, 0, none⟩) 0 0, .pointer (some ⟨p, 2, none⟩), u18, u19, u20, u21, u22, u23, u24, u25, u26, undef], []⟩ ∧ Below wx.heap.size wx w' ∧ (wx.heap.size ≤ q1 ∧ w'.heap[q1]? = some (.cells #[] 9 (0, 0))) ∧ (wx.heap.size ≤ q2 ∧ w'.heap[q2]? = some (.cells #[] 9 (0, 0))) ∧ q1 ≠ q2) ?_ (fun L024 => ?_)
    ·skip
     rintro a' wc0 ⟨q1, q2, u9, u10, u11, u15, u18, u19, u20, u21, u22, u23, u24, u25, u26, rfl, hacc, hk1, hk2, hne⟩
     refine wpAnyH_ready (rs := [3, 6]) (by kernel_rfl) (by simp) ?_
     refine AllReadyH.cons (o := _) rfl (fun K hKK => ?_) (AllReadyH.cons (o := _) rfl (fun K hKK => ?_) AllReadyH.nil)
     ·skip
      refine step_append_src rfl (.tmp 12) (.tmp 14) 22 rfl wx.heap.size 9 i0 (.string ⟨#[]⟩) 1 16 Tryz.underlying22 hi hz0 hz1 hz2 rfl (by decide) _ _ _ rfl (litRow hk1) AH nh ch (H.map Value.string) rfl (by rw [List.length_map, HL1.out]; omega) HA1.out (fun ad had j u hu => texts_cell ((HZ1.out).below hacc) ad had j u hu) (strs_one _) (by unfold maxLen; omega) (by omega) hacc.size ?_
      intro v9 wc1 hown hgrow hat
      obtain ⟨A1, c1, rfl, ht1, hbk⟩ := OT.of_row hown HL1.out
      replace hgrow : wc0.grownBy wc1 (some q1) := hgrow
      have hne1 : ∀ ad : Addr, A1 = some ad → ad.block ≠ q2 := fun ad h => by
       have h1 := hbk ad h; have h2 := lt_of_block hk2.2
       rcases hat with q | q
       ·rw [h1] at q; have q3 : ad.block = q1 := Option.some.inj q; omega
       ·rw [h1] at q; have q3 : ad.block = wc0.heap.size := Option.some.inj q; omega
      replace hk2 : wx.heap.size ≤ q2 ∧ wc1.heap[q2]? = some (.cells #[] 9 (0, 0)) := ⟨hk2.1, by rw [hgrow.block q2 (lt_of_block hk2.2) (fun z => hne (by have := Option.some.inj z; omega))]; exact hk2.2⟩
      replace hacc : Below wx.heap.size wx wc1 := hacc.grown hgrow hacc.size (fun r hr => by have : q1 = r := Option.some.inj hr; have := hk1.1; omega)
      clear hown hgrow hat hbk hk1 hne
      refine hKK.out _ _ ?_ (fun hHeld => ?_)
      ·trivial
      clear hKK K hHeld
      try simp only [zP, zQ, zA2, zA3]
      exact L0234 _ _ ⟨q2, A1, c1, _, _, _, _, _, _, _, _, _, _, _, _, _, _, rfl, hacc, hk2, ht1, hne1⟩
     ·skip
      have y1 := Go.Joins.cell_of_block (HP.out _ hacc) 2
      go_simp
      clear y1
      obtain ⟨wc1, rfl⟩ : ∃ wn, wc0 = wn := ⟨_, rfl⟩
      refine hKK.out _ _ ?_ (fun hHeld => ?_)
      ·trivial
      clear hKK K hHeld
      try simp only [zP, zQ, zA2, zA3]
      exact L0246 _ _ ⟨q1, q2, _, _, _, _, _, _, _, _, _, _, _, _, rfl, hacc, hk1, hk2, hne⟩
    refine with_leaf 7 #[true, true, true, true, false, true, false, false, false, false, false, false] (fun a' w' => ∃ (A1 : Option Addr) (c1 : Nat) (u9 u10 u11 u12 u14 u16 u18 u19 u20 u21 u22 u23 u24 u25 u26 : Value), a' = ⟨#[.slice (some ⟨b', off, none⟩) n cap, undef, .slice none 0 0, u3, undef, .pointer (some ⟨p, 0, none⟩), .slice (some ⟨b', off, none⟩) n cap, .int .i64 n, .int .i64 k, u9, u10, u11, u12, .pointer (some ⟨p, 1, none⟩), u14, .slice A1 nh c1, u16, .pointer (some ⟨p, 2, none⟩), u18, u19, u20, u21, u22, u23, u24, u25, u26, undef], []⟩ ∧ Below wx.heap.size wx w' ∧ OT wx.heap.size w' A1 c1 nh H) ?_ (fun L023 => ?_)
    ·skip
     rintro a' wc0 ⟨A1, c1, u9, u10, u11, u12, u14, u16, u18, u19, u20, u21, u22, u23, u24, u25, u26, rfl, hacc, ht1⟩
     refine wpAnyH_ready (rs := [4, 6]) (by kernel_rfl) (by simp) ?_
     refine AllReadyH.cons (o := _) rfl (fun K hKK => ?_) (AllReadyH.cons (o := _) rfl (fun K hKK => ?_) AllReadyH.nil)
     ·skip
      obtain ⟨q2, e2⟩ : ∃ q, wc0.heap.size = q := ⟨_, rfl⟩
      obtain ⟨wc1, en⟩ : ∃ wn, wc0.alloc (.cells #[] 9) = wn := ⟨_, rfl⟩
      go_simp
      try rw [e2]
      try rw [en]
      have hk2 : wx.heap.size ≤ q2 ∧ wc1.heap[q2]? = some (.cells #[] 9 (0, 0)) := by rw [← en, ← e2]; exact ⟨hacc.size, Array.getElem?_push_size ..⟩
      have hne1 : ∀ ad : Addr, A1 = some ad → ad.block ≠ q2 := fun ad h => by have := (ht1.2.2.2 ad h).2.1; omega
      replace ht1 : OT wx.heap.size wc1 A1 c1 nh H := by rw [← en]; exact ht1.alloc _
      replace hacc : Below wx.heap.size wx wc1 := by rw [← en]; exact hacc.alloc hacc.size _
      clear en e2
      refine hKK.out _ _ ?_ (fun hHeld => ?_)
      ·trivial
      clear hKK K hHeld
      try simp only [zP, zQ, zA2, zA3]
      exact L0234 _ _ ⟨q2, A1, c1, _, _, _, _, _, _, _, _, _, _, _, _, _, _, rfl, hacc, hk2, ht1, hne1⟩
     ·skip
      have y1 := Go.Joins.cell_of_block (HP.out _ hacc) 2
      go_simp
      clear y1
      obtain ⟨wc1, rfl⟩ : ∃ wn, wc0 = wn := ⟨_, rfl⟩
      refine hKK.out _ _ ?_ (fun hHeld => ?_)
      ·trivial
      clear hKK K hHeld
      try simp only [zP, zQ, zA2, zA3]
      have hHeld : True := trivial
      refine zV 8 (hQ := fun _ _ _ h => by cases h.1) (h := ?_)
      try simp only [zP, zQ, zA2, zA3]
      clear hHeld
      exact L0236 _ _ ⟨A1, c1, _, _, _, _, _, _, _, _, _, _, _, _, _, rfl, hacc, ht1⟩
    refine with_leaf 8 #[false, true, false, false, true, true, true, false, false, false, false, false] (fun a' w' => ∃ (q2 : Nat) (u9 u10 u11 u12 u14 u15 u19 u20 u21 u22 u23 u24 u25 u26 : Value), a' = ⟨#[.slice (some ⟨b', off, none⟩) n cap, undef, .slice none 0 0, u3, undef, .pointer (some ⟨p, 0, none⟩), .slice (some ⟨b', off, none⟩) n cap, .int .i64 n, .int .i64 k, u9, u10, u11, u12, .pointer (some ⟨p, 1, none⟩), u14, u15, .slice (some ⟨q2, 0, none⟩) 0 0, .pointer (some ⟨p, 2, none⟩), .slice AO no co, u19, u20, u21, u22, u23, u24, u25, u26, undef], []⟩ ∧ Below wx.heap.size wx w' ∧ (wx.heap.size ≤ q2 ∧ w'.heap[q2]? = some (.cells #[] 9 (0, 0)))) ?_ (fun L46 => ?_)
    ·skip
     rintro a' wc0 ⟨q2, u9, u10, u11, u12, u14, u15, u19, u20, u21, u22, u23, u24, u25, u26, rfl, hacc, hk2⟩
     refine wpAnyH_ready (rs := [0, 2]) (by kernel_rfl) (by simp) ?_
     refine AllReadyH.cons (o := _) rfl (fun K hKK => ?_) (AllReadyH.cons (o := _) rfl (fun K hKK => ?_) AllReadyH.nil)
     ·skip
      obtain ⟨q1, e1⟩ : ∃ q, wc0.heap.size = q := ⟨_, rfl⟩
      obtain ⟨wc1, en⟩ : ∃ wn, wc0.alloc (.cells #[] 9) = wn := ⟨_, rfl⟩
      go_simp
      try rw [e1]
      try rw [en]
      have hk1 : wx.heap.size ≤ q1 ∧ wc1.heap[q1]? = some (.cells #[] 9 (0, 0)) := by rw [← en, ← e1]; exact ⟨hacc.size, Array.getElem?_push_size ..⟩
      have hne : q1 ≠ q2 := by have := lt_of_block hk2.2; omega
      replace hk2 : wx.heap.size ≤ q2 ∧ wc1.heap[q2]? = some (.cells #[] 9 (0, 0)) := ⟨hk2.1, by rw [← en]; exact old_alloc hk2.2 _⟩
      replace hacc : Below wx.heap.size wx wc1 := by rw [← en]; exact hacc.alloc hacc.size _
      clear en e1
      refine hKK.out _ _ ?_ (fun hHeld => ?_)
      ·trivial
      clear hKK K hHeld
      try simp only [zP, zQ, zA2, zA3]
      exact L046 _ _ ⟨q1, q2, _, _, _, _, _, _, _, _, _, _, _, _, _, rfl, hacc, hk1, hk2, hne⟩
     ·skip
      have y1 := Go.Joins.cell_of_block (HP.out _ hacc) 1
      go_simp
      clear y1
      obtain ⟨wc1, rfl⟩ : ∃ wn, wc0 = wn := ⟨_, rfl⟩
      refine hKK.out _ _ ?_ (fun hHeld => ?_)
      ·trivial
      clear hKK K hHeld
      try simp only [zP, zQ, zA2, zA3]
      exact L246 _ _ ⟨q2, _, _, _, _, _, _, _, _, _, _, _, _, _, rfl, hacc, hk2⟩
    refine with_leaf 8 #[false, true, true, false, false, true, true, false, false, false, false, false] (fun a' w' => ∃  (u9 u10 u11 u12 u15 u16 u19 u20 u21 u22 u23 u24 u25 u26 : Value), a' = ⟨#[.slice (some ⟨b', off, none⟩) n cap, undef, .slice none 0 0, u3, undef, .pointer (some ⟨p, 0, none⟩), .slice (some ⟨b', off, none⟩) n cap, .int .i64 n, .int .i64 k, u9, u10, u11, u12, .pointer (some ⟨p, 1, none⟩), .slice AH nh ch, u15, u16, .pointer (some ⟨p, 2, none⟩), .slice AO no co, u19, u20, u21, u22, u23, u24, u25, u26, undef], []⟩ ∧ Below wx.heap.size wx w') ?_ (fun L26 => ?_)
    ·skip
     rintro a' wc0 ⟨u9, u10, u11, u12, u15, u16, u19, u20, u21, u22, u23, u24, u25, u26, rfl, hacc⟩
     refine wpAnyH_ready (rs := [0, 4]) (by kernel_rfl) (by simp) ?_
     refine AllReadyH.cons (o := _) rfl (fun K hKK => ?_) (AllReadyH.cons (o := _) rfl (fun K hKK => ?_) AllReadyH.nil)
     ·skip
      obtain ⟨q1, e1⟩ : ∃ q, wc0.heap.size = q := ⟨_, rfl⟩
      obtain ⟨wc1, en⟩ : ∃ wn, wc0.alloc (.cells #[] 9) = wn := ⟨_, rfl⟩
      go_simp
      try rw [e1]
      try rw [en]
      have hk1 : wx.heap.size ≤ q1 ∧ wc1.heap[q1]? = some (.cells #[] 9 (0, 0)) := by rw [← en, ← e1]; exact ⟨hacc.size, Array.getElem?_push_size ..⟩
      replace hacc : Below wx.heap.size wx wc1 := by rw [← en]; exact hacc.alloc hacc.size _
      clear en e1
      refine hKK.out _ _ ?_ (fun hHeld => ?_)
      ·trivial
      clear hKK K hHeld
      try simp only [zP, zQ, zA2, zA3]
      exact L026 _ _ ⟨q1, _, _, _, _, _, _, _, _, _, _, _, _, _, rfl, hacc, hk1⟩
     ·skip
      obtain ⟨q2, e2⟩ : ∃ q, wc0.heap.size = q := ⟨_, rfl⟩
      obtain ⟨wc1, en⟩ : ∃ wn, wc0.alloc (.cells #[] 9) = wn := ⟨_, rfl⟩
      go_simp
      try rw [e2]
      try rw [en]
      have hk2 : wx.heap.size ≤ q2 ∧ wc1.heap[q2]? = some (.cells #[] 9 (0, 0)) := by rw [← en, ← e2]; exact ⟨hacc.size, Array.getElem?_push_size ..⟩
      replace hacc : Below wx.heap.size wx wc1 := by rw [← en]; exact hacc.alloc hacc.size _
      clear en e2
      refine hKK.out _ _ ?_ (fun hHeld => ?_)
      ·trivial
      clear hKK K hHeld
      try simp only [zP, zQ, zA2, zA3]
      exact L246 _ _ ⟨q2, _, _, _, _, _, _, _, _, _, _, _, _, _, rfl, hacc, hk2⟩
    refine with_leaf 8 #[false, true, true, false, true, true, false, false, false, false, false, false] (fun a' w' => ∃ (q2 : Nat) (u9 u10 u11 u12 u15 u18 u19 u20 u21 u22 u23 u24 u25 u26 : Value), a' = ⟨#[.slice (some ⟨b', off, none⟩) n cap, undef, .slice none 0 0, u3, undef, .pointer (some ⟨p, 0, none⟩), .slice (some ⟨b', off, none⟩) n cap, .int .i64 n, .int .i64 k, u9, u10, u11, u12, .pointer (some ⟨p, 1, none⟩), .slice AH nh ch, u15, .slice (some ⟨q2, 0, none⟩) 0 0, .pointer (some ⟨p, 2, none⟩), u18, u19, u20, u21, u22, u23, u24, u25, u26, undef], []⟩ ∧ Below wx.heap.size wx w' ∧ (wx.heap.size ≤ q2 ∧ w'.heap[q2]? = some (.cells #[] 9 (0, 0)))) ?_ (fun L24 => ?_)
    ·skip
     rintro a' wc0 ⟨q2, u9, u10, u11, u12, u15, u18, u19, u20, u21, u22, u23, u24, u25, u26, rfl, hacc, hk2⟩
     refine wpAnyH_ready (rs := [0, 6]) (by kernel_rfl) (by simp) ?_
     refine AllReadyH.cons (o := _) rfl (fun K hKK => ?_) (AllReadyH.cons (o := _) rfl (fun K hKK => ?_) AllReadyH.nil)
     ·skip
      obtain ⟨q1, e1⟩ : ∃ q, wc0.heap.size = q := ⟨_, rfl⟩
      obtain ⟨wc1, en⟩ : ∃ wn, wc0.alloc (.cells #[] 9) = wn := ⟨_, rfl⟩
      go_simp
      try rw [e1]
      try rw [en]
      have hk1 : wx.heap.size ≤ q1 ∧ wc1.heap[q1]? = some (.cells #[] 9 (0, 0)) := by rw [← en, ← e1]; exact ⟨hacc.size, Array.getElem?_push_size ..⟩
      have hne : q1 ≠ q2 := by have := lt_of_block hk2.2; omega
      replace hk2 : wx.heap.size ≤ q2 ∧ wc1.heap[q2]? = some (.cells #[] 9 (0, 0)) := ⟨hk2.1, by rw [← en]; exact old_alloc hk2.2 _⟩
      replace hacc : Below wx.heap.size wx wc1 := by rw [← en]; exact hacc.alloc hacc.size _
      clear en e1
      refine hKK.out _ _ ?_ (fun hHeld => ?_)
      ·trivial
      clear hKK K hHeld
      try simp only [zP, zQ, zA2, zA3]
      exact L024 _ _ ⟨q1, q2, _, _, _, _, _, _, _, _, _, _, _, _, _, rfl, hacc, hk1, hk2, hne⟩
     ·skip
      have y1 := Go.Joins.cell_of_block (HP.out _ hacc) 2
      go_simp
      clear y1
      obtain ⟨wc1, rfl⟩ : ∃ wn, wc0 = wn := ⟨_, rfl⟩
      refine hKK.out _ _ ?_ (fun hHeld => ?_)
      ·trivial
      clear hKK K hHeld
      try simp only [zP, zQ, zA2, zA3]
      exact L246 _ _ ⟨q2, _, _, _, _, _, _, _, _, _, _, _, _, _, rfl, hacc, hk2⟩
    refine with_leaf 8 #[true, true, false, false, false, true, true, false, false, false, false, false] (fun a' w' => ∃ (q1 : Nat) (u9 u10 u11 u14 u15 u16 u19 u20 u21 u22 u23 u24 u25 u26 : Value), a' = ⟨#[.slice (some ⟨b', off, none⟩) n cap, undef, .slice none 0 0, u3, undef, .pointer (some ⟨p, 0, none⟩), .slice (some ⟨b', off, none⟩) n cap, .int .i64 n, .int .i64 k, u9, u10, u11, .slice (some ⟨q1, 0, none⟩) 0 0, .pointer (some ⟨p, 1, none⟩), u14, u15, u16, .pointer (some ⟨p, 2, none⟩), .slice AO no co, u19, u20, u21, u22, u23, u24, u25, u26, undef], []⟩ ∧ Below wx.heap.size wx w' ∧ (wx.heap.size ≤ q1 ∧ w'.heap[q1]? = some (.cells #[] 9 (0, 0)))) ?_ (fun L06 => ?_)
    ·skip
     rintro a' wc0 ⟨q1, u9, u10, u11, u14, u15, u16, u19, u20, u21, u22, u23, u24, u25, u26, rfl, hacc, hk1⟩
     refine wpAnyH_ready (rs := [2, 4]) (by kernel_rfl) (by simp) ?_
     refine AllReadyH.cons (o := _) rfl (fun K hKK => ?_) (AllReadyH.cons (o := _) rfl (fun K hKK => ?_) AllReadyH.nil)
     ·skip
      have y1 := Go.Joins.cell_of_block (HP.out _ hacc) 1
      go_simp
      clear y1
      obtain ⟨wc1, rfl⟩ : ∃ wn, wc0 = wn := ⟨_, rfl⟩
      refine hKK.out _ _ ?_ (fun hHeld => ?_)
      ·trivial
      clear hKK K hHeld
      try simp only [zP, zQ, zA2, zA3]
      exact L026 _ _ ⟨q1, _, _, _, _, _, _, _, _, _, _, _, _, _, rfl, hacc, hk1⟩
     ·skip
      obtain ⟨q2, e2⟩ : ∃ q, wc0.heap.size = q := ⟨_, rfl⟩
      obtain ⟨wc1, en⟩ : ∃ wn, wc0.alloc (.cells #[] 9) = wn := ⟨_, rfl⟩
      go_simp
      try rw [e2]
      try rw [en]
      have hk2 : wx.heap.size ≤ q2 ∧ wc1.heap[q2]? = some (.cells #[] 9 (0, 0)) := by rw [← en, ← e2]; exact ⟨hacc.size, Array.getElem?_push_size ..⟩
      have hne : q1 ≠ q2 := by have := lt_of_block hk1.2; omega
      replace hk1 : wx.heap.size ≤ q1 ∧ wc1.heap[q1]? = some (.cells #[] 9 (0, 0)) := ⟨hk1.1, by rw [← en]; exact old_alloc hk1.2 _⟩
      replace hacc : Below wx.heap.size wx wc1 := by rw [← en]; exact hacc.alloc hacc.size _
      clear en e2
      refine hKK.out _ _ ?_ (fun hHeld => ?_)
      ·trivial
      clear hKK K hHeld
      try simp only [zP, zQ, zA2, zA3]
      exact L046 _ _ ⟨q1, q2, _, _, _, _, _, _, _, _, _, _, _, _, _, rfl, hacc, hk1, hk2, hne⟩
    refine with_leaf 8 #[true, true, false, false, true, true, false, false, false, false, false, false] (fun a' w' => ∃ (q1 : Nat) (q2 : Nat) (u9 u10 u11 u14 u15 u18 u19 u20 u21 u22 u23 u24 u25 u26 : Value), a' = ⟨#[.slice (some ⟨b', off, none⟩) n cap, undef, .slice none 0 0, u3, undef, .pointer (some ⟨p, 0, none⟩), .slice (some ⟨b', off, none⟩) n cap, .int .i64 n, .int .i64 k, u9, u10, u11, .slice (some ⟨q1, 0, none⟩) 0 0, .pointer (some ⟨p, 1, none⟩), u14, u15, .slice (some ⟨q2, 0, none⟩) 0 0, .pointer (some ⟨p, 2, none⟩), u18, u19, u20, u21, u22, u23, u24, u25, u26, undef], []⟩ ∧ Below wx.heap.size wx w' ∧ (wx.heap.size ≤ q1 ∧ w'.heap[q1]? = some (.cells #[] 9 (0, 0))) ∧ (wx.heap.size ≤ q2 ∧ w'.heap[q2]? = some (.cells #[] 9 (0, 0))) ∧ q1 ≠ q2) ?_ (fun L04 => ?_)
    ·skip
     rintro a' wc0 ⟨q1, q2, u9, u10, u11, u14, u15, u18, u19, u20, u21, u22, u23, u24, u25, u26, rfl, hacc, hk1, hk2, hne⟩
     refine wpAnyH_ready (rs := [2, 6]) (by kernel_rfl) (by simp) ?_
     refine AllReadyH.cons (o := _) rfl (fun K hKK => ?_) (AllReadyH.cons (o := _) rfl (fun K hKK => ?_) AllReadyH.nil)
     ·skip
      have y1 := Go.Joins.cell_of_block (HP.out _ hacc) 1
      go_simp
      clear y1
      obtain ⟨wc1, rfl⟩ : ∃ wn, wc0 = wn := ⟨_, rfl⟩
      refine hKK.out _ _ ?_ (fun hHeld => ?_)
      ·trivial
      clear hKK K hHeld
      try simp only [zP, zQ, zA2, zA3]
      exact L024 _ _ ⟨q1, q2, _, _, _, _, _, _, _, _, _, _, _, _, _, rfl, hacc, hk1, hk2, hne⟩
     ·skip
      have y1 := Go.Joins.cell_of_block (HP.out _ hacc) 2
      go_simp
      clear y1
      obtain ⟨wc1, rfl⟩ : ∃ wn, wc0 = wn := ⟨_, rfl⟩
      refine hKK.out _ _ ?_ (fun hHeld => ?_)
      ·trivial
      clear hKK K hHeld
      try simp only [zP, zQ, zA2, zA3]
      exact L046 _ _ ⟨q1, q2, _, _, _, _, _, _, _, _, _, _, _, _, _, rfl, hacc, hk1, hk2, hne⟩
    refine with_leaf 8 #[true, true, true, false, false, true, false, false, false, false, false, false] (fun a' w' => ∃ (q1 : Nat) (u9 u10 u11 u15 u16 u18 u19 u20 u21 u22 u23 u24 u25 u26 : Value), a' = ⟨#[.slice (some ⟨b', off, none⟩) n cap, undef, .slice none 0 0, u3, undef, .pointer (some ⟨p, 0, none⟩), .slice (some ⟨b', off, none⟩) n cap, .int .i64 n, .int .i64 k, u9, u10, u11, .slice (some ⟨q1, 0, none⟩) 0 0, .pointer (some ⟨p, 1, none⟩), .slice AH nh ch, u15, u16, .pointer (some ⟨p, 2, none⟩), u18, u19, u20, u21, u22, u23, u24, u25, u26, undef], []⟩ ∧ Below wx.heap.size wx w' ∧ (wx.heap.size ≤ q1 ∧ w'.heap[q1]? = some (.cells #[] 9 (0, 0)))) ?_ (fun L02 => ?_)
    ·skip
     rintro a' wc0 ⟨q1, u9, u10, u11, u15, u16, u18, u19, u20, u21, u22, u23, u24, u25, u26, rfl, hacc, hk1⟩
     refine wpAnyH_ready (rs := [3, 4, 6]) (by kernel_rfl) (by simp) ?_
     refine AllReadyH.cons (o := _) rfl (fun K hKK => ?_) (AllReadyH.cons (o := _) rfl (fun K hKK => ?_) (AllReadyH.cons (o := _) rfl (fun K hKK => ?_) AllReadyH.nil))
     ·skip
      refine step_append_src rfl (.tmp 12) (.tmp 14) 22 rfl wx.heap.size 9 i0 (.string ⟨#[]⟩) 1 16 Tryz.underlying22 hi hz0 hz1 hz2 rfl (by decide) _ _ _ rfl (litRow hk1) AH nh ch (H.map Value.string) rfl (by rw [List.length_map, HL1.out]; omega) HA1.out (fun ad had j u hu => texts_cell ((HZ1.out).below hacc) ad had j u hu) (strs_one _) (by unfold maxLen; omega) (by omega) hacc.size ?_
      intro v9 wc1 hown hgrow hat
      obtain ⟨A1, c1, rfl, ht1, hbk⟩ := OT.of_row hown HL1.out
      replace hgrow : wc0.grownBy wc1 (some q1) := hgrow
      replace hacc : Below wx.heap.size wx wc1 := hacc.grown hgrow hacc.size (fun r hr => by have : q1 = r := Option.some.inj hr; have := hk1.1; omega)
      clear hown hgrow hat hbk hk1
      refine hKK.out _ _ ?_ (fun hHeld => ?_)
      ·trivial
      clear hKK K hHeld
      try simp only [zP, zQ, zA2, zA3]
      exact L023 _ _ ⟨A1, c1, _, _, _, _, _, _, _, _, _, _, _, _, _, _, _, rfl, hacc, ht1⟩
     ·skip
      obtain ⟨q2, e2⟩ : ∃ q, wc0.heap.size = q := ⟨_, rfl⟩
      obtain ⟨wc1, en⟩ : ∃ wn, wc0.alloc (.cells #[] 9) = wn := ⟨_, rfl⟩
      go_simp
      try rw [e2]
      try rw [en]
      have hk2 : wx.heap.size ≤ q2 ∧ wc1.heap[q2]? = some (.cells #[] 9 (0, 0)) := by rw [← en, ← e2]; exact ⟨hacc.size, Array.getElem?_push_size ..⟩
      have hne : q1 ≠ q2 := by have := lt_of_block hk1.2; omega
      replace hk1 : wx.heap.size ≤ q1 ∧ wc1.heap[q1]? = some (.cells #[] 9 (0, 0)) := ⟨hk1.1, by rw [← en]; exact old_alloc hk1.2 _⟩
      replace hacc : Below wx.heap.size wx wc1 := by rw [← en]; exact hacc.alloc hacc.size _
      clear en e2
      refine hKK.out _ _ ?_ (fun hHeld => ?_)
      ·trivial
      clear hKK K hHeld
      try simp only [zP, zQ, zA2, zA3]
      exact L024 _ _ ⟨q1, q2, _, _, _, _, _, _, _, _, _, _, _, _, _, rfl, hacc, hk1, hk2, hne⟩
     ·skip
      have y1 := Go.Joins.cell_of_block (HP.out _ hacc) 2
      go_simp
      clear y1
      obtain ⟨wc1, rfl⟩ : ∃ wn, wc0 = wn := ⟨_, rfl⟩
      refine hKK.out _ _ ?_ (fun hHeld => ?_)
      ·trivial
      clear hKK K hHeld
      try simp only [zP, zQ, zA2, zA3]
      exact L026 _ _ ⟨q1, _, _, _, _, _, _, _, _, _, _, _, _, _, rfl, hacc, hk1⟩
    refine with_leaf 9 #[false, true, false, false, false, true, true, false, false, false, false, false] (fun a' w' => ∃  (u9 u10 u11 u12 u14 u15 u16 u19 u20 u21 u22 u23 u24 u25 u26 : Value), a' = ⟨#[.slice (some ⟨b', off, none⟩) n cap, undef, .slice none 0 0, u3, undef, .pointer (some ⟨p, 0, none⟩), .slice (some ⟨b', off, none⟩) n cap, .int .i64 n, .int .i64 k, u9, u10, u11, u12, .pointer (some ⟨p, 1, none⟩), u14, u15, u16, .pointer (some ⟨p, 2, none⟩), .slice AO no co, u19, u20, u21, u22, u23, u24, u25, u26, undef], []⟩ ∧ Below wx.heap.size wx w') ?_ (fun L6 => ?_)
    ·skip
     rintro a' wc0 ⟨u9, u10, u11, u12, u14, u15, u16, u19, u20, u21, u22, u23, u24, u25, u26, rfl, hacc⟩
     refine wpAnyH_ready (rs := [0, 2, 4]) (by kernel_rfl) (by simp) ?_
     refine AllReadyH.cons (o := _) rfl (fun K hKK => ?_) (AllReadyH.cons (o := _) rfl (fun K hKK => ?_) (AllReadyH.cons (o := _) rfl (fun K hKK => ?_) AllReadyH.nil))
     ·skip
      obtain ⟨q1, e1⟩ : ∃ q, wc0.heap.size = q := ⟨_, rfl⟩
      obtain ⟨wc1, en⟩ : ∃ wn, wc0.alloc (.cells #[] 9) = wn := ⟨_, rfl⟩
      go_simp
      try rw [e1]
      try rw [en]
      have hk1 : wx.heap.size ≤ q1 ∧ wc1.heap[q1]? = some (.cells #[] 9 (0, 0)) := by rw [← en, ← e1]; exact ⟨hacc.size, Array.getElem?_push_size ..⟩
      replace hacc : Below wx.heap.size wx wc1 := by rw [← en]; exact hacc.alloc hacc.size _
      clear en e1
      refine hKK.out _ _ ?_ (fun hHeld => ?_)
      ·trivial
      clear hKK K hHeld
      try simp only [zP, zQ, zA2, zA3]
      exact L06 _ _ ⟨q1, _, _, _, _, _, _, _, _, _, _, _, _, _, _, rfl, hacc, hk1⟩
     ·skip
      have y1 := Go.Joins.cell_of_block (HP.out _ hacc) 1
      go_simp
      clear y1
      obtain ⟨wc1, rfl⟩ : ∃ wn, wc0 = wn := ⟨_, rfl⟩
      refine hKK.out _ _ ?_ (fun hHeld => ?_)
      ·trivial
      clear hKK K hHeld
      try simp only [zP, zQ, zA2, zA3]
      exact L26 _ _ ⟨_, _, _, _, _, _, _, _, _, _, _, _, _, _, rfl, hacc⟩
     ·skip
      obtain ⟨q2, e2⟩ : ∃ q, wc0.heap.size = q := ⟨_, rfl⟩
      obtain ⟨wc1, en⟩ : ∃ wn, wc0.alloc (.cells #[] 9) = wn := ⟨_, rfl⟩
      go_simp
      try rw [e2]
      try rw [en]
      have hk2 : wx.heap.size ≤ q2 ∧ wc1.heap[q2]? = some (.cells #[] 9 (0, 0)) := by rw [← en, ← e2]; exact ⟨hacc.size, Array.getElem?_push_size ..⟩
      replace hacc : Below wx.heap.size wx wc1 := by rw [← en]; exact hacc.alloc hacc.size _
      clear en e2
      refine hKK.out _ _ ?_ (fun hHeld => ?_)
      ·trivial
      clear hKK K hHeld
      try simp only [zP, zQ, zA2, zA3]
      exact L46 _ _ ⟨q2, _, _, _, _, _, _, _, _, _, _, _, _, _, _, rfl, hacc, hk2⟩
    refine with_leaf 9 #[false, true, false, false, true, true, false, false, false, false, false, false] (fun a' w' => ∃ (q2 : Nat) (u9 u10 u11 u12 u14 u15 u18 u19 u20 u21 u22 u23 u24 u25 u26 : Value), a' = ⟨#[.slice (some ⟨b', off, none⟩) n cap, undef, .slice none 0 0, u3, undef, .pointer (some ⟨p, 0, none⟩), .slice (some ⟨b', off, none⟩) n cap, .int .i64 n, .int .i64 k, u9, u10, u11, u12, .pointer (some ⟨p, 1, none⟩), u14, u15, .slice (some ⟨q2, 0, none⟩) 0 0, .pointer (some ⟨p, 2, none⟩), u18, u19, u20, u21, u22, u23, u24, u25, u26, undef], []⟩ ∧ Below wx.heap.size wx w' ∧ (wx.heap.size ≤ q2 ∧ w'.heap[q2]? = some (.cells #[] 9 (0, 0)))) ?_ (fun L4 => ?_)
    ·skip
     rintro a' wc0 ⟨q2, u9, u10, u11, u12, u14, u15, u18, u19, u20, u21, u22, u23, u24, u25, u26, rfl, hacc, hk2⟩
     refine wpAnyH_ready (rs := [0, 2, 6]) (by kernel_rfl) (by simp) ?_
     refine AllReadyH.cons (o := _) rfl (fun K hKK => ?_) (AllReadyH.cons (o := _) rfl (fun K hKK => ?_) (AllReadyH.cons (o := _) rfl (fun K hKK => ?_) AllReadyH.nil))
     ·skip
      obtain ⟨q1, e1⟩ : ∃ q, wc0.heap.size = q := ⟨_, rfl⟩
      obtain ⟨wc1, en⟩ : ∃ wn, wc0.alloc (.cells #[] 9) = wn := ⟨_, rfl⟩
      go_simp
      try rw [e1]
      try rw [en]
      have hk1 : wx.heap.size ≤ q1 ∧ wc1.heap[q1]? = some (.cells #[] 9 (0, 0)) := by rw [← en, ← e1]; exact ⟨hacc.size, Array.getElem?_push_size ..⟩
      have hne : q1 ≠ q2 := by have := lt_of_block hk2.2; omega
      replace hk2 : wx.heap.size ≤ q2 ∧ wc1.heap[q2]? = some (.cells #[] 9 (0, 0)) := ⟨hk2.1, by rw [← en]; exact old_alloc hk2.2 _⟩
      replace hacc : Below wx.heap.size wx wc1 := by rw [← en]; exact hacc.alloc hacc.size _
      clear en e1
      refine hKK.out _ _ ?_ (fun hHeld => ?_)
      ·trivial
      clear hKK K hHeld
      try simp only [zP, zQ, zA2, zA3]
      exact L04 _ _ ⟨q1, q2, _, _, _, _, _, _, _, _, _, _, _, _, _, _, rfl, hacc, hk1, hk2, hne⟩
     ·skip
      have y1 := Go.Joins.cell_of_block (HP.out _ hacc) 1
      go_simp
      clear y1
      obtain ⟨wc1, rfl⟩ : ∃ wn, wc0 = wn := ⟨_, rfl⟩
      refine hKK.out _ _ ?_ (fun hHeld => ?_)
      ·trivial
      clear hKK K hHeld
      try simp only [zP, zQ, zA2, zA3]
      exact L24 _ _ ⟨q2, _, _, _, _, _, _, _, _, _, _, _, _, _, _, rfl, hacc, hk2⟩
     ·skip
      have y1 := Go.Joins.cell_of_block (HP.out _ hacc) 2
      go_simp
      clear y1
      obtain ⟨wc1, rfl⟩ : ∃ wn, wc0 = wn := ⟨_, rfl⟩
      refine hKK.out _ _ ?_ (fun hHeld => ?_)
      ·trivial
      clear hKK K hHeld
      try simp only [zP, zQ, zA2, zA3]
      exact L46 _ _ ⟨q2, _, _, _, _, _, _, _, _, _, _, _, _, _, _, rfl, hacc, hk2⟩
    refine with_leaf 9 #[false, true, true, false, false, true, false, false, false, false, false, false] (fun a' w' => ∃  (u9 u10 u11 u12 u15 u16 u18 u19 u20 u21 u22 u23 u24 u25 u26 : Value), a' = ⟨#[.slice (some ⟨b', off, none⟩) n cap, undef, .slice none 0 0, u3, undef, .pointer (some ⟨p, 0, none⟩), .slice (some ⟨b', off, none⟩) n cap, .int .i64 n, .int .i64 k, u9, u10, u11, u12, .pointer (some ⟨p, 1, none⟩), .slice AH nh ch, u15, u16, .pointer (some ⟨p, 2, none⟩), u18, u19, u20, u21, u22, u23, u24, u25, u26, undef], []⟩ ∧ Below wx.heap.size wx w') ?_ (fun L2 => ?_)
    ·skip
     rintro a' wc0 ⟨u9, u10, u11, u12, u15, u16, u18, u19, u20, u21, u22, u23, u24, u25, u26, rfl, hacc⟩
     refine wpAnyH_ready (rs := [0, 4, 6]) (by kernel_rfl) (by simp) ?_
     refine AllReadyH.cons (o := _) rfl (fun K hKK => ?_) (AllReadyH.cons (o := _) rfl (fun K hKK => ?_) (AllReadyH.cons (o := _) rfl (fun K hKK => ?_) AllReadyH.nil))
     ·skip
      obtain ⟨q1, e1⟩ : ∃ q, wc0.heap.size = q := ⟨_, rfl⟩
      obtain ⟨wc1, en⟩ : ∃ wn, wc0.alloc (.cells #[] 9) = wn := ⟨_, rfl⟩
      go_simp
      try rw [e1]
      try rw [en]
      have hk1 : wx.heap.size ≤ q1 ∧ wc1.heap[q1]? = some (.cells #[] 9 (0, 0)) := by rw [← en, ← e1]; exact ⟨hacc.size, Array.getElem?_push_size ..⟩
      replace hacc : Below wx.heap.size wx wc1 := by rw [← en]; exact hacc.alloc hacc.size _
      clear en e1
      refine hKK.out _ _ ?_ (fun hHeld => ?_)
      ·trivial
      clear hKK K hHeld
      try simp only [zP, zQ, zA2, zA3]
      exact L02 _ _ ⟨q1, _, _, _, _, _, _, _, _, _, _, _, _, _, _, rfl, hacc, hk1⟩
     ·skip
      obtain ⟨q2, e2⟩ : ∃ q, wc0.heap.size = q := ⟨_, rfl⟩
      obtain ⟨wc1, en⟩ : ∃ wn, wc0.alloc (.cells #[] 9) = wn := ⟨_, rfl⟩
      go_simp
      try rw [e2]
      try rw [en]
      have hk2 : wx.heap.size ≤ q2 ∧ wc1.heap[q2]? = some (.cells #[] 9 (0, 0)) := by rw [← en, ← e2]; exact ⟨hacc.size, Array.getElem?_push_size ..⟩
      replace hacc : Below wx.heap.size wx wc1 := by rw [← en]; exact hacc.alloc hacc.size _
      clear en e2
      refine hKK.out _ _ ?_ (fun hHeld => ?_)
      ·trivial
      clear hKK K hHeld
      try simp only [zP, zQ, zA2, zA3]
      exact L24 _ _ ⟨q2, _, _, _, _, _, _, _, _, _, _, _, _, _, _, rfl, hacc, hk2⟩
     ·skip
      have y1 := Go.Joins.cell_of_block (HP.out _ hacc) 2
      go_simp
      clear y1
      obtain ⟨wc1, rfl⟩ : ∃ wn, wc0 = wn := ⟨_, rfl⟩
      refine hKK.out _ _ ?_ (fun hHeld => ?_)
      ·trivial
      clear hKK K hHeld
      try simp only [zP, zQ, zA2, zA3]
      exact L26 _ _ ⟨_, _, _, _, _, _, _, _, _, _, _, _, _, _, rfl, hacc⟩
    refine with_leaf 9 #[true, true, false, false, false, true, false, false, false, false, false, false] (fun a' w' => ∃ (q1 : Nat) (u9 u10 u11 u14 u15 u16 u18 u19 u20 u21 u22 u23 u24 u25 u26 : Value), a' = ⟨#[.slice (some ⟨b', off, none⟩) n cap, undef, .slice none 0 0, u3, undef, .pointer (some ⟨p, 0, none⟩), .slice (some ⟨b', off, none⟩) n cap, .int .i64 n, .int .i64 k, u9, u10, u11, .slice (some ⟨q1, 0, none⟩) 0 0, .pointer (some ⟨p, 1, none⟩), u14, u15, u16, .pointer (some ⟨p, 2, none⟩), u18, u19, u20, u21, u22, u23, u24, u25, u26, undef], []⟩ ∧ Below wx.heap.size wx w' ∧ (wx.heap.size ≤ q1 ∧ w'.heap[q1]? = some (.cells #[] 9 (0, 0)))) ?_ (fun L0 => ?_)
    ·skip
     rintro a' wc0 ⟨q1, u9, u10, u11, u14, u15, u16, u18, u19, u20, u21, u22, u23, u24, u25, u26, rfl, hacc, hk1⟩
     refine wpAnyH_ready (rs := [2, 4, 6]) (by kernel_rfl) (by simp) ?_
     refine AllReadyH.cons (o := _) rfl (fun K hKK => ?_) (AllReadyH.cons (o := _) rfl (fun K hKK => ?_) (AllReadyH.cons (o := _) rfl (fun K hKK => ?_) AllReadyH.nil))
     ·skip
      have y1 := Go.Joins.cell_of_block (HP.out _ hacc) 1
      go_simp
      clear y1
      obtain ⟨wc1, rfl⟩ : ∃ wn, wc0 = wn := ⟨_, rfl⟩
      refine hKK.out _ _ ?_ (fun hHeld => ?_)
      ·trivial
      clear hKK K hHeld
      try simp only [zP, zQ, zA2, zA3]
      exact L02 _ _ ⟨q1, _, _, _, _, _, _, _, _, _, _, _, _, _, _, rfl, hacc, hk1⟩
     ·skip
      obtain ⟨q2, e2⟩ : ∃ q, wc0.heap.size = q := ⟨_, rfl⟩
      obtain ⟨wc1, en⟩ : ∃ wn, wc0.alloc (.cells #[] 9) = wn := ⟨_, rfl⟩
      go_simp
      try rw [e2]
      try rw [en]
      have hk2 : wx.heap.size ≤ q2 ∧ wc1.heap[q2]? = some (.cells #[] 9 (0, 0)) := by rw [← en, ← e2]; exact ⟨hacc.size, Array.getElem?_push_size ..⟩
      have hne : q1 ≠ q2 := by have := lt_of_block hk1.2; omega
      replace hk1 : wx.heap.size ≤ q1 ∧ wc1.heap[q1]? = some (.cells #[] 9 (0, 0)) := ⟨hk1.1, by rw [← en]; exact old_alloc hk1.2 _⟩
      replace hacc : Below wx.heap.size wx wc1 := by rw [← en]; exact hacc.alloc hacc.size _
      clear en e2
      refine hKK.out _ _ ?_ (fun hHeld => ?_)
      ·trivial
      clear hKK K hHeld
      try simp only [zP, zQ, zA2, zA3]
      exact L04 _ _ ⟨q1, q2, _, _, _, _, _, _, _, _, _, _, _, _, _, _, rfl, hacc, hk1, hk2, hne⟩
     ·skip
      have y1 := Go.Joins.cell_of_block (HP.out _ hacc) 2
      go_simp
      clear y1
      obtain ⟨wc1, rfl⟩ : ∃ wn, wc0 = wn := ⟨_, rfl⟩
      refine hKK.out _ _ ?_ (fun hHeld => ?_)
      ·trivial
      clear hKK K hHeld
      try simp only [zP, zQ, zA2, zA3]
      exact L06 _ _ ⟨q1, _, _, _, _, _, _, _, _, _, _, _, _, _, _, rfl, hacc, hk1⟩
    refine wpAnyH_ready (rs := [0, 2, 4, 6]) (by kernel_rfl) (by simp) ?_
    refine AllReadyH.cons (o := _) rfl (fun K hKK => ?_) (AllReadyH.cons (o := _) rfl (fun K hKK => ?_) (AllReadyH.cons (o := _) rfl (fun K hKK => ?_) (AllReadyH.cons (o := _) rfl (fun K hKK => ?_) AllReadyH.nil)))
    ·skip
     obtain ⟨q1, e1⟩ : ∃ q, wc0.heap.size = q := ⟨_, rfl⟩
     obtain ⟨wc1, en⟩ : ∃ wn, wc0.alloc (.cells #[] 9) = wn := ⟨_, rfl⟩
     go_simp
     try rw [e1]
     try rw [en]
     have hk1 : wx.heap.size ≤ q1 ∧ wc1.heap[q1]? = some (.cells #[] 9 (0, 0)) := by rw [← en, ← e1]; exact ⟨hacc.size, Array.getElem?_push_size ..⟩
     replace hacc : Below wx.heap.size wx wc1 := by rw [← en]; exact hacc.alloc hacc.size _
     clear en e1
     refine hKK.out _ _ ?_ (fun hHeld => ?_)
     ·trivial
     clear hKK K hHeld
     try simp only [zP, zQ, zA2, zA3]
     exact L0 _ _ ⟨q1, _, _, _, _, _, _, _, _, _, _, _, _, _, _, _, rfl, hacc, hk1⟩
    ·skip
     have y1 := Go.Joins.cell_of_block (HP.out _ hacc) 1
     go_simp
     clear y1
     obtain ⟨wc1, rfl⟩ : ∃ wn, wc0 = wn := ⟨_, rfl⟩
     refine hKK.out _ _ ?_ (fun hHeld => ?_)
     ·trivial
     clear hKK K hHeld
     try simp only [zP, zQ, zA2, zA3]
     exact L2 _ _ ⟨_, _, _, _, _, _, _, _, _, _, _, _, _, _, _, rfl, hacc⟩
    ·skip
     obtain ⟨q2, e2⟩ : ∃ q, wc0.heap.size = q := ⟨_, rfl⟩
     obtain ⟨wc1, en⟩ : ∃ wn, wc0.alloc (.cells #[] 9) = wn := ⟨_, rfl⟩
     go_simp
     try rw [e2]
     try rw [en]
     have hk2 : wx.heap.size ≤ q2 ∧ wc1.heap[q2]? = some (.cells #[] 9 (0, 0)) := by rw [← en, ← e2]; exact ⟨hacc.size, Array.getElem?_push_size ..⟩
     replace hacc : Below wx.heap.size wx wc1 := by rw [← en]; exact hacc.alloc hacc.size _
     clear en e2
     refine hKK.out _ _ ?_ (fun hHeld => ?_)
     ·trivial
     clear hKK K hHeld
     try simp only [zP, zQ, zA2, zA3]
     exact L4 _ _ ⟨q2, _, _, _, _, _, _, _, _, _, _, _, _, _, _, _, rfl, hacc, hk2⟩
    ·skip
     have y1 := Go.Joins.cell_of_block (HP.out _ hacc) 2
     go_simp
     clear y1
     obtain ⟨wc1, rfl⟩ : ∃ wn, wc0 = wn := ⟨_, rfl⟩
     refine hKK.out _ _ ?_ (fun hHeld => ?_)
     ·trivial
     clear hKK K hHeld
     try simp only [zP, zQ, zA2, zA3]
     exact L6 _ _ ⟨_, _, _, _, _, _, _, _, _, _, _, _, _, _, _, rfl, hacc⟩
   ·rintro e a' w2 ⟨rfl, A1, c1', A2, c2', u9, u10, u11, u12, u13, u14, u15, u16, u17, u18, u19, u20, u21, u22, u23, u24, u25, u26, rfl, hk, hb2, ht1, ht2⟩
    have y0 := Go.Joins.cell_of_block hk 0
    have y1 := Go.Joins.cell_of_block hk 1
    have y2 := Go.Joins.cell_of_block hk 2
    have y3 := Go.Joins.cell_of_block hk 3
    have hb12 : Below wr.heap.size wr w2 := by rw [HBR.out.1]; exact HBR.out.2.trans hb2
    have hbw : Below w.heap.size w w2 := HBX.out.trans (hb2.mono HWP.out)
    have HT1 := Lib.hid (ht1.mono HBX.out.size)
    have HT2 := Lib.hid (ht2.mono HBX.out.size)
    have hox := HOX.out.below hb12
    have HOX2 := Lib.hid hox
    have hown3 := hox.1
    rw [HPL.out] at hown3
    have HBW := Lib.hid hbw
    clear ht1 ht2 hb2 hk hbw hb12 hox
    go_wp2_with (at_builtin; refine wpList_append_own _ rfl _ _ 34 rfl w.heap.size 94 i1 (.agg #[.string ⟨#[]⟩, .slice none 0 0, .slice none 0 0, .bool false]) 4 72 Tryz.underlying34 hj hy0 hy1 hy2 rfl (by decide) _ _ _ rfl (World.ownsRow.alloc hown3 _) ⟨w2.heap.size, 0, none⟩ 1 1 (CardR.cells ⟨s, A1, nh, c1', H, A2, no, c2', O, rt⟩) rfl rfl ?c1 ?c2 ?c3 ?c4 ?c5 ?_)
    case c1 =>
     intro j u hj
     match j, hj with
     | 0, hj => simp [CardR.cells] at hj; subst hj; simp [Addr.add]
     | 1, hj => simp [CardR.cells] at hj; subst hj; simp [Addr.add]
     | 2, hj => simp [CardR.cells] at hj; subst hj; simp [Addr.add]
     | 3, hj => simp [CardR.cells] at hj; subst hj; simp [Addr.add]
    case c2 => intro u hu; simp [CardR.cells] at hu; rcases hu with rfl | rfl | rfl | rfl <;> rfl
    case c3 => unfold maxLen; omega
    case c4 => omega
    case c5 => have := HBW.out.size; simp; omega
    intro v' w3 hown' hgrow _
    have hb3 : Below w.heap.size w w3 := ((HBW.out).alloc HBW.out.size _).grown hgrow (by have := HBW.out.size; simp; omega) (fun r hr => (World.ownsRow.lt hown3 r hr).1)
    have ho3 : OwnCards w3 w.heap.size v' (P ++ [⟨s, A1, nh, c1', H, A2, no, c2', O, rt⟩]) := cards_next (HOX2.out.below (balloc _ (Below.refl _ _))) (HT1.out.alloc _) (HT2.out.alloc _) (by rw [HPL.out]; exact hown') hgrow
    clear hown' hgrow hown3 y0 y1 y2 y3
    go_wp2
    go_roundw
    case rel => exact ⟨k + 1, P ++ [⟨s, A1, nh, c1', H, A2, no, c2', O, rt⟩], by omega, by go_num, Lib.hid (HST.out _ rfl), ho3, hb3⟩
    case measure => simp [RowKit.intOf]; omega
  ·have hkn : k = n := by omega
   have hPn := HPP.out
   rw [hkn, List.take_of_length_le (by rw [HLn.out]; omega)] at hPn
   have HO := Lib.hid (And.intro hPn hown)
   clear hPn hown
   go_wp2
   go_ret
   exact ⟨_, P, rfl, HO.out.1, HO.out.2, hb⟩
end Go.Mk
