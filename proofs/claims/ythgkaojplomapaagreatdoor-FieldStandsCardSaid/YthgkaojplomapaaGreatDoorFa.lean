/-
  Proved: the error of athletes by package field (nameError, newNameError, firstOf and listError at texts,
  Proved: split of package field gives the number of failures at the beginning of a text and what stands behind
  Proved: append of a slice (nil or not) to a row of one's own, as an operation and as one step of a region
  Proved: rows of texts in new memory, read as texts in cells. No condition beside those named.
-/
import Derived.Test.YthgkaojplomapaaGreatDoorXa
import Derived.Laws.Runes
import Derived.Test.YthgkaojplomapaaGreatDoorYa
import Derived.Laws.AppendOwn
import Derived.Maps.AppendAt
import Derived.Deep.RegionLaw
import Derived.Lib.AppendZeros
import Derived.Lib.SliceRun
set_option maxHeartbeats 32000000
set_option linter.unusedVariables false
set_option linter.unusedSimpArgs false
open Go Go.Proofs Go.RowKit
set_option maxRecDepth 100000
section
namespace Go.Mk
theorem fdName_any (s : ByteArray) (w : World) (hz : s.size ≤ maxLen) : Calls Tryz.prog 146 #[.string s] w (RetPost (.int .i64 (nmE s)) w) := by
 have hN := fun w => IsName_any s w hz
 have hW := fun w => trWhen_any (!(isNm s)) 8 w
 have HY : Hid ((if (!(isNm s)) = true then (8 : Int) else 0) = nmE s) := Lib.hid (by unfold nmE; cases isNm s <;> rfl)
 rw [HY.out] at hW
 generalize nmE s = y at *
 generalize isNm s = nb at *
 clear hz
 go_enter Tryz.func146, Tryz.ntmps146
 go_wp2_with fail
 refine (hN _).mono ?_
 rintro e w1 ⟨rfl, hb1⟩
 go_wp2_with fail
 refine (hW _).mono ?_
 rintro e w2 ⟨rfl, rfl⟩
 go_wp2
 go_ret
 exact ⟨rfl, hb1⟩
theorem fdNewName_any (L : List ByteArray) (k c : Nat) (A : Option Addr) (s : ByteArray) (w : World) (hZ : TextsZ w A k L) (hk : k ≤ 1000) (hz : s.size ≤ maxLen) :
  Calls Tryz.prog 124 #[.slice A k c, .string s] w (RetPost (.int .i64 (twE L s)) w) := by
 have hN := fun w => fdName_any s w hz
 have HCo : Hid (∀ w', Below w.heap.size w w' → Calls Tryz.prog 180 #[.slice A k c, .string s] w' (RetSame (.bool (isIn L s)) w')) := Lib.hid fun w' hb => slContainsS_any L s k c A w' (hZ.below hb) (by omega)
 have hW := fun w => trWhen_any (isIn L s) 9 w
 have hF0 := fun x y g w => trFirst_any [x, y] 2 rfl (by decide) g w
 have HY : Hid (fstN [nmE s, if isIn L s = true then 9 else 0] = twE L s) := Lib.hid rfl
 generalize twE L s = y at *
 generalize isIn L s = bb at *
 generalize nmE s = e1 at *
 generalize (if bb = true then (9 : Int) else 0) = e2 at *
 have hF := hF0 e1 e2
 rw [HY.out] at hF
 clear hF0 hZ hz
 go_enter Tryz.func124, Tryz.ntmps124
 go_wp2_with fail
 refine (hN _).mono ?_
 rintro e w1 ⟨rfl, hb1⟩
 have HB1 := Lib.hid hb1
 go_wp2_with fail
 refine (HCo.out _ HB1.out).mono ?_
 rintro e w2 ⟨rfl, rfl⟩
 go_wp2_with fail
 refine (hW _).mono ?_
 rintro e w3 ⟨rfl, rfl⟩
 have hb4 := balloc (.cells #[.int .i64 e1, .int .i64 e2] 30) HB1.out
 have hes := es2 w1 e1 e2 30
 go_wp2_with fail
 refine (hF _ _ hes).mono ?_
 rintro e w5 ⟨rfl, rfl⟩
 go_wp2
 go_ret
 exact ⟨rfl, hb4⟩
def AthF (g : Nat) : Value := .func (.func 177) #[] #[.pointer (some ⟨g, 0, none⟩)]
theorem fdAthletesC_any (L : List ByteArray) (n cap k g : Nat) (A : Option Addr) (s : ByteArray) (w : World) (hc : w.cell? ⟨g, 0, none⟩ = some (.slice A n cap)) (hg : g < w.heap.size) (hZ : TextsZ w A n L) (hn : n ≤ 1000) (hcap : n ≤ cap) (hk : k < n) (hz : s.size ≤ maxLen) :
  Calls Tryz.prog 177 #[.int .i64 k, .string s, .pointer (some ⟨g, 0, none⟩)] w (RetPost (.int .i64 (twE (L.take k) s)) w) := by
 obtain ⟨b, off, x, rfl, _, _, _⟩ := hZ.at_ hk
 have hki : (k : Int) ≤ (cap : Int) := by omega
 have hk0 : (0 : Int) ≤ (k : Int) := by omega
 have hkt : ((k : Int)).toNat = k := by omega
 have HN := Lib.hid fun c => fdNewName_any (L.take k) k c _ s w (hZ.take (Nat.le_of_lt hk)) (by omega) hz
 generalize twE (L.take k) s = y at *
 clear hZ hz
 go_enter Tryz.func177, Tryz.ntmps177
 go_wp2_with fail
 refine (HN.out _).mono ?_
 rintro e w1 ⟨rfl, hb1⟩
 go_wp2
 go_ret
 exact ⟨rfl, hb1⟩
theorem fdFirstOfS_any (L : List ByteArray) (n cap g cap2 : Nat) (A : Option Addr) (w : World) (hc : w.cell? ⟨g, 0, none⟩ = some (.slice A n cap)) (hg : g < w.heap.size) (hZ : TextsZ w A n L) (hn : n ≤ 1000) (hcap : n ≤ cap) (hs : ∀ x ∈ L, x.size ≤ maxLen) :
  Calls Tryz.prog 147 #[.slice A n cap2, AthF g] w (RetPost (.int .i64 (nmsE [] L)) w) := by
 unfold AthF
 have hni : (n : Int) ≤ 1000 := by omega
 have H := Lib.hid hZ
 have Hn := Lib.hid hZ.1
 have HS := Lib.hid hs
 have HG : Hid (∀ w', Below w.heap.size w w' → w'.cell? ⟨g, 0, none⟩ = some (.slice A n cap) ∧ g < w'.heap.size ∧ TextsZ w' A n L) := Lib.hid fun w' hb => ⟨(hb.cell (p := ⟨g, _, none⟩) hg).trans hc, Nat.lt_of_lt_of_le hg hb.size, hZ.below hb⟩
 obtain ⟨y, hy⟩ : ∃ y, nmsE [] L = y := ⟨_, rfl⟩
 rw [hy]
 have HY : Hid (nmsE (L.take 0) (L.drop 0) = y) := by rw [← hy]; rfl
 clear hZ hy hc hs
 go_enter Tryz.func147, Tryz.ntmps147
 go_wp2
 go_loopw [10] (fun i wr => ∃ k : Nat, k ≤ n ∧ i = .int .i64 k ∧ Hid (nmsE (L.take k) (L.drop k) = y) ∧ Below w.heap.size w wr) (fun i _ => n - (intOf i).toNat)
 case atStart => exact ⟨0, by omega, rfl, HY, Below.refl _ _⟩
 case round =>
  obtain ⟨k, hk, rfl, HK, hb⟩ := hrel
  by_cases hlt : k < n
  ·obtain ⟨c1, c2, c3⟩ := HG.out _ hb
   have hZr := c3
   obtain ⟨b, off, x, rfl, hbl, hx, hcx⟩ := c3.at_ hlt
   have hst := nmsE_drop hx
   rw [HK.out] at hst
   have hki : (k : Int) < (n : Int) := by omega
   have hC := fdAthletesC_any L n cap k g _ x wr c1 c2 hZr hn hcap hlt (HS.out x (List.mem_of_getElem? hx))
   obtain ⟨z, hz⟩ : ∃ z, twE (L.take k) x = z := ⟨_, rfl⟩
   rw [hz] at hst hC
   clear hz hx c3 hZr c1 c2
   by_cases h0 : z = 0
   ·subst h0
    rw [if_pos rfl] at hst
    have Hst : Hid (nmsE (L.take (k + 1)) (L.drop (k + 1)) = y) := hst.symm
    clear hst HK
    go_wp2_with fail
    refine hC.mono ?_
    rintro e w' ⟨rfl, hb2⟩
    have hb3 := bstep hb hb2
    go_wp2
    exact ⟨⟨k + 1, by omega, by go_num, Hst, hb3⟩, by simp [intOf]; omega⟩
   ·rw [if_neg h0] at hst
    subst hst
    have hb' : (y != 0) = true := by rw [bne_iff_ne]; exact h0
    clear HK HY
    go_wp2_with fail
    refine hC.mono ?_
    rintro e w' ⟨rfl, hb2⟩
    have hb3 := bstep hb hb2
    go_wp2
    go_ret
    exact ⟨rfl, hb3⟩
  ·have hkn : k = n := by omega
   have h0 := HK.out
   rw [hkn, List.drop_of_length_le (by rw [Hn.out]; omega)] at h0
   have h0' : 0 = y := h0
   subst h0'
   go_wp2
   go_ret
   exact ⟨rfl, hb⟩
theorem fdListS_any (L : List ByteArray) (n cap g cap2 : Nat) (A : Option Addr) (w : World) (hc : w.cell? ⟨g, 0, none⟩ = some (.slice A n cap)) (hg : g < w.heap.size) (hZ : TextsZ w A n L) (hn : n ≤ 1000) (hcap : n ≤ cap) (hs : ∀ x ∈ L, x.size ≤ maxLen) :
  Calls Tryz.prog 176 #[.slice A n cap2, .int .i64 32, AthF g] w (RetPost (.int .i64 (if 32 < n then 5 else nmsE [] L)) w) := by
 have hC := fdFirstOfS_any L n cap g cap2 A w hc hg hZ hn hcap hs
 unfold AthF at *
 by_cases h : 32 < n
 ·have hi : (32 : Int) < (n : Int) := by omega
  rw [if_pos h]
  clear hC hZ hc hs
  go_enter Tryz.func176, Tryz.ntmps176
  go_wp2
  go_ret
  exact ⟨rfl, Below.refl _ _⟩
 ·have hi : ¬ (32 : Int) < (n : Int) := by omega
  rw [if_neg h]
  generalize nmsE [] L = y at *
  clear hZ hc hs
  go_enter Tryz.func176, Tryz.ntmps176
  go_wp2_with fail
  refine hC.mono ?_
  rintro e w1 ⟨rfl, hb1⟩
  go_wp2
  go_ret
  exact ⟨rfl, hb1⟩
def athE (L : List ByteArray) : Int := fstN [if L.length = 0 then 12 else 0, if 32 < L.length then 5 else nmsE [] L]
end Go.Mk
end
section
namespace Go.Mk
def nxL : List UInt8 → Nat
 | [] => 0
 | c :: l => if c = 120 then nxL l + 1 else 0
def nx (s : ByteArray) : Nat := nxL s.data.toList
def endX (s : ByteArray) : ByteArray := s.extract (nx s) s.size
theorem nxL_le (l : List UInt8) : nxL l ≤ l.length := by
 induction l with
 | nil => exact Nat.le_refl _
 | cons c l ih =>
  rw [nxL]
  split
  ·simpa using ih
  ·simp
theorem nx_le (s : ByteArray) : nx s ≤ s.size := nxL_le _
theorem dropAt (s : ByteArray) (k : Nat) (hk : k < s.size) : s.data.toList.drop k = s[k] :: s.data.toList.drop (k + 1) := by
 have hl : k < s.data.toList.length := by rw [Array.length_toList]; exact hk
 rw [List.drop_eq_getElem_cons hl]
 rfl
theorem dropEnd (s : ByteArray) (k : Nat) (hk : s.size ≤ k) : s.data.toList.drop k = [] := List.drop_eq_nil_of_le (by rw [Array.length_toList]; exact hk)
theorem enc_not (r : Int) (h0 : 0 ≤ r) (h : r ≠ 120) : ((Utf8.encode r).toList == [120]) = false := by
 rw [beq_eq_false_iff_ne, ByteArray.toList_eq]
 intro q
 have hsz : (Utf8.encode r).size = 1 := by
  have := congrArg List.length q
  rw [Array.length_toList] at this
  exact this
 by_cases hv : Utf8.valid r = true
 ·by_cases h1 : 128 ≤ r
  ·have := (encode_facts r hv h1).1
   omega
  ·have h2 : r.toNat < 128 := by omega
   unfold Utf8.encode at q
   simp only [hv, if_true, h2] at q
   have q' : UInt8.ofNat r.toNat = 120 := by simpa using q
   have q2 := congrArg UInt8.toNat q'
   have q3 : r.toNat % 256 = 120 := q2
   omega
 ·have hf : Utf8.valid r = false := by simpa using hv
  unfold Utf8.encode at hsz
  rw [hf] at hsz
  have : (3 : Nat) = 1 := hsz
  omega
theorem enc_x : ((Utf8.encode 120).toList == [120]) = true := by rw [ByteArray.toList_eq]; decide
theorem x_u8 {c : UInt8} (h : c.toNat = 120) : c = 120 := UInt8.toNat_inj.1 h
theorem fdSplit_any (s : ByteArray) (w : World) (hz : s.size ≤ maxLen) : Calls Tryz.prog 99 #[.string s] w (RetPost (.tuple #[.int .i64 (nx s), .string (endX s)]) w) := by
 have hml : maxLen = 9223372036854775807 := rfl
 have hsz : (s.size : Int) ≤ 9223372036854775807 := by omega
 have hbel : ∀ k, Below w.heap.size w (w.iter s k) := fun k => (Below.refl _ _).alloc (Nat.le_refl _) _
 have HB := Lib.hid hbel
 obtain ⟨n, hn⟩ : ∃ n, nx s = n := ⟨_, rfl⟩
 unfold endX
 rw [hn]
 have HN : Hid (nxL s.data.toList = n) := hn
 have hsl : ∀ (k : Nat) W, k ≤ s.size → (Instr.slice 9 (.string s) (some (.int .i64 k)) none none).run Tryz.prog W = .ok (.string (s.extract k s.size)) W := fun k W hk => by
  rw [run_slice_string_l (P := Tryz.prog) (ht := Tryz.underlying9) (h0 := by omega) (h1 := by omega)]
  simp
 have HSL := Lib.hid hsl
 clear hn hbel hsl
 go_enter Tryz.func99, Tryz.ntmps99
 go_wp2_with fail
 go_loopw [] (fun wr => ∃ k, wr = w.iter s k ∧ k ≤ s.size ∧ Hid (n = k + nxL (s.data.toList.drop k))) (fun wr => s.size - wr.iterPos w.heap.size)
 case atStart => exact ⟨0, rfl, by omega, (show _ = _ by rw [← HN.out]; simp)⟩
 case round =>
  obtain ⟨k, rfl, hk, HK⟩ := hrel
  by_cases hlt : k < s.size
  ·have hst := dropAt s k hlt
   by_cases hx : s[k].toNat = 120
   ·have hnx := fun ty => run_next_ascii (P := Tryz.prog) w s k ty hlt (by omega)
    rw [hx] at hnx
    have HK2 : Hid (n = (k + 1) + nxL (s.data.toList.drop (k + 1))) := (show _ = _ by
     have := HK.out
     rw [hst, nxL, if_pos (x_u8 hx)] at this
     omega)
    have he := enc_x
    clear hst hx HK
    go_wp2_with fail
    go_roundw
    case rel => exact ⟨k + 1, rfl, by omega, HK2⟩
    case measure => (simp; omega)
   ·have hnk : n = k := by
     have := HK.out
     rw [hst, nxL, if_neg (fun q => hx (by rw [q]; rfl))] at this
     omega
    subst hnk
    have hsl := fun W => HSL.out n W hk
    clear HK hst
    by_cases hb : s[n].toNat < 128
    ·have hnx := fun ty => run_next_ascii (P := Tryz.prog) w s n ty hlt hb
     have he := enc_not (s[n].toNat : Int) (by omega) (by omega)
     generalize (s[n].toNat : Int) = r at *
     clear hb hx
     have hn0 : (0 : Int) ≤ (n : Int) := by omega
     have hnt : ((n : Int)).toNat = n := by omega
     have hns : (n : Int) ≤ (s.size : Int) := by omega
     go_wp2_with fail
     go_region
     go_wp2
     go_ret2
     exact ⟨rfl, (HB.out _).drew⟩
    ·have hnx := fun ty => run_next_any (P := Tryz.prog) w s n ty hlt
     obtain ⟨hh1, hh2⟩ := decode_high s n hlt (by omega)
     have he := enc_not ((Utf8.decode s n).1 : Int) (by omega) (by omega)
     generalize ((Utf8.decode s n).1 : Int) = r at *
     generalize (Utf8.decode s n).2 = st at *
     clear hb hx
     have hn0 : (0 : Int) ≤ (n : Int) := by omega
     have hnt : ((n : Int)).toNat = n := by omega
     have hns : (n : Int) ≤ (s.size : Int) := by omega
     go_wp2_with fail
     go_region
     go_wp2
     go_ret2
     exact ⟨rfl, (HB.out _).drew⟩
  ·have hnx := fun ty => run_next_end (P := Tryz.prog) w s k ty hlt
   have hnk : n = s.size := by
    have := HK.out
    rw [dropEnd s k (by omega), nxL] at this
    omega
   subst hnk
   clear HK
   go_wp2_with fail
   go_ret2
   exact ⟨by simp; rfl, HB.out _⟩
end Go.Mk
end
section
open Go Go.Proofs Go.RowKit Go.Sort
namespace Go.Mk
theorem step_append_src {P : Program} {ops : Array Oper} {o : Oper} {a : Act} {w : World} {K : Act → World → Prop} {Q : Exit → Act → World → Prop} {E : Prop}
  (hg : o.guard = none) (s x : Operand) (t : TypeId) (hop : o.op = Op.call { callee := Callee.builtin Builtin.append, args := #[s, x], argTypes := #[t, t] })
  (base : Nat) (e : TypeId) (i : TypeInfo) (z : Value) (size bytes : Nat) (ht : P.underlying t = some (.slice e)) (hi : P.info? e = some i) (hz : i.zero = some z)
  (hsize : i.size = size) (hby : i.bytes = bytes) (hzs : z.cells.size = size) (hsz : 0 < size)
  (v : Value) (n : Nat) (xs : List Value) (hs : a.eval s = v) (hown : w.ownsRow base e size v n xs)
  (ao : Option Addr) (m c : Nat) (news : List Value) (hx : a.eval x = .slice ao m c) (hl : news.length = m * size) (hnone : ao = none → m = 0 ∧ c = 0)
  (hnews : ∀ ad, ao = some ad → ∀ j u, news[j]? = some u → w.cell? (ad.add j) = some u) (h1 : ∀ u ∈ news, u.oneCell' = true)
  (h63 : n + m ≤ maxLen) (hbytes : (n + m) * bytes ≤ 140737488355328) (hbase : base ≤ w.heap.size)
  (hK : ∀ v' w', w'.ownsRow base e size v' (n + m) (xs ++ news) → w.grownBy w' v.ownBlock → (v'.ownBlock = v.ownBlock ∨ v'.ownBlock = some w.heap.size) → K (a.put o.dst v') w') :
  if Region.wanted o (yielded ops a.tmps) = true then Oper.wp P o a w K Q else E := by
 have hw : Region.wanted o (yielded ops a.tmps) = true := by simp [Region.wanted, hg]
 rw [if_pos hw]
 cases ao with
 | some ad =>
  obtain ⟨v', w', hr, h2, h3, _, h5⟩ := run_append_own_at (P := P) w base t o.type e i z size bytes ht hi hz hsize hby hzs hsz v n xs hown ad m c news hl (hnews ad rfl) h1 h63 hbytes hbase
  unfold Oper.wp execOp
  simp only [hop, resolve, invoke, builtin, Sem.run_bind, Sem.run_pure, Result.andThen_ok, List.map_toArray, List.map_cons, List.map_nil, hs, hx, hr]
  exact hK v' w' h2 h3 h5
 | none =>
  obtain ⟨rfl, rfl⟩ := hnone rfl
  have hn : news = [] := List.eq_nil_of_length_eq_zero (by simpa using hl)
  subst hn
  have hrun := run_append_owned_none (P := P) w base t o.type e i size ht hi v n xs hown
  unfold Oper.wp execOp
  simp only [hop, resolve, invoke, builtin, Sem.run_bind, Sem.run_pure, Result.andThen_ok, List.map_toArray, List.map_cons, List.map_nil, hs, hx, hrun]
  exact hK v w (by simpa using hown) (World.grownBy.refl _ _) (.inl rfl)
end Go.Mk
end
section
namespace Go.Mk
def OwnNames (w : World) (B : Nat) (v : Value) (L : List ByteArray) : Prop := w.ownsRow B 9 1 v L.length (L.map Value.string)
theorem infoStr : (Tryz.prog.info? 9).map (fun i => (i.zero, i.size, i.bytes)) = some (some (.string ⟨#[]⟩), 1, 16) := by kernel_rfl
theorem TextsZ.of_own {w : World} {base : Nat} {v : Value} {L : List ByteArray} (h : OwnNames w base v L) : ∃ A c, v = .slice A L.length c ∧ L.length ≤ c ∧ (A = none → c = 0) ∧ TextsZ w A L.length L := by
 rcases h.2 with ⟨a, b⟩ | ⟨g, cap, cur, a, b, c, d, e1, f, hx⟩
 ·exact ⟨none, 0, by rw [a, b], by omega, fun _ => rfl, rfl, fun hn => absurd hn (by omega)⟩
 ·refine ⟨_, cap, a, d, fun q => (by cases q), rfl, fun _ => ⟨g, 0, rfl, (Array.getElem?_eq_some_iff.1 c).1, fun j x hj => ?_⟩⟩
  have := World.ownsRow.cells h (g := g) (by rw [a]; rfl) j (.string x) (by simp [hj])
  rwa [show (⟨g, 0, none⟩ : Addr).add j = ⟨g, 0 + j, none⟩ from by unfold Addr.add; split <;> simp_all] at this
theorem add_atX (g o i : Nat) : (⟨g, o, none⟩ : Addr).add i = ⟨g, o + i, none⟩ := by unfold Addr.add; split <;> simp_all
theorem strs_one (L : List ByteArray) : ∀ u ∈ L.map Value.string, u.oneCell' = true := by
 intro u hu
 obtain ⟨z, _, rfl⟩ := List.mem_map.1 hu
 rfl
theorem texts_cell {w : World} {A : Option Addr} {n : Nat} {L : List ByteArray} (h : TextsZ w A n L) (ad : Addr) (hA : A = some ad) (j : Nat) (u : Value) (hu : (L.map Value.string)[j]? = some u) : w.cell? (ad.add j) = some u := by
 rw [List.getElem?_map] at hu
 cases hx : L[j]? with
 | none => rw [hx] at hu; cases hu
 | some x =>
  rw [hx] at hu
  obtain rfl : Value.string x = u := Option.some.inj hu
  have hj := (List.getElem?_eq_some_iff.1 hx).1
  obtain ⟨g, off, e, _, hc⟩ := h.2 (by have := h.1; omega)
  rw [hA] at e
  obtain rfl : ad = ⟨g, off, none⟩ := Option.some.inj e
  rw [add_atX]
  exact hc j x hx
end Go.Mk
end
