/-
  Proved: the law's shortRows, and its copies of rows in new
  Proved: the law's copies of places, the reference's SamePlaces on what is the same, and how results
-/
import Derived.Test.YthgkaojplomapaaGreatDoorFc
set_option maxHeartbeats 32000000
set_option linter.unusedVariables false
set_option linter.unusedSimpArgs false
open Go Go.Proofs Go.RowKit
set_option maxRecDepth 100000
section
namespace Go.Mk
end Go.Mk
end
section
namespace Go.Mk
theorem l6ownPlaces_any (L : List Plc) (n cap : Nat) (A : Option Addr) (w : World) (hZ : PlcsZ w A n L) (hn : n ≤ 1000) :
  Calls Tryz.prog 15 #[.slice A n cap] w (fun e w' => ∃ v, e = .returned v ∧ OwnPlR w' w.heap.size v L ∧ Below w.heap.size w w') := by
 obtain ⟨i0, hi, hz0, hz1, hz2⟩ := info_parts infoPlR
 have hni : (n : Int) ≤ 1000 := by omega
 have H := Lib.hid hZ
 have HL := Lib.hid hZ.1
 clear hZ
 go_enter Tryz.func15, Tryz.ntmps15
 go_wp2
 go_loopw [3, 8] (fun v i wr => ∃ k : Nat, k ≤ n ∧ i = .int .i64 k ∧ OwnPlR wr w.heap.size v (L.take k) ∧ Below w.heap.size w wr) (fun _ i _ => n - (RowKit.intOf i).toNat)
 case atStart => exact ⟨0, by omega, rfl, World.ownsRow_nil _ _ _ _, Below.refl _ _⟩
 case round =>
  obtain ⟨k, hk, rfl, hown, hb⟩ := hrel
  by_cases hlt : k < n
  ·obtain ⟨b', off, r, rfl, hbl, hx, hc0, hc1, hc2, hc3, hc4⟩ := (H.out.below hb).at_ hlt
   have hki : (k : Int) < (n : Int) := by omega
   have hk0 : (0 : Int) ≤ (k : Int) := by omega
   have hkt : ((k : Int)).toNat = k := by omega
   have hlen : (L.take k).length = k := by rw [List.length_take, HL.out]; omega
   have hst : L.take (k + 1) = L.take k ++ [r] := by rw [List.take_add_one, hx]; rfl
   have Hst := Lib.hid hst
   have Hlen := Lib.hid hlen
   obtain ⟨p, hp⟩ : ∃ p, wr.heap.size = p := ⟨_, rfl⟩
   obtain ⟨wx, hwx⟩ : ∃ wx, wr.alloc (.cells #[.string r.nm, .int .i64 r.rk, .string r.kd, .int .i64 r.vl, .string r.rs] 61) = wx := ⟨_, rfl⟩
   have hbx : Below w.heap.size w wx := by rw [← hwx]; exact hb.alloc hb.size _
   have x0 : wx.cell? ⟨p, 0, none⟩ = some (.string r.nm) := by rw [← hwx, ← hp]; simp
   have x1 : wx.cell? ⟨p, 1, none⟩ = some (.int .i64 r.rk) := by rw [← hwx, ← hp]; simp
   have x2 : wx.cell? ⟨p, 2, none⟩ = some (.string r.kd) := by rw [← hwx, ← hp]; simp
   have x3 : wx.cell? ⟨p, 3, none⟩ = some (.int .i64 r.vl) := by rw [← hwx, ← hp]; simp
   have x4 : wx.cell? ⟨p, 4, none⟩ = some (.string r.rs) := by rw [← hwx, ← hp]; simp
   have hown5 := World.ownsRow.alloc hown (.cells #[.string r.nm, .int .i64 r.rk, .string r.kd, .int .i64 r.vl, .string r.rs] 61)
   rw [hwx, hlen] at hown5
   have HB := Lib.hid hbx
   obtain ⟨n1, r1, k1, v1, t1⟩ := r
   dsimp only at *
   clear hst hlen hx hown hb hbx
   go_wp2_with (at_builtin; refine wpList_append_own _ rfl _ _ 42 rfl w.heap.size 126 i0 (.agg #[.string ⟨#[]⟩, .int .i64 0, .string ⟨#[]⟩, .int .i64 0, .string ⟨#[]⟩]) 5 64 Tryz.underlying42 hi hz0 hz1 hz2 rfl (by decide) _ _ _ rfl (World.ownsRow.alloc hown5 _) ⟨wx.heap.size, 0, none⟩ 1 1 (Plc.cells ⟨n1, r1, k1, v1, t1⟩) rfl rfl (news5 _ ⟨n1, r1, k1, v1, t1⟩ _ _ rfl) (one5 _) (by unfold maxLen; omega) (by omega) (by have := HB.out.size; simp; omega) ?_)
   intro v' w2 hown' hgrow _
   have hb2 : Below w.heap.size w w2 := (HB.out.alloc HB.out.size _).grown hgrow (by have := HB.out.size; simp; omega) (fun r hr => (World.ownsRow.lt hown5 r hr).1)
   have ho2 : OwnPlR w2 w.heap.size v' (L.take (k + 1)) := by
    rw [Hst.out]
    refine OwnPlR.next ?_
    rw [Hlen.out]
    exact hown'
   clear hown' hgrow hown5 hc0 hc1 hc2 hc3 hc4
   go_wp2
   go_roundw
   case rel => exact ⟨k + 1, by omega, by go_num, ho2, hb2⟩
   case measure => simp [RowKit.intOf]; omega
  ·have hkn : k = n := by omega
   rw [hkn, List.take_of_length_le (by rw [HL.out]; omega)] at hown
   have HO := Lib.hid hown
   clear hown
   go_wp2
   go_ret
   exact ⟨_, rfl, HO.out, hb⟩
theorem eqMark (m : Nat) (k : ByteArray) (v : Int) (r : ByteArray) (w : World) : (Op.equalIn (m + 2) 59 (.agg #[.string k, .int .i64 v, .string r]) (.agg #[.string k, .int .i64 v, .string r])).run Tryz.prog w = .ok true w := by
 rw [run_equalIn_struct w (m + 1) 59 _ _ (by kernel_rfl) (by kernel_rfl)]
 obtain ⟨fs, hfs⟩ : ∃ fs, (Tryz.prog.fieldsOf 59).toList = fs := ⟨_, rfl⟩
 have h : (Tryz.prog.fieldsOf 59).toList.map (fun f => (f.type, f.offset, f.name == "_")) = [(9, 0, false), (3, 1, false), (9, 2, false)] := by kernel_rfl
 rw [hfs] at h ⊢
 match fs, h with
 | [f0, f1, f2], h =>
  simp only [List.map_cons, List.map_nil, List.cons.injEq, Prod.mk.injEq, and_true] at h
  obtain ⟨⟨t0, o0, n0⟩, ⟨t1, o1, n1⟩, ⟨t2, o2, n2⟩⟩ := h
  have p0 : (part 9 #[.string k, .int .i64 v, .string r] 0).run Tryz.prog w = .ok (.string k) w := run_part_plain w (by kernel_rfl) rfl
  have p1 : (part 3 #[.string k, .int .i64 v, .string r] 1).run Tryz.prog w = .ok (.int .i64 v) w := run_part_plain w (by kernel_rfl) rfl
  have p2 : (part 9 #[.string k, .int .i64 v, .string r] 2).run Tryz.prog w = .ok (.string r) w := run_part_plain w (by kernel_rfl) rfl
  have e0 : (Op.equalIn (m + 1) 9 (.string k) (.string k)).run Tryz.prog w = .ok (k.toList == k.toList) w := run_equalIn_string w m 9 k k Tryz.underlying9
  have e1 : (Op.equalIn (m + 1) 3 (.int .i64 v) (.int .i64 v)).run Tryz.prog w = .ok (v == v) w := run_equalIn_int w m 3 .i64 .i64 v v Tryz.underlying3
  have e2 : (Op.equalIn (m + 1) 9 (.string r) (.string r)).run Tryz.prog w = .ok (r.toList == r.toList) w := run_equalIn_string w m 9 r r Tryz.underlying9
  simp [Op.eqFields, t0, o0, n0, t1, o1, n1, t2, o2, n2, p0, p1, p2, e0, e1, e2, Sem.run_bind, Result.andThen_ok]
theorem neqPlc (p : Plc) (w : World) : (binOp .neq 126 p.val p.val).run Tryz.prog w = .ok (.bool false) w := by
 have h : (Op.equal 126 p.val p.val).run Tryz.prog w = .ok true w := by
  obtain ⟨n1, r1, k1, v1, t1⟩ := p
  unfold Plc.val
  dsimp only
  show (Op.equalIn (9999 + 1) 126 _ _).run Tryz.prog w = _
  rw [run_equalIn_struct w 9999 126 _ _ (by kernel_rfl) (by kernel_rfl)]
  obtain ⟨fs, hfs⟩ : ∃ fs, (Tryz.prog.fieldsOf 126).toList = fs := ⟨_, rfl⟩
  have h : (Tryz.prog.fieldsOf 126).toList.map (fun f => (f.type, f.offset, f.name == "_")) = [(9, 0, false), (3, 1, false), (59, 2, false)] := by kernel_rfl
  rw [hfs] at h ⊢
  match fs, h with
  | [f0, f1, f2], h =>
   simp only [List.map_cons, List.map_nil, List.cons.injEq, Prod.mk.injEq, and_true] at h
   obtain ⟨⟨t0, o0, n0⟩, ⟨t1', o1, n1'⟩, ⟨t2, o2, n2⟩⟩ := h
   have p0 : (part 9 #[.string n1, .int .i64 r1, .string k1, .int .i64 v1, .string t1] 0).run Tryz.prog w = .ok (.string n1) w := run_part_plain w (by kernel_rfl) rfl
   have p1 : (part 3 #[.string n1, .int .i64 r1, .string k1, .int .i64 v1, .string t1] 1).run Tryz.prog w = .ok (.int .i64 r1) w := run_part_plain w (by kernel_rfl) rfl
   have p2 : (part 59 #[.string n1, .int .i64 r1, .string k1, .int .i64 v1, .string t1] 2).run Tryz.prog w = .ok (.agg #[.string k1, .int .i64 v1, .string t1]) w := by kernel_rfl
   have e0 : (Op.equalIn 9999 9 (.string n1) (.string n1)).run Tryz.prog w = .ok (n1.toList == n1.toList) w := run_equalIn_string w 9998 9 n1 n1 Tryz.underlying9
   have e1 : (Op.equalIn 9999 3 (.int .i64 r1) (.int .i64 r1)).run Tryz.prog w = .ok (r1 == r1) w := run_equalIn_int w 9998 3 .i64 .i64 r1 r1 Tryz.underlying3
   have e2 : (Op.equalIn 9999 59 (.agg #[.string k1, .int .i64 v1, .string t1]) (.agg #[.string k1, .int .i64 v1, .string t1])).run Tryz.prog w = .ok true w := eqMark 9997 k1 v1 t1 w
   simp [Op.eqFields, t0, o0, n0, t1', o1, n1', t2, o2, n2, p0, p1, p2, e0, e1, e2, Sem.run_bind, Result.andThen_ok]
 unfold Plc.val at *
 simp only [binOp, Sem.run_bind, h, Result.andThen_ok, Sem.run_pure, Bool.not_true]
theorem exec_binR {P : Program} {w : World} {ρ : Operand → Value} {o : Oper} {op : BinOp} {T T2 : TypeId} {x y : Operand} {m k v : Value} (hop : o.op = Op.binOp op T x y T2) (hx : ρ x = m) (hi : ρ y = k) (hgd : (eqGuard op T x y m k).run P w = Go.Result.ok () w)
  (h : (binOp op T m k).run P w = Go.Result.ok v w) : (execOp ρ o).run P w = .ok (.value v) w := by
 unfold execOp
 simp only [hop, hx, hi, hgd, Sem.run_bind, h, Result.andThen_ok, Sem.run_pure]
theorem guardPlc (x y : Operand) (fs gs : Array Value) (w : World) : (eqGuard .neq 126 x y (.agg fs) (.agg gs)).run Tryz.prog w = .ok () w := by kernel_rfl
theorem r6SamePlaces_any (L : List Plc) (n c1 c2 : Nat) (A B : Option Addr) (w : World) (hA : PlcsZ w A n L) (hB : PlcsZ w B n L) (hn : n ≤ 1000) :
    Calls Tryz.prog 14 #[.slice A n c1, .slice B n c2] w (RetPost (.bool true) w) := by
  have hni : (n : Int) ≤ 1000 := by omega
  have HA := Lib.hid hA
  have HB := Lib.hid hB
  clear hA hB
  go_enter Tryz.func14, Tryz.ntmps14
  go_wp2
  go_loopw [5] (fun i wr => ∃ k : Nat, k ≤ n ∧ i = .int .i64 k ∧ Below w.heap.size w wr) (fun i _ => n - (RowKit.intOf i).toNat)
  case atStart => exact ⟨0, by omega, rfl, Below.refl _ _⟩
  case round =>
    obtain ⟨k, hk, rfl, hb⟩ := hrel
    by_cases hlt : k < n
    · obtain ⟨b1, o1, p, rfl, hb1, hx, d0, d1, d2, d3, d4⟩ := (HA.out.below hb).at_ hlt
      obtain ⟨b2, o2, q, rfl, hb2, hx2, e0, e1, e2, e3, e4⟩ := (HB.out.below hb).at_ hlt
      obtain rfl : p = q := by rw [hx] at hx2; exact Option.some.inj hx2
      obtain ⟨n1, r1, k1, v1, t1⟩ := p
      dsimp only at d0 d1 d2 d3 d4 e0 e1 e2 e3 e4
      have hki : (k : Int) < (n : Int) := by omega
      have hk0 : (0 : Int) ≤ (k : Int) := by omega
      have hkt : ((k : Int)).toNat = k := by omega
      have HS : Hid (∀ w', Below wr.heap.size wr w' → (w'.cell? ⟨b1, o1 + k * 5, none⟩ = some (.string n1) ∧ w'.cell? ⟨b1, o1 + k * 5 + 1, none⟩ = some (.int .i64 r1) ∧ w'.cell? ⟨b1, o1 + k * 5 + 2, none⟩ = some (.string k1) ∧ w'.cell? ⟨b1, o1 + k * 5 + 3, none⟩ = some (.int .i64 v1) ∧ w'.cell? ⟨b1, o1 + k * 5 + 4, none⟩ = some (.string t1) ∧ w'.cell? ⟨b2, o2 + k * 5, none⟩ = some (.string n1) ∧ w'.cell? ⟨b2, o2 + k * 5 + 1, none⟩ = some (.int .i64 r1) ∧ w'.cell? ⟨b2, o2 + k * 5 + 2, none⟩ = some (.string k1) ∧ w'.cell? ⟨b2, o2 + k * 5 + 3, none⟩ = some (.int .i64 v1) ∧ w'.cell? ⟨b2, o2 + k * 5 + 4, none⟩ = some (.string t1)) ∧ Below wr.heap.size wr w') := Lib.hid fun w' hq =>
        ⟨⟨(hq.cell (p := ⟨b1, _, none⟩) hb1).trans d0, (hq.cell (p := ⟨b1, _, none⟩) hb1).trans d1, (hq.cell (p := ⟨b1, _, none⟩) hb1).trans d2, (hq.cell (p := ⟨b1, _, none⟩) hb1).trans d3, (hq.cell (p := ⟨b1, _, none⟩) hb1).trans d4,
          (hq.cell (p := ⟨b2, _, none⟩) hb2).trans e0, (hq.cell (p := ⟨b2, _, none⟩) hb2).trans e1, (hq.cell (p := ⟨b2, _, none⟩) hb2).trans e2, (hq.cell (p := ⟨b2, _, none⟩) hb2).trans e3, (hq.cell (p := ⟨b2, _, none⟩) hb2).trans e4⟩, hq⟩
      have HBB := Lib.hid hb
      clear hx hx2 d0 d1 d2 d3 d4 e0 e1 e2 e3 e4 hb hb1 hb2
      go_wp2_with fail
      refine wp_region_held_drew (S := fun w' => (w'.cell? ⟨b1, o1 + k * 5, none⟩ = some (.string n1) ∧ w'.cell? ⟨b1, o1 + k * 5 + 1, none⟩ = some (.int .i64 r1) ∧ w'.cell? ⟨b1, o1 + k * 5 + 2, none⟩ = some (.string k1) ∧ w'.cell? ⟨b1, o1 + k * 5 + 3, none⟩ = some (.int .i64 v1) ∧ w'.cell? ⟨b1, o1 + k * 5 + 4, none⟩ = some (.string t1) ∧ w'.cell? ⟨b2, o2 + k * 5, none⟩ = some (.string n1) ∧ w'.cell? ⟨b2, o2 + k * 5 + 1, none⟩ = some (.int .i64 r1) ∧ w'.cell? ⟨b2, o2 + k * 5 + 2, none⟩ = some (.string k1) ∧ w'.cell? ⟨b2, o2 + k * 5 + 3, none⟩ = some (.int .i64 v1) ∧ w'.cell? ⟨b2, o2 + k * 5 + 4, none⟩ = some (.string t1)) ∧ Below wr.heap.size wr w') (by kernel_rfl) ?_ (fun hHeld => ?_)
      · exact HS.out _ (Below.drew (Below.refl _ _))
      refine zU 0 ?_ rfl ?_ ?_
      rotate_left
      · rintro w ⟨⟨s0, s1, s2, s3, s4, s5, s6, s7, s8, s9⟩, s10⟩
        go_simp
        try with_reducible rfl
      try simp only [Act.put, zA1, zA2, zA3, zA4, zA5, zA6]
      refine zU 1 ?_ rfl ?_ ?_
      rotate_left
      · rintro w ⟨⟨s0, s1, s2, s3, s4, s5, s6, s7, s8, s9⟩, s10⟩
        go_simp
        try with_reducible rfl
      try simp only [Act.put, zA1, zA2, zA3, zA4, zA5, zA6]
      refine zU 2 ?_ rfl ?_ ?_
      rotate_left
      · rintro w ⟨⟨s0, s1, s2, s3, s4, s5, s6, s7, s8, s9⟩, s10⟩
        go_simp
        try with_reducible rfl
      try simp only [Act.put, zA1, zA2, zA3, zA4, zA5, zA6]
      refine zU 3 ?_ rfl ?_ ?_
      rotate_left
      · rintro w ⟨⟨s0, s1, s2, s3, s4, s5, s6, s7, s8, s9⟩, s10⟩
        go_simp
        try with_reducible rfl
      try simp only [Act.put, zA1, zA2, zA3, zA4, zA5, zA6]
      refine zU 4 ?_ rfl ?_ ?_
      rotate_left
      · rintro w ⟨⟨s0, s1, s2, s3, s4, s5, s6, s7, s8, s9⟩, s10⟩
        go_simp
        try with_reducible rfl
      try simp only [Act.put, zA1, zA2, zA3, zA4, zA5, zA6]
      refine zU 5 ?_ rfl ?_ ?_
      rotate_left
      · rintro w ⟨⟨s0, s1, s2, s3, s4, s5, s6, s7, s8, s9⟩, s10⟩
        go_simp
        try with_reducible rfl
      try simp only [Act.put, zA1, zA2, zA3, zA4, zA5, zA6]
      refine zU 6 ?_ rfl ?_ ?_
      rotate_left
      · rintro w ⟨⟨s0, s1, s2, s3, s4, s5, s6, s7, s8, s9⟩, s10⟩
        go_simp
        try with_reducible rfl
      try simp only [Act.put, zA1, zA2, zA3, zA4, zA5, zA6]
      refine zU 7 ?_ rfl ?_ ?_
      rotate_left
      · rintro w ⟨⟨s0, s1, s2, s3, s4, s5, s6, s7, s8, s9⟩, s10⟩
        go_simp
        try with_reducible rfl
      try simp only [Act.put, zA1, zA2, zA3, zA4, zA5, zA6]
      refine wpAnyH_take (i := 8) (oi := _) (v := .bool false) rfl (by kernel_rfl) (by kernel_rfl) (by kernel_rfl) (fun _ _ _ h => h) (Or.inl ⟨by kernel_rfl, ?_⟩) (by assumption) ?_
      · intro w' _; exact exec_binR (m := .agg #[.string n1, .int .i64 r1, .string k1, .int .i64 v1, .string t1]) (k := .agg #[.string n1, .int .i64 r1, .string k1, .int .i64 v1, .string t1]) rfl rfl rfl (guardPlc _ _ _ _ w') (neqPlc ⟨n1, r1, k1, v1, t1⟩ w')
      try simp only [Act.put, zA1, zA2, zA3, zA4, zA5, zA6]
      refine wpAnyH_done (by kernel_rfl) ?_ _
      have hX := hHeld.2
      clear hHeld
      have HXX := Lib.hid (bstep HBB.out hX)
      clear hX
      go_wp2
      go_roundw
      case rel => exact ⟨k + 1, by omega, by go_num, HXX.out⟩
      case measure => simp [RowKit.intOf]; omega
    · have HBB := Lib.hid hb
      clear hb
      go_wp2
      go_ret
      exact ⟨rfl, HBB.out⟩
end Go.Mk
end
