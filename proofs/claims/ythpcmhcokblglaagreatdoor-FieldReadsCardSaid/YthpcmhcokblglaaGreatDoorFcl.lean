/-
  Proved: readCard of package field, where the text has a colon and a blank behind it. Conditions: the text has at most 4,096 bytes; the heap holds the program's variables.
-/
import Derived.Test.YthpcmhcokblglaaGreatDoorFck
set_option linter.unusedVariables false
set_option linter.unusedSimpArgs false
open Go Go.Proofs Go.RowKit Go.Shelf
set_option maxRecDepth 100000
namespace Go.Mk
theorem TextsZ.drop {w : World} {g off n : Nat} {L : List ByteArray} (h : TextsZ w (some ⟨g, off, none⟩) n L) (j : Nat) : TextsZ w (some ⟨g, off + j, none⟩) (n - j) (L.drop j) := by
  refine ⟨by rw [List.length_drop, h.1], fun h0 => ?_⟩
  obtain ⟨g', off', e, hlt, hc⟩ := h.2 (by omega)
  obtain ⟨rfl, rfl⟩ : g = g' ∧ off = off' := by injection e with e; injection e with e1 e2; exact ⟨e1, e2⟩
  refine ⟨g, off + j, rfl, hlt, fun i x hx => ?_⟩
  rw [List.getElem?_drop] at hx
  rw [show off + j + i = off + (j + i) by omega]
  exact hc (j + i) x hx
theorem bls_len (L : List ByteArray) : (bls L).length = L.length := by unfold bls; rw [List.length_map]
theorem bls_sizes {L : List ByteArray} {l : List (List UInt8)} {m : Nat} (e : bls L = l) (h : ∀ t ∈ l, t.length ≤ m) : ∀ x ∈ L, x.size ≤ m := by
  intro x hx
  rw [← bl_len]
  exact h _ (by rw [← e]; exact List.mem_map_of_mem hx)
theorem dropRet_sub {b : List (List UInt8)} {t : List UInt8} (h : t ∈ dropRet b) : t ∈ b := by
  unfold dropRet at h
  split at h
  · exact List.dropLast_subset b h
  · exact h
theorem dropRet_len (b : List (List UInt8)) : (dropRet b).length ≤ b.length := by
  unfold dropRet
  split
  · rw [List.length_dropLast]; omega
  · exact Nat.le_refl _
theorem four_other {w : World} {g p : Nat} {o : Obj} (h : w.heap[p]? = some o) (hne : p ≠ g) (a b c d : Value) : ((((w.setCell ⟨g, 0, none⟩ a).setCell ⟨g, 1, none⟩ b).setCell ⟨g, 2, none⟩ c).setCell ⟨g, 3, none⟩ d).heap[p]? = some o := by
  rw [heap_setCell_other _ _ _ _ hne, heap_setCell_other _ _ _ _ hne, heap_setCell_other _ _ _ _ hne, heap_setCell_other _ _ _ _ hne]
  exact h
theorem one_texts {w : World} {p i : Nat} {A : Option Addr} {n : Nat} {L : List ByteArray} (h : TextsZ w A n L) (hg : 0 < n → ∀ ad, A = some ad → ad.block ≠ p) (v : Value) : TextsZ (w.setCell ⟨p, i, none⟩ v) A n L := by
  refine ⟨h.1, fun h0 => ?_⟩
  obtain ⟨q, off, e, hlt, hc⟩ := h.2 h0
  have hne : q ≠ p := hg h0 _ e
  refine ⟨q, off, e, by simpa using hlt, fun j z hz => ?_⟩
  rw [World.cell?_setCell_other _ _ _ _ (fun e => hne (congrArg Addr.block e).symm)]
  exact hc j z hz
theorem four_texts {w : World} {g : Nat} {A : Option Addr} {n : Nat} {L : List ByteArray} (h : TextsZ w A n L) (hg : 0 < n → ∀ ad, A = some ad → ad.block ≠ g) (a b c d : Value) : TextsZ ((((w.setCell ⟨g, 0, none⟩ a).setCell ⟨g, 1, none⟩ b).setCell ⟨g, 2, none⟩ c).setCell ⟨g, 3, none⟩ d) A n L :=
  one_texts (one_texts (one_texts (one_texts h hg _) hg _) hg _) hg _
theorem slCloneT_any (L : List ByteArray) (n cap g off : Nat) (w : World) (hZ : TextsZ w (some ⟨g, off, none⟩) n L) (hn : n ≤ 6000) :
    Calls Tryz.prog 122 #[.slice (some ⟨g, off, none⟩) n cap] w (fun e w' => ∃ (A : Option Addr) (c : Nat), e = .returned (.slice A n c) ∧ TextsZ w' A n L ∧ n ≤ c ∧ (A = none → c = 0) ∧ (0 < n → ∀ ad, A = some ad → w.heap.size ≤ ad.block) ∧ Below w.heap.size w w') := by
  refine (slCloneS_any L n cap g off w hZ hn).mono ?_
  rintro e w' ⟨v, rfl, hO, hb⟩
  obtain ⟨A, c, hv, h1, h2, h3⟩ := TextsZ.of_own hO
  have hl := hZ.1
  rw [hl] at hv h1 h3
  refine ⟨A, c, by rw [hv], h3, h1, h2, fun h0 ad had => ?_, hb⟩
  obtain ⟨q, c2, e, hq, _⟩ := ownSome hO (by rw [hl]; exact h0)
  rw [hv, had] at e
  injection e with e1
  injection e1 with e1
  rw [e1]
  exact hq
theorem getLast_bls {L : List ByteArray} {j : Nat} {z : ByteArray} (hz : L[j]? = some z) (hl : L.length = j + 1) : (bls L).getLast? = some (bl z) := by
  rw [List.getLast?_eq_getElem?, bls_len, hl]
  unfold bls
  rw [List.getElem?_map, Nat.add_sub_cancel, hz]
  rfl
set_option maxHeartbeats 16000000 in
theorem read_main (s : ByteArray) (x y : List UInt8) (b : List (List UInt8)) (hc : cutC (bl s) = some (x, y)) (h0 : splitS y = [] :: b) (hz : s.size ≤ 4096) (w : World) (hG : GL w) : Calls Tryz.prog 58 #[.string s] w (ReadPost (bl s) w) := by
  have hP : Hid (readP (bl s) = readB x b) := Lib.hid (by rw [readP_some hc, h0, readW]; exact if_pos rfl)
  obtain ⟨g, hg⟩ : ∃ g, w.heap.size = g := ⟨_, rfl⟩
  obtain ⟨w1, hw1⟩ : ∃ w1, w.alloc (.cells #[.string ⟨#[]⟩, .slice none 0 0, .slice none 0 0, .bool false] 61) = w1 := ⟨_, rfl⟩
  have hb1 : Below w.heap.size w w1 := by rw [← hw1]; exact balloc _ (Below.refl _ _)
  have k0 : w1.heap[g]? = some (.cells #[.string ⟨#[]⟩, .slice none 0 0, .slice none 0 0, .bool false] 61 (0, 0)) := by rw [← hw1, ← hg]; exact Array.getElem?_push_size
  have hC := stCut_some s x y (by omega) hc w1 (hG.below hb1)
  have HB1 := Lib.hid hb1
  have HG0 : Hid (w.heap.size ≤ g) := Lib.hid (by omega)
  have HK : Hid (∀ w', Below w1.heap.size w1 w' → w'.heap[g]? = some (.cells #[.string ⟨#[]⟩, .slice none 0 0, .slice none 0 0, .bool false] 61 (0, 0))) := Lib.hid fun w' hb => (hb.block _ (Array.getElem?_eq_some_iff.1 k0).1).trans k0
  have HGL : Hid (∀ w', Below w1.heap.size w1 w' → GL w') := Lib.hid fun w' hb => (hG.below hb1).below hb
  have hyl : y.length ≤ 4096 ∧ x.length ≤ 4096 := by
    have h1 := (cutC_some hc).1
    have h2 := congrArg List.length h1
    rw [bl_len, List.length_append, List.length_cons] at h2
    omega
  have HYL := Lib.hid hyl
  have HS0 := Lib.hid h0
  have HBS : Hid (b.length ≤ 4096 ∧ ∀ t ∈ b, t.length ≤ 4096) := Lib.hid (by
    have h1 := splitGo_len 32 y []
    have h2 := splitGo_size 32 y [] 4096 (by simpa using hyl.1)
    have h3 : splitGo 32 [] y = [] :: b := h0
    rw [h3] at h1 h2
    rw [List.length_cons] at h1
    exact ⟨by omega, fun t ht => h2 t (List.mem_cons_of_mem _ ht)⟩)
  clear hG hb1 k0 hc h0 hyl
  go_enter Tryz.func58, Tryz.ntmps58
  go_wp2_with fail
  refine hC.mono ?_
  rintro e w2 ⟨rfl, hb2⟩
  have HB2 := Lib.hid hb2
  have hS := stSplit_any (mkB y) (by rw [mkB_size]; have := HYL.out; omega) w2 (HGL.out _ hb2)
  clear hb2
  go_wp2_with fail
  refine hS.mono ?_
  rintro e w3 ⟨L, rfl, hL, hw3⟩
  rw [bl_mkB, HS0.out] at hL
  obtain ⟨t, L', rfl⟩ : ∃ t L', L = t :: L' := by
    cases L with
    | nil => cases hL
    | cons t L' => exact ⟨t, L', rfl⟩
  obtain ⟨hL1, hL2⟩ : bl t = [] ∧ bls L' = b := by
    injection hL with q1 q2
    exact ⟨q1, q2⟩
  have hb3 : Below w2.heap.size w2 w3 := by rw [hw3]; exact balloc _ (Below.refl _ _)
  have HB3 := Lib.hid (HB2.out.trans (hb3.mono HB2.out.size))
  have ht : t.toList.isEmpty = true := by rw [empty_list, decide_eq_true hL1]
  have hcw : w3.cell? ⟨w2.heap.size, 0, none⟩ = some (.string t) := by rw [hw3]; exact new_words w2 _ 0 t rfl
  have hsz3 : w2.heap.size < w3.heap.size := by rw [hw3]; simp
  obtain ⟨B, hB⟩ : ∃ B, w2.heap.size = B := ⟨_, rfl⟩
  rw [hB] at hcw hsz3 ⊢
  obtain ⟨m, hm⟩ : ∃ m, L'.length = m := ⟨_, rfl⟩
  have hm2 : m ≤ 4096 := by have := HBS.out.1; rw [← hL2] at this; unfold bls at this; rw [List.length_map, hm] at this; exact this
  have hT0 : ∀ j x, L'[j]? = some x → w3.cell? ⟨B, j + 1, none⟩ = some (.string x) := fun j x hx => by rw [hw3, ← hB]; exact new_words w2 _ (j + 1) x hx
  have HT0 := Lib.hid hT0
  have HBG : Hid (g ≠ B ∧ w1.heap.size ≤ B) := Lib.hid (by
    have h1 := (Array.getElem?_eq_some_iff.1 (HK.out _ HB2.out)).1
    have h2 := HB2.out.size
    exact ⟨by omega, by omega⟩)
  have HM := Lib.hid hm
  have HLB := Lib.hid hL2
  rw [List.length_cons, hm]
  have hmi : (m : Int) ≤ 4096 := by omega
  have hln : (0 : Int) < ((m + 1 : Nat) : Int) := by omega
  clear hw3 hS hL hL1 hL2 hb3 hT0 hB hm
  go_upto_region 6 with fail
  rename_i K1 h1 K0 h0
  obtain ⟨A1, hA1⟩ : ∃ A1 : Option Addr, (if m = 0 then some ⟨B, 0, none⟩ else some ⟨B, 1, none⟩) = A1 := ⟨_, rfl⟩
  rw [hA1]
  have hA1n : ∃ o1, A1 = some ⟨B, o1, none⟩ := by rw [← hA1]; split <;> exact ⟨_, rfl⟩
  have hA1p : 0 < m → A1 = some ⟨B, 1, none⟩ := fun q => by rw [← hA1, if_neg (by omega)]
  obtain ⟨p, hp⟩ : ∃ p, w3.heap.size = p := ⟨_, rfl⟩
  rw [hp]
  obtain ⟨w4, hw4⟩ : ∃ w4, w3.alloc (.cells #[.string (mkB x), .slice A1 m m, .slice none 0 0, .bool false] 61) = w4 := ⟨_, rfl⟩
  rw [hw4]
  have hb4 : Below w1.heap.size w1 w4 := by rw [← hw4]; exact HB3.out.alloc HB3.out.size _
  have hk4 : w4.heap[p]? = some (.cells #[.string (mkB x), .slice A1 m m, .slice none 0 0, .bool false] 61 (0, 0)) := by rw [← hw4, ← hp]; exact Array.getElem?_push_size
  have hT4 : TextsZ w4 A1 m L' := by
    refine ⟨HM.out, fun q => ⟨B, 1, hA1p q, ?_, fun j z hz => ?_⟩⟩
    · rw [← hw4]; simp; omega
    · rw [← hw4, Nat.add_comm 1 j]
      have := HT0.out j z hz
      rw [World.cell?_alloc_lt _ _ _ (by show B < _; omega)]
      exact this
  have HPG : Hid (p ≠ g ∧ w1.heap.size ≤ p ∧ g < w1.heap.size ∧ w.heap.size ≤ g ∧ p ≠ B) := Lib.hid (by
    have h1 := (Array.getElem?_eq_some_iff.1 (HK.out _ (Below.refl _ _))).1
    have h2 := HB3.out.size
    have h3 := HG0.out
    refine ⟨by omega, by omega, h1, h3, by omega⟩)
  have HT4 := Lib.hid hT4
  have HK4 := Lib.hid hk4
  have HB4 := Lib.hid hb4
  clear hA1 hw4 hT4 hk4 hb4 hp hcw hsz3 HT0 HB3 HB2 HGL ht hln
  have REST : Hid (∀ (u1 u3 u5 u6 u7 u9 u10 u11 u12 u13 u14 u15 u16 u17 u18 u19 u20 u21 u22 u23 u24 u25 u26 u27 u28 u29 u30 u31 u32 u33 u34 u35 u36 u37 u38 u39 u40 u41 u42 u43 u44 u45 u46 u47 u48 u49 u50 u51 u52 u53 u54 u55 u56 u57 u58 u59 u60 u61 u62 u63 u64 u65 u66 u67 u68 u69 u70 u71 u72 u73 u74 u75 u76 u77 u78 u79 u80 u81 u82 u83 u84 u85 u86 u87 u88 : Value) (wx : World) (A : Option Addr) (n c : Nat) (H0 : List ByteArray) (rt : Bool), Below w1.heap.size w1 wx → wx.heap[p]? = some (.cells #[.string (mkB x), .slice A n c, .slice none 0 0, .bool rt] 61 (0, 0)) → TextsZ wx A n H0 → n ≤ c → (∃ o1, A = some ⟨B, o1, none⟩) → bls H0 = dropRet b → rt = decide (b.getLast? = some retL) → K1 ⟨#[.string s, u1, .pointer (some ⟨g, 0, none⟩), u3, .string (mkB x), u5, u6, u7, .pointer (some ⟨p, 0, none⟩), u9, u10, u11, u12, u13, u14, u15, u16, u17, u18, u19, u20, u21, u22, u23, u24, u25, u26, u27, u28, u29, u30, u31, u32, u33, u34, u35, u36, u37, u38, u39, u40, u41, u42, u43, u44, u45, u46, u47, u48, u49, u50, u51, u52, u53, u54, u55, u56, u57, u58, u59, u60, u61, u62, u63, u64, u65, u66, u67, u68, u69, u70, u71, u72, u73, u74, u75, u76, u77, u78, u79, u80, u81, u82, u83, u84, u85, u86, u87, u88], []⟩ wx) := Lib.hid (by
    intro u1 u3 u5 u6 u7 u9 u10 u11 u12 u13 u14 u15 u16 u17 u18 u19 u20 u21 u22 u23 u24 u25 u26 u27 u28 u29 u30 u31 u32 u33 u34 u35 u36 u37 u38 u39 u40 u41 u42 u43 u44 u45 u46 u47 u48 u49 u50 u51 u52 u53 u54 u55 u56 u57 u58 u59 u60 u61 u62 u63 u64 u65 u66 u67 u68 u69 u70 u71 u72 u73 u74 u75 u76 u77 u78 u79 u80 u81 u82 u83 u84 u85 u86 u87 u88 wx A n c H0 rt hbx hkx hTx hnc hAo hH0 hrt
    apply h1
    clear h1 K1 h0 K0 HT4 HK4 HB4 hA1n hA1p HLB HM
    have hHl : H0.length ≤ 4096 ∧ ∀ z ∈ H0, z.size ≤ 4096 := by
      refine ⟨?_, bls_sizes hH0 (fun t ht => HBS.out.2 t (dropRet_sub ht))⟩
      rw [← bls_len, hH0]
      exact Nat.le_trans (dropRet_len b) HBS.out.1
    have hn4 : n ≤ 4096 := by rw [← hTx.1]; exact hHl.1
    have HHL := Lib.hid hHl
    have HTX := Lib.hid hTx
    have HHB := Lib.hid hH0
    have HKX := Lib.hid hkx
    have HBX := Lib.hid hbx
    have HRT := Lib.hid hrt
    have x0 := Go.Joins.cell_of_block hkx 0
    have x1 := Go.Joins.cell_of_block hkx 1
    have x2 := Go.Joins.cell_of_block hkx 2
    have x3 := Go.Joins.cell_of_block hkx 3
    have hIx := slIndexS2_any H0 ⟨#[124]⟩ n c A wx hTx (by omega)
    have hni : (n : Int) ≤ 4096 := by omega
    clear hTx hH0 hkx hbx hHl hrt
    go_upto_region 10 with fail
    rename_i K2 h2 K3 h3
    have REST2 : Hid (∀ (v1 v3 v5 v6 v7 v9 v10 v11 v12 v13 v14 v15 v16 v17 v18 v19 v20 v21 v22 v23 v24 v25 v26 v27 v28 v29 v30 v31 v32 v33 v34 v35 v36 v37 v38 v39 v40 v41 v42 v43 v44 v45 v46 v47 v48 v49 v50 v51 v52 v53 v54 v55 v56 v57 v58 v59 v60 v61 v62 v63 v64 v65 v66 v67 v68 v69 v70 v71 v72 v73 v74 v75 v76 v77 v78 v79 v80 v81 v82 v83 v84 v85 v86 v87 v88 : Value) (wy : World) (AH : Option Addr) (nh ch : Nat) (AO : Option Addr) (no co : Nat) (H O : List ByteArray), Below w1.heap.size w1 wy → wy.heap[p]? = some (.cells #[.string (mkB x), .slice AH nh ch, .slice AO no co, .bool rt] 61 (0, 0)) → TextsZ wy AH nh H → nh ≤ ch → (AH = none → ch = 0) → TextsZ wy AO no O → no ≤ co → (AO = none → co = 0) → (0 < nh → ∀ ad : Addr, AH = some ad → w1.heap.size ≤ ad.block) → (0 < no → ∀ ad : Addr, AO = some ad → w1.heap.size ≤ ad.block) → (H.length ≤ 4096 ∧ O.length ≤ 4096 ∧ (∀ z ∈ H, z.size ≤ 4096) ∧ ∀ z ∈ O, z.size ≤ 4096) → readB x b = (if goodW x && ((bls H).all goodW && (bls O).all goodW) then some (x, bls H, bls O, rt) else none) → K2 ⟨#[.string s, v1, .pointer (some ⟨g, 0, none⟩), v3, .string (mkB x), v5, v6, v7, .pointer (some ⟨p, 0, none⟩), v9, v10, v11, v12, v13, v14, v15, v16, v17, v18, v19, v20, v21, v22, v23, v24, v25, v26, v27, v28, v29, v30, v31, v32, v33, v34, v35, v36, v37, v38, v39, v40, v41, v42, v43, v44, v45, v46, v47, v48, v49, v50, v51, v52, v53, v54, v55, v56, v57, v58, v59, v60, v61, v62, v63, v64, v65, v66, v67, v68, v69, v70, v71, v72, v73, v74, v75, v76, v77, v78, v79, v80, v81, v82, v83, v84, v85, v86, v87, v88], []⟩ wy) := Lib.hid (by
      intro v1 v3 v5 v6 v7 v9 v10 v11 v12 v13 v14 v15 v16 v17 v18 v19 v20 v21 v22 v23 v24 v25 v26 v27 v28 v29 v30 v31 v32 v33 v34 v35 v36 v37 v38 v39 v40 v41 v42 v43 v44 v45 v46 v47 v48 v49 v50 v51 v52 v53 v54 v55 v56 v57 v58 v59 v60 v61 v62 v63 v64 v65 v66 v67 v68 v69 v70 v71 v72 v73 v74 v75 v76 v77 v78 v79 v80 v81 v82 v83 v84 v85 v86 v87 v88 wy AH nh ch AO no co H O hby hky hTH hnh hAH hTO hno hAO hgH hgO hsz hrb
      apply h2
      clear h2 K2 h3 K3 x0 x1 x2 x3 hIx HTX HHB HKX HBX HHL
      have HBY := Lib.hid hby
      have HKY := Lib.hid hky
      have HTH := Lib.hid hTH
      have HTO := Lib.hid hTO
      have HFIN : Hid (∀ ok : Bool, ok = (goodW x && ((bls H).all goodW && (bls O).all goodW)) → ∀ w', Below w.heap.size w w' → TextsZ w' AH nh H → TextsZ w' AO no O → ReadPost (bl s) w (.returned (.tuple #[.agg #[.string (mkB x), .slice AH nh ch, .slice AO no co, .bool rt], .bool ok])) w') := Lib.hid (fun ok hok w' hb t1 t2 => by
        refine ⟨_, _, _, _, _, _, _, _, _, rfl, hb, fun q => ?_, fun q => ⟨H, O, ?_, ⟨t1, hnh, hAH, fun h0 ad had => Nat.le_trans HB1.out.size (hgH h0 ad had)⟩, t2, hno, hAO, fun h0 ad had => Nat.le_trans HB1.out.size (hgO h0 ad had)⟩⟩
        · rw [hP.out, hrb, ← hok, q]; rfl
        · rw [hP.out, hrb, ← hok, q, bl_mkB]; rfl)
      have HPX : Hid (∀ w', Below wy.heap.size wy w' → w'.cell? ⟨p, 0, none⟩ = some (.string (mkB x)) ∧ w'.cell? ⟨p, 1, none⟩ = some (.slice AH nh ch) ∧ w'.cell? ⟨p, 2, none⟩ = some (.slice AO no co) ∧ w'.cell? ⟨p, 3, none⟩ = some (.bool rt)) := Lib.hid (fun w' hb => by
        have k := (hb.block _ (Array.getElem?_eq_some_iff.1 HKY.out).1).trans HKY.out
        exact ⟨Go.Joins.cell_of_block k 0, Go.Joins.cell_of_block k 1, Go.Joins.cell_of_block k 2, Go.Joins.cell_of_block k 3⟩)
      have HNM : Hid (∀ q w', w'.cell? ⟨q, 0, none⟩ = some (.string (mkB x)) → q < w'.heap.size → Calls Tryz.prog 123 #[.slice (some ⟨q, 0, none⟩) 1 1] w' (RetPost (.bool (goodW x)) w')) := Lib.hid (fun q w' hq hlt => by
        have := fdAllWords_any [mkB x] 1 1 (some ⟨q, 0, none⟩) w' ⟨rfl, fun _ => ⟨q, 0, rfl, hlt, fun j z hz => by
          match j, hz with
          | 0, hz => simp at hz; subst hz; exact hq⟩⟩ (by decide) (fun z hz => by
            rw [List.mem_singleton] at hz; subst hz; rw [mkB_size]; have := HYL.out.2; omega)
        have e : (bls [mkB x]).all goodW = goodW x := by unfold bls; simp [bl_mkB]
        rw [e] at this
        exact this)
      have HHS : Hid (∀ w', Below wy.heap.size wy w' → Calls Tryz.prog 123 #[.slice AH nh ch] w' (RetPost (.bool ((bls H).all goodW)) w')) := Lib.hid (fun w' hb => fdAllWords_any H nh ch AH w' (HTH.out.below hb) (by rw [← HTH.out.1]; omega) (fun z hz => by have := hsz.2.2.1 z hz; omega))
      have HOS : Hid (∀ w', Below wy.heap.size wy w' → Calls Tryz.prog 123 #[.slice AO no co] w' (RetPost (.bool ((bls O).all goodW)) w')) := Lib.hid (fun w' hb => fdAllWords_any O no co AO w' (HTO.out.below hb) (by rw [← HTO.out.1]; omega) (fun z hz => by have := hsz.2.2.2 z hz; omega))
      have HSET : Hid (∀ w' a0 a1 a2 a3, Below wy.heap.size wy w' → Below w.heap.size w ((((w'.setCell ⟨g, 0, none⟩ a0).setCell ⟨g, 1, none⟩ a1).setCell ⟨g, 2, none⟩ a2).setCell ⟨g, 3, none⟩ a3) ∧ TextsZ ((((w'.setCell ⟨g, 0, none⟩ a0).setCell ⟨g, 1, none⟩ a1).setCell ⟨g, 2, none⟩ a2).setCell ⟨g, 3, none⟩ a3) AH nh H ∧ TextsZ ((((w'.setCell ⟨g, 0, none⟩ a0).setCell ⟨g, 1, none⟩ a1).setCell ⟨g, 2, none⟩ a2).setCell ⟨g, 3, none⟩ a3) AO no O) := Lib.hid (fun w' a0 a1 a2 a3 hb => by
        refine ⟨four_below (HB1.out.trans ((HBY.out.trans (hb.mono HBY.out.size)).mono HB1.out.size)) HPG.out.2.2.2.1 _ _ _ _, ?_, ?_⟩
        · exact four_texts (HTH.out.below hb) (fun h0 ad had q => by have h1 := hgH h0 ad had; have h2 := HPG.out.2.2.1; omega) _ _ _ _
        · exact four_texts (HTO.out.below hb) (fun h0 ad had q => by have h1 := hgO h0 ad had; have h2 := HPG.out.2.2.1; omega) _ _ _ _)
      have hxl := HYL.out.2
      clear hsz hgH hgO hTH hTO hby hky hnh hno hAH hAO hrb hxl
      go_wp2_with fail
      have HPX0 := HPX
      cases hgx : goodW x with
      | false =>
        rw [hgx] at HNM HFIN
        have HOK : Hid (false = (false && ((bls H).all goodW && (bls O).all goodW))) := Lib.hid rfl
        refine wp_region_held_drew (S := (fun w' => w'.cell? ⟨p, 0, none⟩ = some (.string (mkB x)) ∧ w'.cell? ⟨p, 1, none⟩ = some (.slice AH nh ch) ∧ w'.cell? ⟨p, 2, none⟩ = some (.slice AO no co) ∧ w'.cell? ⟨p, 3, none⟩ = some (.bool rt))) (by kernel_rfl) ?_ (fun hHeld => ?_)
        · exact HPX.out _ ((Below.refl _ _).drew)
        have hacc : Below wy.heap.size wy wy.drew := (Below.refl _ _).drew
        generalize World.drew wy = wd at hHeld hacc ⊢
        refine wpAnyH_take (i := 0) (oi := _) (v := ?_) rfl (by kernel_rfl) (by kernel_rfl) (by kernel_rfl) (fun _ _ _ h => h) (Or.inl ⟨by kernel_rfl, ?_⟩) (by assumption) ?_
        rotate_left
        · rintro w ⟨s1, s2, s3, s4⟩
          go_simp
          try with_reducible rfl
        try simp only [Act.put, List.setIfInBounds_toArray, List.set_cons_zero, List.set_cons_succ, List.getElem_toArray, List.getElem_cons_zero, List.getElem_cons_succ]
        refine wpAnyH_take (i := 1) (oi := _) (v := ?_) rfl (by kernel_rfl) (by kernel_rfl) (by kernel_rfl) (fun _ _ _ h => h) (Or.inl ⟨by kernel_rfl, ?_⟩) (by assumption) ?_
        rotate_left
        · rintro w ⟨s1, s2, s3, s4⟩
          go_simp
          try with_reducible rfl
        try simp only [Act.put, List.setIfInBounds_toArray, List.set_cons_zero, List.set_cons_succ, List.getElem_toArray, List.getElem_cons_zero, List.getElem_cons_succ]
        refine wpAnyH_ready (rs := [2]) (by kernel_rfl) (by simp) ?_
        refine AllReadyH.cons (o := _) rfl (fun K hKK => ?_) AllReadyH.nil
        go_simp
        have hc2 : (wd.alloc (.cells #[.string (mkB x)] 9)).cell? ⟨wd.heap.size, 0, none⟩ = some (.string (mkB x)) := by simp
        have hq2 : wd.heap.size < (wd.alloc (.cells #[.string (mkB x)] 9)).heap.size := by simp
        have hacc2 := hacc.alloc hacc.size (.cells #[.string (mkB x)] 9)
        clear hacc hHeld
        have hacc := hacc2
        clear hacc2
        refine hKK.out _ _ ?_ (fun hHeld => ?_)
        · exact HPX.out _ hacc
        clear hKK K
        try simp only [Act.put, List.setIfInBounds_toArray, List.set_cons_zero, List.set_cons_succ, List.getElem_toArray, List.getElem_cons_zero, List.getElem_cons_succ]
        refine wpAnyH_ready (rs := [3]) (by kernel_rfl) (by simp) ?_
        refine AllReadyH.cons (o := _) rfl (fun K hKK => ?_) AllReadyH.nil
        go_simp
        go_at_call 123
        with_reducible refine (HNM.out _ _ hc2 hq2).mono ?_
        rintro e' w' ⟨rfl, hbz⟩
        go_wp2_with fail
        have hacc2 := hacc.trans (hbz.mono hacc.size)
        clear hacc hbz
        have hacc := hacc2
        clear hacc2
        refine hKK.out _ _ ?_ (fun hHeld => ?_)
        · exact HPX.out _ hacc
        clear hKK K
        try simp only [Act.put, List.setIfInBounds_toArray, List.set_cons_zero, List.set_cons_succ, List.getElem_toArray, List.getElem_cons_zero, List.getElem_cons_succ]
        clear hc2 hq2
        refine wpAnyH_take (i := 4) (oi := _) (v := ?_) rfl (by kernel_rfl) (by kernel_rfl) (by kernel_rfl) (fun _ _ _ h => h) (Or.inl ⟨by kernel_rfl, ?_⟩) (by assumption) ?_
        rotate_left
        · rintro w ⟨s1, s2, s3, s4⟩
          go_simp
          try with_reducible rfl
        try simp only [Act.put, List.setIfInBounds_toArray, List.set_cons_zero, List.set_cons_succ, List.getElem_toArray, List.getElem_cons_zero, List.getElem_cons_succ]
        refine wpAnyH_take (i := 5) (oi := _) (v := undef) rfl (by kernel_rfl) (by kernel_rfl) (by kernel_rfl) (fun _ _ _ h => h) (Or.inr ⟨by kernel_rfl, rfl⟩) (by assumption) ?_
        try simp only [Act.put, List.setIfInBounds_toArray, List.set_cons_zero, List.set_cons_succ, List.getElem_toArray, List.getElem_cons_zero, List.getElem_cons_succ]
        refine wpAnyH_take (i := 6) (oi := _) (v := undef) rfl (by kernel_rfl) (by kernel_rfl) (by kernel_rfl) (fun _ _ _ h => h) (Or.inr ⟨by kernel_rfl, rfl⟩) (by assumption) ?_
        try simp only [Act.put, List.setIfInBounds_toArray, List.set_cons_zero, List.set_cons_succ, List.getElem_toArray, List.getElem_cons_zero, List.getElem_cons_succ]
        refine wpAnyH_take (i := 7) (oi := _) (v := undef) rfl (by kernel_rfl) (by kernel_rfl) (by kernel_rfl) (fun _ _ _ h => h) (Or.inr ⟨by kernel_rfl, rfl⟩) (by assumption) ?_
        try simp only [Act.put, List.setIfInBounds_toArray, List.set_cons_zero, List.set_cons_succ, List.getElem_toArray, List.getElem_cons_zero, List.getElem_cons_succ]
        refine wpAnyH_take (i := 8) (oi := _) (v := ?_) rfl (by kernel_rfl) (by kernel_rfl) (by kernel_rfl) (fun _ _ _ h => h) (Or.inl ⟨by kernel_rfl, ?_⟩) (by assumption) ?_
        rotate_left
        · rintro w ⟨s1, s2, s3, s4⟩
          go_simp
          try with_reducible rfl
        try simp only [Act.put, List.setIfInBounds_toArray, List.set_cons_zero, List.set_cons_succ, List.getElem_toArray, List.getElem_cons_zero, List.getElem_cons_succ]
        refine wpAnyH_take (i := 9) (oi := _) (v := ?_) rfl (by kernel_rfl) (by kernel_rfl) (by kernel_rfl) (fun _ _ _ h => h) (Or.inl ⟨by kernel_rfl, ?_⟩) (by assumption) ?_
        rotate_left
        · rintro w ⟨s1, s2, s3, s4⟩
          go_simp
          try with_reducible rfl
        try simp only [Act.put, List.setIfInBounds_toArray, List.set_cons_zero, List.set_cons_succ, List.getElem_toArray, List.getElem_cons_zero, List.getElem_cons_succ]
        refine wpAnyH_take (i := 10) (oi := _) (v := undef) rfl (by kernel_rfl) (by kernel_rfl) (by kernel_rfl) (fun _ _ _ h => h) (Or.inr ⟨by kernel_rfl, rfl⟩) (by assumption) ?_
        try simp only [Act.put, List.setIfInBounds_toArray, List.set_cons_zero, List.set_cons_succ, List.getElem_toArray, List.getElem_cons_zero, List.getElem_cons_succ]
        refine wpAnyH_take (i := 11) (oi := _) (v := undef) rfl (by kernel_rfl) (by kernel_rfl) (by kernel_rfl) (fun _ _ _ h => h) (Or.inr ⟨by kernel_rfl, rfl⟩) (by assumption) ?_
        try simp only [Act.put, List.setIfInBounds_toArray, List.set_cons_zero, List.set_cons_succ, List.getElem_toArray, List.getElem_cons_zero, List.getElem_cons_succ]
        refine wpAnyH_take (i := 12) (oi := _) (v := undef) rfl (by kernel_rfl) (by kernel_rfl) (by kernel_rfl) (fun _ _ _ h => h) (Or.inr ⟨by kernel_rfl, rfl⟩) (by assumption) ?_
        try simp only [Act.put, List.setIfInBounds_toArray, List.set_cons_zero, List.set_cons_succ, List.getElem_toArray, List.getElem_cons_zero, List.getElem_cons_succ]
        refine wpAnyH_take (i := 13) (oi := _) (v := ?_) rfl (by kernel_rfl) (by kernel_rfl) (by kernel_rfl) (fun _ _ _ h => h) (Or.inl ⟨by kernel_rfl, ?_⟩) (by assumption) ?_
        rotate_left
        · rintro w ⟨s1, s2, s3, s4⟩
          go_simp
          try with_reducible rfl
        try simp only [Act.put, List.setIfInBounds_toArray, List.set_cons_zero, List.set_cons_succ, List.getElem_toArray, List.getElem_cons_zero, List.getElem_cons_succ]
        have kg : ∃ g0 g1 g2 g3, w'.heap[g]? = some (.cells #[g0, g1, g2, g3] 61 (0, 0)) := ⟨_, _, _, _, HK.out _ (HBY.out.trans (hacc.mono HBY.out.size))⟩
        obtain ⟨g0, g1, g2, g3, kg⟩ := kg
        have q0 := Go.Joins.cell_of_block kg 0
        have r0 := Go.Joins.unfrozen_of_block kg 0
        have q1 := Go.Joins.cell_of_block kg 1
        have r1 := Go.Joins.unfrozen_of_block kg 1
        have q2 := Go.Joins.cell_of_block kg 2
        have r2 := Go.Joins.unfrozen_of_block kg 2
        have q3 := Go.Joins.cell_of_block kg 3
        have r3 := Go.Joins.unfrozen_of_block kg 3
        have KG := Lib.hid kg
        have HACC := Lib.hid hacc
        clear kg hacc hHeld
        refine wpAnyH_ready (rs := [14]) (by kernel_rfl) (by simp) ?_
        refine AllReadyH.cons (o := _) rfl (fun K hKK => ?_) AllReadyH.nil
        go_simp
        refine hKK.out _ _ ?_ (fun hHeld => ?_)
        · have k := (HACC.out.block _ (Array.getElem?_eq_some_iff.1 HKY.out).1).trans HKY.out
          have k2 := four_other k HPG.out.1 (.string (mkB x)) (.slice AH nh ch) (.slice AO no co) (.bool rt)
          exact ⟨Go.Joins.cell_of_block k2 0, Go.Joins.cell_of_block k2 1, Go.Joins.cell_of_block k2 2, Go.Joins.cell_of_block k2 3⟩
        clear hKK K
        try simp only [Act.put, List.setIfInBounds_toArray, List.set_cons_zero, List.set_cons_succ, List.getElem_toArray, List.getElem_cons_zero, List.getElem_cons_succ]
        refine wpAnyH_take (i := 15) (oi := _) (v := ?_) rfl (by kernel_rfl) (by kernel_rfl) (by kernel_rfl) (fun _ _ _ h => h) (Or.inl ⟨by kernel_rfl, ?_⟩) (by assumption) ?_
        rotate_left
        · rintro w ⟨s1, s2, s3, s4⟩
          go_simp
          try with_reducible rfl
        try simp only [Act.put, List.setIfInBounds_toArray, List.set_cons_zero, List.set_cons_succ, List.getElem_toArray, List.getElem_cons_zero, List.getElem_cons_succ]
        refine wpAnyH_done (by kernel_rfl) ?_ _
        clear hHeld
        have k4 := four_set KG.out (.string (mkB x)) (.slice AH nh ch) (.slice AO no co) (.bool rt)
        obtain ⟨f1, f2, f3⟩ := HSET.out w' (.string (mkB x)) (.slice AH nh ch) (.slice AO no co) (.bool rt) HACC.out
        have HF := HFIN.out _ HOK.out _ f1 f2 f3
        have z0 := Go.Joins.cell_of_block k4 0
        have z1 := Go.Joins.cell_of_block k4 1
        have z2 := Go.Joins.cell_of_block k4 2
        have z3 := Go.Joins.cell_of_block k4 3
        clear k4 f1 f2 f3 q0 q1 q2 q3 r0 r1 r2 r3
        go_wp2
        exact bodyPost_ret (v := .tuple #[.agg #[.string (mkB x), .slice AH nh ch, .slice AO no co, .bool rt], .bool false]) (by simp [results, Tryz.results58, go_sem, z0, z1, z2, z3]) rfl HF
      | true =>
        rw [hgx] at HNM HFIN
        cases hgh : (bls H).all goodW with
        | false =>
          rw [hgh] at HHS HFIN
          have HOK : Hid (false = (true && (false && (bls O).all goodW))) := Lib.hid rfl
          refine wp_region_held_drew (S := (fun w' => w'.cell? ⟨p, 0, none⟩ = some (.string (mkB x)) ∧ w'.cell? ⟨p, 1, none⟩ = some (.slice AH nh ch) ∧ w'.cell? ⟨p, 2, none⟩ = some (.slice AO no co) ∧ w'.cell? ⟨p, 3, none⟩ = some (.bool rt))) (by kernel_rfl) ?_ (fun hHeld => ?_)
          · exact HPX.out _ ((Below.refl _ _).drew)
          have hacc : Below wy.heap.size wy wy.drew := (Below.refl _ _).drew
          generalize World.drew wy = wd at hHeld hacc ⊢
          refine wpAnyH_take (i := 0) (oi := _) (v := ?_) rfl (by kernel_rfl) (by kernel_rfl) (by kernel_rfl) (fun _ _ _ h => h) (Or.inl ⟨by kernel_rfl, ?_⟩) (by assumption) ?_
          rotate_left
          · rintro w ⟨s1, s2, s3, s4⟩
            go_simp
            try with_reducible rfl
          try simp only [Act.put, List.setIfInBounds_toArray, List.set_cons_zero, List.set_cons_succ, List.getElem_toArray, List.getElem_cons_zero, List.getElem_cons_succ]
          refine wpAnyH_take (i := 1) (oi := _) (v := ?_) rfl (by kernel_rfl) (by kernel_rfl) (by kernel_rfl) (fun _ _ _ h => h) (Or.inl ⟨by kernel_rfl, ?_⟩) (by assumption) ?_
          rotate_left
          · rintro w ⟨s1, s2, s3, s4⟩
            go_simp
            try with_reducible rfl
          try simp only [Act.put, List.setIfInBounds_toArray, List.set_cons_zero, List.set_cons_succ, List.getElem_toArray, List.getElem_cons_zero, List.getElem_cons_succ]
          refine wpAnyH_ready (rs := [2]) (by kernel_rfl) (by simp) ?_
          refine AllReadyH.cons (o := _) rfl (fun K hKK => ?_) AllReadyH.nil
          go_simp
          have hc2 : (wd.alloc (.cells #[.string (mkB x)] 9)).cell? ⟨wd.heap.size, 0, none⟩ = some (.string (mkB x)) := by simp
          have hq2 : wd.heap.size < (wd.alloc (.cells #[.string (mkB x)] 9)).heap.size := by simp
          have hacc2 := hacc.alloc hacc.size (.cells #[.string (mkB x)] 9)
          clear hacc hHeld
          have hacc := hacc2
          clear hacc2
          refine hKK.out _ _ ?_ (fun hHeld => ?_)
          · exact HPX.out _ hacc
          clear hKK K
          try simp only [Act.put, List.setIfInBounds_toArray, List.set_cons_zero, List.set_cons_succ, List.getElem_toArray, List.getElem_cons_zero, List.getElem_cons_succ]
          refine wpAnyH_ready (rs := [3]) (by kernel_rfl) (by simp) ?_
          refine AllReadyH.cons (o := _) rfl (fun K hKK => ?_) AllReadyH.nil
          go_simp
          go_at_call 123
          with_reducible refine (HNM.out _ _ hc2 hq2).mono ?_
          rintro e' w' ⟨rfl, hbz⟩
          go_wp2_with fail
          have hacc2 := hacc.trans (hbz.mono hacc.size)
          clear hacc hbz
          have hacc := hacc2
          clear hacc2
          refine hKK.out _ _ ?_ (fun hHeld => ?_)
          · exact HPX.out _ hacc
          clear hKK K
          try simp only [Act.put, List.setIfInBounds_toArray, List.set_cons_zero, List.set_cons_succ, List.getElem_toArray, List.getElem_cons_zero, List.getElem_cons_succ]
          clear hc2 hq2
          refine wpAnyH_take (i := 4) (oi := _) (v := ?_) rfl (by kernel_rfl) (by kernel_rfl) (by kernel_rfl) (fun _ _ _ h => h) (Or.inl ⟨by kernel_rfl, ?_⟩) (by assumption) ?_
          rotate_left
          · rintro w ⟨s1, s2, s3, s4⟩
            go_simp
            try with_reducible rfl
          try simp only [Act.put, List.setIfInBounds_toArray, List.set_cons_zero, List.set_cons_succ, List.getElem_toArray, List.getElem_cons_zero, List.getElem_cons_succ]
          refine wpAnyH_take (i := 5) (oi := _) (v := ?_) rfl (by kernel_rfl) (by kernel_rfl) (by kernel_rfl) (fun _ _ _ h => h) (Or.inl ⟨by kernel_rfl, ?_⟩) (by assumption) ?_
          rotate_left
          · rintro w ⟨s1, s2, s3, s4⟩
            go_simp
            try with_reducible rfl
          try simp only [Act.put, List.setIfInBounds_toArray, List.set_cons_zero, List.set_cons_succ, List.getElem_toArray, List.getElem_cons_zero, List.getElem_cons_succ]
          refine wpAnyH_take (i := 6) (oi := _) (v := ?_) rfl (by kernel_rfl) (by kernel_rfl) (by kernel_rfl) (fun _ _ _ h => h) (Or.inl ⟨by kernel_rfl, ?_⟩) (by assumption) ?_
          rotate_left
          · rintro w ⟨s1, s2, s3, s4⟩
            go_simp
            try with_reducible rfl
          try simp only [Act.put, List.setIfInBounds_toArray, List.set_cons_zero, List.set_cons_succ, List.getElem_toArray, List.getElem_cons_zero, List.getElem_cons_succ]
          refine wpAnyH_ready (rs := [7]) (by kernel_rfl) (by simp) ?_
          refine AllReadyH.cons (o := _) rfl (fun K hKK => ?_) AllReadyH.nil
          go_simp
          go_at_call 123
          with_reducible refine (HHS.out _ hacc).mono ?_
          rintro e' w' ⟨rfl, hbz⟩
          go_wp2_with fail
          have hacc2 := hacc.trans (hbz.mono hacc.size)
          clear hacc hbz
          have hacc := hacc2
          clear hacc2
          refine hKK.out _ _ ?_ (fun hHeld => ?_)
          · exact HPX.out _ hacc
          clear hKK K
          try simp only [Act.put, List.setIfInBounds_toArray, List.set_cons_zero, List.set_cons_succ, List.getElem_toArray, List.getElem_cons_zero, List.getElem_cons_succ]
          refine wpAnyH_take (i := 8) (oi := _) (v := ?_) rfl (by kernel_rfl) (by kernel_rfl) (by kernel_rfl) (fun _ _ _ h => h) (Or.inl ⟨by kernel_rfl, ?_⟩) (by assumption) ?_
          rotate_left
          · rintro w ⟨s1, s2, s3, s4⟩
            go_simp
            try with_reducible rfl
          try simp only [Act.put, List.setIfInBounds_toArray, List.set_cons_zero, List.set_cons_succ, List.getElem_toArray, List.getElem_cons_zero, List.getElem_cons_succ]
          refine wpAnyH_take (i := 9) (oi := _) (v := ?_) rfl (by kernel_rfl) (by kernel_rfl) (by kernel_rfl) (fun _ _ _ h => h) (Or.inl ⟨by kernel_rfl, ?_⟩) (by assumption) ?_
          rotate_left
          · rintro w ⟨s1, s2, s3, s4⟩
            go_simp
            try with_reducible rfl
          try simp only [Act.put, List.setIfInBounds_toArray, List.set_cons_zero, List.set_cons_succ, List.getElem_toArray, List.getElem_cons_zero, List.getElem_cons_succ]
          refine wpAnyH_take (i := 10) (oi := _) (v := undef) rfl (by kernel_rfl) (by kernel_rfl) (by kernel_rfl) (fun _ _ _ h => h) (Or.inr ⟨by kernel_rfl, rfl⟩) (by assumption) ?_
          try simp only [Act.put, List.setIfInBounds_toArray, List.set_cons_zero, List.set_cons_succ, List.getElem_toArray, List.getElem_cons_zero, List.getElem_cons_succ]
          refine wpAnyH_take (i := 11) (oi := _) (v := undef) rfl (by kernel_rfl) (by kernel_rfl) (by kernel_rfl) (fun _ _ _ h => h) (Or.inr ⟨by kernel_rfl, rfl⟩) (by assumption) ?_
          try simp only [Act.put, List.setIfInBounds_toArray, List.set_cons_zero, List.set_cons_succ, List.getElem_toArray, List.getElem_cons_zero, List.getElem_cons_succ]
          refine wpAnyH_take (i := 12) (oi := _) (v := undef) rfl (by kernel_rfl) (by kernel_rfl) (by kernel_rfl) (fun _ _ _ h => h) (Or.inr ⟨by kernel_rfl, rfl⟩) (by assumption) ?_
          try simp only [Act.put, List.setIfInBounds_toArray, List.set_cons_zero, List.set_cons_succ, List.getElem_toArray, List.getElem_cons_zero, List.getElem_cons_succ]
          refine wpAnyH_take (i := 13) (oi := _) (v := ?_) rfl (by kernel_rfl) (by kernel_rfl) (by kernel_rfl) (fun _ _ _ h => h) (Or.inl ⟨by kernel_rfl, ?_⟩) (by assumption) ?_
          rotate_left
          · rintro w ⟨s1, s2, s3, s4⟩
            go_simp
            try with_reducible rfl
          try simp only [Act.put, List.setIfInBounds_toArray, List.set_cons_zero, List.set_cons_succ, List.getElem_toArray, List.getElem_cons_zero, List.getElem_cons_succ]
          have kg : ∃ g0 g1 g2 g3, w'.heap[g]? = some (.cells #[g0, g1, g2, g3] 61 (0, 0)) := ⟨_, _, _, _, HK.out _ (HBY.out.trans (hacc.mono HBY.out.size))⟩
          obtain ⟨g0, g1, g2, g3, kg⟩ := kg
          have q0 := Go.Joins.cell_of_block kg 0
          have r0 := Go.Joins.unfrozen_of_block kg 0
          have q1 := Go.Joins.cell_of_block kg 1
          have r1 := Go.Joins.unfrozen_of_block kg 1
          have q2 := Go.Joins.cell_of_block kg 2
          have r2 := Go.Joins.unfrozen_of_block kg 2
          have q3 := Go.Joins.cell_of_block kg 3
          have r3 := Go.Joins.unfrozen_of_block kg 3
          have KG := Lib.hid kg
          have HACC := Lib.hid hacc
          clear kg hacc hHeld
          refine wpAnyH_ready (rs := [14]) (by kernel_rfl) (by simp) ?_
          refine AllReadyH.cons (o := _) rfl (fun K hKK => ?_) AllReadyH.nil
          go_simp
          refine hKK.out _ _ ?_ (fun hHeld => ?_)
          · have k := (HACC.out.block _ (Array.getElem?_eq_some_iff.1 HKY.out).1).trans HKY.out
            have k2 := four_other k HPG.out.1 (.string (mkB x)) (.slice AH nh ch) (.slice AO no co) (.bool rt)
            exact ⟨Go.Joins.cell_of_block k2 0, Go.Joins.cell_of_block k2 1, Go.Joins.cell_of_block k2 2, Go.Joins.cell_of_block k2 3⟩
          clear hKK K
          try simp only [Act.put, List.setIfInBounds_toArray, List.set_cons_zero, List.set_cons_succ, List.getElem_toArray, List.getElem_cons_zero, List.getElem_cons_succ]
          refine wpAnyH_take (i := 15) (oi := _) (v := ?_) rfl (by kernel_rfl) (by kernel_rfl) (by kernel_rfl) (fun _ _ _ h => h) (Or.inl ⟨by kernel_rfl, ?_⟩) (by assumption) ?_
          rotate_left
          · rintro w ⟨s1, s2, s3, s4⟩
            go_simp
            try with_reducible rfl
          try simp only [Act.put, List.setIfInBounds_toArray, List.set_cons_zero, List.set_cons_succ, List.getElem_toArray, List.getElem_cons_zero, List.getElem_cons_succ]
          refine wpAnyH_done (by kernel_rfl) ?_ _
          clear hHeld
          have k4 := four_set KG.out (.string (mkB x)) (.slice AH nh ch) (.slice AO no co) (.bool rt)
          obtain ⟨f1, f2, f3⟩ := HSET.out w' (.string (mkB x)) (.slice AH nh ch) (.slice AO no co) (.bool rt) HACC.out
          have HF := HFIN.out _ HOK.out _ f1 f2 f3
          have z0 := Go.Joins.cell_of_block k4 0
          have z1 := Go.Joins.cell_of_block k4 1
          have z2 := Go.Joins.cell_of_block k4 2
          have z3 := Go.Joins.cell_of_block k4 3
          clear k4 f1 f2 f3 q0 q1 q2 q3 r0 r1 r2 r3
          go_wp2
          exact bodyPost_ret (v := .tuple #[.agg #[.string (mkB x), .slice AH nh ch, .slice AO no co, .bool rt], .bool false]) (by simp [results, Tryz.results58, go_sem, z0, z1, z2, z3]) rfl HF
        | true =>
          rw [hgh] at HHS HFIN
          obtain ⟨okO, hokO⟩ : ∃ okO, (bls O).all goodW = okO := ⟨_, rfl⟩
          rw [hokO] at HOS HFIN
          have HOK : Hid (okO = (true && (true && okO))) := Lib.hid rfl
          clear hokO
          refine wp_region_held_drew (S := (fun w' => w'.cell? ⟨p, 0, none⟩ = some (.string (mkB x)) ∧ w'.cell? ⟨p, 1, none⟩ = some (.slice AH nh ch) ∧ w'.cell? ⟨p, 2, none⟩ = some (.slice AO no co) ∧ w'.cell? ⟨p, 3, none⟩ = some (.bool rt))) (by kernel_rfl) ?_ (fun hHeld => ?_)
          · exact HPX.out _ ((Below.refl _ _).drew)
          have hacc : Below wy.heap.size wy wy.drew := (Below.refl _ _).drew
          generalize World.drew wy = wd at hHeld hacc ⊢
          refine wpAnyH_take (i := 0) (oi := _) (v := ?_) rfl (by kernel_rfl) (by kernel_rfl) (by kernel_rfl) (fun _ _ _ h => h) (Or.inl ⟨by kernel_rfl, ?_⟩) (by assumption) ?_
          rotate_left
          · rintro w ⟨s1, s2, s3, s4⟩
            go_simp
            try with_reducible rfl
          try simp only [Act.put, List.setIfInBounds_toArray, List.set_cons_zero, List.set_cons_succ, List.getElem_toArray, List.getElem_cons_zero, List.getElem_cons_succ]
          refine wpAnyH_take (i := 1) (oi := _) (v := ?_) rfl (by kernel_rfl) (by kernel_rfl) (by kernel_rfl) (fun _ _ _ h => h) (Or.inl ⟨by kernel_rfl, ?_⟩) (by assumption) ?_
          rotate_left
          · rintro w ⟨s1, s2, s3, s4⟩
            go_simp
            try with_reducible rfl
          try simp only [Act.put, List.setIfInBounds_toArray, List.set_cons_zero, List.set_cons_succ, List.getElem_toArray, List.getElem_cons_zero, List.getElem_cons_succ]
          refine wpAnyH_ready (rs := [2]) (by kernel_rfl) (by simp) ?_
          refine AllReadyH.cons (o := _) rfl (fun K hKK => ?_) AllReadyH.nil
          go_simp
          have hc2 : (wd.alloc (.cells #[.string (mkB x)] 9)).cell? ⟨wd.heap.size, 0, none⟩ = some (.string (mkB x)) := by simp
          have hq2 : wd.heap.size < (wd.alloc (.cells #[.string (mkB x)] 9)).heap.size := by simp
          have hacc2 := hacc.alloc hacc.size (.cells #[.string (mkB x)] 9)
          clear hacc hHeld
          have hacc := hacc2
          clear hacc2
          refine hKK.out _ _ ?_ (fun hHeld => ?_)
          · exact HPX.out _ hacc
          clear hKK K
          try simp only [Act.put, List.setIfInBounds_toArray, List.set_cons_zero, List.set_cons_succ, List.getElem_toArray, List.getElem_cons_zero, List.getElem_cons_succ]
          refine wpAnyH_ready (rs := [3]) (by kernel_rfl) (by simp) ?_
          refine AllReadyH.cons (o := _) rfl (fun K hKK => ?_) AllReadyH.nil
          go_simp
          go_at_call 123
          with_reducible refine (HNM.out _ _ hc2 hq2).mono ?_
          rintro e' w' ⟨rfl, hbz⟩
          go_wp2_with fail
          have hacc2 := hacc.trans (hbz.mono hacc.size)
          clear hacc hbz
          have hacc := hacc2
          clear hacc2
          refine hKK.out _ _ ?_ (fun hHeld => ?_)
          · exact HPX.out _ hacc
          clear hKK K
          try simp only [Act.put, List.setIfInBounds_toArray, List.set_cons_zero, List.set_cons_succ, List.getElem_toArray, List.getElem_cons_zero, List.getElem_cons_succ]
          clear hc2 hq2
          refine wpAnyH_take (i := 4) (oi := _) (v := ?_) rfl (by kernel_rfl) (by kernel_rfl) (by kernel_rfl) (fun _ _ _ h => h) (Or.inl ⟨by kernel_rfl, ?_⟩) (by assumption) ?_
          rotate_left
          · rintro w ⟨s1, s2, s3, s4⟩
            go_simp
            try with_reducible rfl
          try simp only [Act.put, List.setIfInBounds_toArray, List.set_cons_zero, List.set_cons_succ, List.getElem_toArray, List.getElem_cons_zero, List.getElem_cons_succ]
          refine wpAnyH_take (i := 5) (oi := _) (v := ?_) rfl (by kernel_rfl) (by kernel_rfl) (by kernel_rfl) (fun _ _ _ h => h) (Or.inl ⟨by kernel_rfl, ?_⟩) (by assumption) ?_
          rotate_left
          · rintro w ⟨s1, s2, s3, s4⟩
            go_simp
            try with_reducible rfl
          try simp only [Act.put, List.setIfInBounds_toArray, List.set_cons_zero, List.set_cons_succ, List.getElem_toArray, List.getElem_cons_zero, List.getElem_cons_succ]
          refine wpAnyH_take (i := 6) (oi := _) (v := ?_) rfl (by kernel_rfl) (by kernel_rfl) (by kernel_rfl) (fun _ _ _ h => h) (Or.inl ⟨by kernel_rfl, ?_⟩) (by assumption) ?_
          rotate_left
          · rintro w ⟨s1, s2, s3, s4⟩
            go_simp
            try with_reducible rfl
          try simp only [Act.put, List.setIfInBounds_toArray, List.set_cons_zero, List.set_cons_succ, List.getElem_toArray, List.getElem_cons_zero, List.getElem_cons_succ]
          refine wpAnyH_ready (rs := [7]) (by kernel_rfl) (by simp) ?_
          refine AllReadyH.cons (o := _) rfl (fun K hKK => ?_) AllReadyH.nil
          go_simp
          go_at_call 123
          with_reducible refine (HHS.out _ hacc).mono ?_
          rintro e' w' ⟨rfl, hbz⟩
          go_wp2_with fail
          have hacc2 := hacc.trans (hbz.mono hacc.size)
          clear hacc hbz
          have hacc := hacc2
          clear hacc2
          refine hKK.out _ _ ?_ (fun hHeld => ?_)
          · exact HPX.out _ hacc
          clear hKK K
          try simp only [Act.put, List.setIfInBounds_toArray, List.set_cons_zero, List.set_cons_succ, List.getElem_toArray, List.getElem_cons_zero, List.getElem_cons_succ]
          refine wpAnyH_take (i := 8) (oi := _) (v := ?_) rfl (by kernel_rfl) (by kernel_rfl) (by kernel_rfl) (fun _ _ _ h => h) (Or.inl ⟨by kernel_rfl, ?_⟩) (by assumption) ?_
          rotate_left
          · rintro w ⟨s1, s2, s3, s4⟩
            go_simp
            try with_reducible rfl
          try simp only [Act.put, List.setIfInBounds_toArray, List.set_cons_zero, List.set_cons_succ, List.getElem_toArray, List.getElem_cons_zero, List.getElem_cons_succ]
          refine wpAnyH_take (i := 9) (oi := _) (v := ?_) rfl (by kernel_rfl) (by kernel_rfl) (by kernel_rfl) (fun _ _ _ h => h) (Or.inl ⟨by kernel_rfl, ?_⟩) (by assumption) ?_
          rotate_left
          · rintro w ⟨s1, s2, s3, s4⟩
            go_simp
            try with_reducible rfl
          try simp only [Act.put, List.setIfInBounds_toArray, List.set_cons_zero, List.set_cons_succ, List.getElem_toArray, List.getElem_cons_zero, List.getElem_cons_succ]
          refine wpAnyH_take (i := 10) (oi := _) (v := ?_) rfl (by kernel_rfl) (by kernel_rfl) (by kernel_rfl) (fun _ _ _ h => h) (Or.inl ⟨by kernel_rfl, ?_⟩) (by assumption) ?_
          rotate_left
          · rintro w ⟨s1, s2, s3, s4⟩
            go_simp
            try with_reducible rfl
          try simp only [Act.put, List.setIfInBounds_toArray, List.set_cons_zero, List.set_cons_succ, List.getElem_toArray, List.getElem_cons_zero, List.getElem_cons_succ]
          refine wpAnyH_take (i := 11) (oi := _) (v := ?_) rfl (by kernel_rfl) (by kernel_rfl) (by kernel_rfl) (fun _ _ _ h => h) (Or.inl ⟨by kernel_rfl, ?_⟩) (by assumption) ?_
          rotate_left
          · rintro w ⟨s1, s2, s3, s4⟩
            go_simp
            try with_reducible rfl
          try simp only [Act.put, List.setIfInBounds_toArray, List.set_cons_zero, List.set_cons_succ, List.getElem_toArray, List.getElem_cons_zero, List.getElem_cons_succ]
          refine wpAnyH_ready (rs := [12]) (by kernel_rfl) (by simp) ?_
          refine AllReadyH.cons (o := _) rfl (fun K hKK => ?_) AllReadyH.nil
          go_simp
          go_at_call 123
          with_reducible refine (HOS.out _ hacc).mono ?_
          rintro e' w' ⟨rfl, hbz⟩
          go_wp2_with fail
          have hacc2 := hacc.trans (hbz.mono hacc.size)
          clear hacc hbz
          have hacc := hacc2
          clear hacc2
          refine hKK.out _ _ ?_ (fun hHeld => ?_)
          · exact HPX.out _ hacc
          clear hKK K
          try simp only [Act.put, List.setIfInBounds_toArray, List.set_cons_zero, List.set_cons_succ, List.getElem_toArray, List.getElem_cons_zero, List.getElem_cons_succ]
          refine wpAnyH_take (i := 13) (oi := _) (v := ?_) rfl (by kernel_rfl) (by kernel_rfl) (by kernel_rfl) (fun _ _ _ h => h) (Or.inl ⟨by kernel_rfl, ?_⟩) (by assumption) ?_
          rotate_left
          · rintro w ⟨s1, s2, s3, s4⟩
            go_simp
            try with_reducible rfl
          try simp only [Act.put, List.setIfInBounds_toArray, List.set_cons_zero, List.set_cons_succ, List.getElem_toArray, List.getElem_cons_zero, List.getElem_cons_succ]
          have kg : ∃ g0 g1 g2 g3, w'.heap[g]? = some (.cells #[g0, g1, g2, g3] 61 (0, 0)) := ⟨_, _, _, _, HK.out _ (HBY.out.trans (hacc.mono HBY.out.size))⟩
          obtain ⟨g0, g1, g2, g3, kg⟩ := kg
          have q0 := Go.Joins.cell_of_block kg 0
          have r0 := Go.Joins.unfrozen_of_block kg 0
          have q1 := Go.Joins.cell_of_block kg 1
          have r1 := Go.Joins.unfrozen_of_block kg 1
          have q2 := Go.Joins.cell_of_block kg 2
          have r2 := Go.Joins.unfrozen_of_block kg 2
          have q3 := Go.Joins.cell_of_block kg 3
          have r3 := Go.Joins.unfrozen_of_block kg 3
          have KG := Lib.hid kg
          have HACC := Lib.hid hacc
          clear kg hacc hHeld
          refine wpAnyH_ready (rs := [14]) (by kernel_rfl) (by simp) ?_
          refine AllReadyH.cons (o := _) rfl (fun K hKK => ?_) AllReadyH.nil
          go_simp
          refine hKK.out _ _ ?_ (fun hHeld => ?_)
          · have k := (HACC.out.block _ (Array.getElem?_eq_some_iff.1 HKY.out).1).trans HKY.out
            have k2 := four_other k HPG.out.1 (.string (mkB x)) (.slice AH nh ch) (.slice AO no co) (.bool rt)
            exact ⟨Go.Joins.cell_of_block k2 0, Go.Joins.cell_of_block k2 1, Go.Joins.cell_of_block k2 2, Go.Joins.cell_of_block k2 3⟩
          clear hKK K
          try simp only [Act.put, List.setIfInBounds_toArray, List.set_cons_zero, List.set_cons_succ, List.getElem_toArray, List.getElem_cons_zero, List.getElem_cons_succ]
          refine wpAnyH_take (i := 15) (oi := _) (v := ?_) rfl (by kernel_rfl) (by kernel_rfl) (by kernel_rfl) (fun _ _ _ h => h) (Or.inl ⟨by kernel_rfl, ?_⟩) (by assumption) ?_
          rotate_left
          · rintro w ⟨s1, s2, s3, s4⟩
            go_simp
            try with_reducible rfl
          try simp only [Act.put, List.setIfInBounds_toArray, List.set_cons_zero, List.set_cons_succ, List.getElem_toArray, List.getElem_cons_zero, List.getElem_cons_succ]
          refine wpAnyH_done (by kernel_rfl) ?_ _
          clear hHeld
          have k4 := four_set KG.out (.string (mkB x)) (.slice AH nh ch) (.slice AO no co) (.bool rt)
          obtain ⟨f1, f2, f3⟩ := HSET.out w' (.string (mkB x)) (.slice AH nh ch) (.slice AO no co) (.bool rt) HACC.out
          have HF := HFIN.out _ HOK.out _ f1 f2 f3
          have z0 := Go.Joins.cell_of_block k4 0
          have z1 := Go.Joins.cell_of_block k4 1
          have z2 := Go.Joins.cell_of_block k4 2
          have z3 := Go.Joins.cell_of_block k4 3
          clear k4 f1 f2 f3 q0 q1 q2 q3 r0 r1 r2 r3
          go_wp2
          exact bodyPost_ret (v := .tuple #[.agg #[.string (mkB x), .slice AH nh ch, .slice AO no co, .bool rt], .bool okO]) (by simp [results, Tryz.results58, go_sem, z0, z1, z2, z3]) rfl HF)
    have HPX1 : Hid (∀ w', Below wx.heap.size wx w' → w'.heap[p]? = some (.cells #[.string (mkB x), .slice A n c, .slice none 0 0, .bool rt] 61 (0, 0))) := Lib.hid (fun w' hb => (hb.block _ (Array.getElem?_eq_some_iff.1 HKX.out).1).trans HKX.out)
    clear h2
    obtain ⟨o1, rfl⟩ := hAo
    go_wp2_with fail
    refine hIx.mono ?_
    rintro e wv ⟨z, rfl, hz, hw⟩
    obtain rfl : wx = wv := hw
    rcases hz with ⟨rfl, hno⟩ | ⟨k, rfl, hk, hk2, hk3⟩
    · have hrb : readB x b = (if goodW x && ((bls H0).all goodW && (bls []).all goodW) then some (x, bls H0, bls [], rt) else none) := by
        unfold readB
        rw [← HHB.out, barIx_no hno]
        simp [bls, HRT.out]
      have HRB := Lib.hid hrb
      have hneg : ¬ (0 : Int) ≤ -1 := by decide
      clear hno hrb hIx
      go_wp2_with fail
      refine REST2.out _ _ _ _ _ _ _ _ _ _ _ _ _ _ _ _ _ _ _ _ _ _ _ _ _ _ _ _ _ _ _ _ _ _ _ _ _ _ _ _ _ _ _ _ _ _ _ _ _ _ _ _ _ _ _ _ _ _ _ _ _ _ _ _ _ _ _ _ _ _ _ _ _ _ _ _ _ _ _ _ _ _ _ _ _ wx _ n c none 0 0 H0 [] HBX.out HKX.out HTX.out hnc (fun q => by cases q) ⟨rfl, fun q => absurd q (by decide)⟩ (by decide) (fun _ => rfl) (fun _ ad had => ?_) (fun q => absurd q (by decide)) ⟨HHL.out.1, by decide, HHL.out.2, by simp⟩ HRB.out
      injection had with had
      rw [← had]
      exact HBG.out.2
    · have hbar := barIx_at hk2 hk3
      have HBAR := Lib.hid hbar
      have hkl : k < H0.length := by rw [HTX.out.1]; exact hk
      obtain ⟨n2, hn2⟩ : ∃ n2, n - (k + 1) = n2 := ⟨_, rfl⟩
      have hk0 : (0 : Int) ≤ (k : Int) := by omega
      have hkt : ((k : Int)).toNat = k := by omega
      have hkc : (k : Int) ≤ (c : Int) := by omega
      have hkn : (k : Int) ≤ (n : Int) := by omega
      have hk10 : (0 : Int) ≤ (k : Int) + 1 := by omega
      have hk1t : ((k : Int) + 1).toNat = k + 1 := by omega
      have hk1n : (k : Int) + 1 ≤ (n : Int) := by omega
      have hk1c : (k : Int) + 1 ≤ (c : Int) := by omega
      have hncc : (n : Int) ≤ (c : Int) := by omega
      have hkw : IntKind.i64.wrap ((k : Int) + 1) = (k : Int) + 1 := IntWalk.i64_in _ (by omega)
      have hs1 : (0 : Int) ≤ (k : Int) + 1 ∧ (k : Int) + 1 ≤ (n : Int) := ⟨hk10, hk1n⟩
      have hs2 : (0 : Int) ≤ (k : Int) ∧ (k : Int) ≤ (c : Int) := ⟨hk0, hkc⟩
      obtain ⟨A2, hA2⟩ : ∃ A2 : Option Addr, (if c = k + 1 then some ⟨B, o1, none⟩ else some ⟨B, o1 + (k + 1), none⟩) = A2 := ⟨_, rfl⟩
      have HA2 := Lib.hid hA2
      have hA2s : ∃ o2, A2 = some ⟨B, o2, none⟩ := by rw [← hA2]; split <;> exact ⟨_, rfl⟩
      obtain ⟨o2, hA2e⟩ := hA2s
      have hT2 : ∀ w', Below wx.heap.size wx w' → TextsZ w' (some ⟨B, o2, none⟩) n2 (H0.drop (k + 1)) := fun w' hb => by
        rw [← hA2e, ← hA2, ← hn2]
        have hd := (HTX.out.below hb).drop (k + 1)
        split
        · rename_i q
          have h0 : n - (k + 1) = 0 := by omega
          rw [h0] at hd ⊢
          exact ⟨hd.1, fun q => absurd q (by decide)⟩
        · exact hd
      have HC1 : Hid (∀ w', Below wx.heap.size wx w' → Calls Tryz.prog 122 #[.slice (some ⟨B, o1, none⟩) k c] w' (fun e w'' => ∃ (A : Option Addr) (c : Nat), e = .returned (.slice A k c) ∧ TextsZ w'' A k (H0.take k) ∧ k ≤ c ∧ (A = none → c = 0) ∧ (0 < k → ∀ ad, A = some ad → w'.heap.size ≤ ad.block) ∧ Below w'.heap.size w' w'')) := Lib.hid (fun w' hb => slCloneT_any (H0.take k) k c B o1 w' ((HTX.out.below hb).take (Nat.le_of_lt hk)) (by omega))
      have HC2 : Hid (∀ w' cc, Below wx.heap.size wx w' → Calls Tryz.prog 122 #[.slice (some ⟨B, o2, none⟩) n2 cc] w' (fun e w'' => ∃ (A : Option Addr) (c : Nat), e = .returned (.slice A n2 c) ∧ TextsZ w'' A n2 (H0.drop (k + 1)) ∧ n2 ≤ c ∧ (A = none → c = 0) ∧ (0 < n2 → ∀ ad, A = some ad → w'.heap.size ≤ ad.block) ∧ Below w'.heap.size w' w'')) := Lib.hid (fun w' cc hb => slCloneT_any (H0.drop (k + 1)) n2 cc B o2 w' (hT2 w' hb) (by omega))
      have HA2E := Lib.hid hA2e
      have HN2 := Lib.hid hn2
      have HKL := Lib.hid hkl
      have hn2i : (n2 : Int) ≤ 4096 := by omega
      have hpx : p < wx.heap.size := (Array.getElem?_eq_some_iff.1 HKX.out).1
      have HPX2 := Lib.hid hpx
      clear hA2 hA2e hT2 hbar hk3 hk2 hIx hn2 hpx hkl
      go_wp2_with fail
      rename_i K4 h4
      have TAIL : Hid (∀ (t1 t3 t5 t6 t7 t9 t10 t11 t12 t13 t14 t15 t16 t17 t18 t19 t20 t21 t22 t23 t24 t25 t26 t27 t28 t29 t30 t31 t32 t33 t34 t35 t36 t37 t38 t39 t40 t41 t42 t43 t44 t45 t46 t47 t48 t49 t50 t51 t52 t53 t54 t55 t56 t57 t58 t59 t60 t61 t62 t63 t64 t65 t66 t67 t68 t69 t70 t71 t72 t73 t74 t75 t76 t77 t78 t79 t80 t81 t82 t83 t84 t85 t86 t87 t88 : Value) (wF : World) (AA1 : Option Addr) (cc1 : Nat) (AA2 : Option Addr) (cc2 : Nat), Below w1.heap.size w1 wF → wF.heap[p]? = some (.cells #[.string (mkB x), .slice AA1 k cc1, .slice AA2 n2 cc2, .bool rt] 61 (0, 0)) → TextsZ wF AA1 k (H0.take k) → TextsZ wF AA2 n2 (H0.drop (k + 1)) → k ≤ cc1 → (AA1 = none → cc1 = 0) → n2 ≤ cc2 → (AA2 = none → cc2 = 0) → (0 < k → ∀ ad : Addr, AA1 = some ad → wx.heap.size ≤ ad.block) → (0 < n2 → ∀ ad : Addr, AA2 = some ad → wx.heap.size ≤ ad.block) → K4 ⟨#[.string s, t1, .pointer (some ⟨g, 0, none⟩), t3, .string (mkB x), t5, t6, t7, .pointer (some ⟨p, 0, none⟩), t9, t10, t11, t12, t13, t14, t15, t16, t17, t18, t19, t20, t21, t22, t23, t24, t25, t26, t27, t28, t29, t30, t31, t32, t33, t34, t35, t36, t37, t38, t39, t40, t41, t42, t43, t44, t45, t46, t47, t48, t49, t50, t51, t52, t53, t54, t55, t56, t57, t58, t59, t60, t61, t62, t63, t64, t65, t66, t67, t68, t69, t70, t71, t72, t73, t74, t75, t76, t77, t78, t79, t80, t81, t82, t83, t84, t85, t86, t87, t88], []⟩ wF) := Lib.hid (by
        intro t1 t3 t5 t6 t7 t9 t10 t11 t12 t13 t14 t15 t16 t17 t18 t19 t20 t21 t22 t23 t24 t25 t26 t27 t28 t29 t30 t31 t32 t33 t34 t35 t36 t37 t38 t39 t40 t41 t42 t43 t44 t45 t46 t47 t48 t49 t50 t51 t52 t53 t54 t55 t56 t57 t58 t59 t60 t61 t62 t63 t64 t65 t66 t67 t68 t69 t70 t71 t72 t73 t74 t75 t76 t77 t78 t79 t80 t81 t82 t83 t84 t85 t86 t87 t88 wF AA1 cc1 AA2 cc2 hbF hkF tF1 tF2 le1 no1 le2 no2 fq1 fq2
        apply h4
        clear h4 K4
        have le1' := Lib.hid le1
        have no1' := Lib.hid no1
        have le2' := Lib.hid le2
        have no2' := Lib.hid no2
        have fq1' := Lib.hid fq1
        have fq2' := Lib.hid fq2
        clear le1 no1 le2 no2 fq1 fq2
        have HBF := Lib.hid hbF
        have HKF := Lib.hid hkF
        have HT1 := Lib.hid tF1
        have HT2 := Lib.hid tF2
        have z2 := Go.Joins.cell_of_block hkF 2
        have HGB : Hid (∀ ad : Addr, wx.heap.size ≤ ad.block → w1.heap.size ≤ ad.block) := Lib.hid (fun ad q => Nat.le_trans HBX.out.size q)
        clear hbF hkF tF1 tF2
        by_cases hn0 : n2 = 0
        · have hO0 : H0.drop (k + 1) = [] := List.length_eq_zero_iff.1 (by rw [HT2.out.1]; exact hn0)
          have hrb : Hid (readP (bl s) = none) := Lib.hid (by rw [hP.out]; unfold readB; rw [← HHB.out, HBAR.out]; show (if bls (H0.drop (k + 1)) = [] then none else _) = none; rw [hO0]; exact if_pos rfl)
          have hnb : ((n2 : Int) == 0) = true := by rw [beq_iff_eq]; omega
          have kg := HK.out _ HBF.out
          have q0 := Go.Joins.cell_of_block kg 0
          have r0 := Go.Joins.unfrozen_of_block kg 0
          have q1 := Go.Joins.cell_of_block kg 1
          have r1 := Go.Joins.unfrozen_of_block kg 1
          have q2 := Go.Joins.cell_of_block kg 2
          have r2 := Go.Joins.unfrozen_of_block kg 2
          have q3 := Go.Joins.cell_of_block kg 3
          have r3 := Go.Joins.unfrozen_of_block kg 3
          have KG := Lib.hid kg
          clear kg hn0 hO0
          go_wp2_with fail
          have k4 := four_set KG.out (.string ⟨#[]⟩) (.slice none 0 0) (.slice none 0 0) (.bool false)
          have hfin := four_below (HB1.out.trans (HBF.out.mono HB1.out.size)) HG0.out (.string ⟨#[]⟩) (.slice none 0 0) (.slice none 0 0) (.bool false)
          have w5 := Go.Joins.cell_of_block k4 0
          have w6 := Go.Joins.cell_of_block k4 1
          have w7 := Go.Joins.cell_of_block k4 2
          have w8 := Go.Joins.cell_of_block k4 3
          exact bodyPost_ret (v := .tuple #[.agg #[.string ⟨#[]⟩, .slice none 0 0, .slice none 0 0, .bool false], .bool false]) (by simp [results, Tryz.results58, go_sem, w5, w6, w7, w8]) rfl ⟨_, _, _, _, _, _, _, _, _, rfl, hfin, fun _ => hrb.out, fun q => by cases q⟩
        · have hnb : ((n2 : Int) == 0) = false := by rw [beq_eq_false_iff_ne]; omega
          have hrb : Hid (readB x b = (if goodW x && ((bls (H0.take k)).all goodW && (bls (H0.drop (k + 1))).all goodW) then some (x, bls (H0.take k), bls (H0.drop (k + 1)), rt) else none)) := Lib.hid (by
            unfold readB; rw [← HHB.out, HBAR.out, HRT.out]
            show (if bls (H0.drop (k + 1)) = [] then none else _) = _
            rw [if_neg]
            intro q; have h1 := congrArg List.length q; rw [bls_len, HT2.out.1] at h1; exact hn0 h1)
          clear hn0
          go_wp2_with fail
          exact REST2.out _ _ _ _ _ _ _ _ _ _ _ _ _ _ _ _ _ _ _ _ _ _ _ _ _ _ _ _ _ _ _ _ _ _ _ _ _ _ _ _ _ _ _ _ _ _ _ _ _ _ _ _ _ _ _ _ _ _ _ _ _ _ _ _ _ _ _ _ _ _ _ _ _ _ _ _ _ _ _ _ _ _ _ _ _ wF AA1 k cc1 AA2 n2 cc2 (H0.take k) (H0.drop (k + 1)) HBF.out HKF.out HT1.out le1'.out no1'.out HT2.out le2'.out no2'.out (fun q0 ad had => HGB.out ad (fq1'.out q0 ad had)) (fun q0 ad had => HGB.out ad (fq2'.out q0 ad had)) ⟨by rw [List.length_take]; have := HHL.out.1; omega, by rw [List.length_drop]; have := HHL.out.1; omega, fun z hz => HHL.out.2 z (List.mem_of_mem_take hz), fun z hz => HHL.out.2 z (List.mem_of_mem_drop hz)⟩ hrb.out)
      clear h4
      refine wp_region_held_drew (S := (fun _ => True)) (by kernel_rfl) ?_ (fun hHeld => ?_)
      · trivial
      have hacc : Below wx.heap.size wx wx.drew := (Below.refl _ _).drew
      generalize World.drew wx = wd at hHeld hacc ⊢
      clear hHeld
      have yk := HPX1.out wd hacc
      have y1 := Go.Joins.cell_of_block yk 1
      clear yk
      have hHeld : True := trivial
      refine wpAnyH_take (i := 0) (oi := _) (v := ?_) rfl (by kernel_rfl) (by kernel_rfl) (by kernel_rfl) (fun _ _ _ h => h) (Or.inl ⟨by kernel_rfl, ?_⟩) (by assumption) ?_
      rotate_left
      · rintro w _
        go_simp
        try simp only [if_pos hs1, if_pos hs2, HA2.out]
        try with_reducible rfl
      try simp only [Act.put, List.setIfInBounds_toArray, List.set_cons_zero, List.set_cons_succ, List.getElem_toArray, List.getElem_cons_zero, List.getElem_cons_succ]
      clear hHeld
      have hHeld : True := trivial
      refine wpAnyH_take (i := 2) (oi := _) (v := ?_) rfl (by kernel_rfl) (by kernel_rfl) (by kernel_rfl) (fun _ _ _ h => h) (Or.inl ⟨by kernel_rfl, ?_⟩) (by assumption) ?_
      rotate_left
      · rintro w _
        go_simp
        try simp only [if_pos hs1, if_pos hs2, HA2.out]
        try with_reducible rfl
      try simp only [Act.put, List.setIfInBounds_toArray, List.set_cons_zero, List.set_cons_succ, List.getElem_toArray, List.getElem_cons_zero, List.getElem_cons_succ]
      clear hHeld
      have hHeld : True := trivial
      refine wpAnyH_take (i := 5) (oi := _) (v := ?_) rfl (by kernel_rfl) (by kernel_rfl) (by kernel_rfl) (fun _ _ _ h => h) (Or.inl ⟨by kernel_rfl, ?_⟩) (by assumption) ?_
      rotate_left
      · rintro w _
        go_simp
        try simp only [if_pos hs1, if_pos hs2, HA2.out]
        try with_reducible rfl
      try simp only [Act.put, List.setIfInBounds_toArray, List.set_cons_zero, List.set_cons_succ, List.getElem_toArray, List.getElem_cons_zero, List.getElem_cons_succ]
      clear hHeld
      have hHeld : True := trivial
      refine wpAnyH_take (i := 7) (oi := _) (v := ?_) rfl (by kernel_rfl) (by kernel_rfl) (by kernel_rfl) (fun _ _ _ h => h) (Or.inl ⟨by kernel_rfl, ?_⟩) (by assumption) ?_
      rotate_left
      · rintro w _
        go_simp
        try simp only [if_pos hs1, if_pos hs2, HA2.out]
        try with_reducible rfl
      try simp only [Act.put, List.setIfInBounds_toArray, List.set_cons_zero, List.set_cons_succ, List.getElem_toArray, List.getElem_cons_zero, List.getElem_cons_succ]
      clear hHeld
      have hHeld : True := trivial
      refine wpAnyH_take (i := 8) (oi := _) (v := ?_) rfl (by kernel_rfl) (by kernel_rfl) (by kernel_rfl) (fun _ _ _ h => h) (Or.inl ⟨by kernel_rfl, ?_⟩) (by assumption) ?_
      rotate_left
      · rintro w _
        go_simp
        try simp only [if_pos hs1, if_pos hs2, HA2.out]
        try with_reducible rfl
      try simp only [Act.put, List.setIfInBounds_toArray, List.set_cons_zero, List.set_cons_succ, List.getElem_toArray, List.getElem_cons_zero, List.getElem_cons_succ]
      clear hHeld
      refine wpAnyH_ready (rs := [1, 6]) (by kernel_rfl) (by simp) ?_
      refine AllReadyH.cons (o := _) rfl (fun K hKK => ?_) (AllReadyH.cons (o := _) rfl (fun K hKK => ?_) AllReadyH.nil)
      · skip
        go_simp
        refine hKK.out _ _ ?_ (fun hHeld => ?_)
        · exact trivial
        clear hKK K
        try simp only [Act.put, List.setIfInBounds_toArray, List.set_cons_zero, List.set_cons_succ, List.getElem_toArray, List.getElem_cons_zero, List.getElem_cons_succ]
        clear hHeld
        have hHeld : True := trivial
        refine wpAnyH_take (i := 3) (oi := _) (v := ?_) rfl (by kernel_rfl) (by kernel_rfl) (by kernel_rfl) (fun _ _ _ h => h) (Or.inl ⟨by kernel_rfl, ?_⟩) (by assumption) ?_
        rotate_left
        · rintro w _
          go_simp
          try simp only [if_pos hs1, if_pos hs2, HA2.out]
          try with_reducible rfl
        try simp only [Act.put, List.setIfInBounds_toArray, List.set_cons_zero, List.set_cons_succ, List.getElem_toArray, List.getElem_cons_zero, List.getElem_cons_succ]
        clear hHeld
        refine wpAnyH_ready (rs := [4, 6]) (by kernel_rfl) (by simp) ?_
        refine AllReadyH.cons (o := _) rfl (fun K hKK => ?_) (AllReadyH.cons (o := _) rfl (fun K hKK => ?_) AllReadyH.nil)
        · skip
          go_simp
          try simp only [if_pos hs1, if_pos hs2, HA2.out, HA2E.out, HN2.out]
          go_at_call 122
          with_reducible refine (HC1.out _ hacc).mono ?_
          rintro e' wc1 ⟨AA1, cc1, rfl, tt1, le1, no1, fr1, hbz⟩
          go_wp2_with fail
          have fq1 : 0 < k → ∀ ad, AA1 = some ad → wx.heap.size ≤ ad.block := fun q0 ad had => Nat.le_trans hacc.size (fr1 q0 ad had)
          clear fr1
          have hacc2 := hacc.trans (hbz.mono hacc.size)
          clear hacc hbz
          have hacc := hacc2
          clear hacc2
          have le1' := Lib.hid le1
          have no1' := Lib.hid no1
          have fq1' := Lib.hid fq1
          clear le1 no1 fq1
          refine hKK.out _ _ ?_ (fun hHeld => ?_)
          · exact trivial
          clear hKK K
          try simp only [Act.put, List.setIfInBounds_toArray, List.set_cons_zero, List.set_cons_succ, List.getElem_toArray, List.getElem_cons_zero, List.getElem_cons_succ]
          clear hHeld
          clear y1
          have yk := HPX1.out wc1 hacc
          have y1 := Go.Joins.cell_of_block yk 1
          clear yk
          refine wpAnyH_ready (rs := [6]) (by kernel_rfl) (by simp) ?_
          refine AllReadyH.cons (o := _) rfl (fun K hKK => ?_) AllReadyH.nil
          go_simp
          refine hKK.out _ _ ?_ (fun hHeld => ?_)
          · exact trivial
          clear hKK K
          try simp only [Act.put, List.setIfInBounds_toArray, List.set_cons_zero, List.set_cons_succ, List.getElem_toArray, List.getElem_cons_zero, List.getElem_cons_succ]
          clear hHeld
          have hHeld : True := trivial
          refine wpAnyH_take (i := 9) (oi := _) (v := ?_) rfl (by kernel_rfl) (by kernel_rfl) (by kernel_rfl) (fun _ _ _ h => h) (Or.inl ⟨by kernel_rfl, ?_⟩) (by assumption) ?_
          rotate_left
          · rintro w _
            go_simp
            try simp only [if_pos hs1, if_pos hs2, HA2.out]
            try with_reducible rfl
          try simp only [Act.put, List.setIfInBounds_toArray, List.set_cons_zero, List.set_cons_succ, List.getElem_toArray, List.getElem_cons_zero, List.getElem_cons_succ]
          clear hHeld
          have hHeld : True := trivial
          refine wpAnyH_take (i := 11) (oi := _) (v := ?_) rfl (by kernel_rfl) (by kernel_rfl) (by kernel_rfl) (fun _ _ _ h => h) (Or.inl ⟨by kernel_rfl, ?_⟩) (by assumption) ?_
          rotate_left
          · rintro w _
            go_simp
            try simp only [if_pos hs1, if_pos hs2, HA2.out]
            try with_reducible rfl
          try simp only [Act.put, List.setIfInBounds_toArray, List.set_cons_zero, List.set_cons_succ, List.getElem_toArray, List.getElem_cons_zero, List.getElem_cons_succ]
          clear hHeld
          refine wpAnyH_ready (rs := [10]) (by kernel_rfl) (by simp) ?_
          refine AllReadyH.cons (o := _) rfl (fun K hKK => ?_) AllReadyH.nil
          go_simp
          try simp only [if_pos hs1, if_pos hs2, HA2.out, HA2E.out, HN2.out]
          go_at_call 122
          with_reducible refine (HC2.out _ _ hacc).mono ?_
          rintro e' wc2 ⟨AA2, cc2, rfl, tt2, le2, no2, fr2, hbz⟩
          go_wp2_with fail
          have tt1' := tt1.below hbz
          clear tt1
          have tt1 := tt1'
          clear tt1'
          have fq2 : 0 < n2 → ∀ ad, AA2 = some ad → wx.heap.size ≤ ad.block := fun q0 ad had => Nat.le_trans hacc.size (fr2 q0 ad had)
          clear fr2
          have hacc2 := hacc.trans (hbz.mono hacc.size)
          clear hacc hbz
          have hacc := hacc2
          clear hacc2
          have le2' := Lib.hid le2
          have no2' := Lib.hid no2
          have fq2' := Lib.hid fq2
          clear le2 no2 fq2
          refine hKK.out _ _ ?_ (fun hHeld => ?_)
          · exact trivial
          clear hKK K
          try simp only [Act.put, List.setIfInBounds_toArray, List.set_cons_zero, List.set_cons_succ, List.getElem_toArray, List.getElem_cons_zero, List.getElem_cons_succ]
          clear hHeld
          have yk := HPX1.out wc2 hacc
          have yk1 := Go.Joins.block_setCell (i := 1) yk (.slice AA1 k cc1)
          have yk2 := Go.Joins.block_setCell (i := 2) yk1 (.slice AA2 n2 cc2)
          have c1 := Go.Joins.cell_of_block yk 1
          have f1 := Go.Joins.unfrozen_of_block yk 1
          have c2 := Go.Joins.cell_of_block yk1 2
          have f2 := Go.Joins.unfrozen_of_block yk1 2
          have YK2 := Lib.hid yk2
          have HACC := Lib.hid hacc
          clear yk yk1 yk2
          refine wpAnyH_ready (rs := [12]) (by kernel_rfl) (by simp) ?_
          refine AllReadyH.cons (o := _) rfl (fun K hKK => ?_) AllReadyH.nil
          go_simp
          refine hKK.out _ _ ?_ (fun hHeld => ?_)
          · exact trivial
          clear hKK K
          try simp only [Act.put, List.setIfInBounds_toArray, List.set_cons_zero, List.set_cons_succ, List.getElem_toArray, List.getElem_cons_zero, List.getElem_cons_succ]
          clear hHeld
          have hHeld : True := trivial
          refine wpAnyH_take (i := 13) (oi := _) (v := ?_) rfl (by kernel_rfl) (by kernel_rfl) (by kernel_rfl) (fun _ _ _ h => h) (Or.inl ⟨by kernel_rfl, ?_⟩) (by assumption) ?_
          rotate_left
          · rintro w _
            go_simp
            try simp only [if_pos hs1, if_pos hs2, HA2.out]
            try with_reducible rfl
          try simp only [Act.put, List.setIfInBounds_toArray, List.set_cons_zero, List.set_cons_succ, List.getElem_toArray, List.getElem_cons_zero, List.getElem_cons_succ]
          clear hHeld
          refine wpAnyH_ready (rs := [14]) (by kernel_rfl) (by simp) ?_
          refine AllReadyH.cons (o := _) rfl (fun K hKK => ?_) AllReadyH.nil
          go_simp
          refine hKK.out _ _ ?_ (fun hHeld => ?_)
          · exact trivial
          clear hKK K
          try simp only [Act.put, List.setIfInBounds_toArray, List.set_cons_zero, List.set_cons_succ, List.getElem_toArray, List.getElem_cons_zero, List.getElem_cons_succ]
          clear hHeld
          have hHeld : True := trivial
          refine wpAnyH_done (by kernel_rfl) ?_ _
          have hbF : Below w1.heap.size w1 ((wc2.setCell ⟨p, 1, none⟩ (.slice AA1 k cc1)).setCell ⟨p, 2, none⟩ (.slice AA2 n2 cc2)) := ((HBX.out.trans (HACC.out.mono HBX.out.size)).setCell HPG.out.2.1 _).setCell HPG.out.2.1 _
          have tF1 : TextsZ ((wc2.setCell ⟨p, 1, none⟩ (.slice AA1 k cc1)).setCell ⟨p, 2, none⟩ (.slice AA2 n2 cc2)) AA1 k (H0.take k) := one_texts (one_texts tt1 (fun q0 ad had => by have h1 := fq1'.out q0 ad had; have h2 := HPX2.out; omega) _) (fun q0 ad had => by have h1 := fq1'.out q0 ad had; have h2 := HPX2.out; omega) _
          have tF2 : TextsZ ((wc2.setCell ⟨p, 1, none⟩ (.slice AA1 k cc1)).setCell ⟨p, 2, none⟩ (.slice AA2 n2 cc2)) AA2 n2 (H0.drop (k + 1)) := one_texts (one_texts tt2 (fun q0 ad had => by have h1 := fq2'.out q0 ad had; have h2 := HPX2.out; omega) _) (fun q0 ad had => by have h1 := fq2'.out q0 ad had; have h2 := HPX2.out; omega) _
          exact TAIL.out _ _ _ _ _ _ _ _ _ _ _ _ _ _ _ _ _ _ _ _ _ _ _ _ _ _ _ _ _ _ _ _ _ _ _ _ _ _ _ _ _ _ _ _ _ _ _ _ _ _ _ _ _ _ _ _ _ _ _ _ _ _ _ _ _ _ _ _ _ _ _ _ _ _ _ _ _ _ _ _ _ _ _ _ _ _ AA1 cc1 AA2 cc2 hbF YK2.out tF1 tF2 le1'.out no1'.out le2'.out no2'.out fq1'.out fq2'.out
        · skip
          go_simp
          refine hKK.out _ _ ?_ (fun hHeld => ?_)
          · exact trivial
          clear hKK K
          try simp only [Act.put, List.setIfInBounds_toArray, List.set_cons_zero, List.set_cons_succ, List.getElem_toArray, List.getElem_cons_zero, List.getElem_cons_succ]
          clear hHeld
          have hHeld : True := trivial
          refine wpAnyH_take (i := 9) (oi := _) (v := ?_) rfl (by kernel_rfl) (by kernel_rfl) (by kernel_rfl) (fun _ _ _ h => h) (Or.inl ⟨by kernel_rfl, ?_⟩) (by assumption) ?_
          rotate_left
          · rintro w _
            go_simp
            try simp only [if_pos hs1, if_pos hs2, HA2.out]
            try with_reducible rfl
          try simp only [Act.put, List.setIfInBounds_toArray, List.set_cons_zero, List.set_cons_succ, List.getElem_toArray, List.getElem_cons_zero, List.getElem_cons_succ]
          clear hHeld
          refine wpAnyH_ready (rs := [4]) (by kernel_rfl) (by simp) ?_
          refine AllReadyH.cons (o := _) rfl (fun K hKK => ?_) AllReadyH.nil
          go_simp
          try simp only [if_pos hs1, if_pos hs2, HA2.out, HA2E.out, HN2.out]
          go_at_call 122
          with_reducible refine (HC1.out _ hacc).mono ?_
          rintro e' wc1 ⟨AA1, cc1, rfl, tt1, le1, no1, fr1, hbz⟩
          go_wp2_with fail
          have fq1 : 0 < k → ∀ ad, AA1 = some ad → wx.heap.size ≤ ad.block := fun q0 ad had => Nat.le_trans hacc.size (fr1 q0 ad had)
          clear fr1
          have hacc2 := hacc.trans (hbz.mono hacc.size)
          clear hacc hbz
          have hacc := hacc2
          clear hacc2
          have le1' := Lib.hid le1
          have no1' := Lib.hid no1
          have fq1' := Lib.hid fq1
          clear le1 no1 fq1
          refine hKK.out _ _ ?_ (fun hHeld => ?_)
          · exact trivial
          clear hKK K
          try simp only [Act.put, List.setIfInBounds_toArray, List.set_cons_zero, List.set_cons_succ, List.getElem_toArray, List.getElem_cons_zero, List.getElem_cons_succ]
          clear hHeld
          have hHeld : True := trivial
          refine wpAnyH_take (i := 11) (oi := _) (v := ?_) rfl (by kernel_rfl) (by kernel_rfl) (by kernel_rfl) (fun _ _ _ h => h) (Or.inl ⟨by kernel_rfl, ?_⟩) (by assumption) ?_
          rotate_left
          · rintro w _
            go_simp
            try simp only [if_pos hs1, if_pos hs2, HA2.out]
            try with_reducible rfl
          try simp only [Act.put, List.setIfInBounds_toArray, List.set_cons_zero, List.set_cons_succ, List.getElem_toArray, List.getElem_cons_zero, List.getElem_cons_succ]
          clear hHeld
          refine wpAnyH_ready (rs := [10]) (by kernel_rfl) (by simp) ?_
          refine AllReadyH.cons (o := _) rfl (fun K hKK => ?_) AllReadyH.nil
          go_simp
          try simp only [if_pos hs1, if_pos hs2, HA2.out, HA2E.out, HN2.out]
          go_at_call 122
          with_reducible refine (HC2.out _ _ hacc).mono ?_
          rintro e' wc2 ⟨AA2, cc2, rfl, tt2, le2, no2, fr2, hbz⟩
          go_wp2_with fail
          have tt1' := tt1.below hbz
          clear tt1
          have tt1 := tt1'
          clear tt1'
          have fq2 : 0 < n2 → ∀ ad, AA2 = some ad → wx.heap.size ≤ ad.block := fun q0 ad had => Nat.le_trans hacc.size (fr2 q0 ad had)
          clear fr2
          have hacc2 := hacc.trans (hbz.mono hacc.size)
          clear hacc hbz
          have hacc := hacc2
          clear hacc2
          have le2' := Lib.hid le2
          have no2' := Lib.hid no2
          have fq2' := Lib.hid fq2
          clear le2 no2 fq2
          refine hKK.out _ _ ?_ (fun hHeld => ?_)
          · exact trivial
          clear hKK K
          try simp only [Act.put, List.setIfInBounds_toArray, List.set_cons_zero, List.set_cons_succ, List.getElem_toArray, List.getElem_cons_zero, List.getElem_cons_succ]
          clear hHeld
          have yk := HPX1.out wc2 hacc
          have yk1 := Go.Joins.block_setCell (i := 1) yk (.slice AA1 k cc1)
          have yk2 := Go.Joins.block_setCell (i := 2) yk1 (.slice AA2 n2 cc2)
          have c1 := Go.Joins.cell_of_block yk 1
          have f1 := Go.Joins.unfrozen_of_block yk 1
          have c2 := Go.Joins.cell_of_block yk1 2
          have f2 := Go.Joins.unfrozen_of_block yk1 2
          have YK2 := Lib.hid yk2
          have HACC := Lib.hid hacc
          clear yk yk1 yk2
          refine wpAnyH_ready (rs := [12]) (by kernel_rfl) (by simp) ?_
          refine AllReadyH.cons (o := _) rfl (fun K hKK => ?_) AllReadyH.nil
          go_simp
          refine hKK.out _ _ ?_ (fun hHeld => ?_)
          · exact trivial
          clear hKK K
          try simp only [Act.put, List.setIfInBounds_toArray, List.set_cons_zero, List.set_cons_succ, List.getElem_toArray, List.getElem_cons_zero, List.getElem_cons_succ]
          clear hHeld
          have hHeld : True := trivial
          refine wpAnyH_take (i := 13) (oi := _) (v := ?_) rfl (by kernel_rfl) (by kernel_rfl) (by kernel_rfl) (fun _ _ _ h => h) (Or.inl ⟨by kernel_rfl, ?_⟩) (by assumption) ?_
          rotate_left
          · rintro w _
            go_simp
            try simp only [if_pos hs1, if_pos hs2, HA2.out]
            try with_reducible rfl
          try simp only [Act.put, List.setIfInBounds_toArray, List.set_cons_zero, List.set_cons_succ, List.getElem_toArray, List.getElem_cons_zero, List.getElem_cons_succ]
          clear hHeld
          refine wpAnyH_ready (rs := [14]) (by kernel_rfl) (by simp) ?_
          refine AllReadyH.cons (o := _) rfl (fun K hKK => ?_) AllReadyH.nil
          go_simp
          refine hKK.out _ _ ?_ (fun hHeld => ?_)
          · exact trivial
          clear hKK K
          try simp only [Act.put, List.setIfInBounds_toArray, List.set_cons_zero, List.set_cons_succ, List.getElem_toArray, List.getElem_cons_zero, List.getElem_cons_succ]
          clear hHeld
          have hHeld : True := trivial
          refine wpAnyH_done (by kernel_rfl) ?_ _
          have hbF : Below w1.heap.size w1 ((wc2.setCell ⟨p, 1, none⟩ (.slice AA1 k cc1)).setCell ⟨p, 2, none⟩ (.slice AA2 n2 cc2)) := ((HBX.out.trans (HACC.out.mono HBX.out.size)).setCell HPG.out.2.1 _).setCell HPG.out.2.1 _
          have tF1 : TextsZ ((wc2.setCell ⟨p, 1, none⟩ (.slice AA1 k cc1)).setCell ⟨p, 2, none⟩ (.slice AA2 n2 cc2)) AA1 k (H0.take k) := one_texts (one_texts tt1 (fun q0 ad had => by have h1 := fq1'.out q0 ad had; have h2 := HPX2.out; omega) _) (fun q0 ad had => by have h1 := fq1'.out q0 ad had; have h2 := HPX2.out; omega) _
          have tF2 : TextsZ ((wc2.setCell ⟨p, 1, none⟩ (.slice AA1 k cc1)).setCell ⟨p, 2, none⟩ (.slice AA2 n2 cc2)) AA2 n2 (H0.drop (k + 1)) := one_texts (one_texts tt2 (fun q0 ad had => by have h1 := fq2'.out q0 ad had; have h2 := HPX2.out; omega) _) (fun q0 ad had => by have h1 := fq2'.out q0 ad had; have h2 := HPX2.out; omega) _
          exact TAIL.out _ _ _ _ _ _ _ _ _ _ _ _ _ _ _ _ _ _ _ _ _ _ _ _ _ _ _ _ _ _ _ _ _ _ _ _ _ _ _ _ _ _ _ _ _ _ _ _ _ _ _ _ _ _ _ _ _ _ _ _ _ _ _ _ _ _ _ _ _ _ _ _ _ _ _ _ _ _ _ _ _ _ _ _ _ _ AA1 cc1 AA2 cc2 hbF YK2.out tF1 tF2 le1'.out no1'.out le2'.out no2'.out fq1'.out fq2'.out
      · skip
        go_simp
        refine hKK.out _ _ ?_ (fun hHeld => ?_)
        · exact trivial
        clear hKK K
        try simp only [Act.put, List.setIfInBounds_toArray, List.set_cons_zero, List.set_cons_succ, List.getElem_toArray, List.getElem_cons_zero, List.getElem_cons_succ]
        clear hHeld
        have hHeld : True := trivial
        refine wpAnyH_take (i := 9) (oi := _) (v := ?_) rfl (by kernel_rfl) (by kernel_rfl) (by kernel_rfl) (fun _ _ _ h => h) (Or.inl ⟨by kernel_rfl, ?_⟩) (by assumption) ?_
        rotate_left
        · rintro w _
          go_simp
          try simp only [if_pos hs1, if_pos hs2, HA2.out]
          try with_reducible rfl
        try simp only [Act.put, List.setIfInBounds_toArray, List.set_cons_zero, List.set_cons_succ, List.getElem_toArray, List.getElem_cons_zero, List.getElem_cons_succ]
        clear hHeld
        refine wpAnyH_ready (rs := [1]) (by kernel_rfl) (by simp) ?_
        refine AllReadyH.cons (o := _) rfl (fun K hKK => ?_) AllReadyH.nil
        go_simp
        refine hKK.out _ _ ?_ (fun hHeld => ?_)
        · exact trivial
        clear hKK K
        try simp only [Act.put, List.setIfInBounds_toArray, List.set_cons_zero, List.set_cons_succ, List.getElem_toArray, List.getElem_cons_zero, List.getElem_cons_succ]
        clear hHeld
        have hHeld : True := trivial
        refine wpAnyH_take (i := 3) (oi := _) (v := ?_) rfl (by kernel_rfl) (by kernel_rfl) (by kernel_rfl) (fun _ _ _ h => h) (Or.inl ⟨by kernel_rfl, ?_⟩) (by assumption) ?_
        rotate_left
        · rintro w _
          go_simp
          try simp only [if_pos hs1, if_pos hs2, HA2.out]
          try with_reducible rfl
        try simp only [Act.put, List.setIfInBounds_toArray, List.set_cons_zero, List.set_cons_succ, List.getElem_toArray, List.getElem_cons_zero, List.getElem_cons_succ]
        clear hHeld
        refine wpAnyH_ready (rs := [4]) (by kernel_rfl) (by simp) ?_
        refine AllReadyH.cons (o := _) rfl (fun K hKK => ?_) AllReadyH.nil
        go_simp
        try simp only [if_pos hs1, if_pos hs2, HA2.out, HA2E.out, HN2.out]
        go_at_call 122
        with_reducible refine (HC1.out _ hacc).mono ?_
        rintro e' wc1 ⟨AA1, cc1, rfl, tt1, le1, no1, fr1, hbz⟩
        go_wp2_with fail
        have fq1 : 0 < k → ∀ ad, AA1 = some ad → wx.heap.size ≤ ad.block := fun q0 ad had => Nat.le_trans hacc.size (fr1 q0 ad had)
        clear fr1
        have hacc2 := hacc.trans (hbz.mono hacc.size)
        clear hacc hbz
        have hacc := hacc2
        clear hacc2
        have le1' := Lib.hid le1
        have no1' := Lib.hid no1
        have fq1' := Lib.hid fq1
        clear le1 no1 fq1
        refine hKK.out _ _ ?_ (fun hHeld => ?_)
        · exact trivial
        clear hKK K
        try simp only [Act.put, List.setIfInBounds_toArray, List.set_cons_zero, List.set_cons_succ, List.getElem_toArray, List.getElem_cons_zero, List.getElem_cons_succ]
        clear hHeld
        have hHeld : True := trivial
        refine wpAnyH_take (i := 11) (oi := _) (v := ?_) rfl (by kernel_rfl) (by kernel_rfl) (by kernel_rfl) (fun _ _ _ h => h) (Or.inl ⟨by kernel_rfl, ?_⟩) (by assumption) ?_
        rotate_left
        · rintro w _
          go_simp
          try simp only [if_pos hs1, if_pos hs2, HA2.out]
          try with_reducible rfl
        try simp only [Act.put, List.setIfInBounds_toArray, List.set_cons_zero, List.set_cons_succ, List.getElem_toArray, List.getElem_cons_zero, List.getElem_cons_succ]
        clear hHeld
        refine wpAnyH_ready (rs := [10]) (by kernel_rfl) (by simp) ?_
        refine AllReadyH.cons (o := _) rfl (fun K hKK => ?_) AllReadyH.nil
        go_simp
        try simp only [if_pos hs1, if_pos hs2, HA2.out, HA2E.out, HN2.out]
        go_at_call 122
        with_reducible refine (HC2.out _ _ hacc).mono ?_
        rintro e' wc2 ⟨AA2, cc2, rfl, tt2, le2, no2, fr2, hbz⟩
        go_wp2_with fail
        have tt1' := tt1.below hbz
        clear tt1
        have tt1 := tt1'
        clear tt1'
        have fq2 : 0 < n2 → ∀ ad, AA2 = some ad → wx.heap.size ≤ ad.block := fun q0 ad had => Nat.le_trans hacc.size (fr2 q0 ad had)
        clear fr2
        have hacc2 := hacc.trans (hbz.mono hacc.size)
        clear hacc hbz
        have hacc := hacc2
        clear hacc2
        have le2' := Lib.hid le2
        have no2' := Lib.hid no2
        have fq2' := Lib.hid fq2
        clear le2 no2 fq2
        refine hKK.out _ _ ?_ (fun hHeld => ?_)
        · exact trivial
        clear hKK K
        try simp only [Act.put, List.setIfInBounds_toArray, List.set_cons_zero, List.set_cons_succ, List.getElem_toArray, List.getElem_cons_zero, List.getElem_cons_succ]
        clear hHeld
        have yk := HPX1.out wc2 hacc
        have yk1 := Go.Joins.block_setCell (i := 1) yk (.slice AA1 k cc1)
        have yk2 := Go.Joins.block_setCell (i := 2) yk1 (.slice AA2 n2 cc2)
        have c1 := Go.Joins.cell_of_block yk 1
        have f1 := Go.Joins.unfrozen_of_block yk 1
        have c2 := Go.Joins.cell_of_block yk1 2
        have f2 := Go.Joins.unfrozen_of_block yk1 2
        have YK2 := Lib.hid yk2
        have HACC := Lib.hid hacc
        clear yk yk1 yk2
        refine wpAnyH_ready (rs := [12]) (by kernel_rfl) (by simp) ?_
        refine AllReadyH.cons (o := _) rfl (fun K hKK => ?_) AllReadyH.nil
        go_simp
        refine hKK.out _ _ ?_ (fun hHeld => ?_)
        · exact trivial
        clear hKK K
        try simp only [Act.put, List.setIfInBounds_toArray, List.set_cons_zero, List.set_cons_succ, List.getElem_toArray, List.getElem_cons_zero, List.getElem_cons_succ]
        clear hHeld
        have hHeld : True := trivial
        refine wpAnyH_take (i := 13) (oi := _) (v := ?_) rfl (by kernel_rfl) (by kernel_rfl) (by kernel_rfl) (fun _ _ _ h => h) (Or.inl ⟨by kernel_rfl, ?_⟩) (by assumption) ?_
        rotate_left
        · rintro w _
          go_simp
          try simp only [if_pos hs1, if_pos hs2, HA2.out]
          try with_reducible rfl
        try simp only [Act.put, List.setIfInBounds_toArray, List.set_cons_zero, List.set_cons_succ, List.getElem_toArray, List.getElem_cons_zero, List.getElem_cons_succ]
        clear hHeld
        refine wpAnyH_ready (rs := [14]) (by kernel_rfl) (by simp) ?_
        refine AllReadyH.cons (o := _) rfl (fun K hKK => ?_) AllReadyH.nil
        go_simp
        refine hKK.out _ _ ?_ (fun hHeld => ?_)
        · exact trivial
        clear hKK K
        try simp only [Act.put, List.setIfInBounds_toArray, List.set_cons_zero, List.set_cons_succ, List.getElem_toArray, List.getElem_cons_zero, List.getElem_cons_succ]
        clear hHeld
        have hHeld : True := trivial
        refine wpAnyH_done (by kernel_rfl) ?_ _
        have hbF : Below w1.heap.size w1 ((wc2.setCell ⟨p, 1, none⟩ (.slice AA1 k cc1)).setCell ⟨p, 2, none⟩ (.slice AA2 n2 cc2)) := ((HBX.out.trans (HACC.out.mono HBX.out.size)).setCell HPG.out.2.1 _).setCell HPG.out.2.1 _
        have tF1 : TextsZ ((wc2.setCell ⟨p, 1, none⟩ (.slice AA1 k cc1)).setCell ⟨p, 2, none⟩ (.slice AA2 n2 cc2)) AA1 k (H0.take k) := one_texts (one_texts tt1 (fun q0 ad had => by have h1 := fq1'.out q0 ad had; have h2 := HPX2.out; omega) _) (fun q0 ad had => by have h1 := fq1'.out q0 ad had; have h2 := HPX2.out; omega) _
        have tF2 : TextsZ ((wc2.setCell ⟨p, 1, none⟩ (.slice AA1 k cc1)).setCell ⟨p, 2, none⟩ (.slice AA2 n2 cc2)) AA2 n2 (H0.drop (k + 1)) := one_texts (one_texts tt2 (fun q0 ad had => by have h1 := fq2'.out q0 ad had; have h2 := HPX2.out; omega) _) (fun q0 ad had => by have h1 := fq2'.out q0 ad had; have h2 := HPX2.out; omega) _
        exact TAIL.out _ _ _ _ _ _ _ _ _ _ _ _ _ _ _ _ _ _ _ _ _ _ _ _ _ _ _ _ _ _ _ _ _ _ _ _ _ _ _ _ _ _ _ _ _ _ _ _ _ _ _ _ _ _ _ _ _ _ _ _ _ _ _ _ _ _ _ _ _ _ _ _ _ _ _ _ _ _ _ _ _ _ _ _ _ _ AA1 cc1 AA2 cc2 hbF YK2.out tF1 tF2 le1'.out no1'.out le2'.out no2'.out fq1'.out fq2'.out)
  clear h1
  have x0 := Go.Joins.cell_of_block HK4.out 0
  have x1 := Go.Joins.cell_of_block HK4.out 1
  have x2 := Go.Joins.cell_of_block HK4.out 2
  have x3 := Go.Joins.cell_of_block HK4.out 3
  by_cases hm0 : m = 0
  · have hb0 : b = [] := by
      rw [← HLB.out]
      have := HM.out
      rw [hm0] at this
      rw [List.length_eq_zero_iff.1 this]
      rfl
    have HDR : Hid (bls L' = dropRet b ∧ false = decide (b.getLast? = some retL)) := Lib.hid (by
      rw [HLB.out, hb0]
      exact ⟨rfl, by decide⟩)
    have hw0 : IntKind.i64.wrap ((m : Int) - 1) = (m : Int) - 1 := IntWalk.i64_in _ (by omega)
    have hng : ¬ (0 : Int) ≤ (m : Int) - 1 := by omega
    clear hm0 hb0
    go_wp2_with fail
    exact REST.out _ _ _ _ _ _ _ _ _ _ _ _ _ _ _ _ _ _ _ _ _ _ _ _ _ _ _ _ _ _ _ _ _ _ _ _ _ _ _ _ _ _ _ _ _ _ _ _ _ _ _ _ _ _ _ _ _ _ _ _ _ _ _ _ _ _ _ _ _ _ _ _ _ _ _ _ _ _ _ _ _ _ _ _ _ w4 A1 m m L' false HB4.out HK4.out HT4.out (Nat.le_refl _) hA1n HDR.out.1 HDR.out.2
  · obtain ⟨j, hj⟩ : ∃ j, m = j + 1 := ⟨m - 1, by omega⟩
    have hA1e := hA1p (by omega)
    obtain ⟨z, hz⟩ : ∃ z, L'[j]? = some z := ⟨_, List.getElem?_eq_getElem (by rw [HM.out]; omega)⟩
    have hzc : w4.cell? ⟨B, 1 + j, none⟩ = some (.string z) := by
      obtain ⟨q, off, e, _, hc⟩ := HT4.out.2 (by omega)
      rw [hA1e] at e
      injection e with e
      injection e with e1 e2
      rw [e1, e2]
      exact hc j z hz
    have hgl : b.getLast? = some (bl z) := by
      rw [← HLB.out]
      exact getLast_bls hz (by rw [HM.out]; exact hj)
    subst hA1e
    have hmj : (m : Int) - 1 = (j : Int) := by omega
    have hwj : IntKind.i64.wrap (j : Int) = (j : Int) := IntWalk.i64_in _ (by omega)
    have hj0 : (0 : Int) ≤ (j : Int) := by omega
    have hjt : ((j : Int)).toNat = j := by omega
    have hjm : (j : Int) < (m : Int) := by omega
    have hjm2 : (j : Int) ≤ (m : Int) := by omega
    have HJ := Lib.hid hj
    have HZ := Lib.hid hz
    by_cases hr : bl z = retL
    · have hcmp : (z.toList == [114, 101, 116, 105, 114, 101, 100]) = true := by
        rw [ByteArray.toList_eq, list_beq]
        exact decide_eq_true hr
      have HDR : Hid (bls (L'.take j) = dropRet b ∧ true = decide (b.getLast? = some retL)) := Lib.hid (by
        rw [hgl, hr]
        refine ⟨?_, by simp⟩
        unfold dropRet
        rw [hgl, hr, if_pos rfl, ← HLB.out, bls_take, List.dropLast_eq_take, bls_len, HM.out, hj]
        rfl)
      have f3 := Go.Joins.unfrozen_of_block HK4.out 3
      have k5 := Go.Joins.block_setCell (i := 3) HK4.out (.bool true)
      have c1 := Go.Joins.cell_of_block k5 1
      have f1 := Go.Joins.unfrozen_of_block k5 1
      have k6 := Go.Joins.block_setCell (i := 1) k5 (.slice (some ⟨B, 1, none⟩) j m)
      have HK6 := Lib.hid k6
      clear hz hgl hr k5 k6 hj hm0
      go_wp2_with fail
      refine REST.out _ _ _ _ _ _ _ _ _ _ _ _ _ _ _ _ _ _ _ _ _ _ _ _ _ _ _ _ _ _ _ _ _ _ _ _ _ _ _ _ _ _ _ _ _ _ _ _ _ _ _ _ _ _ _ _ _ _ _ _ _ _ _ _ _ _ _ _ _ _ _ _ _ _ _ _ _ _ _ _ _ _ _ _ _ _ _ j m (L'.take j) true ((HB4.out.setCell HPG.out.2.1 _).setCell HPG.out.2.1 _) HK6.out ?_ (by have := HJ.out; omega) hA1n HDR.out.1 HDR.out.2
      have ht := HT4.out.take (k := j) (by have := HJ.out; omega)
      have hne : 0 < j → ∀ ad : Addr, some (⟨B, 1, none⟩ : Addr) = some ad → ad.block ≠ p := fun _ ad had => by
        injection had with had
        rw [← had]
        exact fun q => HPG.out.2.2.2.2 q.symm
      exact one_texts (one_texts ht hne _) hne _
    · have hcmp : (z.toList == [114, 101, 116, 105, 114, 101, 100]) = false := by
        rw [ByteArray.toList_eq, list_beq]
        exact decide_eq_false hr
      have HDR : Hid (bls L' = dropRet b ∧ false = decide (b.getLast? = some retL)) := Lib.hid (by
        have hne : ¬ b.getLast? = some retL := by rw [hgl]; intro q; injection q with q; exact hr q
        refine ⟨?_, (decide_eq_false hne).symm⟩
        unfold dropRet
        rw [if_neg hne]
        exact HLB.out)
      clear hz hgl hr hj hm0
      go_wp2_with fail
      exact REST.out _ _ _ _ _ _ _ _ _ _ _ _ _ _ _ _ _ _ _ _ _ _ _ _ _ _ _ _ _ _ _ _ _ _ _ _ _ _ _ _ _ _ _ _ _ _ _ _ _ _ _ _ _ _ _ _ _ _ _ _ _ _ _ _ _ _ _ _ _ _ _ _ _ _ _ _ _ _ _ _ _ _ _ _ _ w4 _ m m L' false HB4.out HK4.out HT4.out (Nat.le_refl _) hA1n HDR.out.1 HDR.out.2
theorem fdReadCard_any (s : ByteArray) (hz : s.size ≤ 4096) (w : World) (hG : GL w) : Calls Tryz.prog 58 #[.string s] w (ReadPost (bl s) w) := by
  cases hc : cutC (bl s) with
  | none => exact read_nocolon s hc hz w hG
  | some q =>
    obtain ⟨x, y⟩ := q
    cases h : splitS y with
    | nil => exact absurd h (splitS_ne y)
    | cons t b =>
      by_cases ht : t = []
      · subst ht
        exact read_main s x y b hc h hz w hG
      · exact read_badhead s x y hc (by rw [h]; exact ht) hz w hG
end Go.Mk
