/-
  Proved: plain facts on the order of entrants: marks as numbers, the strict order by mark and draw, and the order that is made by putting one after another into place; any list in this order with the same elements is the same. Conditions: entrants without an error.
-/
import Derived.Test.YtccgahkoekcefaaGreatDoorQj
import Derived.Test.YtccgahkoekcefaaGreatDoorSm
import Derived.Test.YtccgahkoekcefaaGreatDoorEe
set_option linter.unusedVariables false
set_option linter.unusedSimpArgs false
open Go Go.Proofs Go.RowKit
set_option maxRecDepth 100000
namespace Go.Mk
def entAt (L : List Ent) (x : Int) : Ent := L.getD x.toNat ⟨⟨#[]⟩, ⟨#[]⟩, sNone, 0, ⟨#[]⟩⟩
def mkeyP (s : ByteArray) (v : Int) : Int := if s = sNone then 1000000000000 else if s = sTime then v else -v
def keyE (L : List Ent) (x : Int) : Int := mkeyP (entAt L x).kind (entAt L x).value
def cmE (L : List Ent) (x y : Int) : Int := (cmpM (entAt L x).kind (entAt L x).value (entAt L x).reason (entAt L y).kind (entAt L y).value (entAt L y).reason).1
theorem entAt_of {L : List Ent} {k : Nat} {e : Ent} (h : L[k]? = some e) : entAt L (k : Int) = e := by
  unfold entAt
  rw [List.getD_eq_getElem?_getD, show ((k : Int)).toNat = k by omega, h]; rfl
theorem kinds_one : ∀ (c : ByteArray) (L : List Ent), kindsE c L = 0 → ∃ k, (c ≠ sNone → k = c) ∧ ∀ x ∈ L, x.kind = sNone ∨ x.kind = k
  | c, [], _ => ⟨c, fun _ => rfl, fun x h => by cases h⟩
  | c, x :: L, h => by
    rw [kindsE] at h
    by_cases h1 : x.kind = sNone
    · rw [if_pos h1] at h
      obtain ⟨k, k1, k2⟩ := kinds_one c L h
      refine ⟨k, k1, fun y hy => ?_⟩
      rcases List.mem_cons.1 hy with rfl | hy
      · exact .inl h1
      · exact k2 y hy
    · rw [if_neg h1] at h
      by_cases h2 : c ≠ sNone ∧ c ≠ x.kind
      · rw [if_pos h2] at h; omega
      · rw [if_neg h2] at h
        obtain ⟨k, k1, k2⟩ := kinds_one x.kind L h
        have hk := k1 h1
        subst hk
        refine ⟨x.kind, fun hc => ?_, fun y hy => ?_⟩
        · by_cases e : c = x.kind
          · exact e.symm
          · exact absurd ⟨hc, e⟩ h2
        · rcases List.mem_cons.1 hy with rfl | hy
          · exact .inr rfl
          · exact k2 y hy
theorem chk_range {s : ByteArray} {v : Int} {r : ByteArray} (h : chk s v r = 0) : (s = sNone ∧ v = 0) ∨ (s ≠ sNone ∧ 0 ≤ v ∧ v ≤ 863999999) := by
  unfold chk at h
  by_cases h1 : s = sNone
  · rw [if_pos h1] at h
    refine .inl ⟨h1, ?_⟩
    split at h
    · split at h
      · omega
      · omega
    · omega
  · rw [if_neg h1] at h
    refine .inr ⟨h1, ?_⟩
    repeat' split at h
    all_goals omega
theorem cmp_key {s1 r1 s2 r2 : ByteArray} {v1 v2 : Int} (h1 : chk s1 v1 r1 = 0) (h2 : chk s2 v2 r2 = 0) (hk : s1 = sNone ∨ s2 = sNone ∨ s1 = s2) :
    ((cmpM s1 v1 r1 s2 v2 r2).1 < 0 ↔ mkeyP s1 v1 < mkeyP s2 v2) ∧ ((cmpM s1 v1 r1 s2 v2 r2).1 = 0 ↔ mkeyP s1 v1 = mkeyP s2 v2) ∧ (cmpM s1 v1 r1 s2 v2 r2).2 = 0 := by
  have e : fst2 (chk s1 v1 r1) (chk s2 v2 r2) = 0 := by rw [h1, h2]; rfl
  have b1 := chk_range h1
  have b2 := chk_range h2
  unfold cmpM
  rw [if_neg (by simp [e])]
  by_cases hs : s1 = s2
  · subst hs
    rw [if_pos rfl]
    unfold mkeyP cmpv
    by_cases hn : s1 = sNone
    · have z1 : v1 = 0 := by rcases b1 with q | q; exact q.2; exact absurd hn q.1
      have z2 : v2 = 0 := by rcases b2 with q | q; exact q.2; exact absurd hn q.1
      subst z1; subst z2
      simp [hn]
    · by_cases ht : s1 = sTime
      · simp only [if_neg hn, ht, if_true, decide_true]
        rw [if_neg (show ¬ sTime = sNone by decide), if_neg (show ¬ sTime = sNone by decide)]
        split
        · refine ⟨?_, ?_, by first | rfl | trivial⟩ <;> constructor <;> intro _ <;> omega
        · split
          · rename_i h3 h4
            have h4 := of_decide_eq_true h4
            refine ⟨?_, ?_, by first | rfl | trivial⟩ <;> constructor <;> intro _ <;> omega
          · rename_i h3 h4
            have h4 : ¬ v1 < v2 := fun q => h4 (decide_eq_true q)
            refine ⟨?_, ?_, by first | rfl | trivial⟩ <;> constructor <;> intro _ <;> omega
      · simp only [if_neg hn, if_neg ht, decide_eq_false ht]
        split
        · refine ⟨?_, ?_, by first | rfl | trivial⟩ <;> constructor <;> intro _ <;> omega
        · split
          · rename_i h3 h4
            have h4 := of_decide_eq_false h4
            refine ⟨?_, ?_, by first | rfl | trivial⟩ <;> constructor <;> intro _ <;> omega
          · rename_i h3 h4
            have h4 : v1 < v2 := by
              by_cases q : v1 < v2
              · exact q
              · exact absurd (decide_eq_false q) h4
            refine ⟨?_, ?_, by first | rfl | trivial⟩ <;> constructor <;> intro _ <;> omega
  · rw [if_neg hs]
    have hb : ∀ (s : ByteArray) (v : Int), s ≠ sNone → 0 ≤ v → v ≤ 863999999 → mkeyP s v < 1000000000000 := fun s v q1 q2 q3 => by
      unfold mkeyP
      rw [if_neg q1]
      split <;> omega
    by_cases n2 : s2 = sNone
    · rw [if_pos n2]
      have n1 : s1 ≠ sNone := fun q => hs (q.trans n2.symm)
      have c1 : 0 ≤ v1 ∧ v1 ≤ 863999999 := by rcases b1 with q | q; exact absurd q.1 n1; exact q.2
      have e2 : mkeyP s2 v2 = 1000000000000 := by unfold mkeyP; rw [if_pos n2]
      have := hb s1 v1 n1 c1.1 c1.2
      refine ⟨?_, ?_, by first | rfl | trivial⟩ <;> constructor <;> intro _ <;> simp only at * <;> omega
    · rw [if_neg n2]
      have n1 : s1 = sNone := by
        rcases hk with q | q | q
        · exact q
        · exact absurd q n2
        · exact absurd q hs
      rw [if_pos n1]
      have c2 : 0 ≤ v2 ∧ v2 ≤ 863999999 := by rcases b2 with q | q; exact absurd q.1 n2; exact q.2
      have e1 : mkeyP s1 v1 = 1000000000000 := by unfold mkeyP; rw [if_pos n1]
      have := hb s2 v2 n2 c2.1 c2.2
      refine ⟨?_, ?_, by first | rfl | trivial⟩ <;> constructor <;> intro _ <;> simp only at * <;> omega
theorem chkEnts_zero {L : List Ent} (h : chkEnts L = 0) : L.length ≤ 160 ∧ entsE [] L = 0 ∧ kindsE sNone L = 0 := by
  unfold chkEnts at h
  split at h
  · omega
  · rename_i h1
    refine ⟨by omega, ?_⟩
    simp only [fstN] at h
    by_cases e : entsE [] L = 0
    · rw [e] at h
      refine ⟨e, ?_⟩
      by_cases q : kindsE sNone L = 0
      · exact q
      · simp [q] at h
    · simp [e] at h
theorem cmE_key {L : List Ent} (h : chkEnts L = 0) {x y : Int} (hx : 0 ≤ x ∧ x < L.length) (hy : 0 ≤ y ∧ y < L.length) : (cmE L x y < 0 ↔ keyE L x < keyE L y) ∧ (cmE L x y = 0 ↔ keyE L x = keyE L y) := by
  obtain ⟨_, h1, h2⟩ := chkEnts_zero h
  obtain ⟨k, _, hk⟩ := kinds_one _ _ h2
  have at_ : ∀ z : Int, 0 ≤ z ∧ z < L.length → entAt L z ∈ L := fun z hz => by
    have e : L[z.toNat]? = some L[z.toNat] := List.getElem?_eq_getElem (by omega)
    have := entAt_of e
    rw [show ((z.toNat : Nat) : Int) = z by omega] at this
    rw [this]
    exact List.getElem_mem _
  have mx := at_ x hx
  have my := at_ y hy
  have := cmp_key (entsE_zero [] L h1 _ mx) (entsE_zero [] L h1 _ my) (by
    rcases hk _ mx with q | q
    · exact .inl q
    · rcases hk _ my with q2 | q2
      · exact .inr (.inl q2)
      · exact .inr (.inr (q.trans q2.symm)))
  exact ⟨this.1, this.2.1⟩
def ltE (L : List Ent) (D : List Int) (x y : Int) : Prop := keyE L x < keyE L y ∨ (keyE L x = keyE L y ∧ (D.idxOf x < D.idxOf y ∨ (D.idxOf x = D.idxOf y ∧ x < y)))
theorem ltE_ord (L : List Ent) (D : List Int) : Ord (ltE L D) :=
  ⟨fun h k => by unfold ltE at *; omega, fun h => by unfold ltE at h; omega, fun h => by unfold ltE; omega⟩
theorem idx_at {D : List Int} (hn : D.Nodup) {p : Nat} (hp : p < D.length) : D.idxOf (ga D p) = p := by
  have hm : ga D p ∈ D := List.mem_of_getElem? (ga_at hp)
  have hl := List.idxOf_lt_length_of_mem hm
  have e1 : D[D.idxOf (ga D p)]? = D[p]? := by
    rw [ga_at hp, List.getElem?_eq_getElem hl, List.getElem_idxOf]
  exact (List.getElem?_inj hl hn).1 e1
def drawnZ (key n : Nat) : List Int := (Sh.order key n).map fun x : Nat => (x : Int)
theorem drawnZ_len (key n : Nat) : (drawnZ key n).length = n := by unfold drawnZ; rw [List.length_map, Sh.order_length]
theorem drawnZ_nodup (key n : Nat) : (drawnZ key n).Nodup := by
  unfold drawnZ
  refine List.Pairwise.map _ (fun a b h q => h (by omega)) (Sh.order_nodup key n)
theorem drawnZ_mem (key n : Nat) {x : Int} (h : x ∈ drawnZ key n) : 0 ≤ x ∧ x < n := by
  unfold drawnZ at h
  obtain ⟨y, hy, rfl⟩ := List.mem_map.1 h
  have := Sh.order_lt key n y hy
  omega
theorem drawn_ga (key n : Nat) {p : Nat} (hp : p < n) : 0 ≤ ga (drawnZ key n) p ∧ ga (drawnZ key n) p < n := drawnZ_mem key n (List.mem_of_getElem? (ga_at (by rw [drawnZ_len]; exact hp)))
theorem draw_tst {L : List Ent} (h : chkEnts L = 0) (key : Nat) : ∀ p q, p < q → q < L.length → (cmE L (ga (drawnZ key L.length) q) (ga (drawnZ key L.length) p) < 0 ↔ ltE L (drawnZ key L.length) (ga (drawnZ key L.length) q) (ga (drawnZ key L.length) p)) := fun p q h1 h2 => by
  have hp := drawn_ga key L.length (p := p) (by omega)
  have hq := drawn_ga key L.length (p := q) h2
  rw [(cmE_key h hq hp).1]
  unfold ltE
  rw [idx_at (drawnZ_nodup _ _) (by rw [drawnZ_len]; omega), idx_at (drawnZ_nodup _ _) (by rw [drawnZ_len]; omega)]
  omega
def atZ (cm : Int → Int → Int) (x : Int) (out : List Int) : Nat → Nat
  | 0 => 0
  | k + 1 => if cm x (ga out k) < 0 then atZ cm x out k else k + 1
theorem atZ_spec (cm : Int → Int → Int) (x : Int) (out : List Int) : ∀ k, atZ cm x out k ≤ k ∧ (∀ i, atZ cm x out k ≤ i → i < k → cm x (ga out i) < 0) ∧ (0 < atZ cm x out k → ¬ cm x (ga out (atZ cm x out k - 1)) < 0)
  | 0 => ⟨Nat.le_refl _, fun i _ h => by omega, fun h => by simp [atZ] at h⟩
  | k + 1 => by
    rw [atZ]
    by_cases h : cm x (ga out k) < 0
    · rw [if_pos h]
      obtain ⟨a, b, c⟩ := atZ_spec cm x out k
      refine ⟨by omega, fun i h1 h2 => ?_, c⟩
      by_cases e : i = k
      · rw [e]; exact h
      · exact b i h1 (by omega)
    · rw [if_neg h]
      exact ⟨Nat.le_refl _, fun i h1 h2 => by omega, fun _ => h⟩
def insZ (cm : Int → Int → Int) (out : List Int) (x : Int) : List Int := out.take (atZ cm x out out.length) ++ x :: out.drop (atZ cm x out out.length)
def ordG (cm : Int → Int → Int) : List Int → List Int → List Int
  | out, [] => out
  | out, x :: r => ordG cm (insZ cm out x) r
theorem ordG_ok {lt : Int → Int → Prop} (ho : Ord lt) (cm : Int → Int → Int) : ∀ (rest out : List Int), out.Pairwise lt → rest.Nodup → (∀ x ∈ rest, x ∉ out) → (∀ pre x post, rest = pre ++ x :: post → ∀ y, (y ∈ out ∨ y ∈ pre) → (cm x y < 0 ↔ lt x y)) →
    (ordG cm out rest).Pairwise lt ∧ (ordG cm out rest).Perm (out ++ rest)
  | [], out, h1, _, _, _ => by simpa [ordG] using h1
  | x :: r, out, h1, h2, h3, h4 => by
    rw [List.nodup_cons] at h2
    obtain ⟨a1, a2, a3⟩ := atZ_spec cm x out out.length
    have hx : ∀ y ∈ out, (cm x y < 0 ↔ lt x y) := fun y hy => h4 [] x r rfl y (.inl hy)
    have hm : ∀ i, i < out.length → ga out i ∈ out := fun i hi => List.mem_of_getElem? (ga_at hi)
    have hpw : (insZ cm out x).Pairwise lt := by
      unfold insZ
      refine pw_insert ho h1 (fun y hy => ?_) (fun hk => ⟨a1, ?_⟩)
      · obtain ⟨i, hi⟩ := List.mem_iff_getElem?.1 hy
        rw [List.getElem?_drop] at hi
        have hil := (List.getElem?_eq_some_iff.1 hi).1
        rw [ga_at hil] at hi
        rw [← Option.some.inj hi]
        exact (hx _ (hm _ hil)).1 (a2 _ (by omega) hil)
      · have hl : atZ cm x out out.length - 1 < out.length := by omega
        have h5 : ¬ lt x (ga out (atZ cm x out out.length - 1)) := fun q => a3 hk ((hx _ (hm _ hl)).2 q)
        refine (ho.tri (fun q => ?_)).resolve_right h5
        exact h3 x List.mem_cons_self (by rw [← q]; exact hm _ hl)
    have hpm : (insZ cm out x).Perm (out ++ [x]) := insert_perm _ _ _
    have hmem : ∀ y, y ∈ insZ cm out x ↔ y ∈ out ∨ y = x := fun y => by rw [hpm.mem_iff]; simp
    obtain ⟨r1, r2⟩ := ordG_ok ho cm r (insZ cm out x) hpw h2.2 (fun y hy q => by
      rcases (hmem y).1 q with q | q
      · exact h3 y (List.mem_cons_of_mem _ hy) q
      · subst q; exact h2.1 hy) (fun pre z post e y hy => by
      refine h4 (x :: pre) z post (by rw [e]; rfl) y ?_
      rcases hy with q | q
      · rcases (hmem y).1 q with q | q
        · exact .inl q
        · exact .inr (by rw [q]; exact List.mem_cons_self)
      · exact .inr (List.mem_cons_of_mem _ q))
    refine ⟨r1, r2.trans ?_⟩
    refine (List.Perm.append_right r hpm).trans ?_
    rw [List.append_assoc]
    exact List.Perm.refl _
def ordZ (L : List Ent) (key : Nat) : List Int := ordG (cmE L) [] (drawnZ key L.length)
theorem ordZ_ok {L : List Ent} (h : chkEnts L = 0) (key : Nat) : (ordZ L key).Pairwise (ltE L (drawnZ key L.length)) ∧ (ordZ L key).Perm (drawnZ key L.length) := by
  have hl := drawnZ_len key L.length
  obtain ⟨a, b⟩ := ordG_ok (ltE_ord L (drawnZ key L.length)) (cmE L) (drawnZ key L.length) [] List.Pairwise.nil (drawnZ_nodup _ _) (fun _ _ q => by cases q) (fun pre x post e y hy => by
    have hy : y ∈ pre := by
      rcases hy with q | q
      · cases q
      · exact q
    obtain ⟨i, hi⟩ := List.mem_iff_getElem?.1 hy
    have hil := (List.getElem?_eq_some_iff.1 hi).1
    have hlen : L.length = pre.length + (post.length + 1) := by rw [← hl, e]; simp
    have e1 : (drawnZ key L.length)[i]? = some y := by rw [e, List.getElem?_append_left hil]; exact hi
    have e2 : (drawnZ key L.length)[pre.length]? = some x := by rw [e, List.getElem?_append_right (Nat.le_refl _)]; simp
    have g1 : ga (drawnZ key L.length) i = y := by rw [ga_at (by rw [hl]; omega)] at e1; exact Option.some.inj e1
    have g2 : ga (drawnZ key L.length) pre.length = x := by rw [ga_at (by rw [hl]; omega)] at e2; exact Option.some.inj e2
    have := draw_tst h key i pre.length hil (by omega)
    rw [g1, g2] at this
    exact this)
  exact ⟨a, b⟩
theorem ordZ_len {L : List Ent} (h : chkEnts L = 0) (key : Nat) : (ordZ L key).length = L.length := by rw [(ordZ_ok h key).2.length_eq, drawnZ_len]
theorem ordZ_mem {L : List Ent} (h : chkEnts L = 0) (key : Nat) {x : Int} (hx : x ∈ ordZ L key) : 0 ≤ x ∧ x < L.length := drawnZ_mem key _ ((ordZ_ok h key).2.mem_iff.1 hx)
theorem ordZ_nodup {L : List Ent} (h : chkEnts L = 0) (key : Nat) : (ordZ L key).Nodup := (ordZ_ok h key).2.nodup_iff.2 (drawnZ_nodup _ _)
theorem ordZ_of {L : List Ent} (h : chkEnts L = 0) (key : Nat) {M : List Int} (hp : PermIn 0 L.length (drawnZ key L.length) M) (hs : Srt (ltE L (drawnZ key L.length)) M 0 L.length) : M = ordZ L key := by
  obtain ⟨a, b⟩ := ordZ_ok h key
  refine pw_unique (ltE_ord L (drawnZ key L.length)) (hp.perm.trans b.symm) (pw_of_srt ?_) a
  rw [hp.len, drawnZ_len]
  exact hs
end Go.Mk
