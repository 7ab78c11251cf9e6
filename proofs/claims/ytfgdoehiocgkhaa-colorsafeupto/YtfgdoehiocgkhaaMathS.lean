/-
  What outlives a cycle while slots are written; no statement is proved here.
-/
import Derived.Test.YtfgdoehiocgkhaaMathF
namespace Go.Proofs.Ytfgdoehiocgkhaa

/-- Slot j of node i. -/
def sAt (G : Gs) (i j : Nat) : Int := (ndAt G.ns i).s.getD j 0
/-- Nothing, or not white. -/
def nw (H : Gs) (x : Int) : Prop := x = -1 ∨ (ndAt H.ns x.toNat).c ≠ 1

structure Mk (G : Gs) (H : Gs) (i : Nat) : Prop where
  lv : lvN H i
  len : (ndAt H.ns i).s.length = (ndAt G.ns i).s.length
  slot : ∀ j, j < (ndAt G.ns i).s.length → sAt H i j = sAt G i j ∨ nw H (sAt G i j)
  blk : (ndAt H.ns i).c = 3 → ∀ j, j < (ndAt G.ns i).s.length → nw H (sAt G i j)
  gry : (ndAt H.ns i).c = 2 → ∀ j, j < (ndAt H.ns i).k → j < (ndAt G.ns i).s.length → nw H (sAt G i j)

structure Sf (G : Gs) (T : Nat → Prop) (A : List Int) (H : Gs) : Prop where
  m : H.ph = 1 → (∀ i, lvN G i → Mk G H i) ∧ ∀ a ∈ A, lvB H a = true ∧ nw H a
  s : H.ph ≠ 1 → (∀ i, lvN G i → T i → lvN H i) ∧ ∀ a ∈ A, lvB H a = true

/-- Nothing gets white, colors only rise: what a step that shades keeps. -/
structure Up (H H' : Gs) : Prop where
  lv : ∀ i, lvN H i → lvN H' i
  up : ∀ i, (ndAt H.ns i).c ≠ 1 → lvN H i → (ndAt H'.ns i).c ≠ 1

theorem Up.nwx {G H H' : Gs} (hI : Iv G) (u : Up H H') {i j : Nat} (hi : lvN G i) (hj : j < (ndAt G.ns i).s.length) (hG : ∀ i, lvN G i → lvN H i) (h : nw H (sAt G i j)) : nw H' (sAt G i j) := by
  rcases h with q | q
  · exact .inl q
  · have hm : sAt G i j ∈ (ndAt G.ns i).s := by simp [sAt, List.getD, hj]
    rcases hI.cl i hi _ hm with r | r
    · exact .inl r
    · exact .inr (u.up _ q (hG _ (lvB_iff.1 r).2))
theorem Up.a {H H' : Gs} (u : Up H H') {a : Int} (h : lvB H a = true ∧ nw H a) : lvB H' a = true ∧ nw H' a := by
  obtain ⟨h1, h2⟩ := h
  have := lvB_iff.1 h1
  refine ⟨lvB_iff.2 ⟨this.1, u.lv _ this.2⟩, ?_⟩
  rcases h2 with q | q
  · exact .inl q
  · exact .inr (u.up _ q this.2)

theorem up_sh (H : Gs) (x : Int) : Up H (sh H x) := ⟨fun i h => (sh_lv H x i).2 h, fun i h _ => by rw [sh_nw _ _ _ h]; exact h⟩
theorem Up.trans {A B C : Gs} (h : Up A B) (k : Up B C) : Up A C := ⟨fun i q => k.lv i (h.lv i q), fun i q r => k.up i (h.up i q r) (h.lv i r)⟩

/-- Shading keeps what stands of a node. -/
theorem mk_sh {G H : Gs} (hI : Iv G) (hG : ∀ i, lvN G i → lvN H i) {i : Nat} (hi : lvN G i) (h : Mk G H i) (x : Int) : Mk G (sh H x) i := by
  have u := up_sh H x
  refine ⟨u.lv i h.lv, by rw [sh_s]; exact h.len, fun j hj => ?_, fun hc j hj => ?_, fun hc j hk hj => ?_⟩
  · rcases h.slot j hj with q | q
    · left; rw [← q]; unfold sAt; rw [sh_s]
    · exact .inr (u.nwx hI hi hj hG q)
  · rcases sh_at H x i with r | ⟨r1, r2⟩
    · rw [r] at hc; exact u.nwx hI hi hj hG (h.blk hc j hj)
    · rw [r2] at hc; simp at hc
  · rcases sh_at H x i with r | ⟨r1, r2⟩
    · rw [r] at hc hk; exact u.nwx hI hi hj hG (h.gry hc j hk hj)
    · rw [r2] at hk; simp at hk

theorem sf_sh {G H : Gs} {T : Nat → Prop} {A : List Int} (hI : Iv G) (h : Sf G T A H) (x : Int) : Sf G T A (sh H x) := by
  have hp : (sh H x).ph = H.ph := (sh_fix H x).2.1
  refine ⟨fun q => ?_, fun q => ?_⟩
  · rw [hp] at q
    obtain ⟨m1, m2⟩ := h.m q
    exact ⟨fun i hi => mk_sh hI (fun j hj => (m1 j hj).lv) hi (m1 i hi) x, fun a ha => (up_sh H x).a (m2 a ha)⟩
  · rw [hp] at q
    obtain ⟨s1, s2⟩ := h.s q
    exact ⟨fun i hi ht => (sh_lv H x i).2 (s1 i hi ht), fun a ha => by rw [sh_lvB]; exact s2 a ha⟩

theorem Sf.more {G H : Gs} {T : Nat → Prop} {A : List Int} (h : Sf G T A H) (a : Int) (ha : lvB H a = true) (hn : H.ph = 1 → nw H a) : Sf G T (A ++ [a]) H := by
  refine ⟨fun q => ⟨(h.m q).1, fun b hb => ?_⟩, fun q => ⟨(h.s q).1, fun b hb => ?_⟩⟩
  · rcases List.mem_append.1 hb with r | r
    · exact (h.m q).2 b r
    · simp at r; subst r; exact ⟨ha, hn q⟩
  · rcases List.mem_append.1 hb with r | r
    · exact (h.s q).2 b r
    · simp at r; subst r; exact ha

/-! ### Set -/

theorem put_at {H : Gs} {n : Nat} (hn : n < H.ns.length) (j : Nat) (x : Int) (i : Nat) : ndAt (putS H n j x).ns i = if i = n then ⟨(ndAt H.ns n).c, (ndAt H.ns n).s.set j x, (ndAt H.ns n).k⟩ else ndAt H.ns i := ndAt_set hn
theorem put_c {H : Gs} {n : Nat} (hn : n < H.ns.length) (j : Nat) (x : Int) (i : Nat) : (ndAt (putS H n j x).ns i).c = (ndAt H.ns i).c := by rw [put_at hn]; split; (next e => rw [e]); rfl
theorem put_lv {H : Gs} {n : Nat} (hn : n < H.ns.length) (j : Nat) (x : Int) (i : Nat) : lvN (putS H n j x) i ↔ lvN H i := by unfold lvN; rw [put_c hn]
theorem put_nw {H : Gs} {n : Nat} (hn : n < H.ns.length) (j : Nat) (x y : Int) : nw (putS H n j x) y ↔ nw H y := by unfold nw; rw [put_c hn]
theorem sf_setG {G H : Gs} {T : Nat → Prop} {A : List Int} (hI : Iv G) (hIH : Iv H) (h : Sf G T A H) (n q : Nat) (x : Int) (hn : lvN H n) (hq : q < (ndAt H.ns n).s.length) : Sf G T A (setG H n q x) := by
  have h1 := sf_sh hI h ((ndAt H.ns n).s.getD q 0)
  have h2 := sf_sh hI h1 x
  have hm : (ndAt H.ns n).s.getD q 0 ∈ (ndAt H.ns n).s := by simp [List.getD, hq]
  have hold : nw (sh (sh H ((ndAt H.ns n).s.getD q 0)) x) ((ndAt H.ns n).s.getD q 0) := by
    have h3 := sh_c (G := H) ((ndAt H.ns n).s.getD q 0) (by
      rcases hIH.cl n hn _ hm with r | r
      · exact .inl r
      · exact .inr (lvB_iff.1 r).1)
    rcases h3 with r | r
    · exact .inl r
    · exact .inr (by rw [sh_nw _ _ _ r]; exact r)
  have hs : (ndAt (sh (sh H ((ndAt H.ns n).s.getD q 0)) x).ns n).s = (ndAt H.ns n).s := by rw [sh_s, sh_s]
  have hnl : n < (sh (sh H ((ndAt H.ns n).s.getD q 0)) x).ns.length := by rw [sh_len, sh_len]; exact lvN_lt hn
  unfold setG
  generalize sh (sh H ((ndAt H.ns n).s.getD q 0)) x = K at *
  have hlvb : ∀ a, lvB (putS K n q x) a = lvB K a := fun a => by simp only [lvB, put_lv hnl]
  refine ⟨fun p => ⟨fun i hi => ?_, fun a ha => ?_⟩, fun p => ⟨fun i hi ht => (put_lv hnl q x i).2 ((h2.s p).1 i hi ht), fun a ha => by rw [hlvb]; exact (h2.s p).2 a ha⟩⟩
  · have m := (h2.m p).1 i hi
    refine ⟨(put_lv hnl q x i).2 m.lv, ?_, fun j hj => ?_, fun hc j hj => ?_, fun hc j hk hj => ?_⟩
    · rw [put_at hnl]; split
      · rename_i e; rw [← e]; simp [m.len]
      · exact m.len
    · rw [put_nw hnl]
      rcases m.slot j hj with r | r
      · by_cases e : i = n ∧ j = q
        · right
          rw [← r, e.1, e.2]
          unfold sAt
          rw [hs]; exact hold
        · left
          rw [← r]
          unfold sAt
          rw [put_at hnl]
          split
          · rename_i e1
            simp only
            have : q ≠ j := fun e2 => e ⟨e1, e2.symm⟩
            simp [List.getD, List.getElem?_set_ne this, e1]
          · rfl
      · exact .inr r
    · rw [put_nw hnl]; rw [put_c hnl] at hc; exact m.blk hc j hj
    · rw [put_nw hnl]; rw [put_c hnl] at hc
      refine m.gry hc j ?_ hj
      rw [put_at hnl] at hk
      split at hk
      · rename_i e; rw [e]; exact hk
      · exact hk
  · rw [hlvb, put_nw hnl]; exact (h2.m p).2 a ha
theorem setG_nw {H : Gs} (n q : Nat) (x : Int) (hn : lvN H n) (hx : x = -1 ∨ lvB H x = true) : nw (setG H n q x) x := by
  have hnl : n < (sh (sh H ((ndAt H.ns n).s.getD q 0)) x).ns.length := by rw [sh_len, sh_len]; exact lvN_lt hn
  unfold setG
  rw [put_nw hnl]
  exact sh_c x (by rcases hx with r | r; exact .inl r; exact .inr (lvB_iff.1 r).1)
theorem setG_lv {H : Gs} (n q : Nat) (x : Int) (hn : lvN H n) (a : Int) : lvB (setG H n q x) a = lvB H a := by
  have hnl : n < (sh (sh H ((ndAt H.ns n).s.getD q 0)) x).ns.length := by rw [sh_len, sh_len]; exact lvN_lt hn
  unfold setG
  simp only [lvB, put_lv hnl, sh_lv]

/-! ### Node -/

theorem sf_node {G H : Gs} {T : Nat → Prop} {A : List Int} (hI : Iv G) (hIH : Iv H) (h : Sf G T A H) (x : Int) : Sf G T A (node H x).1 := by
  have hl := hIH.le
  unfold node
  split
  · exact h
  · have hfix : ∀ m, (nodeG H m).ph = H.ph := fun m => by unfold nodeG; split <;> rfl
    have base : Sf G T A (nodeG H x.toNat) := by
      by_cases hf : fr H = 65536
      · have e : (nodeG H x.toNat).ns = H.ns := by simp only [nodeG, hf, if_true]
        have e2 : ∀ i, lvN (nodeG H x.toNat) i ↔ lvN H i := fun i => by unfold lvN; rw [e]
        have e3 : ∀ a, lvB (nodeG H x.toNat) a = lvB H a := fun a => by simp only [lvB, e2]
        refine ⟨fun p => ?_, fun p => ?_⟩
        · rw [hfix] at p
          obtain ⟨m1, m2⟩ := h.m p
          refine ⟨fun i hi => ?_, fun a ha => by rw [e3]; unfold nw; rw [e]; exact m2 a ha⟩
          have m := m1 i hi
          exact ⟨(e2 i).2 m.lv, by rw [e]; exact m.len, fun j hj => by unfold sAt nw; rw [e]; exact m.slot j hj, fun hc j hj => by unfold nw; rw [e] at hc ⊢; exact m.blk hc j hj, fun hc j hk hj => by unfold nw; rw [e] at hc hk ⊢; exact m.gry hc j hk hj⟩
        · rw [hfix] at p
          obtain ⟨s1, s2⟩ := h.s p
          exact ⟨fun i hi ht => (e2 i).2 (s1 i hi ht), fun a ha => by rw [e3]; exact s2 a ha⟩
      · have at_ := node_at hl hf x.toNat
        have lv := node_lv hl hf x.toNat
        have hfr := fr_free (G := H)
        have u : Up H (nodeG H x.toNat) := ⟨fun i q => (lv i).2 (.inr q), fun i q _ => by rw [at_]; split; simp; exact q⟩
        refine ⟨fun p => ?_, fun p => ?_⟩
        · rw [hfix] at p
          obtain ⟨m1, m2⟩ := h.m p
          refine ⟨fun i hi => ?_, fun a ha => u.a (m2 a ha)⟩
          have m := m1 i hi
          have hne : i ≠ fr H := fun e => m.lv.1 (by rw [e]; exact hfr)
          have ei : ndAt (nodeG H x.toNat).ns i = ndAt H.ns i := by rw [at_, if_neg hne]
          have hG : ∀ i, lvN G i → lvN H i := fun i hi => (m1 i hi).lv
          exact ⟨u.lv i m.lv, by rw [ei]; exact m.len, fun j hj => by
            rcases m.slot j hj with r | r
            · left; rw [← r]; unfold sAt; rw [ei]
            · exact .inr (u.nwx hI hi hj hG r), fun hc j hj => by rw [ei] at hc; exact u.nwx hI hi hj hG (m.blk hc j hj), fun hc j hk hj => by rw [ei] at hc hk; exact u.nwx hI hi hj hG (m.gry hc j hk hj)⟩
        · rw [hfix] at p
          obtain ⟨s1, s2⟩ := h.s p
          exact ⟨fun i hi ht => u.lv i (s1 i hi ht), fun a ha => by
            have := lvB_iff.1 (s2 a ha)
            exact lvB_iff.2 ⟨this.1, u.lv _ this.2⟩⟩
    split <;> exact base
theorem node_new {H : Gs} (hIH : Iv H) (x : Int) (h : (node H x).2.2 = 0) : lvB (node H x).1 (node H x).2.1 = true ∧ nw (node H x).1 (node H x).2.1 := by
  have hl := hIH.le
  unfold node at h ⊢
  split at h
  · simp at h
  · rename_i h1
    split at h
    · simp at h
    · rename_i h2
      rw [if_neg h1, if_neg h2]
      simp only
      refine ⟨by rw [lvB_nat]; exact decide_eq_true ((node_lv hl h2 _ _).2 (.inl rfl)), .inr ?_⟩
      rw [Int.toNat_natCast, node_at hl h2, if_pos rfl]
      simp

/-! ### Work -/

theorem Sf.end_ {G H : Gs} {R : List Int} {T : Nat → Prop} {A : List Int} (hI : Iv G) (hIH : Iv H) (hT : Cls G R T) (hRA : ∀ r ∈ R, r ∈ A) (hR : ∀ r ∈ R, lvB G r = true) (h : Sf G T A H) (h1 : H.ph = 1) (hl : H.ln = []) (i : Nat) (ht : T i) : (ndAt H.ns i).c = 3 := by
  obtain ⟨m1, m2⟩ := h.m h1
  have key : ∀ j, lvN H j → (ndAt H.ns j).c ≠ 1 → (ndAt H.ns j).c = 3 := fun j hj hc => by
    have hg : (ndAt H.ns j).c ≠ 2 := fun q => by have := (hIH.grey j).1 q; rw [hl] at this; cases this
    have := hIH.col j
    have := hj.1
    have := hj.2
    omega
  refine (hT.least (fun j => lvN G j ∧ (ndAt H.ns j).c = 3) (fun r hr => ?_) (fun j hj hlj x hx hx1 => ?_) i ht).2
  · have hg := (lvB_iff.1 (hR r hr)).2
    obtain ⟨q1, q2⟩ := m2 r (hRA r hr)
    refine ⟨hg, key _ (lvB_iff.1 q1).2 ?_⟩
    rcases q2 with q | q
    · have := (lvB_iff.1 q1).1; omega
    · exact q
  · obtain ⟨k, hk, e⟩ := List.getElem_of_mem hx
    have hs : sAt G j k = x := by simp [sAt, List.getD, hk, e]
    have hxG : lvN G x.toNat := by
      rcases hI.cl j hlj x hx with r | r
      · exact absurd r hx1
      · exact (lvB_iff.1 r).2
    refine ⟨hxG, key _ (m1 _ hxG).lv ?_⟩
    have := (m1 j hlj).blk hj.2 k hk
    rw [hs] at this
    rcases this with r | r
    · exact absurd r hx1
    · exact r

theorem sf_unit {G H : Gs} {R : List Int} {T : Nat → Prop} {A : List Int} (hI : Iv G) (hIH : Iv H) (hT : Cls G R T) (hRA : ∀ r ∈ R, r ∈ A) (hR : ∀ r ∈ R, lvB G r = true) (h0 : H.ph ≠ 0) (h : Sf G T A H) : Sf G T A (unit H).1 := by
  by_cases h1 : H.ph = 1
  · have hu : (unit H).1 = mark H := by simp only [unit, h1, if_true]
    rw [hu]
    obtain ⟨m1, m2⟩ := h.m h1
    have hG : ∀ i, lvN G i → lvN H i := fun i hi => (m1 i hi).lv
    cases hl : H.ln with
    | nil =>
      refine ⟨fun q => absurd q (by rw [mark_nil_ph hl]; decide), fun _ => ⟨fun i hi ht => ?_, fun a ha => ?_⟩⟩
      · rw [mark_nil_lv hIH hl]
        exact h.end_ hI hIH hT hRA hR h1 hl i ht
      · obtain ⟨q1, q2⟩ := m2 a ha
        have hb := lvB_iff.1 q1
        refine lvB_iff.2 ⟨hb.1, (mark_nil_lv hIH hl _).2 ?_⟩
        have hg : (ndAt H.ns a.toNat).c ≠ 2 := fun q => by have := (hIH.grey _).1 q; rw [hl] at this; cases this
        have := hIH.col a.toNat
        have := hb.2.1
        have := hb.2.2
        rcases q2 with r | r
        · omega
        · omega
    | cons x t =>
      have hx := (hIH.grey x).2 (by simp [hl])
      have hxl : x < H.ns.length := lvN_lt (G := H) ⟨by rw [hx]; decide, by rw [hx]; decide⟩
      by_cases hk : (ndAt H.ns x).k = (ndAt H.ns x).s.length
      · have hmk : mark H = { H with ns := H.ns.set x ⟨3, (ndAt H.ns x).s, (ndAt H.ns x).k⟩, ln := t } := by simp only [mark, hl, if_pos hk]
        have at_ : ∀ i, ndAt (mark H).ns i = if i = x then ⟨3, (ndAt H.ns x).s, (ndAt H.ns x).k⟩ else ndAt H.ns i := fun i => by rw [hmk]; exact ndAt_set hxl
        have hph : (mark H).ph = 1 := by rw [hmk]; exact h1
        have u : Up H (mark H) := ⟨fun i q => by
          unfold lvN; rw [at_]; split
          · simp
          · exact q, fun i q _ => by rw [at_]; split; simp; exact q⟩
        refine ⟨fun _ => ⟨fun i hi => ?_, fun a ha => u.a (m2 a ha)⟩, fun q => absurd hph q⟩
        have m := m1 i hi
        refine ⟨u.lv i m.lv, ?_, fun j hj => ?_, fun hc j hj => ?_, fun hc j hkk hj => ?_⟩
        · rw [at_]; split
          · rename_i e; rw [← e]; exact m.len
          · exact m.len
        · rcases m.slot j hj with r | r
          · left; rw [← r]; unfold sAt; rw [at_]; split
            · rename_i e; rw [e]
            · rfl
          · exact .inr (u.nwx hI hi hj hG r)
        · rw [at_] at hc
          split at hc
          · rename_i e
            refine u.nwx hI hi hj hG (m.gry (by rw [e]; exact hx) j ?_ hj)
            rw [e, hk, ← e, m.len]; exact hj
          · exact u.nwx hI hi hj hG (m.blk hc j hj)
        · rw [at_] at hc hkk
          split at hc
          · simp at hc
          · rename_i e
            rw [if_neg e] at hkk
            exact u.nwx hI hi hj hG (m.gry hc j hkk hj)
      · rw [mark_look hIH hl hk]
        have hlo := hIH.lo x
        have hkl : (ndAt H.ns x).k < (ndAt H.ns x).s.length := by omega
        have hm : (ndAt H.ns x).s.getD (ndAt H.ns x).k 0 ∈ (ndAt H.ns x).s := by simp [List.getD, hkl]
        have hlx : lvN H x := ⟨by omega, by omega⟩
        have hyy := hIH.cl x hlx _ hm
        have hsx : sAt H x (ndAt H.ns x).k = (ndAt H.ns x).s.getD (ndAt H.ns x).k 0 := rfl
        generalize (ndAt H.ns x).s.getD (ndAt H.ns x).k 0 = y at *
        have hny : nw (sh H y) y := sh_c y (by rcases hyy with r | r; exact .inl r; exact .inr (lvB_iff.1 r).1)
        have hnx := sh_nw H y x (by omega)
        have hl2 : x < (sh H y).ns.length := by rw [sh_len]; exact hxl
        have hph : (bump (sh H y) x).ph = 1 := by simp only [bump]; rw [(sh_fix H y).2.1]; exact h1
        have at_ : ∀ i, ndAt (bump (sh H y) x).ns i = if i = x then ⟨(ndAt H.ns x).c, (ndAt H.ns x).s, (ndAt H.ns x).k + 1⟩ else ndAt (sh H y).ns i := fun i => by
          simp only [bump]; rw [ndAt_set hl2, hnx]
        have atc : ∀ i, (ndAt (bump (sh H y) x).ns i).c = (ndAt (sh H y).ns i).c := fun i => by rw [at_]; split; (next e => rw [e, hnx]); rfl
        have ats : ∀ i, (ndAt (bump (sh H y) x).ns i).s = (ndAt H.ns i).s := fun i => by rw [at_]; split; (next e => rw [e]); exact sh_s H y i
        have nwb : ∀ z, nw (bump (sh H y) x) z ↔ nw (sh H y) z := fun z => by unfold nw; rw [atc]
        have lvb : ∀ i, lvN (bump (sh H y) x) i ↔ lvN (sh H y) i := fun i => by unfold lvN; rw [atc]
        have u : Up H (sh H y) := up_sh H y
        refine ⟨fun _ => ⟨fun i hi => ?_, fun a ha => ?_⟩, fun q => absurd hph q⟩
        · have m := m1 i hi
          have m' := mk_sh hI hG hi m y
          refine ⟨(lvb i).2 m'.lv, by rw [ats]; exact m.len, fun j hj => ?_, fun hc j hj => ?_, fun hc j hkk hj => ?_⟩
          · rw [nwb]
            rcases m'.slot j hj with r | r
            · left; rw [← r]; unfold sAt; rw [ats, sh_s]
            · exact .inr r
          · rw [nwb]; rw [atc] at hc; exact m'.blk hc j hj
          · rw [nwb]
            rw [atc] at hc
            by_cases e : i = x
            · subst e
              rw [at_, if_pos rfl] at hkk
              simp only at hkk
              by_cases ek : j = (ndAt H.ns i).k
              · rcases m.slot j hj with r | r
                · rw [← r, ek, hsx]; exact hny
                · exact u.nwx hI hi hj hG r
              · exact u.nwx hI hi hj hG (m.gry hx j (by omega) hj)
            · rw [at_, if_neg e] at hkk
              exact m'.gry hc j hkk hj
        · have := u.a (m2 a ha)
          refine ⟨?_, (nwb a).2 this.2⟩
          have hb := lvB_iff.1 this.1
          exact lvB_iff.2 ⟨hb.1, (lvb _).2 hb.2⟩
  · have h2 : H.ph = 2 := by have := hIH.ph; omega
    have hu : (unit H).1 = (sweep H).1 := by simp only [unit, h1, if_false]
    rw [hu]
    obtain ⟨s1, s2⟩ := h.s h1
    refine ⟨fun q => absurd q (sweep_ph h2), fun _ => ⟨fun i hi ht => (sweep_lv hIH h2 i).2 (s1 i hi ht), fun a ha => ?_⟩⟩
    have hb := lvB_iff.1 (s2 a ha)
    exact lvB_iff.2 ⟨hb.1, (sweep_lv hIH h2 _).2 hb.2⟩
theorem sf_work {G : Gs} {R : List Int} {T : Nat → Prop} {A : List Int} (hI : Iv G) (hT : Cls G R T) (hRA : ∀ r ∈ R, r ∈ A) (hR : ∀ r ∈ R, lvB G r = true) : ∀ (u : Nat) {H : Gs}, Iv H → Sf G T A H → Sf G T A (work u H).2.2
  | 0, _, _, h => h
  | u + 1, H, hIH, h => by
    by_cases q : H.ph = 0
    · rw [work_idle q]; exact h
    · simp only [work, q, if_false]
      exact sf_work hI hT hRA hR u (iv_unit hIH q) (sf_unit hI hIH hT hRA hR q h)

theorem sf_start {G : Gs} {R : List Int} {T : Nat → Prop} (hI : Iv G) (h : (start G R).2 = 0) : Sf G T R (start G R).1 := by
  obtain ⟨e, hall, h0⟩ := start_ok h
  rw [e]
  have hR : ∀ r ∈ R, lvB G r = true := List.all_eq_true.1 hall
  obtain ⟨k1, k2, k3⟩ := shs_keep R (begin G)
  have hp : (R.foldl sh (begin G)).ph = 1 := by rw [shs_ph]; rfl
  have hlvb : ∀ x, lvB (R.foldl sh (begin G)) x = lvB G x := fun x => by
    have h1 : ∀ i, lvN (R.foldl sh (begin G)) i ↔ lvN G i := fun i => (k2 i).trans (wh_lv i)
    simp only [lvB, h1]
  have hIb := iv_shs R (iv_begin hI h0)
  have hs : ∀ i, (ndAt (R.foldl sh (begin G)).ns i).s = (ndAt G.ns i).s := fun i => by rw [k1]; simp only [begin, wh_at, wh_s]
  refine ⟨fun _ => ⟨fun i hi => ?_, fun a ha => ⟨by rw [hlvb]; exact hR a ha, .inr (shs_root R _ (fun r hr => (lvB_iff.1 (hR r hr)).1) a ha)⟩⟩, fun q => absurd hp q⟩
  refine ⟨(k2 i).2 ((wh_lv i).2 hi), by rw [hs], fun j hj => ?_, fun hc j hj => ?_, fun hc j hk hj => ?_⟩
  · left; unfold sAt; rw [hs]
  · -- black behind Start: no node is
    exfalso
    have hb : ∀ (R : List Int) (H : Gs), (∀ i, (ndAt H.ns i).c ≠ 3) → ∀ i, (ndAt (R.foldl sh H).ns i).c ≠ 3 := by
      intro R
      induction R with
      | nil => intro H h; exact h
      | cons x R ih =>
        intro H h
        simp only [List.foldl_cons]
        refine ih (sh H x) (fun i => ?_)
        rcases sh_at H x i with r | ⟨_, r⟩
        · rw [r]; exact h i
        · rw [r]; simp
    refine hb R (begin G) (fun i q => ?_) i hc
    simp only [begin, wh_at] at q
    have := hI.col i
    have := (hI.idle (by omega)).2 i
    unfold wh at q
    split at q
    · simp at q
    · rename_i h5; omega
  · -- grey behind Start: nothing was looked at
    exfalso
    have hb : ∀ (R : List Int) (H : Gs), (∀ i, (ndAt H.ns i).c = 2 → (ndAt H.ns i).k = 0) → ∀ i, (ndAt (R.foldl sh H).ns i).c = 2 → (ndAt (R.foldl sh H).ns i).k = 0 := by
      intro R
      induction R with
      | nil => intro H h; exact h
      | cons x R ih =>
        intro H h
        simp only [List.foldl_cons]
        refine ih (sh H x) (fun i => ?_)
        rcases sh_at H x i with r | ⟨_, r⟩
        · rw [r]; exact h i
        · rw [r]; intro _; rfl
    have := hb R (begin G) (fun i q => by
      exfalso
      simp only [begin, wh_at] at q
      have := (hI.idle (by omega)).2 i
      unfold wh at q
      split at q
      · simp at q
      · exact this.2 q) i hc
    omega

end Go.Proofs.Ytfgdoehiocgkhaa
