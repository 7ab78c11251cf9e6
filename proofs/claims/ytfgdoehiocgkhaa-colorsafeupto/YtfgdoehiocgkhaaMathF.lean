/-
  Which nodes outlive a cycle; no statement is proved here.
-/
import Derived.Test.YtfgdoehiocgkhaaMathE
namespace Go.Proofs.Ytfgdoehiocgkhaa

/-- A set that holds the roots and is closed under what live nodes name. -/
structure Cls (G : Gs) (R : List Int) (T : Nat → Prop) : Prop where
  root : ∀ r ∈ R, T r.toNat
  step : ∀ i, T i → lvN G i → ∀ x ∈ (ndAt G.ns i).s, x ≠ -1 → T x.toNat
  least : ∀ P : Nat → Prop, (∀ r ∈ R, P r.toNat) → (∀ i, P i → lvN G i → ∀ x ∈ (ndAt G.ns i).s, x ≠ -1 → P x.toNat) → ∀ i, T i → P i

theorem mark_nil_lv {H : Gs} (h : Iv H) (hl : H.ln = []) (i : Nat) : lvN (mark H) i ↔ (ndAt H.ns i).c = 3 := by
  have hg : (ndAt H.ns i).c ≠ 2 := fun q => by have := (h.grey i).1 q; rw [hl] at this; cases this
  have e : mark H = { H with ns := H.ns.map die, ln := [], ph := 2, pl := 0, en := H.ns.length } := by simp only [mark, hl]
  rw [e]
  unfold lvN
  simp only [die_at]
  have := h.col i
  unfold die
  split
  · simp; omega
  · omega
theorem mark_nil_ph {H : Gs} (hl : H.ln = []) : (mark H).ph = 2 := by simp only [mark, hl]
theorem sweep_lv {H : Gs} (h : Iv H) (h2 : H.ph = 2) (i : Nat) : lvN (sweep H).1 i ↔ lvN H i := by
  have hpe := h.pe h2
  unfold sweep
  split
  · exact Iff.rfl
  · split
    · rename_i hne h4
      have hl : H.pl < H.ns.length := by omega
      unfold lvN
      simp only
      rw [ndAt_set hl]
      split
      · rename_i e; rw [e, h4]; simp [nz]
      · exact Iff.rfl
    · exact Iff.rfl
theorem sweep_ph {H : Gs} (h2 : H.ph = 2) : (sweep H).1.ph ≠ 1 := by
  unfold sweep
  split
  · simp
  · split <;> simp [h2]

/-! ### nothing is written -/

structure Fz (G : Gs) (R : List Int) (T : Nat → Prop) (H : Gs) : Prop where
  m : H.ph = 1 → (∀ i, (ndAt H.ns i).s = (ndAt G.ns i).s) ∧ (∀ i, lvN H i ↔ lvN G i) ∧ (∀ i, (ndAt H.ns i).c = 2 ∨ (ndAt H.ns i).c = 3 → T i) ∧ ∀ r ∈ R, (ndAt H.ns r.toNat).c ≠ 1
  s : H.ph ≠ 1 → ∀ i, lvN H i ↔ lvN G i ∧ T i

theorem Fz.end_ {G : Gs} {R : List Int} {T : Nat → Prop} {H : Gs} (h : Fz G R T H) (hI : Iv H) (hT : Cls G R T) (h1 : H.ph = 1) (hl : H.ln = []) (hR : ∀ r ∈ R, lvB G r = true) (i : Nat) : (ndAt H.ns i).c = 3 ↔ lvN G i ∧ T i := by
  obtain ⟨m1, m2, m3, m4⟩ := h.m h1
  have hg : ∀ j, (ndAt H.ns j).c ≠ 2 := fun j q => by have := (hI.grey j).1 q; rw [hl] at this; cases this
  have key : ∀ j, lvN G j → (ndAt H.ns j).c ≠ 1 → (ndAt H.ns j).c = 3 := fun j hj hc => by
    have h2 := (m2 j).2 hj
    have := hI.col j
    have := hg j
    have := h2.1
    have := h2.2
    omega
  refine ⟨fun q => ⟨(m2 i).1 ⟨by omega, by omega⟩, m3 i (.inr q)⟩, fun q => ?_⟩
  refine hT.least (fun j => (ndAt H.ns j).c = 3) (fun r hr => ?_) (fun j hj hlj x hx hx1 => ?_) i q.2
  · exact key _ (lvB_iff.1 (hR r hr)).2 (m4 r hr)
  · have hx2 : x ∈ (ndAt H.ns j).s := by rw [m1]; exact hx
    have hl1 := hI.cl j ⟨by omega, by omega⟩ x hx2
    rcases hI.tri j hj x hx2 with r | r
    · exact absurd r hx1
    · rcases hl1 with s | s
      · exact absurd s hx1
      · exact key _ ((m2 _).1 (lvB_iff.1 s).2) r

theorem fz_unit {G : Gs} {R : List Int} {T : Nat → Prop} {H : Gs} (hI : Iv H) (hT : Cls G R T) (hR : ∀ r ∈ R, lvB G r = true) (h0 : H.ph ≠ 0) (h : Fz G R T H) : Fz G R T (unit H).1 := by
  by_cases h1 : H.ph = 1
  · have hu : (unit H).1 = mark H := by simp only [unit, h1, if_true]
    rw [hu]
    obtain ⟨m1, m2, m3, m4⟩ := h.m h1
    cases hl : H.ln with
    | nil =>
      refine ⟨fun q => absurd q (by rw [mark_nil_ph hl]; decide), fun _ i => ?_⟩
      rw [mark_nil_lv hI hl]
      exact h.end_ hI hT h1 hl hR i
    | cons x t =>
      have hx := (hI.grey x).2 (by simp [hl])
      have hxl : x < H.ns.length := lvN_lt (G := H) ⟨by rw [hx]; decide, by rw [hx]; decide⟩
      by_cases hk : (ndAt H.ns x).k = (ndAt H.ns x).s.length
      · have hmk : mark H = { H with ns := H.ns.set x ⟨3, (ndAt H.ns x).s, (ndAt H.ns x).k⟩, ln := t } := by simp only [mark, hl, if_pos hk]
        rw [hmk]
        refine ⟨fun _ => ⟨fun i => ?_, fun i => ?_, fun i => ?_, fun r hr => ?_⟩, fun q => absurd h1 q⟩
        · simp only; rw [ndAt_set hxl]; split
          · rename_i e; rw [e]; exact m1 x
          · exact m1 i
        · unfold lvN; simp only; rw [ndAt_set hxl]; split
          · rename_i e; rw [e]
            have h2 := m2 x
            unfold lvN at h2
            rw [hx] at h2
            simpa using h2
          · exact m2 i
        · simp only; rw [ndAt_set hxl]; split
          · rename_i e; rw [e]; intro _; exact m3 x (.inl hx)
          · exact m3 i
        · simp only; rw [ndAt_set hxl]; split
          · simp
          · exact m4 r hr
      · rw [mark_look hI hl hk]
        have hlo := hI.lo x
        have hkl : (ndAt H.ns x).k < (ndAt H.ns x).s.length := by omega
        have hy : (ndAt H.ns x).s.getD (ndAt H.ns x).k 0 ∈ (ndAt H.ns x).s := by simp [List.getD, hkl]
        have hlx : lvN G x := (m2 x).1 ⟨by omega, by omega⟩
        have hTy : (ndAt H.ns x).s.getD (ndAt H.ns x).k 0 ≠ -1 → T ((ndAt H.ns x).s.getD (ndAt H.ns x).k 0).toNat := fun q => hT.step x (m3 x (.inl hx)) hlx _ (by rw [← m1]; exact hy) q
        generalize (ndAt H.ns x).s.getD (ndAt H.ns x).k 0 = y at *
        have hnx := sh_nw H y x (by omega)
        have hl2 : x < (sh H y).ns.length := by rw [sh_len]; exact hxl
        have hph : (sh H y).ph = H.ph := (sh_fix H y).2.1
        have at_ : ∀ i, ndAt (bump (sh H y) x).ns i = if i = x then ⟨(ndAt H.ns x).c, (ndAt H.ns x).s, (ndAt H.ns x).k + 1⟩ else ndAt (sh H y).ns i := fun i => by
          simp only [bump]; rw [ndAt_set hl2, hnx]
        have atc : ∀ i, (ndAt (bump (sh H y) x).ns i).c = (ndAt (sh H y).ns i).c := fun i => by rw [at_]; split; (next e => rw [e, hnx]); rfl
        have ats : ∀ i, (ndAt (bump (sh H y) x).ns i).s = (ndAt H.ns i).s := fun i => by rw [at_]; split; (next e => rw [e]); exact sh_s H y i
        refine ⟨fun _ => ⟨fun i => by rw [ats]; exact m1 i, fun i => ?_, fun i => ?_, fun r hr => ?_⟩, fun q => by simp only [bump] at q; rw [hph] at q; exact absurd h1 q⟩
        · have : lvN (bump (sh H y) x) i ↔ lvN (sh H y) i := by unfold lvN; rw [atc]
          rw [this, sh_lv]; exact m2 i
        · rw [atc]
          intro q
          rcases sh_at H y i with r | ⟨r1, r2⟩
          · rw [r] at q; exact m3 i q
          · -- i was shaded: it is y
            have hyi : y ≠ -1 ∧ i = y.toNat := by
              by_cases e : y = -1
              · simp only [sh, e, if_true] at r2; rw [r2] at r1; simp at r1
              · refine ⟨e, ?_⟩
                by_cases e2 : i = y.toNat
                · exact e2
                · exfalso
                  simp only [sh, e, if_false, shN] at r2
                  split at r2
                  · rename_i h5
                    have hly : y.toNat < H.ns.length := lvN_lt (G := H) ⟨by rw [h5]; decide, by rw [h5]; decide⟩
                    simp only at r2
                    rw [ndAt_set hly, if_neg e2] at r2
                    rw [r2] at r1; simp at r1
                  · rw [r2] at r1; simp at r1
            rw [hyi.2]
            exact hTy hyi.1
        · rw [atc]
          rcases sh_c2 H y r.toNat with q | q
          · exact q
          · rw [q]; exact m4 r hr
  · have h2 : H.ph = 2 := by have := hI.ph; omega
    have hu : (unit H).1 = (sweep H).1 := by simp only [unit, h1, if_false]
    rw [hu]
    exact ⟨fun q => absurd q (sweep_ph h2), fun _ i => by rw [sweep_lv hI h2]; exact h.s h1 i⟩
theorem fz_work {G : Gs} {R : List Int} {T : Nat → Prop} (hT : Cls G R T) (hR : ∀ r ∈ R, lvB G r = true) : ∀ (u : Nat) {H : Gs}, Iv H → Fz G R T H → Fz G R T (work u H).2.2
  | 0, _, _, h => h
  | u + 1, H, hI, h => by
    by_cases q : H.ph = 0
    · rw [work_idle q]; exact h
    · simp only [work, q, if_false]
      exact fz_work hT hR u (iv_unit hI q) (fz_unit hI hT hR q h)

theorem shs_keep (R : List Int) : ∀ (H : Gs), (∀ i, (ndAt (R.foldl sh H).ns i).s = (ndAt H.ns i).s) ∧ (∀ i, lvN (R.foldl sh H) i ↔ lvN H i) ∧ (∀ i, (ndAt H.ns i).c ≠ 1 → (ndAt (R.foldl sh H).ns i).c ≠ 1) := by
  induction R with
  | nil => intro H; exact ⟨fun _ => rfl, fun _ => Iff.rfl, fun _ h => h⟩
  | cons x R ih =>
    intro H
    obtain ⟨h1, h2, h3⟩ := ih (sh H x)
    simp only [List.foldl_cons]
    exact ⟨fun i => by rw [h1, sh_s], fun i => by rw [h2, sh_lv], fun i hi => h3 i (by rw [sh_nw _ _ _ hi]; exact hi)⟩
theorem shs_root (R : List Int) : ∀ (H : Gs), (∀ r ∈ R, 0 ≤ r) → ∀ r ∈ R, (ndAt (R.foldl sh H).ns r.toNat).c ≠ 1 := by
  induction R with
  | nil => intro H _ r hr; cases hr
  | cons x R ih =>
    intro H h0 r hr
    simp only [List.foldl_cons]
    simp only [List.mem_cons] at hr
    rcases hr with rfl | hr
    · have := sh_c (G := H) r (.inr (h0 r (by simp)))
      rcases this with q | q
      · have := h0 r (by simp); omega
      · exact (shs_keep R (sh H r)).2.2 _ q
    · exact ih (sh H x) (fun y hy => h0 y (by simp [hy])) r hr
/-- What is grey or black behind the shading of roots was so, or is a root. -/
theorem shs_grey (R : List Int) : ∀ (H : Gs) (i : Nat), (ndAt (R.foldl sh H).ns i).c = 2 ∨ (ndAt (R.foldl sh H).ns i).c = 3 → ((ndAt H.ns i).c = 2 ∨ (ndAt H.ns i).c = 3) ∨ ∃ r ∈ R, i = r.toNat := by
  induction R with
  | nil => intro H i h; exact .inl h
  | cons x R ih =>
    intro H i h
    simp only [List.foldl_cons] at h
    rcases ih (sh H x) i h with q | ⟨r, hr, e⟩
    · by_cases e2 : i = x.toNat
      · exact .inr ⟨x, by simp, e2⟩
      · left
        by_cases e : x = -1
        · simp only [sh, e, if_true] at q; exact q
        · simp only [sh, e, if_false, shN] at q
          split at q
          · rename_i h5
            have hly : x.toNat < H.ns.length := lvN_lt (G := H) ⟨by rw [h5]; decide, by rw [h5]; decide⟩
            simp only at q
            rw [ndAt_set hly, if_neg e2] at q
            exact q
          · exact q
    · exact .inr ⟨r, by simp [hr], e⟩
theorem fz_start {G : Gs} {R : List Int} {T : Nat → Prop} (hI : Iv G) (hT : Cls G R T) (h : (start G R).2 = 0) : Fz G R T (start G R).1 := by
  obtain ⟨e, hall, h0⟩ := start_ok h
  rw [e]
  have hR : ∀ r ∈ R, lvB G r = true := List.all_eq_true.1 hall
  obtain ⟨k1, k2, k3⟩ := shs_keep R (begin G)
  have hp : (R.foldl sh (begin G)).ph = 1 := by rw [shs_ph]; rfl
  have hid := hI.idle (by omega)
  refine ⟨fun _ => ⟨fun i => ?_, fun i => ?_, fun i hi => ?_, ?_⟩, fun q => absurd hp q⟩
  · rw [k1]; simp only [begin, wh_at, wh_s]
  · rw [k2]; exact wh_lv i
  · rcases shs_grey R (begin G) i hi with q | ⟨r, hr, e2⟩
    · exfalso
      simp only [begin, wh_at] at q
      have := hI.col i
      unfold wh at q
      split at q
      · simp at q
      · rename_i h5; omega
    · rw [e2]; exact hT.root r hr
  · exact shs_root R _ (fun r hr => (lvB_iff.1 (hR r hr)).1)
/-- What a whole cycle leaves. -/
theorem frees {G G' : Gs} {R : List Int} {T : Nat → Prop} (hI : Iv G) (hT : Cls G R T) (h : (start G R).2 = 0) {H : Gs} (hH : ∃ u, H = (work u (start G R).1).2.2) (hf : Fin H G') (i : Nat) : lvN G' i ↔ lvN G i ∧ T i := by
  obtain ⟨u, rfl⟩ := hH
  have hR : ∀ r ∈ R, lvB G r = true := List.all_eq_true.1 (start_ok h).2.1
  obtain ⟨h0, v, rfl⟩ := hf
  have h1 := fz_work hT hR u (iv_start hI R) (fz_start hI hT h)
  have h2 := fz_work hT hR v (iv_work u (iv_start hI R)) h1
  exact h2.s (by omega) i

end Go.Proofs.Ytfgdoehiocgkhaa
