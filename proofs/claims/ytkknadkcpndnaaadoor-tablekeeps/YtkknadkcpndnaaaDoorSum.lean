/-
  All entries and what is found of them; no statement is proved here.
-/
import Derived.Test.YtkknadkcpndnaaaDoorCnt
namespace Go.Proofs.YtkknadkcpndnaaaDoor
open Pr (Gp GpI sq pl)

theorem sum_all (f : Nat → Nat) : ∀ (G : Nat) (L : List Nat), L.Nodup → (∀ x ∈ L, x < G) → (∀ g, g < G → g ∈ L) → (L.map f).sum = tot f G
  | 0, L, _, h, _ => by
    cases L with
    | nil => rfl
    | cons x L => exact absurd (h x (by simp)) (by omega)
  | k + 1, L, hn, hlt, hall => by
    obtain ⟨A, C, e⟩ := List.append_of_mem (hall k (by omega))
    subst e
    rw [List.nodup_append] at hn
    obtain ⟨hA, hkC, hAC⟩ := hn
    rw [List.nodup_cons] at hkC
    have ih := sum_all f k (A ++ C) (List.nodup_append.2 ⟨hA, hkC.2, fun a ha c hc => hAC a ha c (by simp [hc])⟩) (fun x hx => by
      have h1 : x < k + 1 := hlt x (by rcases List.mem_append.1 hx with q | q <;> simp [q])
      have h2 : x ≠ k := by
        rcases List.mem_append.1 hx with q | q
        · exact hAC x q k (by simp)
        · rintro rfl; exact hkC.1 q
      omega) (fun g hg => by
      have := hall g (by omega)
      rcases List.mem_append.1 this with q | q
      · simp [q]
      · rcases List.mem_cons.1 q with r | r
        · omega
        · simp [r])
    rw [tot, ← ih]
    simp only [List.map_append, List.map_cons, List.sum_append, List.sum_cons]
    omega
theorem sq_sum {h G : Nat} (hG : Gp G) (f : Nat → Nat) : ((sq h G).map f).sum = tot f G :=
  sum_all f G _ (sq_nodup hG) (fun x hx => by obtain ⟨n, _, rfl⟩ := List.mem_map.1 hx; exact Pr.pl_lt _ hG.pos n) (fun g hg => by
    obtain ⟨k, hk, hp⟩ := Pr.pl_onto (h := h) hG hg
    exact List.mem_iff_getElem?.2 ⟨k, by rw [Pr.sq_at h G hk, hp]⟩)
theorem egr_eq (T : List Nat) (g : Nat) : egr T g = ((List.range 8).filter fun i => decide (bt T g i < 128)).map fun i => (hsw T g i, idw T g i) := by
  unfold egr esl
  rw [bsF_fl]
  rfl
theorem egr_cnt (T : List Nat) (g h d : Nat) : (egr T g).count (h, d) = (sl T h g).count d := by
  rw [egr_eq, sl_cnt, List.count_eq_countP, List.countP_map, List.countP_eq_length_filter, List.filter_filter]
  unfold cnt
  congr 1
  apply List.filter_congr
  intro i _
  simp only [Function.comp]
  by_cases q1 : hsw T g i = h
  · by_cases q2 : idw T g i = d
    · simp [q1, q2]
    · simp [q1, q2]
  · simp [q1]
theorem egr_len1 (T : List Nat) (g h : Nat) : (egr T g).countP (fun p => decide (p.1 = h)) = (sl T h g).length := by
  rw [egr_eq, sl_len, List.countP_map, List.countP_eq_length_filter, List.filter_filter]
  unfold cnt
  congr 1
  apply List.filter_congr
  intro i _
  simp [Function.comp, Bool.and_comm]
theorem ents_tot_cnt (T : List Nat) (h d : Nat) : ∀ k, (ents T k).count (h, d) = tot (fun g => (sl T h g).count d) k
  | 0 => rfl
  | k + 1 => by rw [ents_succ, List.count_append, ents_tot_cnt T h d k, egr_cnt, tot]
theorem ents_tot_len (T : List Nat) (h : Nat) : ∀ k, (ents T k).countP (fun p => decide (p.1 = h)) = tot (fun g => (sl T h g).length) k
  | 0 => rfl
  | k + 1 => by rw [ents_succ, List.countP_append, ents_tot_len T h k, egr_len1, tot]
theorem ents_tot (T : List Nat) : ∀ k, (ents T k).length = nfl T k
  | 0 => rfl
  | k + 1 => by
    rw [ents_succ, List.length_append, ents_tot T k, nfl, egr_eq, List.length_map, pc_fl]
    rfl
theorem fnd_cnt {T : List Nat} {G : Nat} (hS : Sd T G) (h d : Nat) : (fnd T h G).count d = (ents T G).count (h, d) := by
  rw [fnd_all hS, ents_tot_cnt, ← sq_sum (h := h / 128) hS.shp.gp]
  induction sq (h / 128) G with
  | nil => rfl
  | cons g L ih => rw [List.flatMap_cons, List.count_append, ih, List.map_cons, List.sum_cons]
theorem fnd_lenE {T : List Nat} {G : Nat} (hS : Sd T G) (h : Nat) : (fnd T h G).length = (ents T G).countP (fun p => decide (p.1 = h)) := by
  rw [fnd_all hS, ents_tot_len, ← sq_sum (h := h / 128) hS.shp.gp]
  induction sq (h / 128) G with
  | nil => rfl
  | cons g L ih => rw [List.flatMap_cons, List.length_append, ih, List.map_cons, List.sum_cons]

/-! ### filling a new table -/
/-- The table X holds just the entries E, and nothing is deleted in it. -/
structure Hol (X : List Nat) (G : Nat) (E : List (Nat × Nat)) : Prop where
  sd : Sd X G
  nd : X.getD 2 0 + E.length = 7 * G
  len : X.getD 1 0 = E.length
  cnt : ∀ h d, (fnd X h G).count d = E.count (h, d)
  tot : ∀ h, (fnd X h G).length = E.countP (fun p => decide (p.1 = h))
theorem hol_nodel {X : List Nat} {G : Nat} {E : List (Nat × Nat)} (h : Hol X G E) {g i : Nat} (hg : g < G) (hi : i < 8) : bt X g i ≠ 254 := by
  intro q
  have h1 := h.sd.use
  have h2 := h.sd.cnt
  rw [h.len] at h2
  have h3 := h.nd
  have key : nfl X G + 1 ≤ nus X G := by
    rw [nfl_tot, nus_tot]
    have hle : ∀ g, (Go.Proofs.YtkknadkcpndnaaaDoor.cnt fun i => decide (bt X g i < 128)) ≤ Go.Proofs.YtkknadkcpndnaaaDoor.cnt fun i => decide (bt X g i < 128) || decide (bt X g i = 254) := fun g => by
      unfold Go.Proofs.YtkknadkcpndnaaaDoor.cnt
      rw [← List.countP_eq_length_filter, ← List.countP_eq_length_filter]
      exact List.countP_mono_left fun a _ ha => by rw [ha]; rfl
    have hlt : (Go.Proofs.YtkknadkcpndnaaaDoor.cnt fun i => decide (bt X g i < 128)) + 1 ≤ Go.Proofs.YtkknadkcpndnaaaDoor.cnt fun i => decide (bt X g i < 128) || decide (bt X g i = 254) := by
      have e := cnt_flip (p := fun j => decide (bt X g j < 128)) (q := fun j => decide (bt X g j < 128) || decide (j = i)) hi (fun j _ hne => by simp [hne]) (by simp; omega) (by simp)
      rw [← e]
      unfold Go.Proofs.YtkknadkcpndnaaaDoor.cnt
      rw [← List.countP_eq_length_filter, ← List.countP_eq_length_filter]
      exact List.countP_mono_left fun a _ ha => by
        simp only [Bool.or_eq_true, decide_eq_true_eq] at ha ⊢
        rcases ha with r | r
        · exact .inl r
        · right; rw [r]; exact q
    have hmono : ∀ k, Go.Proofs.YtkknadkcpndnaaaDoor.tot (fun g => Go.Proofs.YtkknadkcpndnaaaDoor.cnt fun i => decide (bt X g i < 128)) k ≤ Go.Proofs.YtkknadkcpndnaaaDoor.tot (fun g => Go.Proofs.YtkknadkcpndnaaaDoor.cnt fun i => decide (bt X g i < 128) || decide (bt X g i = 254)) k := by
      intro k
      induction k with
      | zero => exact Nat.le_refl _
      | succ k ih => rw [Go.Proofs.YtkknadkcpndnaaaDoor.tot, Go.Proofs.YtkknadkcpndnaaaDoor.tot]; have := hle k; omega
    have hstr : ∀ k, g < k → Go.Proofs.YtkknadkcpndnaaaDoor.tot (fun g => Go.Proofs.YtkknadkcpndnaaaDoor.cnt fun i => decide (bt X g i < 128)) k + 1 ≤ Go.Proofs.YtkknadkcpndnaaaDoor.tot (fun g => Go.Proofs.YtkknadkcpndnaaaDoor.cnt fun i => decide (bt X g i < 128) || decide (bt X g i = 254)) k := by
      intro k
      induction k with
      | zero => intro h; omega
      | succ k ih =>
        intro h
        rw [Go.Proofs.YtkknadkcpndnaaaDoor.tot, Go.Proofs.YtkknadkcpndnaaaDoor.tot]
        by_cases e : g = k
        · subst e; have := hmono g; omega
        · have := ih (by omega); have := hle k; omega
    exact hstr G hg
  omega
theorem hol_new {G : Nat} (hG : Gp G) : Hol (newT G) G [] := by
  have hS := sd_new hG
  have hb : ∀ g, g < G → ∀ i, i < 8 → bt (newT G) g i = 128 := fun g hg i hi => by unfold bt newT; rw [new_cw hg hg]; exact byt_new i hi
  have hz : ∀ h, fnd (newT G) h G = [] := fun h => by
    rw [fnd_all hS, List.flatMap_eq_nil_iff]
    intro g hg
    have hgG : g < G := by obtain ⟨n, _, rfl⟩ := List.mem_map.1 hg; exact Pr.pl_lt _ hG.pos n
    unfold sl
    rw [List.map_eq_nil_iff, List.filter_eq_nil_iff]
    intro i hi
    rw [hb g hgG i (by simpa using hi)]
    simp
  refine ⟨hS, ?_, ?_, fun h d => by rw [hz]; rfl, fun h => by rw [hz]; rfl⟩
  · unfold newT; rw [newK_at G G (by omega)]; simp
  · unfold newT; rw [newK_at G G (by omega)]; simp
theorem hol_ins {X X' : List Nat} {G h d : Nat} {E : List (Nat × Nat)} (hH : Hol X G E) (hh : h < 18446744073709551616) (hd : d < 18446744073709551616) (hI : InsT X G h d (some X')) : Hol X' G (E ++ [(h, d)]) := by
  obtain ⟨h1, h2, h3, h4, h5⟩ := ins_facts hH.sd hh hd hI
  obtain ⟨g, i, hF, hno, rfl⟩ := hI
  obtain ⟨_, u, hg, hi, hb, _, h7⟩ := ins_sd hH.sd hh hd hF hno
  have hctl := (scB_iff.1 (hH.sd.ctl g hg)).1 i hi
  have hne := hol_nodel hH hg hi
  have h128 : bt X g i = 128 := by
    have : bt X g i < 128 ∨ bt X g i = 128 ∨ bt X g i = 254 := hctl
    omega
  rw [if_pos h128] at h7
  refine ⟨h1, ?_, ?_, fun x y => ?_, fun x => ?_⟩
  · have := hH.nd; rw [List.length_append, List.length_singleton]; omega
  · rw [h2, hH.len, List.length_append]; rfl
  · rw [List.count_append, List.count_singleton]
    by_cases e : x = h
    · subst e
      by_cases e2 : y = d
      · subst e2; rw [h3, hH.cnt]; simp
      · have hy : (fnd (insAt X g i x d) x G).count y = (fnd X x G).count y := by
          have l1 := h4
          have c1 := h3
          have hS' := h1
          rw [fnd_cnt hS', fnd_cnt hH.sd, ents_tot_cnt, ents_tot_cnt]
          apply tot_same
          intro g' hg'
          rw [sl_cnt, sl_cnt]
          apply cnt_congr
          intro j hj
          rw [u.bt g' hg' j hj, u.hs g' hg' j hj, u.id g' hg' j hj]
          by_cases q : g' = g ∧ j = i
          · rw [if_pos q, if_pos q, if_pos q]
            obtain ⟨rfl, rfl⟩ := q
            rw [h128]
            simp; intro _ r; exact absurd r.symm e2
          · rw [if_neg q, if_neg q, if_neg q]
        rw [hy, hH.cnt]
        have : ((x, d) == (x, y)) = false := by simp; exact fun r => e2 r.symm
        simp [this]
    · rw [h5 x e, hH.cnt]
      have : ((h, d) == (x, y)) = false := by simp; exact fun r => absurd r.symm e
      simp [this]
  · rw [List.countP_append]
    by_cases e : x = h
    · subst e; rw [h4, hH.tot]; simp
    · rw [h5 x e, hH.tot]; simp; exact fun r => e r.symm
/-- There is always an open slot. -/
theorem hol_full {X : List Nat} {G h d : Nat} {E : List (Nat × Nat)} (hH : Hol X G E) (hI : InsT X G h d none) : E.length = 7 * G := by
  have hex : ∃ g i, Fst X h G g i := by
    have hpos : nus X G < 8 * G := by
      have := hH.sd.use
      have := hH.sd.shp.gp.pos
      omega
    have hg : ∃ g, g < G ∧ opn X g ≠ [] := by
      refine Classical.byContradiction fun q => ?_
      have hall : ∀ g, g < G → opn X g = [] := fun g hg => Classical.byContradiction fun r => q ⟨g, hg, r⟩
      have : ∀ k, k ≤ G → nus X k = 8 * k := by
        intro k
        induction k with
        | zero => intro _; rfl
        | succ k ih =>
          intro hk
          rw [nus, ih (by omega), pc_us]
          have ho := hall k (by omega)
          rw [opn_eq, List.filter_eq_nil_iff] at ho
          have hc := (scB_iff.1 (hH.sd.ctl k (by omega))).1
          rw [cnt_congr (q := fun _ => true) fun i hi => by
            have h1 := ho i (by simpa using hi)
            simp [bt] at h1
            rcases hc i hi with r | r | r
            · simp [r]
            · exact absurd r (of_decide_eq_false h1.1)
            · exact absurd r (of_decide_eq_false h1.2)]
          show 8 * k + 8 = _
          omega
      have := this G (Nat.le_refl _)
      omega
    obtain ⟨g, hgG, hne⟩ := hg
    have key : ∀ L : List Nat, g ∈ L → ∃ A g' C, L = A ++ g' :: C ∧ (∀ x ∈ A, opn X x = []) ∧ opn X g' ≠ [] := by
      intro L
      induction L with
      | nil => intro h; cases h
      | cons a L ih =>
        intro hm
        by_cases q : opn X a = []
        · have : g ∈ L := by
            rcases List.mem_cons.1 hm with r | r
            · rw [r] at hne; exact absurd q hne
            · exact r
          obtain ⟨A, g', C, e, h1, h2⟩ := ih this
          exact ⟨a :: A, g', C, by rw [e]; rfl, fun x hx => by rcases List.mem_cons.1 hx with r | r; rw [r]; exact q; exact h1 x r, h2⟩
        · exact ⟨[], a, L, rfl, by simp, q⟩
    obtain ⟨k, hk, hp⟩ := Pr.pl_onto (h := h / 128) hH.sd.shp.gp hgG
    obtain ⟨A, g', C, e, h1, h2⟩ := key (sq (h / 128) G) (List.mem_iff_getElem?.2 ⟨k, by rw [Pr.sq_at _ G hk, hp]⟩)
    cases ho : opn X g' with
    | nil => exact absurd ho h2
    | cons i l => exact ⟨g', i, A, C, l, e, h1, ho⟩
  obtain ⟨g, i, hF⟩ := hex
  have := (hI g i hF).2
  have := hH.nd
  omega
end Go.Proofs.YtkknadkcpndnaaaDoor
