/-
  DMath, DBase, Cl2: joined by program; no statement is proved here.
-/
import Derived.Test.YtkfagfdefkaenaaDoorZF
/-
  Directories of tables, in plain words; no statement is proved here.
-/
namespace Go.Proofs.YtkfagfdefkaenaaDoor
open Pr (Gp GpI sq pl)

theorem hol_perm {X : List Nat} {G : Nat} {E : List (Nat × Nat)} (h : Hol X G E) : (ents X G).Perm E := by
  rw [List.perm_iff_count]
  rintro ⟨a, b⟩
  rw [← fnd_cnt h.sd, h.cnt]
theorem up_perm {T T' : List Nat} {G g0 i0 b h d : Nat} (u : Up T T' G g0 i0 b h d) (hg : g0 < G) (hi : i0 < 8) (hb : b < 128) (h0 : 128 ≤ bt T g0 i0) : (ents T' G).Perm ((h, d) :: ents T G) := by
  rw [List.perm_iff_count]
  rintro ⟨x, y⟩
  rw [List.count_cons, ents_tot_cnt, ents_tot_cnt]
  have key : ∀ g, g < G → g ≠ g0 → (sl T' x g).count y = (sl T x g).count y := by
    intro g hgG hne
    rw [sl_cnt, sl_cnt]
    apply cnt_congr
    intro j hj
    rw [u.bt g hgG j hj, u.hs g hgG j hj, u.id g hgG j hj, if_neg (fun q => hne q.1), if_neg (fun q => hne q.1), if_neg (fun q => hne q.1)]
  by_cases e : x = h ∧ y = d
  · obtain ⟨rfl, rfl⟩ := e
    have h1 : (sl T' x g0).count y = (sl T x g0).count y + 1 := by
      rw [sl_cnt, sl_cnt]
      exact cnt_flip (p := fun i => (decide (bt T g0 i < 128) && decide (hsw T g0 i = x)) && decide (idw T g0 i = y)) (q := fun i => (decide (bt T' g0 i < 128) && decide (hsw T' g0 i = x)) && decide (idw T' g0 i = y)) hi (fun j hj hne => by
        simp only [u.bt g0 hg j hj, u.hs g0 hg j hj, u.id g0 hg j hj, hne, and_false, if_false]) (by simp; omega) (by
        simp only [u.bt g0 hg i0 hi, u.hs g0 hg i0 hi, u.id g0 hg i0 hi, and_self, if_true]; simp [hb])
    rw [tot_up (f := fun g => (sl T x g).count y) (f' := fun g => (sl T' x g).count y) h1 hg key]
    simp
  · rw [tot_same (f := fun g => (sl T x g).count y) (f' := fun g => (sl T' x g).count y) (k := G) fun g hgG => by
      by_cases q : g = g0
      · subst q
        show (sl T' x g).count y = (sl T x g).count y
        rw [sl_cnt, sl_cnt]
        apply cnt_congr
        intro j hj
        rw [u.bt g hgG j hj, u.hs g hgG j hj, u.id g hgG j hj]
        by_cases r : j = i0
        · subst r
          rw [if_pos ⟨rfl, rfl⟩, if_pos ⟨rfl, rfl⟩, if_pos ⟨rfl, rfl⟩, show decide (bt T g j < 128) = false from decide_eq_false (by omega)]
          by_cases s : x = h
          · subst s
            rw [show decide (d = y) = false from decide_eq_false fun r => e ⟨rfl, r.symm⟩]
            simp
          · rw [show decide (h = x) = false from decide_eq_false fun r => s r.symm]
            simp
        · rw [if_neg (fun q => r q.2), if_neg (fun q => r q.2), if_neg (fun q => r q.2)]
      · exact key g hgG q]
    have : ((h, d) == (x, y)) = false := by
      simp only [beq_eq_false_iff_ne, ne_eq, Prod.mk.injEq]
      exact fun r => e ⟨r.1.symm, r.2.symm⟩
    simp [this]
theorem ins_perm {T T' : List Nat} {G h d : Nat} (hS : Sd T G) (hh : h < 18446744073709551616) (hd : d < 18446744073709551616) (hI : InsT T G h d (some T')) : Sd T' G ∧ (ents T' G).Perm ((h, d) :: ents T G) := by
  obtain ⟨g, i, hF, hno, rfl⟩ := hI
  obtain ⟨h1, h2, h3, h4, h5, _⟩ := ins_sd hS hh hd hF hno
  exact ⟨h1, up_perm h2 h3 h4 (Nat.mod_lt _ (by omega)) h5⟩
theorem del_perm {T T' : List Nat} {G h d : Nat} (hS : Sd T G) (hD : DelT T G h d (some T')) : Sd T' G ∧ (ents T G).Perm ((h, d) :: ents T' G) := by
  obtain ⟨A, x, C, hm, _, hx, rfl⟩ := hD
  obtain ⟨h1, h2, h3, h4⟩ := mts_mem hS (x := x) (by rw [hm]; simp)
  obtain ⟨q1, q2, q3⟩ := del_sd hS h1 h2 h3
  have hb : 128 ≤ bt (remAt T x.1 x.2) x.1 x.2 := by
    rw [q2.bt _ h1 _ h2, if_pos ⟨rfl, rfl⟩]
    split <;> omega
  have hrev := q2.rev hS.shp
  rw [h4, hx] at hrev
  exact ⟨q1, up_perm hrev h1 h2 h3 hb⟩
theorem del_gone {T : List Nat} {G h d : Nat} (hS : Sd T G) (hD : DelT T G h d none) : (ents T G).count (h, d) = 0 := by
  rw [← fnd_cnt hS]
  refine Classical.byContradiction fun q => ?_
  exact del_some (by omega) hD
theorem ins_left {X : List Nat} {G h d : Nat} (hS : Sd X G) (hI : InsT X G h d none) : X.getD 2 0 = 0 := by
  have hex : ∃ g i, Fst X h G g i := by
    have hpos : nus X G < 8 * G := by
      have := hS.use
      have := hS.shp.gp.pos
      omega
    have hg : ∃ g, g < G ∧ opn X g ≠ [] := by
      refine Classical.byContradiction fun q => ?_
      have hall : ∀ g, g < G → opn X g = [] := fun g hg => Classical.byContradiction fun r => q ⟨g, hg, r⟩
      have : ∀ k, k ≤ G → nus X k = 8 * k := by
        intro k
        induction k with
        | zero => intro _; rfl
        | succ k ih =>
          intro hk
          rw [nus, ih (by omega), pc_us]
          have ho := hall k (by omega)
          rw [opn_eq, List.filter_eq_nil_iff] at ho
          have hc := (scB_iff.1 (hS.ctl k (by omega))).1
          rw [cnt_congr (q := fun _ => true) fun i hi => by
            have h1 := ho i (by simpa using hi)
            simp [bt] at h1
            rcases hc i hi with r | r | r
            · simp [r]
            · exact absurd r (of_decide_eq_false h1.1)
            · exact absurd r (of_decide_eq_false h1.2)]
          show 8 * k + 8 = _
          omega
      have := this G (Nat.le_refl _)
      omega
    obtain ⟨g, hgG, hne⟩ := hg
    have key : ∀ L : List Nat, g ∈ L → ∃ A g' C, L = A ++ g' :: C ∧ (∀ x ∈ A, opn X x = []) ∧ opn X g' ≠ [] := by
      intro L
      induction L with
      | nil => intro h; cases h
      | cons a L ih =>
        intro hm
        by_cases q : opn X a = []
        · have : g ∈ L := by
            rcases List.mem_cons.1 hm with r | r
            · rw [r] at hne; exact absurd q hne
            · exact r
          obtain ⟨A, g', C, e, h1, h2⟩ := ih this
          exact ⟨a :: A, g', C, by rw [e]; rfl, fun x hx => by rcases List.mem_cons.1 hx with r | r; rw [r]; exact q; exact h1 x r, h2⟩
        · exact ⟨[], a, L, rfl, by simp, q⟩
    obtain ⟨k, hk, hp⟩ := Pr.pl_onto (h := h / 128) hS.shp.gp hgG
    obtain ⟨A, g', C, e, h1, h2⟩ := key (sq (h / 128) G) (List.mem_iff_getElem?.2 ⟨k, by rw [Pr.sq_at _ G hk, hp]⟩)
    cases ho : opn X g' with
    | nil => exact absurd ho h2
    | cons i l => exact ⟨g', i, A, C, l, e, h1, ho⟩
  obtain ⟨g, i, hF⟩ := hex
  exact (hI g i hF).2
theorem sd_len {T : List Nat} {G : Nat} (hS : Sd T G) : (ents T G).length = T.getD 1 0 := by rw [ents_tot, hS.cnt]
theorem sd_len_le {T : List Nat} {G : Nat} (_hS : Sd T G) : (ents T G).length ≤ 8 * G := by rw [ents_tot]; exact nfl_le T G

theorem tot_le {f f' : Nat → Nat} : ∀ {k : Nat}, (∀ g, g < k → f g ≤ f' g) → tot f k ≤ tot f' k
  | 0, _ => Nat.le_refl _
  | k + 1, h => by rw [tot, tot]; have := tot_le (k := k) fun g hg => h g (by omega); have := h k (by omega); omega
theorem sd_len7 {T : List Nat} {G : Nat} (hS : Sd T G) : (ents T G).length ≤ 7 * G := by
  have h : nfl T G ≤ nus T G := by
    rw [nfl_tot, nus_tot]
    refine tot_le fun g _ => ?_
    unfold cnt
    rw [← List.countP_eq_length_filter, ← List.countP_eq_length_filter]
    refine List.countP_mono_left fun i _ hi => ?_
    simp only [decide_eq_true_eq] at hi
    simp [hi]
  have := hS.use
  rw [ents_tot]
  omega

/-! ### a directory -/
structure Tq where
  d : Nat
  G : Nat
  T : List Nat
def wdt (dp : Nat) (t : Tq) : Nat := 2 ^ (dp - t.d)
def pre (dp : Nat) : List Tq → Nat
  | [] => 0
  | t :: L => wdt dp t + pre dp L
/-- The slots that the depths of the tables ask for, from the number k on. -/
def slo (dp : Nat) : List Tq → Nat → List Nat
  | [], _ => []
  | t :: L, k => List.replicate (wdt dp t) k ++ slo dp L (k + 1)
/-- The leading bits of a hash. -/
def ld (h k : Nat) : Nat := h / 2 ^ (64 - k)
/-- What is asked of one table whose slots begin at p. -/
structure Ot (dp p : Nat) (t : Tq) : Prop where
  le : t.d ≤ dp
  mul : p % wdt dp t = 0
  sd : Sd t.T t.G
  lead : ∀ e ∈ ents t.T t.G, ld e.1 t.d = p / wdt dp t
def Ok (dp : Nat) : List Tq → Nat → Prop
  | [], _ => True
  | t :: L, p => Ot dp p t ∧ Ok dp L (p + wdt dp t)
structure Dq (dp : Nat) (L : List Tq) : Prop where
  le : dp ≤ 6
  ok : Ok dp L 0
  all : pre dp L = 2 ^ dp
/-- All entries. -/
def En (L : List Tq) : List (Nat × Nat) := L.flatMap fun t => ents t.T t.G
theorem En_app (A B : List Tq) : En (A ++ B) = En A ++ En B := by simp [En]
theorem En_cons (t : Tq) (B : List Tq) : En (t :: B) = ents t.T t.G ++ En B := by simp [En]
theorem wdt_pos (dp : Nat) (t : Tq) : 0 < wdt dp t := Nat.pow_pos (by omega)
theorem pre_app (dp : Nat) : ∀ A B : List Tq, pre dp (A ++ B) = pre dp A + pre dp B
  | [], B => by simp [pre]
  | t :: A, B => by rw [List.cons_append, pre, pre, pre_app dp A B]; omega
theorem slo_len (dp : Nat) : ∀ (L : List Tq) (k : Nat), (slo dp L k).length = pre dp L
  | [], _ => rfl
  | t :: L, k => by rw [slo, List.length_append, List.length_replicate, slo_len dp L, pre]
theorem slo_app (dp : Nat) : ∀ (A B : List Tq) (k : Nat), slo dp (A ++ B) k = slo dp A k ++ slo dp B (k + A.length)
  | [], B, k => by simp [slo]
  | t :: A, B, k => by
    rw [List.cons_append, slo, slo, slo_app dp A B, List.append_assoc, List.length_cons]
    congr 3
    omega
theorem ok_app (dp : Nat) : ∀ (A B : List Tq) (p : Nat), Ok dp (A ++ B) p ↔ Ok dp A p ∧ Ok dp B (p + pre dp A)
  | [], B, p => by simp [Ok, pre]
  | t :: A, B, p => by
    rw [List.cons_append, Ok, Ok, ok_app dp A B, pre, Nat.add_assoc]
    exact and_assoc.symm
theorem ld_dp {h dp k : Nat} (h1 : k ≤ dp) (h2 : dp ≤ 64) : ld h dp / 2 ^ (dp - k) = ld h k := by
  unfold ld
  rw [Nat.div_div_eq_div_mul, ← Nat.pow_add]
  congr 2
  omega
theorem ld_lt {h dp : Nat} (hh : h < 18446744073709551616) (h2 : dp ≤ 64) : ld h dp < 2 ^ dp := by
  unfold ld
  rw [Nat.div_lt_iff_lt_mul (Nat.pow_pos (by omega)), ← Nat.pow_add, show dp + (64 - dp) = 64 from by omega]
  exact hh
theorem in_wdt {i p w : Nat} (hw : 0 < w) (hm : p % w = 0) (h : i / w = p / w) : p ≤ i ∧ i < p + w := by
  have h1 := Nat.div_add_mod i w
  have h2 := Nat.div_add_mod p w
  have h3 := Nat.mod_lt i hw
  rw [h] at h1
  omega
theorem wdt_in {i p w : Nat} (_hw : 0 < w) (hm : p % w = 0) (h1 : p ≤ i) (h2 : i < p + w) : i / w = p / w := by
  have h3 := Nat.div_add_mod p w
  rw [hm, Nat.add_zero] at h3
  refine Nat.div_eq_of_lt_le ?_ ?_
  · rw [Nat.mul_comm, h3]; exact h1
  · rw [Nat.add_mul, Nat.one_mul, Nat.mul_comm, h3]; exact h2
theorem ot_rng {dp p : Nat} {t : Tq} (hdp : dp ≤ 64) (h : Ot dp p t) {e : Nat × Nat} (he : e ∈ ents t.T t.G) : p ≤ ld e.1 dp ∧ ld e.1 dp < p + wdt dp t := by
  refine in_wdt (wdt_pos dp t) h.mul ?_
  rw [← h.lead e he]
  exact ld_dp h.le hdp
theorem ok_rng {dp : Nat} (hdp : dp ≤ 64) : ∀ (A : List Tq) (p : Nat), Ok dp A p → ∀ e ∈ En A, p ≤ ld e.1 dp ∧ ld e.1 dp < p + pre dp A
  | [], _, _, e, he => by simp [En] at he
  | t :: A, p, h, e, he => by
    rw [En_cons, List.mem_append] at he
    rw [pre]
    rcases he with he | he
    · have := ot_rng hdp h.1 he; omega
    · have := ok_rng hdp A _ h.2 e he; omega
theorem slo_at (dp : Nat) : ∀ (L : List Tq) (k i : Nat), i < pre dp L → ∃ A t B, L = A ++ t :: B ∧ (slo dp L k)[i]? = some (k + A.length) ∧ pre dp A ≤ i ∧ i < pre dp A + wdt dp t
  | [], _, _, h => by simp [pre] at h
  | t :: L, k, i, h => by
    by_cases q : i < wdt dp t
    · refine ⟨[], t, L, rfl, ?_, by simp [pre], by simpa [pre] using q⟩
      rw [slo, List.getElem?_append_left (by simpa using q), List.getElem?_replicate, if_pos q]
      rfl
    · obtain ⟨A, t', B, rfl, h1, h2, h3⟩ := slo_at dp L (k + 1) (i - wdt dp t) (by rw [pre] at h; omega)
      refine ⟨t :: A, t', B, rfl, ?_, by rw [pre]; omega, by rw [pre]; omega⟩
      rw [slo, List.getElem?_append_right (by simp; omega), List.length_replicate, h1, List.length_cons]
      congr 1
      omega
/-- The table of a hash. -/
structure TabOf (dp : Nat) (L A : List Tq) (t : Tq) (B : List Tq) (h : Nat) : Prop where
  eq : L = A ++ t :: B
  slot : (slo dp L 0)[ld h dp]? = some A.length
  lt : ld h dp < 2 ^ dp
  lead : ld h t.d = pre dp A / wdt dp t
  before : ∀ d, (En A).count (h, d) = 0
  behind : ∀ d, (En B).count (h, d) = 0
  ot : Ot dp (pre dp A) t
theorem tab_of {dp : Nat} {L : List Tq} (hD : Dq dp L) {h : Nat} (hh : h < 18446744073709551616) : ∃ A t B, TabOf dp L A t B h := by
  have hdp := hD.le
  have hlt := ld_lt (dp := dp) hh (by omega)
  obtain ⟨A, t, B, rfl, h1, h2, h3⟩ := slo_at dp L 0 (ld h dp) (by rw [hD.all]; exact hlt)
  have hok := hD.ok
  rw [ok_app, Ok, Nat.zero_add] at hok
  obtain ⟨k1, k2, k3⟩ := hok
  refine ⟨A, t, B, rfl, by rw [h1, Nat.zero_add], hlt, ?_, fun d => ?_, fun d => ?_, k2⟩
  · rw [← ld_dp k2.le (show dp ≤ 64 by omega)]
    exact wdt_in (wdt_pos dp t) k2.mul h2 h3
  · rw [List.count_eq_zero]
    intro hm
    have := ok_rng (by omega) A 0 k1 _ hm
    simp only at this
    omega
  · rw [List.count_eq_zero]
    intro hm
    have := ok_rng (by omega) B _ k3 _ hm
    simp only at this
    omega
theorem TabOf.cnt {dp : Nat} {L A B : List Tq} {t : Tq} {h : Nat} (x : TabOf dp L A t B h) (d : Nat) : (En L).count (h, d) = (ents t.T t.G).count (h, d) := by
  rw [x.eq, En_app, En_cons, List.count_append, List.count_append, x.before, x.behind]; omega
/-- A table of the same depth in the place of one. -/
theorem dq_rep {dp : Nat} {A B : List Tq} {t t' : Tq} (h : Dq dp (A ++ t :: B)) (hd : t'.d = t.d) (hS : Sd t'.T t'.G) (hl : ∀ e ∈ ents t'.T t'.G, ld e.1 t'.d = pre dp A / wdt dp t') : Dq dp (A ++ t' :: B) := by
  have hw : wdt dp t' = wdt dp t := by unfold wdt; rw [hd]
  obtain ⟨h1, h2, h3⟩ := h
  refine ⟨h1, ?_, ?_⟩
  · rw [ok_app, Ok] at h2 ⊢
    refine ⟨h2.1, ⟨by rw [hd]; exact h2.2.1.le, by rw [hw]; exact h2.2.1.mul, hS, ?_⟩, by rw [hw]; exact h2.2.2⟩
    rw [Nat.zero_add]; exact hl
  · rw [pre_app, pre] at h3 ⊢
    rw [hw]; exact h3
theorem slo_rep (dp : Nat) {A B : List Tq} {t t' : Tq} (hd : t'.d = t.d) (k : Nat) : slo dp (A ++ t' :: B) k = slo dp (A ++ t :: B) k := by
  rw [slo_app, slo_app, slo, slo]
  unfold wdt
  rw [hd]
theorem ok_up {dp : Nat} : ∀ (L : List Tq) (p : Nat), Ok dp L p → Ok (dp + 1) L (2 * p) ∧ pre (dp + 1) L = 2 * pre dp L
  | [], _, _ => ⟨trivial, rfl⟩
  | t :: L, p, h => by
    have hw : wdt (dp + 1) t = 2 * wdt dp t := by
      have := h.1.le
      unfold wdt
      rw [show dp + 1 - t.d = (dp - t.d) + 1 from by omega, Nat.pow_succ, Nat.mul_comm]
    obtain ⟨k1, k2⟩ := ok_up L _ h.2
    refine ⟨⟨⟨by have := h.1.le; omega, ?_, h.1.sd, fun e he => ?_⟩, ?_⟩, by rw [pre, pre, k2, hw]; omega⟩
    · rw [hw, Nat.mul_mod_mul_left, h.1.mul]
    · rw [hw, Nat.mul_div_mul_left _ _ (by omega)]; exact h.1.lead e he
    · rw [hw, ← Nat.mul_add]; exact k1
theorem dq_up {dp : Nat} {L : List Tq} (h : Dq dp L) (h6 : dp < 6) : Dq (dp + 1) L := by
  obtain ⟨k1, k2⟩ := ok_up L 0 h.ok
  exact ⟨by omega, k1, by rw [k2, h.all, Nat.pow_succ]; omega⟩
theorem ld_next {h k : Nat} (hk : k < 64) : ld h (k + 1) = 2 * ld h k + ld h (k + 1) % 2 := by
  have := ld_dp (h := h) (dp := k + 1) (k := k) (by omega) (by omega)
  rw [show k + 1 - k = 1 from by omega, Nat.pow_one] at this
  omega
/-- Two tables in the place of one, by the next bit. -/
theorem dq_split {dp : Nat} {A B : List Tq} {t t0 t1 : Tq} (h : Dq dp (A ++ t :: B)) (hlt : t.d < dp) (h0 : t0.d = t.d + 1) (h1 : t1.d = t.d + 1) (s0 : Sd t0.T t0.G) (s1 : Sd t1.T t1.G)
    (e0 : ∀ e ∈ ents t0.T t0.G, e ∈ ents t.T t.G ∧ ld e.1 (t.d + 1) % 2 = 0) (e1 : ∀ e ∈ ents t1.T t1.G, e ∈ ents t.T t.G ∧ ld e.1 (t.d + 1) % 2 = 1) : Dq dp (A ++ t0 :: t1 :: B) := by
  obtain ⟨k1, k2, k3⟩ := h
  have w0 : wdt dp t = 2 * wdt dp t0 := by
    unfold wdt
    rw [h0, show dp - t.d = (dp - (t.d + 1)) + 1 from by omega, Nat.pow_succ, Nat.mul_comm]
  have w1 : wdt dp t1 = wdt dp t0 := by unfold wdt; rw [h0, h1]
  rw [ok_app, Ok, Nat.zero_add] at k2
  obtain ⟨q1, q2, q3⟩ := k2
  have hp := wdt_pos dp t0
  obtain ⟨q, hq⟩ : ∃ q, pre dp A = 2 * wdt dp t0 * q := by
    have := Nat.div_add_mod (pre dp A) (wdt dp t)
    rw [q2.mul, w0] at this
    exact ⟨_, this.symm⟩
  have hd1 : pre dp A / wdt dp t = q := by rw [hq, w0, Nat.mul_div_cancel_left _ (by omega)]
  have hq2 : pre dp A = wdt dp t0 * (2 * q) := by rw [hq, Nat.mul_comm 2, Nat.mul_assoc]
  have hq3 : pre dp A + wdt dp t0 = wdt dp t0 * (2 * q + 1) := by rw [hq2, Nat.mul_add, Nat.mul_one]
  refine ⟨k1, ?_, ?_⟩
  · rw [ok_app, Nat.zero_add]
    refine ⟨q1, ⟨by omega, by rw [hq2, Nat.mul_mod_right], s0, fun e he => ?_⟩, ⟨by omega, by rw [w1, hq3, Nat.mul_mod_right], s1, fun e he => ?_⟩, ?_⟩
    · obtain ⟨m1, m2⟩ := e0 e he
      rw [hq2, Nat.mul_div_cancel_left _ hp, h0, ld_next (by omega), m2, q2.lead e m1, hd1, Nat.add_zero]
    · obtain ⟨m1, m2⟩ := e1 e he
      rw [w1, hq3, Nat.mul_div_cancel_left _ hp, h1, ld_next (by omega), m2, q2.lead e m1, hd1]
    · rw [w1, Nat.add_assoc, show wdt dp t0 + wdt dp t0 = wdt dp t from by omega]; exact q3
  · rw [pre_app] at k3 ⊢
    rw [pre] at k3
    rw [pre, pre, w1]
    omega
end Go.Proofs.YtkfagfdefkaenaaDoor

/-
  Directories as they lie in memory, and the small functions on them; no statement is proved here.
-/
namespace Go.Proofs.YtkfagfdefkaenaaDoor
open Go.RowKit Go.Shelf
open Pr (Gp GpI sq pl)
attribute [local go_sem] Oper.semAt_some run_store_func

theorem info3' : (Tryd.prog.info? 3).map (fun i => (i.zero, i.size, i.bytes)) = some (some (.int .i64 0), 1, 8) := by kernel_rfl
def vi (S : List Nat) : List Value := S.map fun x => Value.int .i64 (x : Nat)
theorem vi_len (S : List Nat) : (vi S).length = S.length := by simp [vi]
theorem vi_at {S : List Nat} {j x : Nat} (h : S[j]? = some x) : (vi S)[j]? = some (.int .i64 (x : Nat)) := by simp [vi, h]
theorem vi_one (S : List Nat) : ∀ u ∈ vi S, u.oneCell' = true := by
  intro u hu
  obtain ⟨x, _, rfl⟩ := List.mem_map.1 hu
  rfl
theorem vi_append (A B : List Nat) : vi (A ++ B) = vi A ++ vi B := by simp [vi]
/-- The numbers of slots, wherever they lie. -/
def Ns (w : World) (b o : Nat) (S : List Nat) : Prop := ∀ j x, S[j]? = some x → w.cell? ⟨b, o + j, none⟩ = some (.int .i64 (x : Nat))
theorem Ns.keep {S : List Nat} {w w' : World} {b o : Nat} {T : List Nat} (h : Ns w b o T) (e : Ext S w w') (hs : b ∉ S) : Ns w' b o T := fun j x hj => e.cell (h j x hj) hs
/-- The tables of a directory: their depths and their words. -/
def Ts (w : World) (b : Nat) (L : List Tq) : Prop := ∃ cs, w.heap[b]? = some (.cells cs 66 (0, 0)) ∧ ∀ n t, L[n]? = some t → ∃ g c, cs[n * 2]? = some (.int .i64 (t.d : Nat)) ∧ cs[n * 2 + 1]? = some (.slice (some ⟨g, 0, none⟩) (3 + 17 * t.G) c) ∧ Tw w g t.T
theorem Ts.cells {w : World} {b : Nat} {L : List Tq} (h : Ts w b L) {n : Nat} {t : Tq} (hn : L[n]? = some t) : ∃ g c, w.cell? ⟨b, n * 2, none⟩ = some (.int .i64 (t.d : Nat)) ∧ w.cell? ⟨b, n * 2 + 1, none⟩ = some (.slice (some ⟨g, 0, none⟩) (3 + 17 * t.G) c) ∧ Tw w g t.T := by
  obtain ⟨cs, h1, h2⟩ := h
  obtain ⟨g, c, k1, k2, k3⟩ := h2 n t hn
  exact ⟨g, c, by rw [cell_of_row _ _ _ _ _ _ h1, k1], by rw [cell_of_row _ _ _ _ _ _ h1, k2], k3⟩
theorem Ts.keep {S : List Nat} {w w' : World} {b : Nat} {L : List Tq} (h : Ts w b L) (e : Ext S w w') (hb : b ∉ S) (hs : ∀ x ∈ S, ∀ T, ¬ Tw w x T) : Ts w' b L := by
  obtain ⟨cs, h1, h2⟩ := h
  refine ⟨cs, e.keep h1 hb, fun n t hn => ?_⟩
  obtain ⟨g, c, k1, k2, k3⟩ := h2 n t hn
  exact ⟨g, c, k1, k2, k3.keep e (fun hm => hs g hm _ k3)⟩
theorem Ts.keep0 {w w' : World} {b : Nat} {L : List Tq} (h : Ts w b L) (e : Ext [] w w') : Ts w' b L := h.keep e (by simp) (by simp)
theorem Ts.lt {w : World} {b : Nat} {L : List Tq} (h : Ts w b L) : b < w.heap.size := by obtain ⟨cs, h, _⟩ := h; exact lt_of_heap h
theorem Ts.not_tw {w : World} {b : Nat} {L : List Tq} (h : Ts w b L) (T : List Nat) : ¬ Tw w b T := by
  rintro ⟨cs, h1, _⟩
  obtain ⟨cs', h2, _⟩ := h
  rw [h1] at h2
  cases h2
theorem Ts.frozen {w : World} {b : Nat} {L : List Tq} (h : Ts w b L) (j : Nat) : w.frozen? ⟨b, j, none⟩ = false := by
  obtain ⟨cs, h1, _⟩ := h
  exact frozen_of_row w b j cs 66 h1
/-- Another table's words are laid in the place of one's. -/
theorem Ts.set {w : World} {b : Nat} {A B : List Tq} {t t' : Tq} (h : Ts w b (A ++ t :: B)) (hd : t'.d = t.d) {g c : Nat} (ht : Tw w g t'.T) : Ts (w.setCell ⟨b, A.length * 2 + 1, none⟩ (.slice (some ⟨g, 0, none⟩) (3 + 17 * t'.G) c)) b (A ++ t' :: B) := by
  have hnt := h.not_tw
  obtain ⟨cs, h1, h2⟩ := h
  have hx := Ext.setCell [b] w ⟨b, A.length * 2 + 1, none⟩ (.slice (some ⟨g, 0, none⟩) (3 + 17 * t'.G) c) (by simp)
  have hk : ∀ q T, Tw w q T → Tw (w.setCell ⟨b, A.length * 2 + 1, none⟩ (.slice (some ⟨g, 0, none⟩) (3 + 17 * t'.G) c)) q T := fun q T hq => hq.keep hx (by
    rw [List.mem_singleton]
    rintro rfl
    exact hnt _ hq)
  refine ⟨cs.setIfInBounds (A.length * 2 + 1) _, heap_setCell_same w b _ cs 66 _ h1, fun n u hu => ?_⟩
  by_cases q : n = A.length
  · subst q
    obtain ⟨g0, c0, k1, k2, k3⟩ := h2 A.length t (by simp)
    have hks : A.length * 2 + 1 < cs.size := (Array.getElem?_eq_some_iff.1 k2).1
    have : t' = u := by simpa using hu
    subst this
    refine ⟨g, c, ?_, ?_, hk _ _ ht⟩
    · rw [Array.getElem?_setIfInBounds, if_neg (by omega), k1, hd]
    · rw [Array.getElem?_setIfInBounds, if_pos rfl, if_pos hks]
  · have hu' : (A ++ t :: B)[n]? = some u := by
      by_cases r : n < A.length
      · rw [List.getElem?_append_left r] at hu ⊢; exact hu
      · rw [List.getElem?_append_right (by omega)] at hu ⊢
        obtain ⟨m, hm⟩ : ∃ m, n - A.length = m + 1 := ⟨n - A.length - 1, by omega⟩
        rw [hm, List.getElem?_cons_succ] at hu ⊢; exact hu
    obtain ⟨g0, c0, k1, k2, k3⟩ := h2 n u hu'
    refine ⟨g0, c0, ?_, ?_, hk _ _ k3⟩
    · rw [Array.getElem?_setIfInBounds, if_neg (by omega), k1]
    · rw [Array.getElem?_setIfInBounds, if_neg (by omega), k2]
/-- A directory, as a value. -/
def dv (dp bt nt ct bs os ns cs : Nat) : Value := .agg #[.int .i64 (dp : Nat), .slice (some ⟨bt, 0, none⟩) nt ct, .slice (some ⟨bs, os, none⟩) ns cs]
/-- A directory in memory. -/
structure Dr (w : World) (bt bs os dp : Nat) (L : List Tq) : Prop where
  ts : Ts w bt L
  ns : Ns w bs os (slo dp L 0)
theorem Dr.keep0 {w w' : World} {bt bs os dp : Nat} {L : List Tq} (h : Dr w bt bs os dp L) (e : Ext [] w w') : Dr w' bt bs os dp L := ⟨h.ts.keep0 e, h.ns.keep e (by simp)⟩

theorem pow64 {k : Nat} (hk : k ≤ 6) : (2 : Nat) ^ k ≤ 64 := by
  have : (2 : Nat) ^ k ≤ 2 ^ 6 := Nat.pow_le_pow_right (by omega) hk
  simpa using this
theorem leading_any (h k : Nat) (hk : k ≤ 6) (hh : h < 18446744073709551616) (w : World) : Calls Tryd.prog 67 #[.int .u64 (h : Nat), .int .i64 (k : Nat)] w fun e w' => e = .returned (.int .i64 (ld h k : Nat)) ∧ w' = w := by
  have h1 := ld_lt (dp := k) hh (by omega)
  have h2 := pow64 hk
  have h3 : ((h : Int) / 2 ^ (64 - k)) = ((ld h k : Nat) : Int) := by unfold ld; push_cast; rfl
  go_enter Tryd.func67, Tryd.ntmps67
  go_wp2_with fail
  go_ret
  exact ⟨rfl, rfl⟩
theorem tabOf_any (dp bt nt ct bs os cs h n : Nat) (S : List Nat) (hdp : dp ≤ 6) (hh : h < 18446744073709551616) (w : World) (hS : Ns w bs os S) (hn : S[ld h dp]? = some n) :
    Calls Tryd.prog 37 #[dv dp bt nt ct bs os (2 ^ dp) cs, .int .u64 (h : Nat)] w (SayPost w (.int .i64 (n : Nat))) := by
  have h1 := ld_lt (dp := dp) hh (by omega)
  have h2 := pow64 hdp
  have hE := Ext.alloc [] w (.cells #[.int .i64 (dp : Nat), .slice (some ⟨bt, 0, none⟩) nt ct, .slice (some ⟨bs, os, none⟩) (2 ^ dp) cs] 27)
  have hc := hE.cell (hS _ _ hn) (by simp)
  have K := leading_any h dp hdp hh
  unfold dv
  clear hS hn
  generalize ld h dp = i at *
  generalize (2 : Nat) ^ dp = m at *
  have HE := hid hE
  clear hE
  go_enter Tryd.func37, Tryd.ntmps37
  go_wp2_with fail
  go_region_held3 (fun w' => w'.cell? ⟨w.heap.size, 0, none⟩ = some (.int .i64 (dp : Nat)) ∧ w'.cell? ⟨w.heap.size, 2, none⟩ = some (.slice (some ⟨bs, os, none⟩) m cs) ∧ w'.cell? ⟨bs, os + i, none⟩ = some (.int .i64 (n : Nat)))
    (first | go_keep)
    (first
      | (go_at_call 67; refine met (K _) ?_)
      | fail "no arm")
  go_wp2_with fail
  go_ret
  exact ⟨rfl, HE.out.trans (Ext.drew [] _)⟩
theorem dgroups_any (g c G : Nat) (T : List Nat) (w : World) (hS : Shp T G) (hT : Tw w g T) : Calls Tryd.prog 79 #[.slice (some ⟨g, 0, none⟩) (3 + 17 * G) c] w fun e w' => e = .returned (.int .i64 (G : Nat)) ∧ w' = w := by
  have hl := hS.len
  have hG := hS.gp.le
  have hc := hT.cell (j := 0) (by omega)
  rw [hS.g0] at hc
  clear hT hl
  go_enter Tryd.func79, Tryd.ntmps79
  go_wp2_with fail
  go_ret
  exact ⟨rfl, rfl⟩
theorem named_true (bs os ns cs n m : Nat) (w : World) (hm : m ≤ 64) (hle : m ≤ ns) (hns : ns ≤ 64) (hcs : ns ≤ cs) (_hn : n ≤ 64) (hS : ∀ j, j < m → w.cell? ⟨bs, os + j, none⟩ = some (.int .i64 (n : Nat))) :
    Calls Tryd.prog 58 #[.slice (some ⟨bs, os, none⟩) ns cs, .int .i64 (n : Nat), .int .i64 (m : Nat)] w fun e w' => e = .returned (.bool true) ∧ w' = w := by
  have HS := hid hS
  have hnm : ¬ ns < m := by omega
  have hnn : ((n : Int) == (n : Int)) = true := by simp
  have hbn : ((n : Int) != (n : Int)) = false := by simp
  clear hS
  go_enter Tryd.func58, Tryd.ntmps58
  go_wp2_with fail
  go_loopw [17] (fun q wr => ∃ k : Nat, q = .int .i64 k ∧ k ≤ m ∧ wr = w) (fun q _ => (m - (intOf q)).toNat)
  case atStart => exact ⟨0, rfl, Nat.zero_le _, rfl⟩
  case round =>
    obtain ⟨k, rfl, hk, rfl⟩ := hrel
    by_cases hkn : k < m
    · have hki : (k : Int) < m := by omega
      have ck := HS.out k hkn
      go_wp2_with fail
      go_roundw
      case rel => exact ⟨k + 1, by go_num, by omega, trivial⟩
      case measure => simp [intOf]; omega
    · obtain rfl : k = m := by omega
      go_wp2
      go_ret
      exact ⟨rfl, rfl⟩
end Go.Proofs.YtkfagfdefkaenaaDoor

/-
  Copies of the lists of a directory; no statement is proved here.
-/
namespace Go.Proofs.YtkfagfdefkaenaaDoor
open Go.RowKit Go.Shelf
open Pr (Gp GpI sq pl)
attribute [local go_sem] Oper.semAt_some run_store_func

theorem info66 : (Tryd.prog.info? 66).map (fun i => (i.zero, i.size, i.bytes)) = some (some (.agg #[.int .i64 0, .slice none 0 0]), 2, 32) := by kernel_rfl
/-- A row of tables of its own, whatever stands in it. -/
def TvPost (w : World) (n : Nat) (xs : List Value) (e : Ending) (w' : World) : Prop := ∃ g c, e = .returned (.slice (some ⟨g, 0, none⟩) n c) ∧ w'.ownsRow w.heap.size 66 2 (.slice (some ⟨g, 0, none⟩) n c) n xs ∧ Ext [] w w'
theorem tclone_any (b n c : Nat) (xs : List Value) (w : World) (hx : ∀ j u, xs[j]? = some u → w.cell? ⟨b, j, none⟩ = some u) (hl : xs.length = n * 2) (h1 : ∀ u ∈ xs, u.oneCell' = true) (h0 : 0 < n) (hb : n ≤ 1000000) :
    Calls Tryd.prog 73 #[.slice (some ⟨b, 0, none⟩) n c] w (TvPost w n xs) := by
  have hE0 := Ext.alloc [] w (.cells #[] 66)
  obtain ⟨i, hi0, hz0, hz1, hz2⟩ := info_parts info66
  have hown : (w.alloc (.cells #[] 66)).ownsRow w.heap.size 66 2 (.slice (some ⟨w.heap.size, 0, none⟩) 0 0) 0 [] := World.ownsRow_made w #[] 0 (Nat.le_refl _) (Nat.zero_le _) rfl
  obtain ⟨v', w', hr, ho, hg, _⟩ := run_append_own (P := Tryd.prog) (w.alloc (.cells #[] 66)) w.heap.size 24 24 66 i _ 2 32 Tryd.underlying24 hi0 hz0 hz1 hz2 rfl (by decide) _ 0 [] hown ⟨b, 0, none⟩ n c xs hl (fun j u hj => by rw [Addr.add_lit, Nat.zero_add]; exact hE0.cell (hx j u hj) (by simp)) h1 (by unfold maxLen; omega) (by omega) (by simp)
  rw [Nat.zero_add, List.nil_append] at ho
  have hgr := Ext.grown (S := [w.heap.size]) hg (by simp [Value.ownBlock])
  have HF : Hid (TvPost w n xs (.returned v') w') := by
    rcases id ho.2 with ⟨_, hn⟩ | ⟨g, cap, cur, rfl, _⟩
    · omega
    · exact ⟨g, cap, rfl, ho, hE0.on hgr (by simp)⟩
  have heq : ∀ w, Sem.run Tryd.prog (binOp .eql 24 (.slice (some ⟨b, 0, none⟩) n c) (.slice none 0 0)) w = .ok (.bool false) w := fun w => by
    have h : ∀ d, (Op.equalIn (d + 1) 24 (.slice (some ⟨b, 0, none⟩) n c) (.slice none 0 0)).run Tryd.prog w = .ok false w := fun d => by simp [Op.equalIn, run_underlying Tryd.underlying24]
    simp only [binOp]
    simp [Op.equal, Op.maxDepth, h 9999]
  clear hx hl h1 hE0 hown ho hg hgr hz0 hz1 hz2 hi0
  go_enter Tryd.func73, Tryd.ntmps73
  go_wp2_with (at_builtin; refine wpList_append_run rfl _ _ 24 rfl _ _ _ rfl rfl hr ?_)
  go_ret
  exact HF.out
/-- Slots of their own. -/
def SlPost (w : World) (n : Nat) (S : List Nat) (e : Ending) (w' : World) : Prop := ∃ g c, e = .returned (.slice (some ⟨g, 0, none⟩) n c) ∧ Ns w' g 0 S ∧ w.heap.size ≤ g ∧ n ≤ c ∧ (∃ cur, w'.heap[g]? = some (.cells cur 3 (0, 0))) ∧ Ext [] w w'
theorem ns_of_own {w : World} {base : Nat} {a : Option Addr} {n c : Nat} {S : List Nat} (h : w.ownsRow base 3 1 (.slice a n c) n (vi S)) (hn : S.length = n) (h0 : 0 < n) : ∃ g, a = some ⟨g, 0, none⟩ ∧ base ≤ g ∧ n ≤ c ∧ (∃ cur, w.heap[g]? = some (.cells cur 3 (0, 0))) ∧ Ns w g 0 S := by
  rcases h.2 with ⟨h1, h2⟩ | ⟨g, cap, cur, e, h1, h2, h3, h4, h5, h6⟩
  · omega
  · cases e
    refine ⟨g, rfl, h1, h3, ⟨_, h2⟩, fun j x hj => ?_⟩
    have hjl : j < S.length := (List.getElem?_eq_some_iff.1 hj).1
    have : (cur.toList.take (n * 1))[j]? = cur[j]? := by
      rw [List.getElem?_take, if_pos (by omega)]; simp
    rw [cell_of_row _ _ _ _ _ _ h2, Nat.zero_add, ← this, h6, vi_at hj]
theorem Ns.vs {w : World} {b o : Nat} {S : List Nat} (h : Ns w b o S) : Vs w (some ⟨b, o, none⟩) (vi S) :=
  .inr ⟨b, o, rfl, fun j hj => by
    rw [vi_len] at hj
    rw [h j S[j] (List.getElem?_eq_getElem hj), vi_at (List.getElem?_eq_getElem hj)]⟩
theorem iclone_any (b o n c : Nat) (S : List Nat) (w : World) (hS : Ns w b o S) (hn : S.length = n) (h0 : 0 < n) (hb : n ≤ 1000000) : Calls Tryd.prog 74 #[.slice (some ⟨b, o, none⟩) n c] w (SlPost w n S) := by
  have hE0 := Ext.alloc [] w (.cells #[] 3)
  have hown : (w.alloc (.cells #[] 3)).ownsRow w.heap.size 3 1 (.slice (some ⟨w.heap.size, 0, none⟩) 0 0) 0 [] := World.ownsRow_made w #[] 0 (Nat.le_refl _) (Nat.zero_le _) rfl
  obtain ⟨v, w', hr, ho, hE, _⟩ := app_own w _ hE0 25 25 3 _ 8 Tryd.underlying25 info3' rfl (by omega) _ 0 [] hown (some ⟨b, o, none⟩) n c (vi S) (by rw [vi_len]; exact hn) (Vs.keep0 hS.vs hE0) (vi_one S) (by omega)
  rw [Nat.zero_add, List.nil_append] at ho
  obtain ⟨a', c', rfl, hc⟩ := own_slice ho
  obtain ⟨g, rfl, h1, h3, h4, h2⟩ := ns_of_own ho hn h0
  have HF : Hid (SlPost w n S (.returned (.slice (some ⟨g, 0, none⟩) n c')) w') := ⟨g, c', rfl, h2, h1, h3, h4, hE⟩
  have heq : ∀ w, Sem.run Tryd.prog (binOp .eql 25 (.slice (some ⟨b, o, none⟩) n c) (.slice none 0 0)) w = .ok (.bool false) w := fun w => by
    have h : ∀ d, (Op.equalIn (d + 1) 25 (.slice (some ⟨b, o, none⟩) n c) (.slice none 0 0)).run Tryd.prog w = .ok false w := fun d => by simp [Op.equalIn, run_underlying Tryd.underlying25]
    simp only [binOp]
    simp [Op.equal, Op.maxDepth, h 9999]
  clear hE0 hown hS hn ho hE h1 h2 h3 h4
  go_enter Tryd.func74, Tryd.ntmps74
  go_wp2_with (at_builtin; refine wpList_append_run rfl _ _ 25 rfl _ _ _ rfl rfl hr ?_)
  go_ret
  exact HF.out

/-! ### tables in a row with room -/
/-- The tables of a directory in a row of one's own. -/
def Tc (w : World) (b cap : Nat) (L : List Tq) : Prop := Ts w b L ∧ ∃ cs, w.heap[b]? = some (.cells cs 66 (0, 0)) ∧ cs.size = cap * 2 ∧ L.length ≤ cap ∧ cap ≤ maxLen
theorem Tc.keep {S : List Nat} {w w' : World} {b cap : Nat} {L : List Tq} (h : Tc w b cap L) (e : Ext S w w') (hb : b ∉ S) (hs : ∀ x ∈ S, ∀ T, ¬ Tw w x T) : Tc w' b cap L := by
  obtain ⟨h1, cs, h2, h3⟩ := h
  exact ⟨h1.keep e hb hs, cs, e.keep h2 hb, h3⟩
theorem Tc.keep0 {w w' : World} {b cap : Nat} {L : List Tq} (h : Tc w b cap L) (e : Ext [] w w') : Tc w' b cap L := h.keep e (by simp) (by simp)
theorem Tc.set {w : World} {b cap : Nat} {A B : List Tq} {t t' : Tq} (h : Tc w b cap (A ++ t :: B)) (hd : t'.d = t.d) {g c : Nat} (ht : Tw w g t'.T) : Tc (w.setCell ⟨b, A.length * 2 + 1, none⟩ (.slice (some ⟨g, 0, none⟩) (3 + 17 * t'.G) c)) b cap (A ++ t' :: B) := by
  obtain ⟨h1, cs, h2, h3, h4, h5⟩ := h
  refine ⟨h1.set hd ht, _, heap_setCell_same w b _ cs 66 _ h2, by rw [Array.size_setIfInBounds]; exact h3, ?_, h5⟩
  rw [List.length_append, List.length_cons] at h4 ⊢
  exact h4
/-- What stands in the cells of the tables. -/
theorem Ts.vals {w : World} {b : Nat} {L : List Tq} (h : Ts w b L) : ∃ xs : List Value, xs.length = L.length * 2 ∧ (∀ u ∈ xs, u.oneCell' = true) ∧ (∀ j u, xs[j]? = some u → w.cell? ⟨b, j, none⟩ = some u) ∧
    ∀ n t, L[n]? = some t → ∃ g c, xs[n * 2]? = some (.int .i64 (t.d : Nat)) ∧ xs[n * 2 + 1]? = some (.slice (some ⟨g, 0, none⟩) (3 + 17 * t.G) c) ∧ Tw w g t.T := by
  obtain ⟨cs, h1, h2⟩ := h
  have hsz : L.length * 2 ≤ cs.size := by
    rcases Nat.eq_zero_or_pos L.length with e | e
    · omega
    · obtain ⟨g, c, _, k2, _⟩ := h2 (L.length - 1) L[L.length - 1] (List.getElem?_eq_getElem _)
      have := (Array.getElem?_eq_some_iff.1 k2).1
      omega
  have hat : ∀ j, j < L.length * 2 → (cs.toList.take (L.length * 2))[j]? = cs[j]? := fun j hj => by rw [List.getElem?_take, if_pos hj]; simp
  refine ⟨cs.toList.take (L.length * 2), by rw [List.length_take]; simp; omega, fun u hu => ?_, fun j u hj => ?_, fun n t hn => ?_⟩
  · obtain ⟨j, hj⟩ := List.mem_iff_getElem?.1 hu
    have hjl : j < L.length * 2 := by
      have := (List.getElem?_eq_some_iff.1 hj).1
      rw [List.length_take] at this; omega
    rw [hat j hjl] at hj
    obtain ⟨g, c, k1, k2, _⟩ := h2 (j / 2) L[j / 2] (List.getElem?_eq_getElem (by omega))
    rcases Nat.mod_two_eq_zero_or_one j with e | e
    · rw [show j / 2 * 2 = j from by omega, hj] at k1; cases k1; rfl
    · rw [show j / 2 * 2 + 1 = j from by omega, hj] at k2; cases k2; rfl
  · have hjl : j < L.length * 2 := by
      have := (List.getElem?_eq_some_iff.1 hj).1
      rw [List.length_take] at this; omega
    rw [cell_of_row _ _ _ _ _ _ h1, ← hat j hjl, hj]
  · have hnl : n < L.length := (List.getElem?_eq_some_iff.1 hn).1
    obtain ⟨g, c, k1, k2, k3⟩ := h2 n t hn
    exact ⟨g, c, by rw [hat _ (by omega), k1], by rw [hat _ (by omega), k2], k3⟩
/-- A row of one's own with such values holds the tables. -/
theorem tc_of_own {w : World} {base g n c : Nat} {L : List Tq} {xs : List Value} (h : w.ownsRow base 66 2 (.slice (some ⟨g, 0, none⟩) n c) n xs) (hn : L.length = n) (hv : ∀ k t, L[k]? = some t → ∃ q c, xs[k * 2]? = some (.int .i64 (t.d : Nat)) ∧ xs[k * 2 + 1]? = some (.slice (some ⟨q, 0, none⟩) (3 + 17 * t.G) c) ∧ Tw w q t.T) : base ≤ g ∧ Tc w g c L := by
  rcases h.2 with ⟨h1, h2⟩ | ⟨g', cap, cur, e, h1, h2, h3, h4, h5, h6⟩
  · cases h1
  · cases e
    have hat : ∀ j, j < n * 2 → xs[j]? = cur[j]? := fun j hj => by rw [← h6, List.getElem?_take, if_pos hj]; simp
    refine ⟨h1, ⟨cur, h2, fun k t hk => ?_⟩, cur, h2, h5, by omega, h4⟩
    have hkl : k < L.length := (List.getElem?_eq_some_iff.1 hk).1
    obtain ⟨q, c, k1, k2, k3⟩ := hv k t hk
    exact ⟨q, c, by rw [← hat _ (by omega), k1], by rw [← hat _ (by omega), k2], k3⟩
end Go.Proofs.YtkfagfdefkaenaaDoor
