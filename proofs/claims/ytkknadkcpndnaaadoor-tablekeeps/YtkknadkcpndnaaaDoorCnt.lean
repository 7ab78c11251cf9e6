/-
  How often an id is found, behind one entry more and one less; no statement is proved here.
-/
import Derived.Test.YtkknadkcpndnaaaDoorUpe
namespace Go.Proofs.YtkknadkcpndnaaaDoor
open Pr (Gp GpI sq pl)

theorem sq_nodup {h G : Nat} (hG : Gp G) : (sq h G).Nodup := by
  unfold sq List.Nodup
  rw [List.pairwise_map]
  refine List.Pairwise.imp_of_mem ?_ (List.pairwise_lt_range (n := G))
  intro a b ha hb hab e
  have := Pr.pl_inj hG (by simpa using ha) (by simpa using hb) e
  omega
theorem sq_split {h G g0 : Nat} (hG : Gp G) (hg : g0 < G) : ∃ A C, sq h G = A ++ g0 :: C ∧ (∀ x ∈ A, x ≠ g0) ∧ ∀ x ∈ C, x ≠ g0 := by
  obtain ⟨k, hk, hp⟩ := Pr.pl_onto (h := h) hG hg
  have hm : g0 ∈ sq h G := List.mem_iff_getElem?.2 ⟨k, by rw [Pr.sq_at h G hk, hp]⟩
  obtain ⟨A, C, e⟩ := List.append_of_mem hm
  have hn := sq_nodup (h := h) hG
  rw [e, List.nodup_append] at hn
  obtain ⟨_, h2, h3⟩ := hn
  rw [List.nodup_cons] at h2
  exact ⟨A, C, e, fun x hx q => h3 x hx g0 (by simp) q, fun x hx q => h2.1 (q ▸ hx)⟩
theorem sl_len (T : List Nat) (h g : Nat) : (sl T h g).length = cnt fun i => decide (bt T g i < 128) && decide (hsw T g i = h) := by
  unfold sl cnt
  rw [List.length_map]
theorem sl_cnt (T : List Nat) (h g d : Nat) : (sl T h g).count d = cnt fun i => (decide (bt T g i < 128) && decide (hsw T g i = h)) && decide (idw T g i = d) := by
  unfold sl cnt
  rw [List.count_eq_countP, List.countP_map, List.countP_eq_length_filter, List.filter_filter]
  congr 1
  apply List.filter_congr
  intro i _
  simp only [Function.comp]
  by_cases q : idw T g i = d
  · simp [q]
  · simp [q]
/-- A slot that was not full is full now. -/
theorem find_up {T T' : List Nat} {G g0 i0 b h d : Nat} (hS : Sd T G) (hS' : Sd T' G) (u : Up T T' G g0 i0 b h d) (hg : g0 < G) (hi : i0 < 8) (hb : b < 128) (h0 : 128 ≤ bt T g0 i0) :
    (fnd T' h G).count d = (fnd T h G).count d + 1 ∧ (fnd T' h G).length = (fnd T h G).length + 1 ∧ ∀ o, o ≠ h → fnd T' o G = fnd T o G := by
  have hlt : ∀ o, ∀ g ∈ sq (o / 128) G, g < G := fun o g hg => by
    obtain ⟨n, _, rfl⟩ := List.mem_map.1 hg
    exact Pr.pl_lt _ hS.shp.gp.pos n
  have hsame : ∀ o g, g < G → (g ≠ g0 ∨ o ≠ h) → sl T' o g = sl T o g := by
    intro o g hgG hor
    unfold sl
    have e : ((List.range 8).filter fun i => decide (bt T' g i < 128) && decide (hsw T' g i = o)) = ((List.range 8).filter fun i => decide (bt T g i < 128) && decide (hsw T g i = o)) := by
      apply List.filter_congr
      intro i hi'
      have hi8 : i < 8 := by simpa using hi'
      rw [u.bt g hgG i hi8, u.hs g hgG i hi8]
      by_cases q : g = g0 ∧ i = i0
      · rw [if_pos q, if_pos q]
        have ho : o ≠ h := hor.resolve_left (fun r => r q.1)
        obtain ⟨rfl, rfl⟩ := q
        rw [show decide (h = o) = false from decide_eq_false (fun r => ho r.symm), show decide (bt T g i < 128) = false from decide_eq_false (by omega)]
        simp
      · rw [if_neg q, if_neg q]
    rw [e]
    apply List.map_congr_left
    intro i hi'
    rw [List.mem_filter] at hi'
    have hi8 : i < 8 := by simpa using hi'.1
    have hq := hi'.2
    simp only [Bool.and_eq_true, decide_eq_true_eq] at hq
    rw [u.id g hgG i hi8, if_neg]
    rintro ⟨rfl, rfl⟩
    omega
  refine ⟨?_, ?_, fun o ho => ?_⟩
  · obtain ⟨A, C, e, hA, hC⟩ := sq_split (h := h / 128) hS.shp.gp hg
    have hAl : ∀ x ∈ A, x < G := fun x hx => hlt h x (by rw [e]; simp [hx])
    have hCl : ∀ x ∈ C, x < G := fun x hx => hlt h x (by rw [e]; simp [hx])
    rw [fnd_all hS, fnd_all hS', e, List.flatMap_append, List.flatMap_append, List.flatMap_cons, List.flatMap_cons, flatMap_same (L := A) fun x hx => hsame h x (hAl x hx) (.inl (hA x hx)), flatMap_same (L := C) fun x hx => hsame h x (hCl x hx) (.inl (hC x hx))]
    simp only [List.count_append, sl_cnt]
    have := cnt_flip (p := fun i => (decide (bt T g0 i < 128) && decide (hsw T g0 i = h)) && decide (idw T g0 i = d)) (q := fun i => (decide (bt T' g0 i < 128) && decide (hsw T' g0 i = h)) && decide (idw T' g0 i = d)) hi (fun j hj hne => by
      simp only [u.bt g0 hg j hj, u.hs g0 hg j hj, u.id g0 hg j hj, hne, and_false, if_false]) (by simp; omega) (by
      simp only [u.bt g0 hg i0 hi, u.hs g0 hg i0 hi, u.id g0 hg i0 hi, and_self, if_true]; simp [hb])
    omega
  · obtain ⟨A, C, e, hA, hC⟩ := sq_split (h := h / 128) hS.shp.gp hg
    have hAl : ∀ x ∈ A, x < G := fun x hx => hlt h x (by rw [e]; simp [hx])
    have hCl : ∀ x ∈ C, x < G := fun x hx => hlt h x (by rw [e]; simp [hx])
    rw [fnd_all hS, fnd_all hS', e, List.flatMap_append, List.flatMap_append, List.flatMap_cons, List.flatMap_cons, flatMap_same (L := A) fun x hx => hsame h x (hAl x hx) (.inl (hA x hx)), flatMap_same (L := C) fun x hx => hsame h x (hCl x hx) (.inl (hC x hx))]
    simp only [List.length_append, sl_len]
    have := cnt_flip (p := fun i => decide (bt T g0 i < 128) && decide (hsw T g0 i = h)) (q := fun i => decide (bt T' g0 i < 128) && decide (hsw T' g0 i = h)) hi (fun j hj hne => by
      simp only [u.bt g0 hg j hj, u.hs g0 hg j hj, hne, and_false, if_false]) (by simp; omega) (by
      simp only [u.bt g0 hg i0 hi, u.hs g0 hg i0 hi, and_self, if_true]; simp [hb])
    omega
  · rw [fnd_all hS, fnd_all hS']
    exact flatMap_same fun x hx => hsame o x (hlt o x hx) (.inr ho)
theorem Up.rev {T T' : List Nat} {G g0 i0 b h d : Nat} (u : Up T T' G g0 i0 b h d) (hS : Shp T G) : Up T' T G g0 i0 (Go.Proofs.YtkknadkcpndnaaaDoor.bt T g0 i0) (hsw T g0 i0) (idw T g0 i0) := by
  refine ⟨hS, fun g hg i hi => ?_, fun g hg i hi => ?_, fun g hg i hi => ?_⟩
  · split
    · rename_i e; rw [e.1, e.2]
    · rename_i e; rw [u.bt g hg i hi, if_neg e]
  · split
    · rename_i e; rw [e.1, e.2]
    · rename_i e; rw [u.hs g hg i hi, if_neg e]
  · split
    · rename_i e; rw [e.1, e.2]
    · rename_i e; rw [u.id g hg i hi, if_neg e]
theorem mts_mem {T : List Nat} {G h : Nat} (hS : Sd T G) {x : Nat × Nat} (hx : x ∈ mts T h G) : x.1 < G ∧ x.2 < 8 ∧ bt T x.1 x.2 < 128 ∧ hsw T x.1 x.2 = h := by
  unfold mts mtl at hx
  obtain ⟨g, hg, hxg⟩ := List.mem_flatMap.1 hx
  have hgs := (wk_pre T (sq (h / 128) G)).subset hg
  have hgG : g < G := by
    obtain ⟨n, _, rfl⟩ := List.mem_map.1 hgs
    exact Pr.pl_lt _ hS.shp.gp.pos n
  rw [mgr_eq hS hgG] at hxg
  obtain ⟨i, hi, rfl⟩ := List.mem_map.1 hxg
  rw [List.mem_filter] at hi
  have hq := hi.2
  simp only [Bool.and_eq_true, decide_eq_true_eq] at hq
  exact ⟨hgG, by simpa using hi.1, hq.1, hq.2⟩

/-! ### the three calls -/
theorem ins_facts {T T' : List Nat} {G h d : Nat} (hS : Sd T G) (hh : h < 18446744073709551616) (hd : d < 18446744073709551616) (hI : InsT T G h d (some T')) :
    Sd T' G ∧ T'.getD 1 0 = T.getD 1 0 + 1 ∧ (fnd T' h G).count d = (fnd T h G).count d + 1 ∧ (fnd T' h G).length = (fnd T h G).length + 1 ∧ ∀ o, o ≠ h → fnd T' o G = fnd T o G := by
  obtain ⟨g, i, hF, hno, rfl⟩ := hI
  obtain ⟨h1, h2, h3, h4, h5, h6, _⟩ := ins_sd hS hh hd hF hno
  obtain ⟨q1, q2, q3⟩ := find_up hS h1 h2 h3 h4 (Nat.mod_lt _ (by omega)) h5
  exact ⟨h1, h6, q1, q2, q3⟩
theorem del_facts {T T' : List Nat} {G h d : Nat} (hS : Sd T G) (hD : DelT T G h d (some T')) :
    Sd T' G ∧ T'.getD 1 0 + 1 = T.getD 1 0 ∧ (fnd T h G).count d = (fnd T' h G).count d + 1 ∧ (fnd T h G).length = (fnd T' h G).length + 1 := by
  obtain ⟨A, x, C, hm, _, hx, rfl⟩ := hD
  obtain ⟨h1, h2, h3, h4⟩ := mts_mem hS (x := x) (by rw [hm]; simp)
  obtain ⟨q1, q2, q3⟩ := del_sd hS h1 h2 h3
  have hb : 128 ≤ bt (remAt T x.1 x.2) x.1 x.2 := by
    rw [q2.bt _ h1 _ h2, if_pos ⟨rfl, rfl⟩]
    split <;> omega
  have hrev := q2.rev hS.shp
  rw [h4, hx] at hrev
  obtain ⟨r1, r2, _⟩ := find_up q1 hS hrev h1 h2 h3 hb
  exact ⟨q1, q3, r1, r2⟩
theorem del_some {T : List Nat} {G h d : Nat} (h0 : 1 ≤ (fnd T h G).count d) : ¬ DelT T G h d none := by
  intro hn
  have : d ∈ fnd T h G := List.count_pos_iff.1 h0
  unfold fnd at this
  obtain ⟨p, hp, e⟩ := List.mem_map.1 this
  exact hn p hp e
theorem new_cw {G k g : Nat} (hg : g < G) (hk : g < k) : cw (newK G k) g = 9259542123273814144 := by
  unfold cw
  rw [newK_at G k (by omega), if_neg (by omega), if_neg (by omega), if_pos (by omega)]
theorem byt_new : ∀ i, i < 8 → byt 9259542123273814144 i = 128 := by decide +kernel
theorem new_hs {G k g i : Nat} (hg : g < G) (hi : i < 8) : hsw (newK G k) g i = 0 ∧ idw (newK G k) g i = 0 := by
  unfold hsw idw
  rw [newK_at G k (by omega), newK_at G k (by omega)]
  constructor
  · rw [if_neg (by omega), if_neg (by omega), if_neg (by omega)]
  · rw [if_neg (by omega), if_neg (by omega), if_neg (by omega)]
theorem sd_new {G : Nat} (hG : Gp G) : Sd (newT G) G := by
  have hb : ∀ g, g < G → ∀ i, i < 8 → bt (newT G) g i = 128 := fun g hg i hi => by unfold bt newT; rw [new_cw hg hg]; exact byt_new i hi
  refine ⟨Gp.shp hG G, fun g hg => ?_, fun g hg => ?_, ?_, ?_, ?_⟩
  · rw [scB_iff]
    refine ⟨fun i hi => .inr (.inl (hb g hg i hi)), .inr fun i hi => ?_⟩
    have := hb g hg i hi
    unfold bt at this
    omega
  · rw [ssB_iff]
    intro i hi
    rw [hb g hg i hi]
    exact ⟨fun q => by omega, fun _ => new_hs hg hi⟩
  · rw [nfl_tot]
    have : ∀ k, k ≤ G → tot (fun g => cnt fun i => decide (bt (newT G) g i < 128)) k = 0 := by
      intro k
      induction k with
      | zero => intro _; rfl
      | succ k ih =>
        intro hk
        rw [tot, ih (by omega), cnt_congr (q := fun _ => false) fun i hi => by rw [hb k (by omega) i hi]; rfl]
        rfl
    rw [this G (Nat.le_refl _)]
    unfold newT
    rw [newK_at G G (by omega)]
    simp
  · rw [nus_tot]
    have : ∀ k, k ≤ G → tot (fun g => cnt fun i => decide (bt (newT G) g i < 128) || decide (bt (newT G) g i = 254)) k = 0 := by
      intro k
      induction k with
      | zero => intro _; rfl
      | succ k ih =>
        intro hk
        rw [tot, ih (by omega), cnt_congr (q := fun _ => false) fun i hi => by rw [hb k (by omega) i hi]; rfl]
        rfl
    rw [this G (Nat.le_refl _)]
    unfold newT
    rw [newK_at G G (by omega)]
    simp
  · intro own hown i hi hf
    rw [fl_bit hi, decide_eq_true_eq] at hf
    have := hb own hown i hi
    unfold bt at this
    omega
end Go.Proofs.YtkknadkcpndnaaaDoor
