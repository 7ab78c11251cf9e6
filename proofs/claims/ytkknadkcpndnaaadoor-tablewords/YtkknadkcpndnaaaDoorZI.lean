/-
  Upe, Cnt, Sum: joined by program; no statement is proved here.
-/
import Derived.Test.YtkknadkcpndnaaaDoorZG
/-
  One entry less, a new table, and what a search finds; no statement is proved here.
-/
namespace Go.Proofs.YtkknadkcpndnaaaDoor
open Pr (Gp GpI sq pl)

theorem del_sd {T : List Nat} {G g0 i0 : Nat} (hS : Sd T G) (hg0 : g0 < G) (hi0 : i0 < 8) (hfull : bt T g0 i0 < 128) :
    Sd (remAt T g0 i0) G ∧ Up T (remAt T g0 i0) G g0 i0 (if mt (cw T g0) 128 = 0 then 254 else 128) 0 0 ∧ (remAt T g0 i0).getD 1 0 + 1 = T.getD 1 0 := by
  have hl := hS.shp.len
  have hG := hS.shp.gp.le
  have hn1 := nfl_le T G
  rw [← hS.cnt] at hn1
  have hn2 : T.getD 2 0 ≤ 7 * G := by have := hS.use; omega
  have hone : 1 ≤ T.getD 1 0 := by
    rw [hS.cnt, nfl_tot]
    have key : ∀ k, g0 < k → 1 ≤ tot (fun g => cnt fun i => decide (bt T g i < 128)) k := by
      intro k
      induction k with
      | zero => intro h; omega
      | succ k ih =>
        intro h
        rw [tot]
        by_cases e : g0 = k
        · subst e
          have : 1 ≤ cnt fun i => decide (bt T g0 i < 128) := by
            unfold cnt
            exact List.length_pos_of_mem (List.mem_filter.2 ⟨by simpa using hi0, by simpa using hfull⟩)
          omega
        · have := ih (by omega); omega
    exact key G hg0
  have hdec : dec64 (T.getD 1 0) = T.getD 1 0 - 1 := dec64_pos hone (by omega)
  obtain ⟨b0, hb0⟩ : ∃ b0, b0 = (if mt (cw T g0) 128 = 0 then 254 else 128) := ⟨_, rfl⟩
  obtain ⟨T1, hT1⟩ : ∃ T1, T1 = (if mt (cw T g0) 128 = 0 then T.set 1 (T.getD 1 0 - 1) else (T.set 1 (T.getD 1 0 - 1)).set 2 (T.getD 2 0 + 1)) := ⟨_, rfl⟩
  have hSa := hS.shp.set 1 (T.getD 1 0 - 1) (by omega) (by omega)
  have hS1 : Shp T1 G := by rw [hT1]; split; exact hSa; exact hSa.set 2 _ (by omega) (by omega)
  have hrem : remAt T g0 i0 = wr T1 g0 i0 b0 0 0 := by
    unfold remAt
    rw [hdec, hT1, hb0]
    split <;> rfl
  have hb256 : b0 < 256 := by rw [hb0]; split <;> omega
  have hb128 : 128 ≤ b0 := by rw [hb0]; split <;> omega
  have hup0 := up_wr (d := 0) (h := 0) (b := b0) hS1 hg0 hi0 hb256 (by omega) (by omega)
  rw [← hrem] at hup0
  have hup : Up T (remAt T g0 i0) G g0 i0 b0 0 0 := by
    rw [hT1] at hup0
    by_cases q : mt (cw T g0) 128 = 0
    · rw [if_pos q] at hup0; exact Up.of_set hl (by omega) hup0
    · rw [if_neg q] at hup0; exact Up.of_set hl (by omega) (Up.of_set hSa.len (by omega) hup0)
  have h1' : (remAt T g0 i0).getD 1 0 + 1 = T.getD 1 0 := by
    rw [hrem, wr_low (by omega) (by rw [hS1.len]; omega), hT1]
    split
    · rw [getD_set (by omega), if_pos rfl]; omega
    · rw [getD_set (by rw [List.length_set]; omega), if_neg (by omega), getD_set (by omega), if_pos rfl]; omega
  have h2' : (remAt T g0 i0).getD 2 0 = T.getD 2 0 + (if b0 = 128 then 1 else 0) := by
    rw [hrem, wr_low (by omega) (by rw [hS1.len]; omega), hT1, hb0]
    split
    · rw [getD_set (by omega), if_neg (by omega)]; simp
    · rw [getD_set (by rw [List.length_set]; omega), if_pos rfl]; simp
  have hctl := fun g (hg : g < G) => scB_iff.1 (hS.ctl g hg)
  have hE : b0 = 128 ↔ mt (cw T g0) 128 ≠ 0 := by rw [hb0]; split <;> simp [*]
  have hEe : ∀ g, g < G → hasE T g = false → hasE (remAt T g0 i0) g = false := fun g hg q => by
    have q' := q
    rw [hasE_iff] at q ⊢
    intro j hj
    rw [hup.bt g hg j hj]
    split
    · rename_i e
      intro r
      have := hE.1 r
      rw [e.1] at q'
      unfold hasE at q'
      simp at q'
      exact this q'
    · exact q j hj
  rw [← hb0]
  refine ⟨⟨hup.shp, fun g hg => ?_, fun g hg => ?_, ?_, ?_, ?_⟩, hup, h1'⟩
  · rw [scB_iff]
    obtain ⟨e1, e2⟩ := hctl g hg
    refine ⟨fun i hi => ?_, ?_⟩
    · have := hup.bt g hg i hi
      unfold bt at this
      rw [this]
      split
      · rw [hb0]; split <;> simp
      · exact e1 i hi
    · by_cases eg : g = g0
      · subst eg
        by_cases q : mt (cw T g) 128 = 0
        · left
          intro i hi
          have := hup.bt g hg i hi
          unfold bt at this
          rw [this]
          split
          · rw [hb0, if_pos q]; omega
          · exact mt_zero.1 q i hi
        · right
          have e3 : ∀ i, i < 8 → byt (cw T g) i ≠ 254 := e2.resolve_left (fun r => q (mt_zero.2 r))
          intro i hi
          have := hup.bt g hg i hi
          unfold bt at this
          rw [this]
          split
          · rw [hb0, if_neg q]; omega
          · exact e3 i hi
      · have hsame : ∀ i, i < 8 → byt (cw (remAt T g0 i0) g) i = byt (cw T g) i := fun i hi => by
          have := hup.bt g hg i hi
          rw [if_neg (fun q => eg q.1)] at this
          exact this
        rcases e2 with e2 | e2
        · exact .inl fun i hi => by rw [hsame i hi]; exact e2 i hi
        · exact .inr fun i hi => by rw [hsame i hi]; exact e2 i hi
  · rw [ssB_iff]
    intro i hi
    have e := ssB_iff.1 (hS.slt g hg) i hi
    rw [hup.bt g hg i hi, hup.hs g hg i hi, hup.id g hg i hi]
    split
    · exact ⟨fun q => by omega, fun _ => ⟨rfl, rfl⟩⟩
    · exact e
  · have hc := hS.cnt
    rw [nfl_tot] at hc ⊢
    have : tot (fun g => cnt fun i => decide (bt T g i < 128)) G = tot (fun g => cnt fun i => decide (bt (remAt T g0 i0) g i < 128)) G + 1 := by
      refine tot_up (g0 := g0) ?_ hg0 fun g hg hne => ?_
      · refine cnt_flip hi0 (fun j hj hne => ?_) ?_ ?_
        · rw [hup.bt g0 hg0 j hj, if_neg (fun q => hne q.2)]
        · rw [hup.bt g0 hg0 i0 hi0, if_pos ⟨rfl, rfl⟩]; simp; omega
        · simpa using hfull
      · apply cnt_congr
        intro i hi
        rw [hup.bt g hg i hi, if_neg (fun q => hne q.1)]
    omega
  · have huse := hS.use
    rw [nus_tot] at huse ⊢
    by_cases q : b0 = 128
    · rw [if_pos q] at h2'
      have : tot (fun g => cnt fun i => decide (bt T g i < 128) || decide (bt T g i = 254)) G = tot (fun g => cnt fun i => decide (bt (remAt T g0 i0) g i < 128) || decide (bt (remAt T g0 i0) g i = 254)) G + 1 := by
        refine tot_up (g0 := g0) ?_ hg0 fun g hg hne => ?_
        · refine cnt_flip hi0 (fun j hj hne => ?_) ?_ ?_
          · rw [hup.bt g0 hg0 j hj, if_neg (fun q => hne q.2)]
          · rw [hup.bt g0 hg0 i0 hi0, if_pos ⟨rfl, rfl⟩, q]; rfl
          · simp [hfull]
        · apply cnt_congr
          intro i hi
          rw [hup.bt g hg i hi, if_neg (fun q => hne q.1)]
      omega
    · rw [if_neg q] at h2'
      have hb : b0 = 254 := by rw [hb0] at q ⊢; split at q <;> simp_all
      have : tot (fun g => cnt fun i => decide (bt (remAt T g0 i0) g i < 128) || decide (bt (remAt T g0 i0) g i = 254)) G = tot (fun g => cnt fun i => decide (bt T g i < 128) || decide (bt T g i = 254)) G := by
        apply tot_same
        intro g hg
        apply cnt_congr
        intro i hi
        rw [hup.bt g hg i hi]
        split
        · rename_i e
          obtain ⟨rfl, rfl⟩ := e
          rw [hb]; simp [hfull]
        · rfl
      omega
  · intro own hown i hi hf
    rw [fl_bit hi, decide_eq_true_eq] at hf
    have hbt := hup.bt own hown i hi
    have hhs := hup.hs own hown i hi
    by_cases e : own = g0 ∧ i = i0
    · rw [if_pos e] at hbt
      unfold bt at hbt
      omega
    · rw [if_neg e] at hhs hbt
      rw [hhs]
      obtain ⟨k, hk, hpk, hnk⟩ := hS.fnd own hown i hi (by rw [fl_bit hi, decide_eq_true_eq]; unfold bt at hbt; rw [← hbt]; exact hf)
      exact ⟨k, hk, hpk, fun n hn => hEe _ (Pr.pl_lt _ hS.shp.gp.pos n) (hnk n hn)⟩

/-! ### what a search finds -/
/-- The ids of a group's entries with the hash. -/
def sl (T : List Nat) (h g : Nat) : List Nat := ((List.range 8).filter fun i => decide (bt T g i < 128) && decide (hsw T g i = h)).map fun i => idw T g i
theorem mgr_eq {T : List Nat} {G h g : Nat} (hS : Sd T G) (hg : g < G) : mgr T h g = ((List.range 8).filter fun i => decide (bt T g i < 128) && decide (hsw T g i = h)).map fun i => (g, i) := by
  unfold mgr msl
  rw [bsF_mt, List.filter_filter]
  congr 1
  apply List.filter_congr
  intro i hi
  have hi8 : i < 8 := by simpa using hi
  have e := ssB_iff.1 (hS.slt g hg) i hi8
  have h128 : h % 128 < 128 := Nat.mod_lt _ (by omega)
  show (hsw T g i == h && decide (bt T g i = h % 128)) = _
  by_cases q : hsw T g i = h
  · simp only [q, beq_self_eq_true, Bool.true_and, decide_true, Bool.and_true, decide_eq_decide]
    constructor
    · intro r; omega
    · intro r; rw [e.1 r, q]
  · simp [q]
theorem flatMap_same {α β : Type} {f f' : α → List β} : ∀ {L : List α}, (∀ x ∈ L, f x = f' x) → L.flatMap f = L.flatMap f'
  | [], _ => rfl
  | a :: L, h => by rw [List.flatMap_cons, List.flatMap_cons, h a (by simp), flatMap_same fun x hx => h x (by simp [hx])]
theorem fnd_all {T : List Nat} {G : Nat} (hS : Sd T G) (h : Nat) : fnd T h G = (sq (h / 128) G).flatMap (sl T h) := by
  have hlt : ∀ g ∈ sq (h / 128) G, g < G := fun g hg => by
    obtain ⟨n, _, rfl⟩ := List.mem_map.1 hg
    exact Pr.pl_lt _ hS.shp.gp.pos n
  obtain ⟨R, hR0⟩ := wk_pre T (sq (h / 128) G)
  obtain ⟨Wk, hWk⟩ : ∃ Wk, Wk = wk T (sq (h / 128) G) := ⟨_, rfl⟩
  have hR := hR0
  rw [← hWk] at hR
  have hz : ∀ g ∈ R, sl T h g = [] := by
    intro g hg
    unfold sl
    rw [List.map_eq_nil_iff, List.filter_eq_nil_iff]
    intro i hi hq
    have hi8 : i < 8 := by simpa using hi
    simp only [Bool.and_eq_true, decide_eq_true_eq] at hq
    have hgG : g < G := hlt g (by rw [← hR]; simp [hg])
    obtain ⟨k, hk, hpk, hnk⟩ := hS.fnd g hgG i hi8 (by rw [fl_bit hi8, decide_eq_true_eq]; exact hq.1)
    rw [hq.2] at hpk hnk
    obtain ⟨A, C, hAC⟩ := List.append_of_mem hg
    have hkk : k = Wk.length + A.length := by
      have hlen : Wk.length + A.length < G := by
        have := congrArg List.length hR
        rw [Pr.sq_len, hAC] at this
        simp at this
        omega
      refine Pr.pl_inj (h := h / 128) hS.shp.gp hk hlen ?_
      have e := Pr.sq_at (h / 128) G hlen
      rw [← hR, List.getElem?_append_right (by omega), hAC, Nat.add_sub_cancel_left, List.getElem?_append_right (Nat.le_refl _), Nat.sub_self] at e
      simp at e
      rw [hpk, e]
    have hend : ∃ B x, Wk = B ++ [x] ∧ hasE T x = true := by
      rw [hWk]
      have key : ∀ L : List Nat, (∃ y S, L = wk T L ++ y :: S) → ∃ B x, wk T L = B ++ [x] ∧ hasE T x = true := by
        intro L
        induction L with
        | nil => rintro ⟨y, S, e⟩; simp [wk] at e
        | cons a L ih =>
          rintro ⟨y, S, e⟩
          rw [wk] at e ⊢
          by_cases q : hasE T a = true
          · rw [if_pos q]; exact ⟨[], a, rfl, q⟩
          · rw [if_neg q] at e ⊢
            obtain ⟨B, x, hB, hx⟩ := ih ⟨y, S, by simpa using e⟩
            exact ⟨a :: B, x, by rw [hB]; rfl, hx⟩
      obtain ⟨y, S, hyS⟩ : ∃ y S, R = y :: S := by
        cases R with
        | nil => cases hg
        | cons y S => exact ⟨y, S, rfl⟩
      exact key _ ⟨y, S, by rw [← hyS]; exact hR0.symm⟩
    obtain ⟨B, x, hB, hx⟩ := hend
    have hBk : B.length < k := by rw [hkk, hB]; simp; omega
    have h1 := hnk B.length hBk
    have h2 := Pr.sq_at (h / 128) G (show B.length < G by omega)
    rw [← hR, hB] at h2
    simp at h2
    rw [← h2, hx] at h1
    cases h1
  have e1 : fnd T h G = Wk.flatMap (sl T h) := by
    unfold fnd mts mtl
    rw [List.map_flatMap, ← hWk]
    apply flatMap_same
    intro g hg
    have hgG : g < G := hlt g (by rw [← hR]; simp [hg])
    rw [mgr_eq hS hgG, List.map_map]
    rfl
  rw [e1]
  conv => rhs; rw [← hR, List.flatMap_append]
  have e2 : R.flatMap (sl T h) = [] := by
    rw [List.flatMap_eq_nil_iff]
    exact hz
  rw [e2, List.append_nil]
end Go.Proofs.YtkknadkcpndnaaaDoor

/-
  How often an id is found, behind one entry more and one less; no statement is proved here.
-/
namespace Go.Proofs.YtkknadkcpndnaaaDoor
open Pr (Gp GpI sq pl)

theorem sq_nodup {h G : Nat} (hG : Gp G) : (sq h G).Nodup := by
  unfold sq List.Nodup
  rw [List.pairwise_map]
  refine List.Pairwise.imp_of_mem ?_ (List.pairwise_lt_range (n := G))
  intro a b ha hb hab e
  have := Pr.pl_inj hG (by simpa using ha) (by simpa using hb) e
  omega
theorem sq_split {h G g0 : Nat} (hG : Gp G) (hg : g0 < G) : ∃ A C, sq h G = A ++ g0 :: C ∧ (∀ x ∈ A, x ≠ g0) ∧ ∀ x ∈ C, x ≠ g0 := by
  obtain ⟨k, hk, hp⟩ := Pr.pl_onto (h := h) hG hg
  have hm : g0 ∈ sq h G := List.mem_iff_getElem?.2 ⟨k, by rw [Pr.sq_at h G hk, hp]⟩
  obtain ⟨A, C, e⟩ := List.append_of_mem hm
  have hn := sq_nodup (h := h) hG
  rw [e, List.nodup_append] at hn
  obtain ⟨_, h2, h3⟩ := hn
  rw [List.nodup_cons] at h2
  exact ⟨A, C, e, fun x hx q => h3 x hx g0 (by simp) q, fun x hx q => h2.1 (q ▸ hx)⟩
theorem sl_len (T : List Nat) (h g : Nat) : (sl T h g).length = cnt fun i => decide (bt T g i < 128) && decide (hsw T g i = h) := by
  unfold sl cnt
  rw [List.length_map]
theorem sl_cnt (T : List Nat) (h g d : Nat) : (sl T h g).count d = cnt fun i => (decide (bt T g i < 128) && decide (hsw T g i = h)) && decide (idw T g i = d) := by
  unfold sl cnt
  rw [List.count_eq_countP, List.countP_map, List.countP_eq_length_filter, List.filter_filter]
  congr 1
  apply List.filter_congr
  intro i _
  simp only [Function.comp]
  by_cases q : idw T g i = d
  · simp [q]
  · simp [q]
/-- A slot that was not full is full now. -/
theorem find_up {T T' : List Nat} {G g0 i0 b h d : Nat} (hS : Sd T G) (hS' : Sd T' G) (u : Up T T' G g0 i0 b h d) (hg : g0 < G) (hi : i0 < 8) (hb : b < 128) (h0 : 128 ≤ bt T g0 i0) :
    (fnd T' h G).count d = (fnd T h G).count d + 1 ∧ (fnd T' h G).length = (fnd T h G).length + 1 ∧ ∀ o, o ≠ h → fnd T' o G = fnd T o G := by
  have hlt : ∀ o, ∀ g ∈ sq (o / 128) G, g < G := fun o g hg => by
    obtain ⟨n, _, rfl⟩ := List.mem_map.1 hg
    exact Pr.pl_lt _ hS.shp.gp.pos n
  have hsame : ∀ o g, g < G → (g ≠ g0 ∨ o ≠ h) → sl T' o g = sl T o g := by
    intro o g hgG hor
    unfold sl
    have e : ((List.range 8).filter fun i => decide (bt T' g i < 128) && decide (hsw T' g i = o)) = ((List.range 8).filter fun i => decide (bt T g i < 128) && decide (hsw T g i = o)) := by
      apply List.filter_congr
      intro i hi'
      have hi8 : i < 8 := by simpa using hi'
      rw [u.bt g hgG i hi8, u.hs g hgG i hi8]
      by_cases q : g = g0 ∧ i = i0
      · rw [if_pos q, if_pos q]
        have ho : o ≠ h := hor.resolve_left (fun r => r q.1)
        obtain ⟨rfl, rfl⟩ := q
        rw [show decide (h = o) = false from decide_eq_false (fun r => ho r.symm), show decide (bt T g i < 128) = false from decide_eq_false (by omega)]
        simp
      · rw [if_neg q, if_neg q]
    rw [e]
    apply List.map_congr_left
    intro i hi'
    rw [List.mem_filter] at hi'
    have hi8 : i < 8 := by simpa using hi'.1
    have hq := hi'.2
    simp only [Bool.and_eq_true, decide_eq_true_eq] at hq
    rw [u.id g hgG i hi8, if_neg]
    rintro ⟨rfl, rfl⟩
    omega
  refine ⟨?_, ?_, fun o ho => ?_⟩
  · obtain ⟨A, C, e, hA, hC⟩ := sq_split (h := h / 128) hS.shp.gp hg
    have hAl : ∀ x ∈ A, x < G := fun x hx => hlt h x (by rw [e]; simp [hx])
    have hCl : ∀ x ∈ C, x < G := fun x hx => hlt h x (by rw [e]; simp [hx])
    rw [fnd_all hS, fnd_all hS', e, List.flatMap_append, List.flatMap_append, List.flatMap_cons, List.flatMap_cons, flatMap_same (L := A) fun x hx => hsame h x (hAl x hx) (.inl (hA x hx)), flatMap_same (L := C) fun x hx => hsame h x (hCl x hx) (.inl (hC x hx))]
    simp only [List.count_append, sl_cnt]
    have := cnt_flip (p := fun i => (decide (bt T g0 i < 128) && decide (hsw T g0 i = h)) && decide (idw T g0 i = d)) (q := fun i => (decide (bt T' g0 i < 128) && decide (hsw T' g0 i = h)) && decide (idw T' g0 i = d)) hi (fun j hj hne => by
      simp only [u.bt g0 hg j hj, u.hs g0 hg j hj, u.id g0 hg j hj, hne, and_false, if_false]) (by simp; omega) (by
      simp only [u.bt g0 hg i0 hi, u.hs g0 hg i0 hi, u.id g0 hg i0 hi, and_self, if_true]; simp [hb])
    omega
  · obtain ⟨A, C, e, hA, hC⟩ := sq_split (h := h / 128) hS.shp.gp hg
    have hAl : ∀ x ∈ A, x < G := fun x hx => hlt h x (by rw [e]; simp [hx])
    have hCl : ∀ x ∈ C, x < G := fun x hx => hlt h x (by rw [e]; simp [hx])
    rw [fnd_all hS, fnd_all hS', e, List.flatMap_append, List.flatMap_append, List.flatMap_cons, List.flatMap_cons, flatMap_same (L := A) fun x hx => hsame h x (hAl x hx) (.inl (hA x hx)), flatMap_same (L := C) fun x hx => hsame h x (hCl x hx) (.inl (hC x hx))]
    simp only [List.length_append, sl_len]
    have := cnt_flip (p := fun i => decide (bt T g0 i < 128) && decide (hsw T g0 i = h)) (q := fun i => decide (bt T' g0 i < 128) && decide (hsw T' g0 i = h)) hi (fun j hj hne => by
      simp only [u.bt g0 hg j hj, u.hs g0 hg j hj, hne, and_false, if_false]) (by simp; omega) (by
      simp only [u.bt g0 hg i0 hi, u.hs g0 hg i0 hi, and_self, if_true]; simp [hb])
    omega
  · rw [fnd_all hS, fnd_all hS']
    exact flatMap_same fun x hx => hsame o x (hlt o x hx) (.inr ho)
theorem Up.rev {T T' : List Nat} {G g0 i0 b h d : Nat} (u : Up T T' G g0 i0 b h d) (hS : Shp T G) : Up T' T G g0 i0 (Go.Proofs.YtkknadkcpndnaaaDoor.bt T g0 i0) (hsw T g0 i0) (idw T g0 i0) := by
  refine ⟨hS, fun g hg i hi => ?_, fun g hg i hi => ?_, fun g hg i hi => ?_⟩
  · split
    · rename_i e; rw [e.1, e.2]
    · rename_i e; rw [u.bt g hg i hi, if_neg e]
  · split
    · rename_i e; rw [e.1, e.2]
    · rename_i e; rw [u.hs g hg i hi, if_neg e]
  · split
    · rename_i e; rw [e.1, e.2]
    · rename_i e; rw [u.id g hg i hi, if_neg e]
theorem mts_mem {T : List Nat} {G h : Nat} (hS : Sd T G) {x : Nat × Nat} (hx : x ∈ mts T h G) : x.1 < G ∧ x.2 < 8 ∧ bt T x.1 x.2 < 128 ∧ hsw T x.1 x.2 = h := by
  unfold mts mtl at hx
  obtain ⟨g, hg, hxg⟩ := List.mem_flatMap.1 hx
  have hgs := (wk_pre T (sq (h / 128) G)).subset hg
  have hgG : g < G := by
    obtain ⟨n, _, rfl⟩ := List.mem_map.1 hgs
    exact Pr.pl_lt _ hS.shp.gp.pos n
  rw [mgr_eq hS hgG] at hxg
  obtain ⟨i, hi, rfl⟩ := List.mem_map.1 hxg
  rw [List.mem_filter] at hi
  have hq := hi.2
  simp only [Bool.and_eq_true, decide_eq_true_eq] at hq
  exact ⟨hgG, by simpa using hi.1, hq.1, hq.2⟩

/-! ### the three calls -/
theorem ins_facts {T T' : List Nat} {G h d : Nat} (hS : Sd T G) (hh : h < 18446744073709551616) (hd : d < 18446744073709551616) (hI : InsT T G h d (some T')) :
    Sd T' G ∧ T'.getD 1 0 = T.getD 1 0 + 1 ∧ (fnd T' h G).count d = (fnd T h G).count d + 1 ∧ (fnd T' h G).length = (fnd T h G).length + 1 ∧ ∀ o, o ≠ h → fnd T' o G = fnd T o G := by
  obtain ⟨g, i, hF, hno, rfl⟩ := hI
  obtain ⟨h1, h2, h3, h4, h5, h6, _⟩ := ins_sd hS hh hd hF hno
  obtain ⟨q1, q2, q3⟩ := find_up hS h1 h2 h3 h4 (Nat.mod_lt _ (by omega)) h5
  exact ⟨h1, h6, q1, q2, q3⟩
theorem del_facts {T T' : List Nat} {G h d : Nat} (hS : Sd T G) (hD : DelT T G h d (some T')) :
    Sd T' G ∧ T'.getD 1 0 + 1 = T.getD 1 0 ∧ (fnd T h G).count d = (fnd T' h G).count d + 1 ∧ (fnd T h G).length = (fnd T' h G).length + 1 := by
  obtain ⟨A, x, C, hm, _, hx, rfl⟩ := hD
  obtain ⟨h1, h2, h3, h4⟩ := mts_mem hS (x := x) (by rw [hm]; simp)
  obtain ⟨q1, q2, q3⟩ := del_sd hS h1 h2 h3
  have hb : 128 ≤ bt (remAt T x.1 x.2) x.1 x.2 := by
    rw [q2.bt _ h1 _ h2, if_pos ⟨rfl, rfl⟩]
    split <;> omega
  have hrev := q2.rev hS.shp
  rw [h4, hx] at hrev
  obtain ⟨r1, r2, _⟩ := find_up q1 hS hrev h1 h2 h3 hb
  exact ⟨q1, q3, r1, r2⟩
theorem del_some {T : List Nat} {G h d : Nat} (h0 : 1 ≤ (fnd T h G).count d) : ¬ DelT T G h d none := by
  intro hn
  have : d ∈ fnd T h G := List.count_pos_iff.1 h0
  unfold fnd at this
  obtain ⟨p, hp, e⟩ := List.mem_map.1 this
  exact hn p hp e
theorem new_cw {G k g : Nat} (hg : g < G) (hk : g < k) : cw (newK G k) g = 9259542123273814144 := by
  unfold cw
  rw [newK_at G k (by omega), if_neg (by omega), if_neg (by omega), if_pos (by omega)]
theorem byt_new : ∀ i, i < 8 → byt 9259542123273814144 i = 128 := by decide +kernel
theorem new_hs {G k g i : Nat} (hg : g < G) (hi : i < 8) : hsw (newK G k) g i = 0 ∧ idw (newK G k) g i = 0 := by
  unfold hsw idw
  rw [newK_at G k (by omega), newK_at G k (by omega)]
  constructor
  · rw [if_neg (by omega), if_neg (by omega), if_neg (by omega)]
  · rw [if_neg (by omega), if_neg (by omega), if_neg (by omega)]
theorem sd_new {G : Nat} (hG : Gp G) : Sd (newT G) G := by
  have hb : ∀ g, g < G → ∀ i, i < 8 → bt (newT G) g i = 128 := fun g hg i hi => by unfold bt newT; rw [new_cw hg hg]; exact byt_new i hi
  refine ⟨Gp.shp hG G, fun g hg => ?_, fun g hg => ?_, ?_, ?_, ?_⟩
  · rw [scB_iff]
    refine ⟨fun i hi => .inr (.inl (hb g hg i hi)), .inr fun i hi => ?_⟩
    have := hb g hg i hi
    unfold bt at this
    omega
  · rw [ssB_iff]
    intro i hi
    rw [hb g hg i hi]
    exact ⟨fun q => by omega, fun _ => new_hs hg hi⟩
  · rw [nfl_tot]
    have : ∀ k, k ≤ G → tot (fun g => cnt fun i => decide (bt (newT G) g i < 128)) k = 0 := by
      intro k
      induction k with
      | zero => intro _; rfl
      | succ k ih =>
        intro hk
        rw [tot, ih (by omega), cnt_congr (q := fun _ => false) fun i hi => by rw [hb k (by omega) i hi]; rfl]
        rfl
    rw [this G (Nat.le_refl _)]
    unfold newT
    rw [newK_at G G (by omega)]
    simp
  · rw [nus_tot]
    have : ∀ k, k ≤ G → tot (fun g => cnt fun i => decide (bt (newT G) g i < 128) || decide (bt (newT G) g i = 254)) k = 0 := by
      intro k
      induction k with
      | zero => intro _; rfl
      | succ k ih =>
        intro hk
        rw [tot, ih (by omega), cnt_congr (q := fun _ => false) fun i hi => by rw [hb k (by omega) i hi]; rfl]
        rfl
    rw [this G (Nat.le_refl _)]
    unfold newT
    rw [newK_at G G (by omega)]
    simp
  · intro own hown i hi hf
    rw [fl_bit hi, decide_eq_true_eq] at hf
    have := hb own hown i hi
    unfold bt at this
    omega
end Go.Proofs.YtkknadkcpndnaaaDoor

/-
  All entries and what is found of them; no statement is proved here.
-/
namespace Go.Proofs.YtkknadkcpndnaaaDoor
open Pr (Gp GpI sq pl)

theorem sum_all (f : Nat → Nat) : ∀ (G : Nat) (L : List Nat), L.Nodup → (∀ x ∈ L, x < G) → (∀ g, g < G → g ∈ L) → (L.map f).sum = tot f G
  | 0, L, _, h, _ => by
    cases L with
    | nil => rfl
    | cons x L => exact absurd (h x (by simp)) (by omega)
  | k + 1, L, hn, hlt, hall => by
    obtain ⟨A, C, e⟩ := List.append_of_mem (hall k (by omega))
    subst e
    rw [List.nodup_append] at hn
    obtain ⟨hA, hkC, hAC⟩ := hn
    rw [List.nodup_cons] at hkC
    have ih := sum_all f k (A ++ C) (List.nodup_append.2 ⟨hA, hkC.2, fun a ha c hc => hAC a ha c (by simp [hc])⟩) (fun x hx => by
      have h1 : x < k + 1 := hlt x (by rcases List.mem_append.1 hx with q | q <;> simp [q])
      have h2 : x ≠ k := by
        rcases List.mem_append.1 hx with q | q
        · exact hAC x q k (by simp)
        · rintro rfl; exact hkC.1 q
      omega) (fun g hg => by
      have := hall g (by omega)
      rcases List.mem_append.1 this with q | q
      · simp [q]
      · rcases List.mem_cons.1 q with r | r
        · omega
        · simp [r])
    rw [tot, ← ih]
    simp only [List.map_append, List.map_cons, List.sum_append, List.sum_cons]
    omega
theorem sq_sum {h G : Nat} (hG : Gp G) (f : Nat → Nat) : ((sq h G).map f).sum = tot f G :=
  sum_all f G _ (sq_nodup hG) (fun x hx => by obtain ⟨n, _, rfl⟩ := List.mem_map.1 hx; exact Pr.pl_lt _ hG.pos n) (fun g hg => by
    obtain ⟨k, hk, hp⟩ := Pr.pl_onto (h := h) hG hg
    exact List.mem_iff_getElem?.2 ⟨k, by rw [Pr.sq_at h G hk, hp]⟩)
theorem egr_eq (T : List Nat) (g : Nat) : egr T g = ((List.range 8).filter fun i => decide (bt T g i < 128)).map fun i => (hsw T g i, idw T g i) := by
  unfold egr esl
  rw [bsF_fl]
  rfl
theorem egr_cnt (T : List Nat) (g h d : Nat) : (egr T g).count (h, d) = (sl T h g).count d := by
  rw [egr_eq, sl_cnt, List.count_eq_countP, List.countP_map, List.countP_eq_length_filter, List.filter_filter]
  unfold cnt
  congr 1
  apply List.filter_congr
  intro i _
  simp only [Function.comp]
  by_cases q1 : hsw T g i = h
  · by_cases q2 : idw T g i = d
    · simp [q1, q2]
    · simp [q1, q2]
  · simp [q1]
theorem egr_len1 (T : List Nat) (g h : Nat) : (egr T g).countP (fun p => decide (p.1 = h)) = (sl T h g).length := by
  rw [egr_eq, sl_len, List.countP_map, List.countP_eq_length_filter, List.filter_filter]
  unfold cnt
  congr 1
  apply List.filter_congr
  intro i _
  simp [Function.comp, Bool.and_comm]
theorem ents_tot_cnt (T : List Nat) (h d : Nat) : ∀ k, (ents T k).count (h, d) = tot (fun g => (sl T h g).count d) k
  | 0 => rfl
  | k + 1 => by rw [ents_succ, List.count_append, ents_tot_cnt T h d k, egr_cnt, tot]
theorem ents_tot_len (T : List Nat) (h : Nat) : ∀ k, (ents T k).countP (fun p => decide (p.1 = h)) = tot (fun g => (sl T h g).length) k
  | 0 => rfl
  | k + 1 => by rw [ents_succ, List.countP_append, ents_tot_len T h k, egr_len1, tot]
theorem ents_tot (T : List Nat) : ∀ k, (ents T k).length = nfl T k
  | 0 => rfl
  | k + 1 => by
    rw [ents_succ, List.length_append, ents_tot T k, nfl, egr_eq, List.length_map, pc_fl]
    rfl
theorem fnd_cnt {T : List Nat} {G : Nat} (hS : Sd T G) (h d : Nat) : (fnd T h G).count d = (ents T G).count (h, d) := by
  rw [fnd_all hS, ents_tot_cnt, ← sq_sum (h := h / 128) hS.shp.gp]
  induction sq (h / 128) G with
  | nil => rfl
  | cons g L ih => rw [List.flatMap_cons, List.count_append, ih, List.map_cons, List.sum_cons]
theorem fnd_lenE {T : List Nat} {G : Nat} (hS : Sd T G) (h : Nat) : (fnd T h G).length = (ents T G).countP (fun p => decide (p.1 = h)) := by
  rw [fnd_all hS, ents_tot_len, ← sq_sum (h := h / 128) hS.shp.gp]
  induction sq (h / 128) G with
  | nil => rfl
  | cons g L ih => rw [List.flatMap_cons, List.length_append, ih, List.map_cons, List.sum_cons]

/-! ### filling a new table -/
/-- The table X holds just the entries E, and nothing is deleted in it. -/
structure Hol (X : List Nat) (G : Nat) (E : List (Nat × Nat)) : Prop where
  sd : Sd X G
  nd : X.getD 2 0 + E.length = 7 * G
  len : X.getD 1 0 = E.length
  cnt : ∀ h d, (fnd X h G).count d = E.count (h, d)
  tot : ∀ h, (fnd X h G).length = E.countP (fun p => decide (p.1 = h))
theorem hol_nodel {X : List Nat} {G : Nat} {E : List (Nat × Nat)} (h : Hol X G E) {g i : Nat} (hg : g < G) (hi : i < 8) : bt X g i ≠ 254 := by
  intro q
  have h1 := h.sd.use
  have h2 := h.sd.cnt
  rw [h.len] at h2
  have h3 := h.nd
  have key : nfl X G + 1 ≤ nus X G := by
    rw [nfl_tot, nus_tot]
    have hle : ∀ g, (Go.Proofs.YtkknadkcpndnaaaDoor.cnt fun i => decide (bt X g i < 128)) ≤ Go.Proofs.YtkknadkcpndnaaaDoor.cnt fun i => decide (bt X g i < 128) || decide (bt X g i = 254) := fun g => by
      unfold Go.Proofs.YtkknadkcpndnaaaDoor.cnt
      rw [← List.countP_eq_length_filter, ← List.countP_eq_length_filter]
      exact List.countP_mono_left fun a _ ha => by rw [ha]; rfl
    have hlt : (Go.Proofs.YtkknadkcpndnaaaDoor.cnt fun i => decide (bt X g i < 128)) + 1 ≤ Go.Proofs.YtkknadkcpndnaaaDoor.cnt fun i => decide (bt X g i < 128) || decide (bt X g i = 254) := by
      have e := cnt_flip (p := fun j => decide (bt X g j < 128)) (q := fun j => decide (bt X g j < 128) || decide (j = i)) hi (fun j _ hne => by simp [hne]) (by simp; omega) (by simp)
      rw [← e]
      unfold Go.Proofs.YtkknadkcpndnaaaDoor.cnt
      rw [← List.countP_eq_length_filter, ← List.countP_eq_length_filter]
      exact List.countP_mono_left fun a _ ha => by
        simp only [Bool.or_eq_true, decide_eq_true_eq] at ha ⊢
        rcases ha with r | r
        · exact .inl r
        · right; rw [r]; exact q
    have hmono : ∀ k, Go.Proofs.YtkknadkcpndnaaaDoor.tot (fun g => Go.Proofs.YtkknadkcpndnaaaDoor.cnt fun i => decide (bt X g i < 128)) k ≤ Go.Proofs.YtkknadkcpndnaaaDoor.tot (fun g => Go.Proofs.YtkknadkcpndnaaaDoor.cnt fun i => decide (bt X g i < 128) || decide (bt X g i = 254)) k := by
      intro k
      induction k with
      | zero => exact Nat.le_refl _
      | succ k ih => rw [Go.Proofs.YtkknadkcpndnaaaDoor.tot, Go.Proofs.YtkknadkcpndnaaaDoor.tot]; have := hle k; omega
    have hstr : ∀ k, g < k → Go.Proofs.YtkknadkcpndnaaaDoor.tot (fun g => Go.Proofs.YtkknadkcpndnaaaDoor.cnt fun i => decide (bt X g i < 128)) k + 1 ≤ Go.Proofs.YtkknadkcpndnaaaDoor.tot (fun g => Go.Proofs.YtkknadkcpndnaaaDoor.cnt fun i => decide (bt X g i < 128) || decide (bt X g i = 254)) k := by
      intro k
      induction k with
      | zero => intro h; omega
      | succ k ih =>
        intro h
        rw [Go.Proofs.YtkknadkcpndnaaaDoor.tot, Go.Proofs.YtkknadkcpndnaaaDoor.tot]
        by_cases e : g = k
        · subst e; have := hmono g; omega
        · have := ih (by omega); have := hle k; omega
    exact hstr G hg
  omega
theorem hol_new {G : Nat} (hG : Gp G) : Hol (newT G) G [] := by
  have hS := sd_new hG
  have hb : ∀ g, g < G → ∀ i, i < 8 → bt (newT G) g i = 128 := fun g hg i hi => by unfold bt newT; rw [new_cw hg hg]; exact byt_new i hi
  have hz : ∀ h, fnd (newT G) h G = [] := fun h => by
    rw [fnd_all hS, List.flatMap_eq_nil_iff]
    intro g hg
    have hgG : g < G := by obtain ⟨n, _, rfl⟩ := List.mem_map.1 hg; exact Pr.pl_lt _ hG.pos n
    unfold sl
    rw [List.map_eq_nil_iff, List.filter_eq_nil_iff]
    intro i hi
    rw [hb g hgG i (by simpa using hi)]
    simp
  refine ⟨hS, ?_, ?_, fun h d => by rw [hz]; rfl, fun h => by rw [hz]; rfl⟩
  · unfold newT; rw [newK_at G G (by omega)]; simp
  · unfold newT; rw [newK_at G G (by omega)]; simp
theorem hol_ins {X X' : List Nat} {G h d : Nat} {E : List (Nat × Nat)} (hH : Hol X G E) (hh : h < 18446744073709551616) (hd : d < 18446744073709551616) (hI : InsT X G h d (some X')) : Hol X' G (E ++ [(h, d)]) := by
  obtain ⟨h1, h2, h3, h4, h5⟩ := ins_facts hH.sd hh hd hI
  obtain ⟨g, i, hF, hno, rfl⟩ := hI
  obtain ⟨_, u, hg, hi, hb, _, h7⟩ := ins_sd hH.sd hh hd hF hno
  have hctl := (scB_iff.1 (hH.sd.ctl g hg)).1 i hi
  have hne := hol_nodel hH hg hi
  have h128 : bt X g i = 128 := by
    have : bt X g i < 128 ∨ bt X g i = 128 ∨ bt X g i = 254 := hctl
    omega
  rw [if_pos h128] at h7
  refine ⟨h1, ?_, ?_, fun x y => ?_, fun x => ?_⟩
  · have := hH.nd; rw [List.length_append, List.length_singleton]; omega
  · rw [h2, hH.len, List.length_append]; rfl
  · rw [List.count_append, List.count_singleton]
    by_cases e : x = h
    · subst e
      by_cases e2 : y = d
      · subst e2; rw [h3, hH.cnt]; simp
      · have hy : (fnd (insAt X g i x d) x G).count y = (fnd X x G).count y := by
          have l1 := h4
          have c1 := h3
          have hS' := h1
          rw [fnd_cnt hS', fnd_cnt hH.sd, ents_tot_cnt, ents_tot_cnt]
          apply tot_same
          intro g' hg'
          rw [sl_cnt, sl_cnt]
          apply cnt_congr
          intro j hj
          rw [u.bt g' hg' j hj, u.hs g' hg' j hj, u.id g' hg' j hj]
          by_cases q : g' = g ∧ j = i
          · rw [if_pos q, if_pos q, if_pos q]
            obtain ⟨rfl, rfl⟩ := q
            rw [h128]
            simp; intro _ r; exact absurd r.symm e2
          · rw [if_neg q, if_neg q, if_neg q]
        rw [hy, hH.cnt]
        have : ((x, d) == (x, y)) = false := by simp; exact fun r => e2 r.symm
        simp [this]
    · rw [h5 x e, hH.cnt]
      have : ((h, d) == (x, y)) = false := by simp; exact fun r => absurd r.symm e
      simp [this]
  · rw [List.countP_append]
    by_cases e : x = h
    · subst e; rw [h4, hH.tot]; simp
    · rw [h5 x e, hH.tot]; simp; exact fun r => e r.symm
/-- There is always an open slot. -/
theorem hol_full {X : List Nat} {G h d : Nat} {E : List (Nat × Nat)} (hH : Hol X G E) (hI : InsT X G h d none) : E.length = 7 * G := by
  have hex : ∃ g i, Fst X h G g i := by
    have hpos : nus X G < 8 * G := by
      have := hH.sd.use
      have := hH.sd.shp.gp.pos
      omega
    have hg : ∃ g, g < G ∧ opn X g ≠ [] := by
      refine Classical.byContradiction fun q => ?_
      have hall : ∀ g, g < G → opn X g = [] := fun g hg => Classical.byContradiction fun r => q ⟨g, hg, r⟩
      have : ∀ k, k ≤ G → nus X k = 8 * k := by
        intro k
        induction k with
        | zero => intro _; rfl
        | succ k ih =>
          intro hk
          rw [nus, ih (by omega), pc_us]
          have ho := hall k (by omega)
          rw [opn_eq, List.filter_eq_nil_iff] at ho
          have hc := (scB_iff.1 (hH.sd.ctl k (by omega))).1
          rw [cnt_congr (q := fun _ => true) fun i hi => by
            have h1 := ho i (by simpa using hi)
            simp [bt] at h1
            rcases hc i hi with r | r | r
            · simp [r]
            · exact absurd r (of_decide_eq_false h1.1)
            · exact absurd r (of_decide_eq_false h1.2)]
          show 8 * k + 8 = _
          omega
      have := this G (Nat.le_refl _)
      omega
    obtain ⟨g, hgG, hne⟩ := hg
    have key : ∀ L : List Nat, g ∈ L → ∃ A g' C, L = A ++ g' :: C ∧ (∀ x ∈ A, opn X x = []) ∧ opn X g' ≠ [] := by
      intro L
      induction L with
      | nil => intro h; cases h
      | cons a L ih =>
        intro hm
        by_cases q : opn X a = []
        · have : g ∈ L := by
            rcases List.mem_cons.1 hm with r | r
            · rw [r] at hne; exact absurd q hne
            · exact r
          obtain ⟨A, g', C, e, h1, h2⟩ := ih this
          exact ⟨a :: A, g', C, by rw [e]; rfl, fun x hx => by rcases List.mem_cons.1 hx with r | r; rw [r]; exact q; exact h1 x r, h2⟩
        · exact ⟨[], a, L, rfl, by simp, q⟩
    obtain ⟨k, hk, hp⟩ := Pr.pl_onto (h := h / 128) hH.sd.shp.gp hgG
    obtain ⟨A, g', C, e, h1, h2⟩ := key (sq (h / 128) G) (List.mem_iff_getElem?.2 ⟨k, by rw [Pr.sq_at _ G hk, hp]⟩)
    cases ho : opn X g' with
    | nil => exact absurd ho h2
    | cons i l => exact ⟨g', i, A, C, l, e, h1, ho⟩
  obtain ⟨g, i, hF⟩ := hex
  have := (hI g i hF).2
  have := hH.nd
  omega
end Go.Proofs.YtkknadkcpndnaaaDoor
