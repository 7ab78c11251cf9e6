/-
  One entry less, a new table, and what a search finds; no statement is proved here.
-/
import Derived.Test.YtkknadkcpndnaaaDoorUpd
namespace Go.Proofs.YtkknadkcpndnaaaDoor
open Pr (Gp GpI sq pl)

theorem del_sd {T : List Nat} {G g0 i0 : Nat} (hS : Sd T G) (hg0 : g0 < G) (hi0 : i0 < 8) (hfull : bt T g0 i0 < 128) :
    Sd (remAt T g0 i0) G ∧ Up T (remAt T g0 i0) G g0 i0 (if mt (cw T g0) 128 = 0 then 254 else 128) 0 0 ∧ (remAt T g0 i0).getD 1 0 + 1 = T.getD 1 0 := by
  have hl := hS.shp.len
  have hG := hS.shp.gp.le
  have hn1 := nfl_le T G
  rw [← hS.cnt] at hn1
  have hn2 : T.getD 2 0 ≤ 7 * G := by have := hS.use; omega
  have hone : 1 ≤ T.getD 1 0 := by
    rw [hS.cnt, nfl_tot]
    have key : ∀ k, g0 < k → 1 ≤ tot (fun g => cnt fun i => decide (bt T g i < 128)) k := by
      intro k
      induction k with
      | zero => intro h; omega
      | succ k ih =>
        intro h
        rw [tot]
        by_cases e : g0 = k
        · subst e
          have : 1 ≤ cnt fun i => decide (bt T g0 i < 128) := by
            unfold cnt
            exact List.length_pos_of_mem (List.mem_filter.2 ⟨by simpa using hi0, by simpa using hfull⟩)
          omega
        · have := ih (by omega); omega
    exact key G hg0
  have hdec : dec64 (T.getD 1 0) = T.getD 1 0 - 1 := dec64_pos hone (by omega)
  obtain ⟨b0, hb0⟩ : ∃ b0, b0 = (if mt (cw T g0) 128 = 0 then 254 else 128) := ⟨_, rfl⟩
  obtain ⟨T1, hT1⟩ : ∃ T1, T1 = (if mt (cw T g0) 128 = 0 then T.set 1 (T.getD 1 0 - 1) else (T.set 1 (T.getD 1 0 - 1)).set 2 (T.getD 2 0 + 1)) := ⟨_, rfl⟩
  have hSa := hS.shp.set 1 (T.getD 1 0 - 1) (by omega) (by omega)
  have hS1 : Shp T1 G := by rw [hT1]; split; exact hSa; exact hSa.set 2 _ (by omega) (by omega)
  have hrem : remAt T g0 i0 = wr T1 g0 i0 b0 0 0 := by
    unfold remAt
    rw [hdec, hT1, hb0]
    split <;> rfl
  have hb256 : b0 < 256 := by rw [hb0]; split <;> omega
  have hb128 : 128 ≤ b0 := by rw [hb0]; split <;> omega
  have hup0 := up_wr (d := 0) (h := 0) (b := b0) hS1 hg0 hi0 hb256 (by omega) (by omega)
  rw [← hrem] at hup0
  have hup : Up T (remAt T g0 i0) G g0 i0 b0 0 0 := by
    rw [hT1] at hup0
    by_cases q : mt (cw T g0) 128 = 0
    · rw [if_pos q] at hup0; exact Up.of_set hl (by omega) hup0
    · rw [if_neg q] at hup0; exact Up.of_set hl (by omega) (Up.of_set hSa.len (by omega) hup0)
  have h1' : (remAt T g0 i0).getD 1 0 + 1 = T.getD 1 0 := by
    rw [hrem, wr_low (by omega) (by rw [hS1.len]; omega), hT1]
    split
    · rw [getD_set (by omega), if_pos rfl]; omega
    · rw [getD_set (by rw [List.length_set]; omega), if_neg (by omega), getD_set (by omega), if_pos rfl]; omega
  have h2' : (remAt T g0 i0).getD 2 0 = T.getD 2 0 + (if b0 = 128 then 1 else 0) := by
    rw [hrem, wr_low (by omega) (by rw [hS1.len]; omega), hT1, hb0]
    split
    · rw [getD_set (by omega), if_neg (by omega)]; simp
    · rw [getD_set (by rw [List.length_set]; omega), if_pos rfl]; simp
  have hctl := fun g (hg : g < G) => scB_iff.1 (hS.ctl g hg)
  have hE : b0 = 128 ↔ mt (cw T g0) 128 ≠ 0 := by rw [hb0]; split <;> simp [*]
  have hEe : ∀ g, g < G → hasE T g = false → hasE (remAt T g0 i0) g = false := fun g hg q => by
    have q' := q
    rw [hasE_iff] at q ⊢
    intro j hj
    rw [hup.bt g hg j hj]
    split
    · rename_i e
      intro r
      have := hE.1 r
      rw [e.1] at q'
      unfold hasE at q'
      simp at q'
      exact this q'
    · exact q j hj
  rw [← hb0]
  refine ⟨⟨hup.shp, fun g hg => ?_, fun g hg => ?_, ?_, ?_, ?_⟩, hup, h1'⟩
  · rw [scB_iff]
    obtain ⟨e1, e2⟩ := hctl g hg
    refine ⟨fun i hi => ?_, ?_⟩
    · have := hup.bt g hg i hi
      unfold bt at this
      rw [this]
      split
      · rw [hb0]; split <;> simp
      · exact e1 i hi
    · by_cases eg : g = g0
      · subst eg
        by_cases q : mt (cw T g) 128 = 0
        · left
          intro i hi
          have := hup.bt g hg i hi
          unfold bt at this
          rw [this]
          split
          · rw [hb0, if_pos q]; omega
          · exact mt_zero.1 q i hi
        · right
          have e3 : ∀ i, i < 8 → byt (cw T g) i ≠ 254 := e2.resolve_left (fun r => q (mt_zero.2 r))
          intro i hi
          have := hup.bt g hg i hi
          unfold bt at this
          rw [this]
          split
          · rw [hb0, if_neg q]; omega
          · exact e3 i hi
      · have hsame : ∀ i, i < 8 → byt (cw (remAt T g0 i0) g) i = byt (cw T g) i := fun i hi => by
          have := hup.bt g hg i hi
          rw [if_neg (fun q => eg q.1)] at this
          exact this
        rcases e2 with e2 | e2
        · exact .inl fun i hi => by rw [hsame i hi]; exact e2 i hi
        · exact .inr fun i hi => by rw [hsame i hi]; exact e2 i hi
  · rw [ssB_iff]
    intro i hi
    have e := ssB_iff.1 (hS.slt g hg) i hi
    rw [hup.bt g hg i hi, hup.hs g hg i hi, hup.id g hg i hi]
    split
    · exact ⟨fun q => by omega, fun _ => ⟨rfl, rfl⟩⟩
    · exact e
  · have hc := hS.cnt
    rw [nfl_tot] at hc ⊢
    have : tot (fun g => cnt fun i => decide (bt T g i < 128)) G = tot (fun g => cnt fun i => decide (bt (remAt T g0 i0) g i < 128)) G + 1 := by
      refine tot_up (g0 := g0) ?_ hg0 fun g hg hne => ?_
      · refine cnt_flip hi0 (fun j hj hne => ?_) ?_ ?_
        · rw [hup.bt g0 hg0 j hj, if_neg (fun q => hne q.2)]
        · rw [hup.bt g0 hg0 i0 hi0, if_pos ⟨rfl, rfl⟩]; simp; omega
        · simpa using hfull
      · apply cnt_congr
        intro i hi
        rw [hup.bt g hg i hi, if_neg (fun q => hne q.1)]
    omega
  · have huse := hS.use
    rw [nus_tot] at huse ⊢
    by_cases q : b0 = 128
    · rw [if_pos q] at h2'
      have : tot (fun g => cnt fun i => decide (bt T g i < 128) || decide (bt T g i = 254)) G = tot (fun g => cnt fun i => decide (bt (remAt T g0 i0) g i < 128) || decide (bt (remAt T g0 i0) g i = 254)) G + 1 := by
        refine tot_up (g0 := g0) ?_ hg0 fun g hg hne => ?_
        · refine cnt_flip hi0 (fun j hj hne => ?_) ?_ ?_
          · rw [hup.bt g0 hg0 j hj, if_neg (fun q => hne q.2)]
          · rw [hup.bt g0 hg0 i0 hi0, if_pos ⟨rfl, rfl⟩, q]; rfl
          · simp [hfull]
        · apply cnt_congr
          intro i hi
          rw [hup.bt g hg i hi, if_neg (fun q => hne q.1)]
      omega
    · rw [if_neg q] at h2'
      have hb : b0 = 254 := by rw [hb0] at q ⊢; split at q <;> simp_all
      have : tot (fun g => cnt fun i => decide (bt (remAt T g0 i0) g i < 128) || decide (bt (remAt T g0 i0) g i = 254)) G = tot (fun g => cnt fun i => decide (bt T g i < 128) || decide (bt T g i = 254)) G := by
        apply tot_same
        intro g hg
        apply cnt_congr
        intro i hi
        rw [hup.bt g hg i hi]
        split
        · rename_i e
          obtain ⟨rfl, rfl⟩ := e
          rw [hb]; simp [hfull]
        · rfl
      omega
  · intro own hown i hi hf
    rw [fl_bit hi, decide_eq_true_eq] at hf
    have hbt := hup.bt own hown i hi
    have hhs := hup.hs own hown i hi
    by_cases e : own = g0 ∧ i = i0
    · rw [if_pos e] at hbt
      unfold bt at hbt
      omega
    · rw [if_neg e] at hhs hbt
      rw [hhs]
      obtain ⟨k, hk, hpk, hnk⟩ := hS.fnd own hown i hi (by rw [fl_bit hi, decide_eq_true_eq]; unfold bt at hbt; rw [← hbt]; exact hf)
      exact ⟨k, hk, hpk, fun n hn => hEe _ (Pr.pl_lt _ hS.shp.gp.pos n) (hnk n hn)⟩

/-! ### what a search finds -/
/-- The ids of a group's entries with the hash. -/
def sl (T : List Nat) (h g : Nat) : List Nat := ((List.range 8).filter fun i => decide (bt T g i < 128) && decide (hsw T g i = h)).map fun i => idw T g i
theorem mgr_eq {T : List Nat} {G h g : Nat} (hS : Sd T G) (hg : g < G) : mgr T h g = ((List.range 8).filter fun i => decide (bt T g i < 128) && decide (hsw T g i = h)).map fun i => (g, i) := by
  unfold mgr msl
  rw [bsF_mt, List.filter_filter]
  congr 1
  apply List.filter_congr
  intro i hi
  have hi8 : i < 8 := by simpa using hi
  have e := ssB_iff.1 (hS.slt g hg) i hi8
  have h128 : h % 128 < 128 := Nat.mod_lt _ (by omega)
  show (hsw T g i == h && decide (bt T g i = h % 128)) = _
  by_cases q : hsw T g i = h
  · simp only [q, beq_self_eq_true, Bool.true_and, decide_true, Bool.and_true, decide_eq_decide]
    constructor
    · intro r; omega
    · intro r; rw [e.1 r, q]
  · simp [q]
theorem flatMap_same {α β : Type} {f f' : α → List β} : ∀ {L : List α}, (∀ x ∈ L, f x = f' x) → L.flatMap f = L.flatMap f'
  | [], _ => rfl
  | a :: L, h => by rw [List.flatMap_cons, List.flatMap_cons, h a (by simp), flatMap_same fun x hx => h x (by simp [hx])]
theorem fnd_all {T : List Nat} {G : Nat} (hS : Sd T G) (h : Nat) : fnd T h G = (sq (h / 128) G).flatMap (sl T h) := by
  have hlt : ∀ g ∈ sq (h / 128) G, g < G := fun g hg => by
    obtain ⟨n, _, rfl⟩ := List.mem_map.1 hg
    exact Pr.pl_lt _ hS.shp.gp.pos n
  obtain ⟨R, hR0⟩ := wk_pre T (sq (h / 128) G)
  obtain ⟨Wk, hWk⟩ : ∃ Wk, Wk = wk T (sq (h / 128) G) := ⟨_, rfl⟩
  have hR := hR0
  rw [← hWk] at hR
  have hz : ∀ g ∈ R, sl T h g = [] := by
    intro g hg
    unfold sl
    rw [List.map_eq_nil_iff, List.filter_eq_nil_iff]
    intro i hi hq
    have hi8 : i < 8 := by simpa using hi
    simp only [Bool.and_eq_true, decide_eq_true_eq] at hq
    have hgG : g < G := hlt g (by rw [← hR]; simp [hg])
    obtain ⟨k, hk, hpk, hnk⟩ := hS.fnd g hgG i hi8 (by rw [fl_bit hi8, decide_eq_true_eq]; exact hq.1)
    rw [hq.2] at hpk hnk
    obtain ⟨A, C, hAC⟩ := List.append_of_mem hg
    have hkk : k = Wk.length + A.length := by
      have hlen : Wk.length + A.length < G := by
        have := congrArg List.length hR
        rw [Pr.sq_len, hAC] at this
        simp at this
        omega
      refine Pr.pl_inj (h := h / 128) hS.shp.gp hk hlen ?_
      have e := Pr.sq_at (h / 128) G hlen
      rw [← hR, List.getElem?_append_right (by omega), hAC, Nat.add_sub_cancel_left, List.getElem?_append_right (Nat.le_refl _), Nat.sub_self] at e
      simp at e
      rw [hpk, e]
    have hend : ∃ B x, Wk = B ++ [x] ∧ hasE T x = true := by
      rw [hWk]
      have key : ∀ L : List Nat, (∃ y S, L = wk T L ++ y :: S) → ∃ B x, wk T L = B ++ [x] ∧ hasE T x = true := by
        intro L
        induction L with
        | nil => rintro ⟨y, S, e⟩; simp [wk] at e
        | cons a L ih =>
          rintro ⟨y, S, e⟩
          rw [wk] at e ⊢
          by_cases q : hasE T a = true
          · rw [if_pos q]; exact ⟨[], a, rfl, q⟩
          · rw [if_neg q] at e ⊢
            obtain ⟨B, x, hB, hx⟩ := ih ⟨y, S, by simpa using e⟩
            exact ⟨a :: B, x, by rw [hB]; rfl, hx⟩
      obtain ⟨y, S, hyS⟩ : ∃ y S, R = y :: S := by
        cases R with
        | nil => cases hg
        | cons y S => exact ⟨y, S, rfl⟩
      exact key _ ⟨y, S, by rw [← hyS]; exact hR0.symm⟩
    obtain ⟨B, x, hB, hx⟩ := hend
    have hBk : B.length < k := by rw [hkk, hB]; simp; omega
    have h1 := hnk B.length hBk
    have h2 := Pr.sq_at (h / 128) G (show B.length < G by omega)
    rw [← hR, hB] at h2
    simp at h2
    rw [← h2, hx] at h1
    cases h1
  have e1 : fnd T h G = Wk.flatMap (sl T h) := by
    unfold fnd mts mtl
    rw [List.map_flatMap, ← hWk]
    apply flatMap_same
    intro g hg
    have hgG : g < G := hlt g (by rw [← hR]; simp [hg])
    rw [mgr_eq hS hgG, List.map_map]
    rfl
  rw [e1]
  conv => rhs; rw [← hR, List.flatMap_append]
  have e2 : R.flatMap (sl T h) = [] := by
    rw [List.flatMap_eq_nil_iff]
    exact hz
  rw [e2, List.append_nil]
end Go.Proofs.YtkknadkcpndnaaaDoor
