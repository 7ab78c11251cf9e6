/-
  What a slot that is written changes; sound tables stay sound; no statement is proved here.
-/
import Derived.Test.YtkknadkcpndnaaaDoorWf
namespace Go.Proofs.YtkknadkcpndnaaaDoor
open Pr (Gp GpI sq pl)

theorem wr_at {T : List Nat} {g i b h d j : Nat} (hj : j < T.length) : (wr T g i b h d).getD j 0 = if j = 3 + 17 * g + 2 + 2 * i then d else if j = 3 + 17 * g + 1 + 2 * i then h else if j = 3 + 17 * g then st (cw T g) i b else T.getD j 0 := by
  unfold wr
  rw [getD_set (by simpa using hj), getD_set (by simpa using hj), getD_set hj]
/-- The slot (g0, i0) is written, and nothing else but the counts. -/
structure Up (T T' : List Nat) (G g0 i0 b h d : Nat) : Prop where
  shp : Shp T' G
  bt : ∀ g, g < G → ∀ i, i < 8 → bt T' g i = if g = g0 ∧ i = i0 then b else bt T g i
  hs : ∀ g, g < G → ∀ i, i < 8 → hsw T' g i = if g = g0 ∧ i = i0 then h else hsw T g i
  id : ∀ g, g < G → ∀ i, i < 8 → idw T' g i = if g = g0 ∧ i = i0 then d else idw T g i
theorem wr_len (T : List Nat) (g i b h d : Nat) : (wr T g i b h d).length = T.length := by simp [wr]
theorem Shp.wr {T : List Nat} {G g i b h d : Nat} (hS : Shp T G) (_hg : g < G) (hi : i < 8) (hb : b < 256) (hh : h < 18446744073709551616) (hd : d < 18446744073709551616) : Shp (wr T g i b h d) G := by
  unfold Go.Proofs.YtkknadkcpndnaaaDoor.wr
  exact ((hS.set _ _ (by omega) (st_lt (hS.cw_lt g) hb hi)).set _ _ (by omega) hh).set _ _ (by omega) hd
theorem up_wr {T : List Nat} {G g0 i0 b h d : Nat} (hS : Shp T G) (hg : g0 < G) (hi : i0 < 8) (hb : b < 256) (hh : h < 18446744073709551616) (hd : d < 18446744073709551616) : Up T (wr T g0 i0 b h d) G g0 i0 b h d := by
  have hl := hS.len
  refine ⟨hS.wr hg hi hb hh hd, fun g hgG i hi8 => ?_, fun g hgG i hi8 => ?_, fun g hgG i hi8 => ?_⟩
  · unfold bt cw
    rw [wr_at (by omega), if_neg (by omega), if_neg (by omega)]
    by_cases e : g = g0
    · subst e
      rw [if_pos rfl, byt_st hb hi hi8]
      by_cases q : i = i0
      · rw [if_pos q, if_pos ⟨rfl, q⟩]
      · rw [if_neg q, if_neg (fun h => q h.2)]; rfl
    · rw [if_neg (by omega), if_neg (fun h => e h.1)]
  · unfold hsw
    rw [wr_at (by omega), if_neg (by omega)]
    by_cases e : g = g0 ∧ i = i0
    · rw [if_pos (by obtain ⟨rfl, rfl⟩ := e; rfl), if_pos e]
    · rw [if_neg (by omega), if_neg (by omega), if_neg e]
  · unfold idw
    rw [wr_at (by omega)]
    by_cases e : g = g0 ∧ i = i0
    · rw [if_pos (by obtain ⟨rfl, rfl⟩ := e; rfl), if_pos e]
    · rw [if_neg (by omega), if_neg (by omega), if_neg (by omega), if_neg e]
theorem set_cw {T : List Nat} {G k x g : Nat} (hl : T.length = 3 + 17 * G) (hk : k < 3) (hg : g < G) : cw (T.set k x) g = cw T g := by
  unfold cw; rw [getD_set (by omega), if_neg (by omega)]
theorem set_hs {T : List Nat} {G k x g i : Nat} (hl : T.length = 3 + 17 * G) (hk : k < 3) (hg : g < G) (hi : i < 8) : hsw (T.set k x) g i = hsw T g i := by
  unfold hsw; rw [getD_set (by omega), if_neg (by omega)]
theorem set_id {T : List Nat} {G k x g i : Nat} (hl : T.length = 3 + 17 * G) (hk : k < 3) (hg : g < G) (hi : i < 8) : idw (T.set k x) g i = idw T g i := by
  unfold idw; rw [getD_set (by omega), if_neg (by omega)]
theorem Up.of_set {T T' : List Nat} {G k x g0 i0 b h d : Nat} (hl : T.length = 3 + 17 * G) (hk : k < 3) (u : Up (T.set k x) T' G g0 i0 b h d) : Up T T' G g0 i0 b h d :=
  ⟨u.shp, fun g hg i hi => by rw [u.bt g hg i hi]; unfold Go.Proofs.YtkknadkcpndnaaaDoor.bt; rw [set_cw hl hk hg], fun g hg i hi => by rw [u.hs g hg i hi, set_hs hl hk hg hi], fun g hg i hi => by rw [u.id g hg i hi, set_id hl hk hg hi]⟩
theorem wr_low {T : List Nat} {g i b h d k : Nat} (hk : k < 3) (hl : k < T.length) : (wr T g i b h d).getD k 0 = T.getD k 0 := by
  rw [wr_at hl, if_neg (by omega), if_neg (by omega), if_neg (by omega)]

/-! ### counts over groups -/
def tot (f : Nat → Nat) : Nat → Nat
  | 0 => 0
  | k + 1 => tot f k + f k
theorem tot_same {f f' : Nat → Nat} : ∀ {k : Nat}, (∀ g, g < k → f' g = f g) → tot f' k = tot f k
  | 0, _ => rfl
  | k + 1, h => by rw [tot, tot, tot_same fun g hg => h g (by omega), h k (by omega)]
theorem tot_up {f f' : Nat → Nat} {g0 : Nat} (h1 : f' g0 = f g0 + 1) : ∀ {k : Nat}, g0 < k → (∀ g, g < k → g ≠ g0 → f' g = f g) → tot f' k = tot f k + 1
  | 0, h, _ => by omega
  | k + 1, h, h2 => by
    rw [tot, tot]
    by_cases e : g0 = k
    · subst e
      rw [tot_same (f := f) (f' := f') fun g hg => h2 g (by omega) (by omega), h1]
      omega
    · rw [tot_up h1 (k := k) (by omega) fun g hg => h2 g (by omega), h2 k (by omega) (fun q => e q.symm)]
      omega
theorem nfl_tot (T : List Nat) : ∀ k, nfl T k = tot (fun g => cnt fun i => decide (bt T g i < 128)) k
  | 0 => rfl
  | k + 1 => by rw [nfl, tot, nfl_tot T k, pc_fl]; rfl
theorem nus_tot (T : List Nat) : ∀ k, nus T k = tot (fun g => cnt fun i => decide (bt T g i < 128) || decide (bt T g i = 254)) k
  | 0 => rfl
  | k + 1 => by rw [nus, tot, nus_tot T k, pc_us]; rfl

/-! ### one more entry -/
theorem ins_sd {T : List Nat} {G h d : Nat} (hS : Sd T G) (hh : h < 18446744073709551616) (hd : d < 18446744073709551616) {g0 i0 : Nat} (hF : Fst T h G g0 i0) (hno : ¬ (mt (cw T g0) 128 ≠ 0 ∧ T.getD 2 0 = 0)) :
    Sd (insAt T g0 i0 h d) G ∧ Up T (insAt T g0 i0 h d) G g0 i0 (h % 128) h d ∧ g0 < G ∧ i0 < 8 ∧ 128 ≤ bt T g0 i0 ∧ (insAt T g0 i0 h d).getD 1 0 = T.getD 1 0 + 1 ∧ (insAt T g0 i0 h d).getD 2 0 + (if bt T g0 i0 = 128 then 1 else 0) = T.getD 2 0 := by
  have hl := hS.shp.len
  have hG := hS.shp.gp.le
  obtain ⟨A, C, l, hsq, hA, hop⟩ := hF
  have hmem : g0 ∈ sq (h / 128) G := by rw [hsq]; simp
  have hg0 : g0 < G := by
    obtain ⟨n, _, rfl⟩ := List.mem_map.1 hmem
    exact Pr.pl_lt _ hS.shp.gp.pos n
  have hi0m : i0 ∈ opn T g0 := by rw [hop]; simp
  rw [opn_eq, List.mem_filter] at hi0m
  have hi0 : i0 < 8 := by simpa using hi0m.1
  have hb0 : bt T g0 i0 = 128 ∨ bt T g0 i0 = 254 := by simpa using hi0m.2
  have hn1 := nfl_le T G
  rw [← hS.cnt] at hn1
  have hn2 : T.getD 2 0 ≤ 7 * G := by have := hS.use; omega
  have h128 : h % 128 < 128 := Nat.mod_lt _ (by omega)
  obtain ⟨T1, hT1⟩ : ∃ T1, T1 = (if mt (cw T g0) 128 ≠ 0 then T.set 2 (T.getD 2 0 - 1) else T) := ⟨_, rfl⟩
  have hS1 : Shp T1 G := by rw [hT1]; split; exact hS.shp.set 2 _ (by omega) (by omega); exact hS.shp
  have hS2 := hS1.set 1 (T.getD 1 0 + 1) (by omega) (by omega)
  have hcw : cw (T1.set 1 (T.getD 1 0 + 1)) g0 = cw T g0 := by
    rw [set_cw hS1.len (by omega) hg0, hT1]
    split
    · rw [set_cw hl (by omega) hg0]
    · rfl
  have hins : insAt T g0 i0 h d = wr (T1.set 1 (T.getD 1 0 + 1)) g0 i0 (h % 128) h d := by unfold insAt; rw [← hT1]
  have hup0 := up_wr (d := d) (h := h) (b := h % 128) hS2 hg0 hi0 (by omega) hh hd
  rw [← hins] at hup0
  have hup1 := Up.of_set hS1.len (by omega) hup0
  have hup : Up T (insAt T g0 i0 h d) G g0 i0 (h % 128) h d := by
    rw [hT1] at hup1
    by_cases q : mt (cw T g0) 128 ≠ 0
    · rw [if_pos q] at hup1; exact Up.of_set hl (by omega) hup1
    · rw [if_neg q] at hup1; exact hup1
  have hctl := fun g (hg : g < G) => scB_iff.1 (hS.ctl g hg)
  have hE0 : mt (cw T g0) 128 ≠ 0 ↔ bt T g0 i0 = 128 := by
    constructor
    · intro q
      rcases hb0 with r | r
      · exact r
      · exfalso
        rcases (hctl g0 hg0).2 with s | s
        · exact q (mt_zero.2 s)
        · exact s i0 hi0 r
    · intro q r
      exact mt_zero.1 r i0 hi0 q
  have h1' : (insAt T g0 i0 h d).getD 1 0 = T.getD 1 0 + 1 := by
    rw [hins, wr_low (by omega) (by rw [List.length_set, hS1.len]; omega), getD_set (by rw [hS1.len]; omega), if_pos rfl]
  have h2' : (insAt T g0 i0 h d).getD 2 0 + (if bt T g0 i0 = 128 then 1 else 0) = T.getD 2 0 := by
    rw [hins, wr_low (by omega) (by rw [List.length_set, hS1.len]; omega), getD_set (by rw [hS1.len]; omega), if_neg (by omega), hT1]
    by_cases q : mt (cw T g0) 128 ≠ 0
    · rw [if_pos q, if_pos (hE0.1 q), getD_set (by omega), if_pos rfl]
      have : T.getD 2 0 ≠ 0 := fun r => hno ⟨q, r⟩
      omega
    · rw [if_neg q, if_neg (fun r => q (hE0.2 r)), Nat.add_zero]
  refine ⟨⟨hup.shp, fun g hg => ?_, fun g hg => ?_, ?_, ?_, ?_⟩, hup, hg0, hi0, by omega, h1', h2'⟩
  · rw [scB_iff]
    obtain ⟨e1, e2⟩ := hctl g hg
    refine ⟨fun i hi => ?_, ?_⟩
    · have := hup.bt g hg i hi
      unfold bt at this
      rw [this]
      split
      · exact .inl h128
      · exact e1 i hi
    · rcases e2 with e2 | e2
      · left
        intro i hi
        have := hup.bt g hg i hi
        unfold bt at this
        rw [this]
        split
        · omega
        · exact e2 i hi
      · right
        intro i hi
        have := hup.bt g hg i hi
        unfold bt at this
        rw [this]
        split
        · omega
        · exact e2 i hi
  · rw [ssB_iff]
    intro i hi
    have e := ssB_iff.1 (hS.slt g hg) i hi
    rw [hup.bt g hg i hi, hup.hs g hg i hi, hup.id g hg i hi]
    split
    · exact ⟨fun _ => rfl, fun q => by omega⟩
    · exact e
  · rw [h1', hS.cnt, nfl_tot, nfl_tot]
    refine (tot_up (g0 := g0) ?_ hg0 fun g hg hne => ?_).symm
    · refine cnt_flip hi0 (fun j hj hne => ?_) ?_ ?_
      · rw [hup.bt g0 hg0 j hj, if_neg (fun q => hne q.2)]
      · simp; omega
      · rw [hup.bt g0 hg0 i0 hi0, if_pos ⟨rfl, rfl⟩]; simpa using h128
    · apply cnt_congr
      intro i hi
      rw [hup.bt g hg i hi, if_neg (fun q => hne q.1)]
  · have huse := hS.use
    rw [nus_tot] at huse ⊢
    by_cases q : bt T g0 i0 = 128
    · rw [if_pos q] at h2'
      have : tot (fun g => cnt fun i => decide (bt (insAt T g0 i0 h d) g i < 128) || decide (bt (insAt T g0 i0 h d) g i = 254)) G = tot (fun g => cnt fun i => decide (bt T g i < 128) || decide (bt T g i = 254)) G + 1 := by
        refine tot_up (g0 := g0) ?_ hg0 fun g hg hne => ?_
        · refine cnt_flip hi0 (fun j hj hne => ?_) ?_ ?_
          · rw [hup.bt g0 hg0 j hj, if_neg (fun q => hne q.2)]
          · rw [q]; rfl
          · rw [hup.bt g0 hg0 i0 hi0, if_pos ⟨rfl, rfl⟩]; simp [h128]
        · apply cnt_congr
          intro i hi
          rw [hup.bt g hg i hi, if_neg (fun q => hne q.1)]
      omega
    · rw [if_neg q] at h2'
      have hb : bt T g0 i0 = 254 := by omega
      have : tot (fun g => cnt fun i => decide (bt (insAt T g0 i0 h d) g i < 128) || decide (bt (insAt T g0 i0 h d) g i = 254)) G = tot (fun g => cnt fun i => decide (bt T g i < 128) || decide (bt T g i = 254)) G := by
        apply tot_same
        intro g hg
        apply cnt_congr
        intro i hi
        rw [hup.bt g hg i hi]
        split
        · rename_i e
          obtain ⟨rfl, rfl⟩ := e
          rw [hb]; simp [h128]
        · rfl
      omega
  · intro own hown i hi hfull
    rw [fl_bit hi, decide_eq_true_eq] at hfull
    have hbt := hup.bt own hown i hi
    have hhs := hup.hs own hown i hi
    have hEe : ∀ g, g < G → hasE T g = false → hasE (insAt T g0 i0 h d) g = false := fun g hg q => by
      rw [hasE_iff] at q ⊢
      intro j hj
      rw [hup.bt g hg j hj]
      split
      · omega
      · exact q j hj
    have hpl : ∀ x n, pl x G n < G := fun x n => Pr.pl_lt x hS.shp.gp.pos n
    by_cases e : own = g0 ∧ i = i0
    · rw [if_pos e] at hhs
      rw [hhs]
      obtain ⟨rfl, rfl⟩ := e
      have hAl : A.length < G := by
        have := congrArg List.length hsq
        rw [Pr.sq_len] at this
        simp at this
        omega
      refine ⟨A.length, hAl, ?_, fun n hn => hEe _ (hpl _ _) ?_⟩
      · have := Pr.sq_at (h / 128) G hAl
        rw [hsq] at this
        simp at this
        exact this.symm
      · have h1 := Pr.sq_at (h / 128) G (show n < G by omega)
        rw [hsq, List.getElem?_append_left hn] at h1
        have h2 := hA _ (List.mem_of_getElem? h1)
        rw [opn_eq, List.filter_eq_nil_iff] at h2
        rw [hasE_iff]
        intro j hj q
        exact h2 j (by simpa using hj) (by simp [q])
    · rw [if_neg e] at hhs hbt
      rw [hhs]
      obtain ⟨k, hk, hpk, hnk⟩ := hS.fnd own hown i hi (by rw [fl_bit hi, decide_eq_true_eq]; unfold bt at hbt; rw [← hbt]; exact hfull)
      exact ⟨k, hk, hpk, fun n hn => hEe _ (hpl _ _) (hnk n hn)⟩
end Go.Proofs.YtkknadkcpndnaaaDoor
