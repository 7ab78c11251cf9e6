/-
  The calls keep what always holds of a graph; no statement is proved here.
-/
import Derived.Test.YtbjplfbplkjibaaMath
namespace Go.Proofs.Ytbjplfbplkjibaa

theorem sh_c {G : Gs} (x : Int) (hi : x = -1 ∨ 0 ≤ x) : x = -1 ∨ (ndAt (sh G x).ns x.toNat).c ≠ 1 := by
  rcases hi with h | h
  · exact .inl h
  · right
    have : x ≠ -1 := by omega
    simp only [sh, this, if_false, shN]
    split
    · rename_i h1
      have hl : x.toNat < G.ns.length := lvN_lt (G := G) ⟨by rw [h1]; decide, by rw [h1]; decide⟩
      rw [ndAt_set hl, if_pos rfl]
      simp
    · assumption

/-- What shading does to a node. -/
theorem sh_at (G : Gs) (x : Int) (j : Nat) : ndAt (sh G x).ns j = ndAt G.ns j ∨ ((ndAt G.ns j).c = 1 ∧ ndAt (sh G x).ns j = ⟨2, (ndAt G.ns j).s, 0⟩) := by
  unfold sh
  split
  · exact .inl rfl
  · unfold shN
    split
    · rename_i h1
      have hl : x.toNat < G.ns.length := lvN_lt (G := G) ⟨by rw [h1]; decide, by rw [h1]; decide⟩
      simp only
      rw [ndAt_set hl]
      by_cases e : j = x.toNat
      · subst e; right; exact ⟨h1, by simp⟩
      · rw [if_neg e]; exact .inl rfl
    · exact .inl rfl
theorem sh_len (G : Gs) (x : Int) : (sh G x).ns.length = G.ns.length := by
  unfold sh shN
  split
  · rfl
  · split <;> simp
theorem sh_fix (G : Gs) (x : Int) : (sh G x).le = G.le ∧ (sh G x).ph = G.ph ∧ (sh G x).cy = G.cy ∧ (sh G x).pl = G.pl ∧ (sh G x).en = G.en := by
  unfold sh shN
  split
  · simp
  · split <;> simp
theorem sh_s (G : Gs) (x : Int) (j : Nat) : (ndAt (sh G x).ns j).s = (ndAt G.ns j).s := by
  rcases sh_at G x j with h | ⟨_, h⟩ <;> rw [h]
theorem sh_lv (G : Gs) (x : Int) (j : Nat) : lvN (sh G x) j ↔ lvN G j := by
  unfold lvN
  rcases sh_at G x j with h | ⟨h1, h⟩
  · rw [h]
  · rw [h, h1]; simp
theorem sh_lvB (G : Gs) (x y : Int) : lvB (sh G x) y = lvB G y := by
  have := sh_lv G x y.toNat
  simp only [lvB, this]
/-- What is not white stays so. -/
theorem sh_nw (G : Gs) (x : Int) (j : Nat) (h : (ndAt G.ns j).c ≠ 1) : ndAt (sh G x).ns j = ndAt G.ns j := by
  rcases sh_at G x j with h1 | ⟨h1, _⟩
  · exact h1
  · exact absurd h1 h
theorem sh_c2 (G : Gs) (x : Int) (j : Nat) : (ndAt (sh G x).ns j).c ≠ 1 ∨ ndAt (sh G x).ns j = ndAt G.ns j := by
  rcases sh_at G x j with h1 | ⟨_, h⟩
  · exact .inr h1
  · left; rw [h]; simp

theorem iv_sh {G : Gs} (h : Iv G) (x : Int) : Iv (sh G x) := by
  by_cases h0 : x = -1
  · simp only [sh, h0, if_true]; exact h
  by_cases h1 : (ndAt G.ns x.toNat).c = 1
  · obtain ⟨i, hi⟩ : ∃ i, i = x.toNat := ⟨_, rfl⟩
    have hG : sh G x = { G with ns := G.ns.set i ⟨2, (ndAt G.ns i).s, 0⟩, ln := G.ln ++ [i] } := by
      simp only [sh, h0, if_false, shN, h1, if_true, hi]
    rw [← hi] at h1
    have hl : i < G.ns.length := lvN_lt (G := G) ⟨by rw [h1]; decide, by rw [h1]; decide⟩
    have at_ : ∀ j, ndAt (G.ns.set i ⟨2, (ndAt G.ns i).s, 0⟩) j = if j = i then ⟨2, (ndAt G.ns i).s, 0⟩ else ndAt G.ns j := fun j => ndAt_set hl
    have lv := sh_lv G x
    have lvb := sh_lvB G x
    have nw : ∀ y : Int, (ndAt G.ns y.toNat).c ≠ 1 → (ndAt (sh G x).ns y.toNat).c ≠ 1 := fun y hy => by rw [sh_nw _ _ _ hy]; exact hy
    have hni : i ∉ G.ln := fun q => by have := (h.grey i).2 q; omega
    have hph : G.ph = 1 := by
      by_cases q : G.ph = 1
      · exact q
      · exact absurd h1 ((h.idle q).2 i).1
    rw [hG] at lv lvb nw ⊢
    refine ⟨by simpa using h.len, ?_, ?_, ?_, ?_, ?_, h.ph, fun q => absurd hph q, ?_, ?_, ?_, ?_, by simpa using h.pe, by simpa using h.le, ?_⟩
    · intro j; simp only [at_]; split
      · simp
      · exact h.col j
    · intro j; simp only [at_]; split
      · exact h.sl i
      · exact h.sl j
    · intro j; simp only [at_]; split
      · exact Nat.zero_le _
      · exact h.lo j
    · intro j; simp only [at_]; split
      · intro q; rcases q with q | q <;> simp at q
      · exact h.no j
    · intro j hj y hy
      rw [lvb]
      have hj2 := (lv j).1 hj
      simp only [at_] at hy
      split at hy
      · rename_i e; subst e; exact h.cl j hj2 y hy
      · exact h.cl j hj2 y hy
    · intro j; simp only [at_, List.mem_append, List.mem_singleton]; split
      · rename_i e; simp [e]
      · rename_i e; rw [h.grey j]; simp [e]
    · exact List.nodup_append.2 ⟨h.nd, by simp, fun a ha b hb => by simp at hb; subst hb; intro e; exact hni (e ▸ ha)⟩
    · intro j; simp only [at_]; split
      · intro q; simp at q
      · intro q y hy
        rcases h.tri j q y hy with r | r
        · exact .inl r
        · right; have := nw y r; simpa only [at_] using this
    · intro j; simp only [at_]; split
      · intro _ y hy; simp at hy
      · intro q y hy
        rcases h.trg j q y hy with r | r
        · exact .inl r
        · right; have := nw y r; simpa only [at_] using this
    · intro j hj; simp only [at_]; split
      · simp
      · exact h.les j hj
  · have : sh G x = G := by simp only [sh, h0, if_false, shN, h1]
    rw [this]; exact h

theorem iv_shs (R : List Int) : ∀ {G : Gs}, Iv G → Iv (R.foldl sh G) := by
  induction R with
  | nil => exact fun h => h
  | cons x R ih => exact fun h => ih (iv_sh h x)

/-! ### Node -/

theorem fr_le {G : Gs} (h : G.le ≤ G.ns.length) : G.le ≤ fr G ∧ fr G ≤ G.ns.length := by
  have := List.findIdx_le_length (p := fun x : Nd => x.c == 0) (xs := G.ns.drop G.le)
  simp only [List.length_drop] at this
  unfold fr; omega
theorem ndAt_eq {l : List Nd} {i : Nat} (h : i < l.length) : ndAt l i = l[i] := by simp [ndAt, List.getD, h]
theorem drop_at (l : List Nd) (a j : Nat) : ndAt (l.drop a) j = ndAt l (a + j) := by simp [ndAt, List.getD]
theorem fr_free {G : Gs} : (ndAt G.ns (fr G)).c = 0 := by
  unfold fr
  rw [← drop_at]
  by_cases h : (G.ns.drop G.le).findIdx (fun x => x.c == 0) < (G.ns.drop G.le).length
  · have := List.findIdx_getElem (p := fun x : Nd => x.c == 0) (w := h)
    simp only [beq_iff_eq] at this
    rw [ndAt_eq h]; exact this
  · rw [ndAt_out (by omega)]; rfl
theorem fr_lo {G : Gs} {i : Nat} (h : G.le ≤ i) (hi : i < fr G) : (ndAt G.ns i).c ≠ 0 := by
  unfold fr at hi
  have h1 : i - G.le < (G.ns.drop G.le).findIdx (fun x => x.c == 0) := by omega
  have := List.not_of_lt_findIdx h1
  have hl := List.findIdx_le_length (p := fun x : Nd => x.c == 0) (xs := G.ns.drop G.le)
  have h2 : i - G.le < (G.ns.drop G.le).length := by omega
  have h3 : ndAt (G.ns.drop G.le) (i - G.le) = ndAt G.ns i := by rw [drop_at]; congr 1; omega
  rw [← h3, ndAt_eq h2]
  simpa using this

theorem node_at {G : Gs} (h : G.le ≤ G.ns.length) (hf : fr G ≠ 65536) (m j : Nat) : ndAt (nodeG G m).ns j = if j = fr G then ⟨3, List.replicate m (-1), 0⟩ else ndAt G.ns j := by
  have hfl := (fr_le h).2
  simp only [nodeG, hf, if_false]
  by_cases e : fr G = G.ns.length
  · rw [if_pos e, ndAt_set (by simp; omega)]
    split
    · rfl
    · rename_i q; rw [ndAt_snoc, if_neg (by omega)]
  · rw [if_neg e, ndAt_set (by omega)]
theorem node_len {G : Gs} (h : G.le ≤ G.ns.length) (hf : fr G ≠ 65536) (m : Nat) : (nodeG G m).ns.length = max G.ns.length (fr G + 1) := by
  have hfl := (fr_le h).2
  simp only [nodeG, hf, if_false]
  by_cases e : fr G = G.ns.length
  · rw [if_pos e]; simp; omega
  · rw [if_neg e]; simp; omega
theorem node_lv {G : Gs} (h : G.le ≤ G.ns.length) (hf : fr G ≠ 65536) (m j : Nat) : lvN (nodeG G m) j ↔ j = fr G ∨ lvN G j := by
  unfold lvN
  rw [node_at h hf]
  split
  · rename_i e; simp [e]
  · rename_i e; simp [e]

theorem iv_nodeG {G : Gs} (h : Iv G) (m : Nat) (hm : m ≤ 8192) : Iv (nodeG G m) := by
  have hfl := fr_le h.le
  by_cases hf : fr G = 65536
  · simp only [nodeG, hf, if_true]
    refine ⟨h.len, h.col, h.sl, h.lo, h.no, h.cl, h.ph, h.idle, h.grey, h.nd, h.tri, h.trg, h.pe, by have := hfl.2; simp; omega, fun i hi => ?_⟩
    by_cases q : i < G.le
    · exact h.les i q
    · exact fr_lo (G := G) (by omega) (by simp at hi; omega)
  · have at_ := node_at h.le hf m
    have lv := node_lv h.le hf m
    have ln := node_len h.le hf m
    have hfr := fr_free (G := G)
    have hx : (nodeG G m).ln = G.ln ∧ (nodeG G m).ph = G.ph ∧ (nodeG G m).pl = G.pl ∧ (nodeG G m).en = G.en ∧ (nodeG G m).le = fr G := by simp [nodeG, hf]
    obtain ⟨x1, x2, x3, x4, x5⟩ := hx
    refine ⟨by have := h.len; omega, ?_, ?_, ?_, ?_, ?_, by rw [x2]; exact h.ph, ?_, ?_, by rw [x1]; exact h.nd, ?_, ?_, ?_, by rw [x5]; omega, ?_⟩
    · intro j; rw [at_]; split
      · simp
      · exact h.col j
    · intro j; rw [at_]; split
      · simpa using hm
      · exact h.sl j
    · intro j; rw [at_]; split
      · exact Nat.zero_le _
      · exact h.lo j
    · intro j; rw [at_]; split
      · intro q; rcases q with q | q <;> simp at q
      · exact h.no j
    · intro j hj y hy
      rw [at_] at hy
      split at hy
      · simp only [List.mem_replicate] at hy; exact .inl hy.2
      · rename_i e
        have hj2 : lvN G j := by rcases (lv j).1 hj with q | q; exact absurd q e; exact q
        rcases h.cl j hj2 y hy with q | q
        · exact .inl q
        · right; rw [lvB_iff] at q ⊢; exact ⟨q.1, (lv _).2 (.inr q.2)⟩
    · rw [x1, x2]
      intro q
      refine ⟨(h.idle q).1, fun j => ?_⟩
      rw [at_]; split
      · exact ⟨by simp, by simp⟩
      · exact (h.idle q).2 j
    · intro j; rw [x1, at_]; split
      · rename_i e; rw [← h.grey j, e, hfr]; simp
      · exact h.grey j
    · intro j; rw [at_]; split
      · intro _ y hy; simp only [List.mem_replicate] at hy; exact .inl hy.2
      · intro q y hy
        rcases h.tri j q y hy with r | r
        · exact .inl r
        · right; rw [at_]; split
          · simp
          · exact r
    · intro j; rw [at_]; split
      · intro q; simp at q
      · intro q y hy
        rcases h.trg j q y hy with r | r
        · exact .inl r
        · right; rw [at_]; split
          · simp
          · exact r
    · rw [x2, x3, x4]; intro q; have := h.pe q; omega
    · intro j hj; rw [at_]; split
      · simp
      · by_cases q : j < G.le
        · exact h.les j q
        · exact fr_lo (by omega) (by omega)

theorem iv_node {G : Gs} (h : Iv G) (x : Int) : Iv (node G x).1 := by
  unfold node
  split
  · exact h
  · split <;> exact iv_nodeG h _ (by omega)

/-! ### Set, Shade, Start -/

theorem iv_setG {G : Gs} (h : Iv G) (n j : Nat) (x : Int) (hn : lvN G n) (hx : x = -1 ∨ lvB G x = true) : Iv (setG G n j x) := by
  have h2 : Iv (sh (sh G ((ndAt G.ns n).s.getD j 0)) x) := iv_sh (iv_sh h _) _
  have hx2 : x = -1 ∨ (ndAt (sh (sh G ((ndAt G.ns n).s.getD j 0)) x).ns x.toNat).c ≠ 1 := sh_c x (by rcases hx with q | q; exact .inl q; exact .inr (lvB_iff.1 q).1)
  have hn2 : lvN (sh (sh G ((ndAt G.ns n).s.getD j 0)) x) n := (sh_lv _ _ _).2 ((sh_lv _ _ _).2 hn)
  have hx3 : x = -1 ∨ lvB (sh (sh G ((ndAt G.ns n).s.getD j 0)) x) x = true := by rw [sh_lvB, sh_lvB]; exact hx
  unfold setG putS
  generalize sh (sh G ((ndAt G.ns n).s.getD j 0)) x = H at *
  have hl := lvN_lt hn2
  have at_ : ∀ i, ndAt (H.ns.set n ⟨(ndAt H.ns n).c, (ndAt H.ns n).s.set j x, (ndAt H.ns n).k⟩) i = if i = n then ⟨(ndAt H.ns n).c, (ndAt H.ns n).s.set j x, (ndAt H.ns n).k⟩ else ndAt H.ns i := fun i => ndAt_set hl
  have atc : ∀ i, (ndAt (H.ns.set n ⟨(ndAt H.ns n).c, (ndAt H.ns n).s.set j x, (ndAt H.ns n).k⟩) i).c = (ndAt H.ns i).c := fun i => by rw [at_]; by_cases e : i = n <;> simp [e]
  have atk : ∀ i, (ndAt (H.ns.set n ⟨(ndAt H.ns n).c, (ndAt H.ns n).s.set j x, (ndAt H.ns n).k⟩) i).k = (ndAt H.ns i).k := fun i => by rw [at_]; by_cases e : i = n <;> simp [e]
  have atl : ∀ i, (ndAt (H.ns.set n ⟨(ndAt H.ns n).c, (ndAt H.ns n).s.set j x, (ndAt H.ns n).k⟩) i).s.length = (ndAt H.ns i).s.length := fun i => by rw [at_]; by_cases e : i = n <;> simp [e]
  have lv : ∀ i, lvN { H with ns := H.ns.set n ⟨(ndAt H.ns n).c, (ndAt H.ns n).s.set j x, (ndAt H.ns n).k⟩ } i ↔ lvN H i := fun i => by unfold lvN; simp only [atc]
  have lvb : ∀ y, lvB { H with ns := H.ns.set n ⟨(ndAt H.ns n).c, (ndAt H.ns n).s.set j x, (ndAt H.ns n).k⟩ } y = lvB H y := fun y => by simp only [lvB, lv]
  refine ⟨by simpa using h2.len, fun i => by rw [atc]; exact h2.col i, fun i => by rw [atl]; exact h2.sl i, fun i => by rw [atl, atk]; exact h2.lo i, ?_, ?_, h2.ph, ?_, fun i => by rw [atc]; exact h2.grey i, h2.nd, ?_, ?_, by simpa using h2.pe, by simpa using h2.le, fun i hi => by rw [atc]; exact h2.les i hi⟩
  · intro i hi
    rw [atc] at hi
    have := h2.no i hi
    have hl0 := atl i
    rw [this] at hl0
    exact List.length_eq_zero_iff.1 hl0
  · intro i hi y hy
    rw [lvb]
    have hi2 := (lv i).1 hi
    simp only [at_] at hy
    split at hy
    · rename_i e
      rw [e] at hi2
      rcases List.mem_or_eq_of_mem_set hy with q | q
      · exact h2.cl n hi2 y q
      · rw [q]; exact hx3
    · exact h2.cl i hi2 y hy
  · intro q
    exact ⟨(h2.idle q).1, fun i => by rw [atc]; exact (h2.idle q).2 i⟩
  · intro i hi y hy
    rw [atc] at hi
    simp only [atc]
    simp only [at_] at hy
    split at hy
    · rename_i e
      rw [e] at hi
      rcases List.mem_or_eq_of_mem_set hy with q | q
      · exact h2.tri n hi y q
      · rw [q]; exact hx2
    · exact h2.tri i hi y hy
  · intro i hi y hy
    rw [atc] at hi
    simp only [atc]
    rw [atk] at hy
    simp only [at_] at hy
    split at hy
    · rename_i e
      rw [e] at hi hy
      rw [List.take_set] at hy
      rcases List.mem_or_eq_of_mem_set hy with q | q
      · exact h2.trg n hi y q
      · rw [q]; exact hx2
    · exact h2.trg i hi y hy

theorem iv_set {G : Gs} (h : Iv G) (n j x : Int) : Iv (set G n j x).1 := by
  unfold set
  split
  · exact h
  · split
    · exact h
    · split
      · exact h
      · rename_i h1 h2 h3
        simp only [Bool.not_eq_false] at h1
        refine iv_setG h _ _ _ (lvB_iff.1 h1).2 ?_
        by_cases q : x = -1
        · exact .inl q
        · right
          simp only [ne_eq, q, not_false_eq_true, true_and, Bool.not_eq_false] at h2
          exact h2
theorem iv_shade {G : Gs} (h : Iv G) (n : Int) : Iv (shade G n).1 := by
  unfold shade
  split
  · exact h
  · exact iv_sh h _

theorem wh_c (x : Nd) : (wh x).c = if x.c ≠ 0 ∧ x.c ≠ 4 then 1 else x.c := by unfold wh; split <;> rfl
theorem wh_s (x : Nd) : (wh x).s = x.s ∧ (wh x).k = x.k := by unfold wh; split <;> exact ⟨rfl, rfl⟩
theorem wh_at (l : List Nd) (i : Nat) : ndAt (l.map wh) i = wh (ndAt l i) := by
  by_cases h : i < l.length
  · exact ndAt_map h
  · rw [ndAt_out (by simp; omega), ndAt_out (by omega)]; rfl
theorem wh_lv {G : Gs} (i : Nat) : lvN { G with ph := 1, ns := G.ns.map wh } i ↔ lvN G i := by
  unfold lvN
  simp only [wh_at]
  unfold wh
  split
  · rename_i h; simp [h]
  · exact Iff.rfl

/-- All live nodes white. -/
def begin (G : Gs) : Gs := { G with ph := 1, ns := G.ns.map wh }
theorem iv_begin {G : Gs} (h : Iv G) (h0 : G.ph = 0) : Iv (begin G) := by
  have hid := h.idle (by omega)
  have lvb : ∀ y, lvB (begin G) y = lvB G y := fun y => by simp only [lvB, begin, wh_lv]
  have nc : ∀ i, (wh (ndAt G.ns i)).c ≠ 2 ∧ (wh (ndAt G.ns i)).c ≠ 3 := fun i => by
    unfold wh
    split
    · exact ⟨by simp, by simp⟩
    · rename_i q
      have := h.col i
      omega
  refine ⟨by simpa [begin] using h.len, ?_, ?_, ?_, ?_, ?_, by simp [begin], by simp [begin], ?_, h.nd, ?_, ?_, by simp [begin], by simpa [begin] using h.le, ?_⟩
  · intro i; simp only [begin, wh_at]; rw [wh_c]; split; decide; exact h.col i
  · intro i; simp only [begin, wh_at, wh_s]; exact h.sl i
  · intro i; simp only [begin, wh_at, wh_s]; exact h.lo i
  · intro i; simp only [begin, wh_at, wh_s]; intro q
    refine h.no i ?_
    rw [wh_c] at q
    split at q
    · rcases q with q | q <;> simp at q
    · exact q
  · intro i hi y hy
    rw [lvb]
    simp only [begin, wh_at, wh_s] at hy
    exact h.cl i (wh_lv i |>.1 hi) y hy
  · intro i; simp only [begin, wh_at]; rw [hid.1]; simp [(nc i).1]
  · intro i hi; simp only [begin, wh_at] at hi; exact absurd hi (nc i).2
  · intro i hi; simp only [begin, wh_at] at hi; exact absurd hi (nc i).1
  · intro i hi; simp only [begin, wh_at]; rw [wh_c]
    have := h.les i hi
    split
    · decide
    · exact this
theorem iv_start {G : Gs} (h : Iv G) (R : List Int) : Iv (start G R).1 := by
  unfold start
  split
  · exact h
  · split
    · exact h
    · rename_i h1 _
      simp only [ne_eq, Decidable.not_not] at h1
      exact iv_shs R (iv_begin h h1)

/-! ### Work -/

theorem die_at (l : List Nd) (i : Nat) : ndAt (l.map die) i = die (ndAt l i) := by
  by_cases h : i < l.length
  · exact ndAt_map h
  · rw [ndAt_out (by simp; omega), ndAt_out (by omega)]; rfl

/-- A grey node has been looked at once more. -/
def bump (G : Gs) (x : Nat) : Gs := { G with ns := G.ns.set x ⟨(ndAt G.ns x).c, (ndAt G.ns x).s, (ndAt G.ns x).k + 1⟩ }
theorem sh_bump {G : Gs} {x : Nat} (hx : (ndAt G.ns x).c = 2) (y : Int) : sh (bump G x) y = bump (sh G y) x := by
  have hl : x < G.ns.length := lvN_lt (G := G) ⟨by rw [hx]; decide, by rw [hx]; decide⟩
  unfold sh
  split
  · rfl
  · unfold shN bump
    simp only
    rw [ndAt_set hl]
    by_cases e : y.toNat = x
    · rw [if_pos e]
      simp [e, hx]
    · rw [if_neg e]
      split
      · simp only
        rename_i h1
        have hl2 : y.toNat < G.ns.length := lvN_lt (G := G) ⟨by rw [h1]; decide, by rw [h1]; decide⟩
        rw [ndAt_set hl2, if_neg (Ne.symm e), List.set_comm _ _ (Ne.symm e)]
      · rfl
theorem mark_look {G : Gs} {x : Nat} {t : List Nat} (h : Iv G) (hl : G.ln = x :: t) (hk : (ndAt G.ns x).k ≠ (ndAt G.ns x).s.length) : mark G = bump (sh G ((ndAt G.ns x).s.getD (ndAt G.ns x).k 0)) x := by
  have hx := (h.grey x).2 (by simp [hl])
  rw [← sh_bump hx]
  simp only [mark, hl, hk, if_false, bump]

theorem iv_bump {G : Gs} (h : Iv G) (x : Nat) (hx : (ndAt G.ns x).c = 2) (hk : (ndAt G.ns x).k < (ndAt G.ns x).s.length) (hw : (ndAt G.ns x).s.getD (ndAt G.ns x).k 0 = -1 ∨ (ndAt G.ns ((ndAt G.ns x).s.getD (ndAt G.ns x).k 0).toNat).c ≠ 1) : Iv (bump G x) := by
  have hl : x < G.ns.length := lvN_lt (G := G) ⟨by rw [hx]; decide, by rw [hx]; decide⟩
  have at_ : ∀ i, ndAt (bump G x).ns i = if i = x then ⟨(ndAt G.ns x).c, (ndAt G.ns x).s, (ndAt G.ns x).k + 1⟩ else ndAt G.ns i := fun i => ndAt_set hl
  have atc : ∀ i, (ndAt (bump G x).ns i).c = (ndAt G.ns i).c := fun i => by rw [at_]; by_cases e : i = x <;> simp [e]
  have ats : ∀ i, (ndAt (bump G x).ns i).s = (ndAt G.ns i).s := fun i => by rw [at_]; by_cases e : i = x <;> simp [e]
  have lv : ∀ i, lvN (bump G x) i ↔ lvN G i := fun i => by unfold lvN; simp only [atc]
  have lvb : ∀ y, lvB (bump G x) y = lvB G y := fun y => by simp only [lvB, lv]
  refine ⟨by simpa [bump] using h.len, fun i => by rw [atc]; exact h.col i, fun i => by rw [ats]; exact h.sl i, ?_, fun i => by rw [atc, ats]; exact h.no i, fun i hi y hy => by rw [lvb]; rw [ats] at hy; exact h.cl i ((lv i).1 hi) y hy, h.ph, fun q => ⟨(h.idle q).1, fun i => by rw [atc]; exact (h.idle q).2 i⟩, fun i => by rw [atc]; exact h.grey i, h.nd, ?_, ?_, by simpa [bump] using h.pe, by simpa [bump] using h.le, fun i hi => by rw [atc]; exact h.les i hi⟩
  · intro i
    rw [ats, at_]
    split
    · rename_i e; rw [e]; exact hk
    · exact h.lo i
  · intro i hi y hy
    rw [atc] at hi ⊢; rw [ats] at hy
    exact h.tri i hi y hy
  · intro i hi y hy
    rw [atc] at hi ⊢
    rw [ats, at_] at hy
    split at hy
    · rename_i e
      rw [e] at hi hy
      simp only at hy
      rw [List.take_add_one] at hy
      rcases List.mem_append.1 hy with q | q
      · exact h.trg x hi y q
      · rw [List.getElem?_eq_getElem hk] at q
        simp at q
        have : (ndAt G.ns x).s.getD (ndAt G.ns x).k 0 = y := by simp [List.getD, hk, q]
        rw [this] at hw
        exact hw
    · exact h.trg i hi y hy

theorem iv_mark {G : Gs} (h : Iv G) (h1 : G.ph = 1) : Iv (mark G) := by
  cases hl : G.ln with
  | nil =>
    have hg : ∀ i, (ndAt G.ns i).c ≠ 2 := fun i q => by have := (h.grey i).1 q; rw [hl] at this; cases this
    simp only [mark, hl]
    have dc : ∀ i, (die (ndAt G.ns i)).c = if (ndAt G.ns i).c = 1 then 4 else (ndAt G.ns i).c := fun i => by unfold die; split <;> rfl
    have lv : ∀ i, lvN { G with ns := G.ns.map die, ln := [], ph := 2, pl := 0, en := G.ns.length } i ↔ (ndAt G.ns i).c = 3 := fun i => by
      unfold lvN
      simp only [die_at, dc]
      have := h.col i
      have := hg i
      split <;> omega
    refine ⟨by simpa using h.len, ?_, ?_, ?_, ?_, ?_, by simp, ?_, ?_, by simp, ?_, ?_, by simp, by simpa using h.le, ?_⟩
    · intro i; simp only [die_at, dc]; split; decide; exact h.col i
    · intro i; simp only [die_at]; unfold die; split; simp; exact h.sl i
    · intro i; simp only [die_at]; unfold die; split; simp; exact h.lo i
    · intro i; simp only [die_at]; unfold die; split; simp; exact h.no i
    · intro i hi y hy
      have h3 := (lv i).1 hi
      simp only [die_at] at hy
      unfold die at hy
      rw [if_neg (by omega)] at hy
      rcases h.tri i h3 y hy with q | q
      · exact .inl q
      · rcases h.cl i ⟨by omega, by omega⟩ y hy with r | r
        · exact .inl r
        · right
          rw [lvB_iff] at r ⊢
          refine ⟨r.1, (lv _).2 ?_⟩
          have := h.col y.toNat
          have := hg y.toNat
          have := r.2.1
          have := r.2.2
          omega
    · intro _
      refine ⟨rfl, fun i => ?_⟩
      simp only [die_at, dc]
      have := hg i
      split <;> omega
    · intro i
      simp only [die_at, dc]
      have := hg i
      split <;> simp <;> omega
    · intro i hi y hy
      simp only [die_at, dc] at hi ⊢
      right
      split <;> omega
    · intro i hi
      simp only [die_at, dc] at hi
      have := hg i
      split at hi <;> omega
    · intro i hi
      simp only [die_at, dc]
      have := h.les i hi
      split <;> omega
  | cons x t =>
    have hx := (h.grey x).2 (by simp [hl])
    have hxl : x < G.ns.length := lvN_lt (G := G) ⟨by rw [hx]; decide, by rw [hx]; decide⟩
    have hnd := h.nd
    rw [hl] at hnd
    have hxt : x ∉ t := (List.nodup_cons.1 hnd).1
    by_cases hk : (ndAt G.ns x).k = (ndAt G.ns x).s.length
    · have hmk : mark G = { G with ns := G.ns.set x ⟨3, (ndAt G.ns x).s, (ndAt G.ns x).k⟩, ln := t } := by simp only [mark, hl, if_pos hk]
      rw [hmk]
      have at_ : ∀ i, ndAt (G.ns.set x ⟨3, (ndAt G.ns x).s, (ndAt G.ns x).k⟩) i = if i = x then ⟨3, (ndAt G.ns x).s, (ndAt G.ns x).k⟩ else ndAt G.ns i := fun i => ndAt_set hxl
      have ats : ∀ i, (ndAt (G.ns.set x ⟨3, (ndAt G.ns x).s, (ndAt G.ns x).k⟩) i).s = (ndAt G.ns i).s := fun i => by rw [at_]; by_cases e : i = x <;> simp [e]
      have atk : ∀ i, (ndAt (G.ns.set x ⟨3, (ndAt G.ns x).s, (ndAt G.ns x).k⟩) i).k = (ndAt G.ns i).k := fun i => by rw [at_]; by_cases e : i = x <;> simp [e]
      have atc : ∀ i, (ndAt (G.ns.set x ⟨3, (ndAt G.ns x).s, (ndAt G.ns x).k⟩) i).c = if i = x then 3 else (ndAt G.ns i).c := fun i => by rw [at_]; split <;> rfl
      have lv : ∀ i, lvN { G with ns := G.ns.set x ⟨3, (ndAt G.ns x).s, (ndAt G.ns x).k⟩, ln := t } i ↔ lvN G i := fun i => by
        unfold lvN; simp only [atc]; split
        · rename_i e; rw [e, hx]; simp
        · exact Iff.rfl
      have lvb : ∀ y, lvB { G with ns := G.ns.set x ⟨3, (ndAt G.ns x).s, (ndAt G.ns x).k⟩, ln := t } y = lvB G y := fun y => by simp only [lvB, lv]
      have nw : ∀ y : Int, (ndAt G.ns y.toNat).c ≠ 1 → (if y.toNat = x then 3 else (ndAt G.ns y.toNat).c) ≠ 1 := fun y q => by split; decide; exact q
      refine ⟨by simpa using h.len, ?_, fun i => by rw [ats]; exact h.sl i, fun i => by rw [ats, atk]; exact h.lo i, ?_, fun i hi y hy => by rw [lvb]; rw [ats] at hy; exact h.cl i ((lv i).1 hi) y hy, h.ph, fun q => absurd h1 q, ?_, (List.nodup_cons.1 hnd).2, ?_, ?_, by simpa using h.pe, by simpa using h.le, ?_⟩
      · intro i; rw [atc]; split; decide; exact h.col i
      · intro i; rw [atc, ats]; split
        · intro q; rcases q with q | q <;> simp at q
        · exact h.no i
      · intro i; rw [atc]; split
        · rename_i e; rw [e]; simp [hxt]
        · rename_i e; rw [h.grey i, hl]; simp [e]
      · intro i hi y hy
        rw [ats] at hy
        simp only [atc] at hi ⊢
        split at hi
        · rename_i e
          rw [e] at hy
          rcases h.trg x hx y (by rw [hk, List.take_length]; exact hy) with q | q
          · exact .inl q
          · exact .inr (nw y q)
        · rcases h.tri i hi y hy with q | q
          · exact .inl q
          · exact .inr (nw y q)
      · intro i hi y hy
        rw [ats, atk] at hy
        simp only [atc] at hi ⊢
        split at hi
        · simp at hi
        · rcases h.trg i hi y hy with q | q
          · exact .inl q
          · exact .inr (nw y q)
      · intro i hi; rw [atc]; split; decide; exact h.les i hi
    · rw [mark_look h hl hk]
      have hlo := h.lo x
      have h2 := iv_sh h ((ndAt G.ns x).s.getD (ndAt G.ns x).k 0)
      have hnx := sh_nw G ((ndAt G.ns x).s.getD (ndAt G.ns x).k 0) x (by omega)
      have hkl : (ndAt G.ns x).k < (ndAt G.ns x).s.length := by omega
      have hm : (ndAt G.ns x).s.getD (ndAt G.ns x).k 0 ∈ (ndAt G.ns x).s := by simp [List.getD, hkl]
      refine iv_bump h2 x (by rw [hnx]; exact hx) (by rw [hnx]; exact hkl) ?_
      rw [hnx]
      refine sh_c _ ?_
      rcases h.cl x ⟨by omega, by omega⟩ _ hm with q | q
      · exact .inl q
      · exact .inr (lvB_iff.1 q).1

theorem iv_sweep {G : Gs} (h : Iv G) (h2 : G.ph = 2) : Iv (sweep G).1 := by
  have hid := h.idle (by omega)
  have hpe := h.pe h2
  unfold sweep
  split
  · exact ⟨h.len, h.col, h.sl, h.lo, h.no, h.cl, by simp, fun _ => hid, h.grey, h.nd, h.tri, h.trg, by simp, h.le, h.les⟩
  · rename_i hne
    split
    · rename_i h4
      have hl : G.pl < G.ns.length := by omega
      have at_ : ∀ i, ndAt (G.ns.set G.pl nz) i = if i = G.pl then nz else ndAt G.ns i := fun i => ndAt_set hl
      have lv : ∀ i, lvN { G with ns := G.ns.set G.pl nz, le := min G.le G.pl, pl := G.pl + 1 } i ↔ lvN G i := fun i => by
        unfold lvN; simp only [at_]; split
        · rename_i e; rw [e, h4]; simp [nz]
        · exact Iff.rfl
      have lvb : ∀ y, lvB { G with ns := G.ns.set G.pl nz, le := min G.le G.pl, pl := G.pl + 1 } y = lvB G y := fun y => by simp only [lvB, lv]
      refine ⟨by simpa using h.len, ?_, ?_, ?_, ?_, ?_, h.ph, ?_, ?_, h.nd, ?_, ?_, ?_, ?_, ?_⟩
      · intro i; simp only [at_]; split; decide; exact h.col i
      · intro i; simp only [at_]; split; simp [nz]; exact h.sl i
      · intro i; simp only [at_]; split; simp [nz]; exact h.lo i
      · intro i; simp only [at_]; split; simp [nz]; exact h.no i
      · intro i hi y hy
        rw [lvb]
        simp only [at_] at hy
        split at hy
        · simp [nz] at hy
        · exact h.cl i ((lv i).1 hi) y hy
      · intro _; refine ⟨hid.1, fun i => ?_⟩; simp only [at_]; split; exact ⟨by decide, by decide⟩; exact hid.2 i
      · intro i; simp only [at_]; split
        · rename_i e; rw [e, ← h.grey, h4]; simp [nz]
        · exact h.grey i
      · intro i; simp only [at_]; split
        · intro q; simp [nz] at q
        · intro q y hy
          right; split; decide; exact (hid.2 _).1
      · intro i; simp only [at_]; split
        · intro q; simp [nz] at q
        · intro q y hy
          right; split; decide; exact (hid.2 _).1
      · intro _; simp; omega
      · have := h.le; simp; omega
      · intro i hi; simp only [at_]; simp only at hi
        have := h.les i (by omega)
        rw [if_neg (by omega)]; exact this
    · exact ⟨h.len, h.col, h.sl, h.lo, h.no, h.cl, h.ph, h.idle, h.grey, h.nd, h.tri, h.trg, fun _ => by simp; omega, h.le, h.les⟩

theorem iv_unit {G : Gs} (h : Iv G) (h0 : G.ph ≠ 0) : Iv (unit G).1 := by
  unfold unit
  split
  · exact iv_mark h ‹_›
  · exact iv_sweep h (by have := h.ph; omega)
theorem iv_work : ∀ (u : Nat) {G : Gs}, Iv G → Iv (work u G).2.2
  | 0, _, h => h
  | u + 1, G, h => by
    by_cases q : G.ph = 0
    · rw [work_idle q]; exact h
    · simp only [work, q, if_false]; exact iv_work u (iv_unit h q)

end Go.Proofs.Ytbjplfbplkjibaa
