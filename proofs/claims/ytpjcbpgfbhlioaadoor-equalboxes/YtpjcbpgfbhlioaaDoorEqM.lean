/-
  Equality and hashes of trees of cells: plain facts; no statement is proved here.
-/
import Derived.Test.YtpjcbpgfbhlioaaDoorChk
import Derived.Test.YtpjcbpgfbhlioaaDoorFlt
namespace Go.Proofs.YtpjcbpgfbhlioaaDoor

def cmpT (ts : List Ty) (t : Int) : Bool := (M ts t).cmp

/-- Two cells of a kind; what interfaces hold is compared by r. -/
def eqC (ts : List Ty) (r : Int → List Cl → List Cl → Bool × Int) (k : Int) (c d : Cl) : Bool × Int :=
  if k = 3 then (Op.floatEq .f64 c.n.toNat d.n.toNat, 0)
  else if k = 4 then (decide (c.s = d.s), 0)
  else if k = 7 then (if c.t ≠ d.t then (false, 0) else if c.t = 0 then (true, 0) else if cmpT ts (c.t - 1) = false then (false, 11) else r (c.t - 1) c.box d.box)
  else (decide (c.n = d.n), 0)
/-- Cell by cell, up to the first pair that is not equal. -/
def eqL (f : Int → Cl → Cl → Bool × Int) : List Int → List Cl → List Cl → Bool × Int
  | [], _, _ => (true, 0)
  | k :: ks, v, w => if (f k (cAt v 0) (cAt w 0)).1 = true then eqL f ks v.tail w.tail else (false, (f k (cAt v 0) (cAt w 0)).2)
def eqV (ts : List Ty) : Nat → Int → List Cl → List Cl → Bool × Int
  | 0, _, _, _ => (true, 0)
  | d + 1, t, v, w => eqL (eqC ts (eqV ts d)) (kinds ts t) v w

theorem cAt_tail (v : List Cl) (i : Nat) : cAt v.tail i = cAt v (i + 1) := by
  cases v <;> simp [cAt]
theorem eqL_yes {f : Int → Cl → Cl → Bool × Int} : ∀ (ks : List Int) (v w : List Cl), (∀ i, i < ks.length → (f (ks.getD i 0) (cAt v i) (cAt w i)).1 = true) → eqL f ks v w = (true, 0)
  | [], _, _, _ => rfl
  | k :: ks, v, w, h => by
    have h0 := h 0 (by simp)
    rw [eqL, if_pos (by simpa using h0)]
    refine eqL_yes ks _ _ (fun i hi => ?_)
    rw [cAt_tail, cAt_tail]
    simpa using h (i + 1) (by simpa using hi)
theorem eqL_no {f : Int → Cl → Cl → Bool × Int} : ∀ (ks : List Int) (v w : List Cl) (k : Nat), k < ks.length → (∀ i, i < k → (f (ks.getD i 0) (cAt v i) (cAt w i)).1 = true) → (f (ks.getD k 0) (cAt v k) (cAt w k)).1 = false → eqL f ks v w = (false, (f (ks.getD k 0) (cAt v k) (cAt w k)).2)
  | [], _, _, k, hk, _, _ => by simp at hk
  | q :: ks, v, w, 0, _, _, h => by
    rw [eqL, if_neg (by simpa using h)]; simp
  | q :: ks, v, w, k + 1, hk, hb, h => by
    have h0 := hb 0 (by omega)
    rw [eqL, if_pos (by simpa using h0)]
    have := eqL_no (f := f) ks v.tail w.tail k (by simpa using hk) (fun i hi => by
      rw [cAt_tail, cAt_tail]; simpa using hb (i + 1) (by omega)) (by rw [cAt_tail, cAt_tail]; simpa using h)
    rw [this, cAt_tail, cAt_tail]; simp
/-- All pairs are equal. -/
theorem eqL_all {f : Int → Cl → Cl → Bool × Int} : ∀ (ks : List Int) (v w : List Cl), (eqL f ks v w).1 = true → ∀ i, i < ks.length → (f (ks.getD i 0) (cAt v i) (cAt w i)).1 = true
  | [], _, _, _, i, hi => by simp at hi
  | k :: ks, v, w, h, i, hi => by
    rw [eqL] at h
    split at h
    · rename_i h0
      cases i with
      | zero => simpa using h0
      | succ i =>
        have := eqL_all ks _ _ h i (by simpa using hi)
        rw [cAt_tail, cAt_tail] at this
        simpa using this
    · simp at h
theorem eqL_ok {f : Int → Cl → Cl → Bool × Int} (ks : List Int) (v w : List Cl) (h : (eqL f ks v w).1 = true) : eqL f ks v w = (true, 0) := eqL_yes ks v w (eqL_all ks v w h)
theorem eqV_ok {ts : List Ty} {d : Nat} {t : Int} {v w : List Cl} (h : (eqV ts d t v w).1 = true) : eqV ts d t v w = (true, 0) := by
  cases d with
  | zero => rfl
  | succ d => exact eqL_ok _ _ _ h
theorem eqL_cong {f g : Int → Cl → Cl → Bool × Int} : ∀ (ks : List Int) (v w v' w' : List Cl), (∀ i, i < ks.length → f (ks.getD i 0) (cAt v i) (cAt w i) = g (ks.getD i 0) (cAt v' i) (cAt w' i)) → eqL f ks v w = eqL g ks v' w'
  | [], _, _, _, _, _ => rfl
  | k :: ks, v, w, v', w', h => by
    have h0 := h 0 (by simp)
    simp only [List.getD_cons_zero] at h0
    rw [eqL, eqL, h0, eqL_cong ks v.tail w.tail v'.tail w'.tail (fun i hi => by
      have := h (i + 1) (by simpa using hi)
      rw [cAt_tail, cAt_tail, cAt_tail, cAt_tail]
      simpa using this)]

theorem eqV_symm (ts : List Ty) : ∀ (d : Nat) (t : Int) (v w : List Cl), eqV ts d t v w = eqV ts d t w v
  | 0, _, _, _ => rfl
  | d + 1, t, v, w => by
    rw [eqV, eqV]
    refine eqL_cong _ _ _ _ _ (fun i _ => ?_)
    unfold eqC
    split
    · rw [feq_symm]
    split
    · simp only [eq_comm]
    split
    · by_cases h : (cAt v i).t = (cAt w i).t
      · rw [if_neg (show ¬ ((cAt v i).t ≠ (cAt w i).t) by simp [h]), if_neg (show ¬ ((cAt w i).t ≠ (cAt v i).t) by simp [h]), h, eqV_symm ts d]
      · rw [if_pos h, if_pos (fun q => h q.symm)]
    · simp only [eq_comm]
theorem eqV_trans (ts : List Ty) : ∀ (d : Nat) (t : Int) (v w x : List Cl), (eqV ts d t v w).1 = true → (eqV ts d t w x).1 = true → (eqV ts d t v x).1 = true
  | 0, _, _, _, _, _, _ => rfl
  | d + 1, t, v, w, x, h1, h2 => by
    rw [eqV] at h1 h2 ⊢
    rw [eqL_yes]
    intro i hi
    have a1 := eqL_all _ _ _ h1 i hi
    have a2 := eqL_all _ _ _ h2 i hi
    unfold eqC at a1 a2 ⊢
    split
    · rename_i hk
      rw [if_pos hk] at a1 a2
      exact feq_trans a1 a2
    · rename_i hk
      rw [if_neg hk] at a1 a2
      split
      · rename_i hk
        rw [if_pos hk] at a1 a2
        simp only [decide_eq_true_eq] at a1 a2 ⊢
        exact a1.trans a2
      · rename_i hk
        rw [if_neg hk] at a1 a2
        split
        · rename_i hk
          rw [if_pos hk] at a1 a2
          by_cases e1 : (cAt v i).t = (cAt w i).t
          · by_cases e2 : (cAt w i).t = (cAt x i).t
            · rw [if_neg (by simp [e1])] at a1
              rw [if_neg (by simp [e2])] at a2
              rw [if_neg (by simp [e1, e2])]
              split
              · rfl
              · rename_i h0
                rw [if_neg h0] at a1
                rw [if_neg (by rw [← e1]; exact h0)] at a2
                rw [← e1] at a2
                split
                · rename_i hc
                  rw [if_pos hc] at a1
                  simp at a1
                · rename_i hc
                  rw [if_neg hc] at a1 a2
                  exact eqV_trans ts d _ _ _ _ a1 a2
            · rw [if_pos e2] at a2; simp at a2
          · rw [if_pos e1] at a1; simp at a1
        · rename_i hk
          rw [if_neg hk] at a1 a2
          simp only [decide_eq_true_eq] at a1 a2 ⊢
          exact a1.trans a2

/-! ### hashes -/

/-- Mix. -/
def mixI (x : Int) : Int :=
  bits .xor .u64 (IntKind.u64.wrap (bits .xor .u64 (IntKind.u64.wrap (bits .xor .u64 x (x / 4294967296) * 11400714819323198485)) (IntKind.u64.wrap (bits .xor .u64 x (x / 4294967296) * 11400714819323198485) / 536870912) * 13787848793156543929)) (IntKind.u64.wrap (bits .xor .u64 (IntKind.u64.wrap (bits .xor .u64 x (x / 4294967296) * 11400714819323198485)) (IntKind.u64.wrap (bits .xor .u64 x (x / 4294967296) * 11400714819323198485) / 536870912) * 13787848793156543929) / 4294967296)
def foldI (h x : Int) : Int := mixI (bits .xor .u64 h x)
def txtH (h : Int) (s : ByteArray) : Nat → Int
  | 0 => h
  | n + 1 => foldI (txtH h s n) ((s.data.getD n 0).toNat + 1)

/-- What a float counts as. -/
def fltH (salt n : Int) : Int := if rungOf n.toNat = 0 then 0 else if rungOf n.toNat ≤ infR then n else salt
/-- A cell folded in; what an interface holds is folded by r. -/
def hsC (ts : List Ty) (r : Int → List Cl → Int → Option Int) (salt : Int) (k : Int) (c : Cl) (h : Int) : Option Int :=
  if k = 3 then some (foldI h (fltH salt c.n))
  else if k = 4 then some (foldI (txtH h c.s c.s.size) c.s.size)
  else if k = 7 then (if c.t = 0 then some (foldI h c.t) else if cmpT ts (c.t - 1) = false then none else r (c.t - 1) c.box (foldI h c.t))
  else some (foldI h c.n)
def hsL (f : Int → Cl → Int → Option Int) : List Int → List Cl → Int → Option Int
  | [], _, h => some h
  | k :: ks, v, h => match f k (cAt v 0) h with
    | none => none
    | some h' => hsL f ks v.tail h'
def hsV (ts : List Ty) (salt : Int) : Nat → Int → List Cl → Int → Option Int
  | 0, _, _, h => some h
  | d + 1, t, v, h => hsL (hsC ts (hsV ts salt d) salt) (kinds ts t) v h

theorem hsL_cong {f g : Int → Cl → Int → Option Int} : ∀ (ks : List Int) (v w : List Cl) (h : Int), (∀ i, i < ks.length → ∀ h, f (ks.getD i 0) (cAt v i) h = g (ks.getD i 0) (cAt w i) h) → hsL f ks v h = hsL g ks w h
  | [], _, _, _, _ => rfl
  | k :: ks, v, w, h, e => by
    have h0 := e 0 (by simp) h
    simp only [List.getD_cons_zero] at h0
    rw [hsL, hsL, h0]
    cases g k (cAt w 0) h with
    | none => rfl
    | some h' => exact hsL_cong ks v.tail w.tail h' (fun i hi q => by
        have := e (i + 1) (by simpa using hi) q
        rw [cAt_tail, cAt_tail]
        simpa using this)
theorem hsL_none {f g : Int → Cl → Int → Option Int} : ∀ (ks : List Int) (v : List Cl) (h h' : Int), (∀ i, i < ks.length → ∀ h h', f (ks.getD i 0) (cAt v i) h = none ↔ g (ks.getD i 0) (cAt v i) h' = none) → (hsL f ks v h = none ↔ hsL g ks v h' = none)
  | [], _, _, _, _ => by simp [hsL]
  | k :: ks, v, h, h', e => by
    have h0 := e 0 (by simp) h h'
    simp only [List.getD_cons_zero] at h0
    rw [hsL, hsL]
    cases hf : f k (cAt v 0) h with
    | none => rw [h0.1 hf]
    | some x =>
      cases hg : g k (cAt v 0) h' with
      | none => rw [h0.2 hg] at hf; cases hf
      | some y => exact hsL_none ks v.tail x y (fun i hi a b => by
          have := e (i + 1) (by simpa using hi) a b
          rw [cAt_tail]
          simpa using this)
/-- Whether a hash is refused hangs on the value alone. -/
theorem hsV_none (ts : List Ty) (s s' : Int) : ∀ (d : Nat) (t : Int) (v : List Cl) (h h' : Int), hsV ts s d t v h = none ↔ hsV ts s' d t v h' = none
  | 0, _, _, _, _ => by simp [hsV]
  | d + 1, t, v, h, h' => by
    rw [hsV, hsV]
    refine hsL_none _ _ _ _ (fun i _ a b => ?_)
    unfold hsC
    split
    · simp
    split
    · simp
    split
    · split
      · simp
      · split
        · simp
        · exact hsV_none ts s s' d _ _ _ _
    · simp

/-- Numbers of 64 bits, in boxes too. -/
def Bn : Nat → List Cl → Prop
  | 0, _ => True
  | d + 1, l => ∀ i, (0 ≤ (cAt l i).n ∧ (cAt l i).n < 18446744073709551616) ∧ Bn d (cAt l i).box
theorem Bn.nil : ∀ d, Bn d []
  | 0 => trivial
  | d + 1 => fun i => ⟨by simp [cAt, zeroCl, Cl.n], by simp [cAt, zeroCl, Cl.box]; exact Bn.nil d⟩
theorem Cs.bn : ∀ {d : Nat} {w : World} {a : Option Addr} {l : List Cl}, Cs d w a l → Bn d l
  | 0, _, _, _, _ => trivial
  | d + 1, w, a, l, h => by
    rcases h.2 with rfl | ⟨b, o, rfl, hc⟩
    · exact Bn.nil _
    · intro i
      by_cases hi : i < l.length
      · obtain ⟨ba, bc, h1, h2⟩ := hc i hi
        exact ⟨h1.n0, h2.bn⟩
      · have : cAt l i = zeroCl := by simp [cAt, Nat.le_of_not_lt hi]
        rw [this]
        exact ⟨by simp [zeroCl, Cl.n], Bn.nil d⟩
theorem flt_same {s s' x y : Int} (hx : 0 ≤ x ∧ x < 18446744073709551616) (hy : 0 ≤ y ∧ y < 18446744073709551616) (h : Op.floatEq .f64 x.toNat y.toNat = true) : fltH s x = fltH s' y := by
  have h1 := (feq_iff _ _).1 h
  unfold fltH
  rcases feq_bits (by omega) (by omega) h with q | ⟨q1, q2⟩
  · have : x = y := by omega
    subst this
    split
    · rfl
    · rw [if_pos h1.1, if_pos h1.1]
  · rw [if_pos q1, if_pos q2]
/-- Equal values have one hash, whatever the salts. -/
theorem eqV_hash (ts : List Ty) (s s' : Int) : ∀ (d : Nat) (t : Int) (v w : List Cl) (h : Int), Bn d v → Bn d w → (eqV ts d t v w).1 = true → hsV ts s d t v h = hsV ts s' d t w h
  | 0, _, _, _, _, _, _, _ => rfl
  | d + 1, t, v, w, h, hv, hw, he => by
    rw [hsV, hsV]
    rw [eqV] at he
    refine hsL_cong _ _ _ _ (fun i hi q => ?_)
    have a := eqL_all _ _ _ he i hi
    unfold eqC at a
    unfold hsC
    split
    · rename_i hk
      rw [if_pos hk] at a
      rw [flt_same (hv i).1 (hw i).1 a]
    · rename_i hk
      rw [if_neg hk] at a
      split
      · rename_i hk
        rw [if_pos hk] at a
        simp only [decide_eq_true_eq] at a
        rw [a]
      · rename_i hk
        rw [if_neg hk] at a
        split
        · rename_i hk
          rw [if_pos hk] at a
          by_cases e1 : (cAt v i).t = (cAt w i).t
          · rw [if_neg (by simp [e1])] at a
            rw [← e1]
            split
            · rfl
            · rename_i h0
              rw [if_neg h0] at a
              split
              · rfl
              · rename_i hc
                rw [if_neg hc] at a
                exact eqV_hash ts s s' d _ _ _ _ (hv i).2 (hw i).2 a
          · rw [if_pos e1] at a; simp at a
        · rename_i hk
          rw [if_neg hk] at a
          simp only [decide_eq_true_eq] at a
          rw [a]

end Go.Proofs.YtpjcbpgfbhlioaaDoor
