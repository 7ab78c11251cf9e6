/-
  The text of a value as plain bytes; no statement is proved here.
-/
import Derived.Test.YtfabhhmeanpmhaaDoorRSound
import Derived.Lib.ItoaLen
import Derived.Lib.UnsafeStr
namespace Go.Proofs.YtfabhhmeanpmhaaDoor
open Go.RowKit

/-- A small digit of sixteen. -/
def dgt (i : Nat) : UInt8 := if i < 10 then UInt8.ofNat (48 + i) else UInt8.ofNat (87 + i)
def two (c : Nat) : List UInt8 := [dgt (c / 16), dgt (c % 16)]
def plainB (c : UInt8) : Bool := decide (32 ≤ c.toNat) && (decide (c.toNat ≤ 126) && (decide (c.toNat ≠ 39) && decide (c.toNat ≠ 92)))
def qb (c : UInt8) : List UInt8 := if plainB c then [c] else 92 :: two c.toNat
def quo (s : List UInt8) : List UInt8 := 39 :: (s.flatMap qb ++ [39])
def hexB (n k : Nat) : List UInt8 := (List.range k).flatMap fun j => two (n / 2 ^ (56 - 8 * j) % 256)
def nameB (k n : Int) : List UInt8 := if n = 0 then [110, 105, 108] else if k = 5 then [112, 116, 114] else if k = 6 then [109, 97, 112] else [105, 116, 101, 114]
/-- The text of a cell with nothing in its box; 'nan' tells which words are no numbers. -/
def ctx (nan : Int → Bool) (k : Int) (c : Cl) : List UInt8 :=
  if k = 1 then (if c.n = 1 then [116, 114, 117, 101] else [102, 97, 108, 115, 101])
  else if k = 2 then Lib.itoa (IntKind.i64.wrap c.n)
  else if k = 3 then (if nan c.n then [110, 97, 110] else hexB c.n.toNat 8)
  else if k = 4 then quo c.s.data.toList
  else nameB k c.n

def opn (k : Int) : UInt8 := if k = 8 then 123 else 91
def cls (k : Int) : UInt8 := if k = 8 then 125 else 93
def wid (ts : List Ty) (t : Int) : Nat := (kinds ts t).length
/-- The cells of the part number i of a list that begins with the parts ps. -/
def pc (ts : List Ty) (ps : List Int) (l : List Cl) (i : Nat) : List Cl := (l.drop (KS ts ps i).length).take (wid ts (ps.getD i 0))
/-- The first k parts' texts, with blanks between. -/
def jnT (ts : List Ty) (g : Int → List Cl → List UInt8) (ps : List Int) (l : List Cl) : Nat → List UInt8
  | 0 => []
  | k + 1 => jnT ts g ps l k ++ ((if k = 0 then [] else [32]) ++ g (ps.getD k 0) (pc ts ps l k))
theorem jnT_congr {ts : List Ty} {g g' : Int → List Cl → List UInt8} {ps : List Int} {l : List Cl} : ∀ k, (∀ i, i < k → g (ps.getD i 0) (pc ts ps l i) = g' (ps.getD i 0) (pc ts ps l i)) → jnT ts g ps l k = jnT ts g' ps l k
  | 0, _ => rfl
  | k + 1, h => by rw [jnT, jnT, jnT_congr k (fun i hi => h i (by omega)), h k (by omega)]

def txB (nan : Int → Bool) (ts : List Ty) (rec : Int → List Cl → List UInt8) : Nat → Int → List Cl → List UInt8
  | 0, _, _ => []
  | f + 1, t, l => if parts (tyAt ts t) = [] then (if (cAt l 0).t = 0 then ctx nan (tyAt ts t).kind (cAt l 0) else Lib.itoa ((cAt l 0).t - 1) ++ 58 :: rec ((cAt l 0).t - 1) (cAt l 0).box)
      else opn (tyAt ts t).kind :: (jnT ts (txB nan ts rec f) (parts (tyAt ts t)) l (parts (tyAt ts t)).length ++ [cls (tyAt ts t).kind])
def txt (nan : Int → Bool) (ts : List Ty) : Nat → Int → List Cl → List UInt8
  | 0 => fun t l => txB nan ts (fun _ _ => []) (t.toNat + 1) t l
  | d + 1 => fun t l => txB nan ts (txt nan ts d) (t.toNat + 1) t l

theorem getD_mem {ps : List Int} {i : Nat} (h : i < ps.length) : ps.getD i 0 ∈ ps := by
  rw [show ps.getD i 0 = ps[i] by simp [h]]; exact List.getElem_mem h
theorem txB_more {nan : Int → Bool} {ts : List Ty} {rec : Int → List Cl → List UInt8} (h : AllOk ts) : ∀ (f g : Nat) (t : Int) (l : List Cl), 0 ≤ t → t < ts.length → t.toNat < f → t.toNat < g → txB nan ts rec f t l = txB nan ts rec g t l
  | 0, _, _, _, _, _, h1, _ => by omega
  | f + 1, 0, _, _, _, _, _, h2 => by omega
  | f + 1, g + 1, t, l, h0, hl, h1, h2 => by
    rw [txB, txB]
    split
    · rfl
    · have hF := (h t.toNat (by omega)).1
      rw [jnT_congr _ (g' := txB nan ts rec g)]
      intro i hi
      have hb := hF.below ((parts (tyAt ts t)).getD i 0) (by rw [show ((t.toNat : Nat) : Int) = t by omega]; exact getD_mem hi)
      exact txB_more h f g _ _ hb.1 (by omega) (by omega) (by omega)
theorem txt_leaf {nan : Int → Bool} {ts : List Ty} {d : Nat} {t : Int} {l : List Cl} (hp : parts (tyAt ts t) = []) (h0 : (cAt l 0).t = 0) : txt nan ts d t l = ctx nan (tyAt ts t).kind (cAt l 0) := by
  cases d <;> simp [txt, txB, hp, h0]
theorem txt_box {nan : Int → Bool} {ts : List Ty} {d : Nat} {t : Int} {l : List Cl} (hp : parts (tyAt ts t) = []) (h0 : (cAt l 0).t ≠ 0) : txt nan ts (d + 1) t l = Lib.itoa ((cAt l 0).t - 1) ++ 58 :: txt nan ts d ((cAt l 0).t - 1) (cAt l 0).box := by
  simp [txt, txB, hp, h0]
theorem txt_parts {nan : Int → Bool} {ts : List Ty} (h : AllOk ts) {d : Nat} {t : Int} {l : List Cl} (h0 : 0 ≤ t) (hl : t < ts.length) (hp : parts (tyAt ts t) ≠ []) :
    txt nan ts d t l = opn (tyAt ts t).kind :: (jnT ts (txt nan ts d) (parts (tyAt ts t)) l (parts (tyAt ts t)).length ++ [cls (tyAt ts t).kind]) := by
  have hF := (h t.toNat (by omega)).1
  have key : ∀ rec : Int → List Cl → List UInt8, txB nan ts rec (t.toNat + 1) t l = opn (tyAt ts t).kind :: (jnT ts (fun p l => txB nan ts rec (p.toNat + 1) p l) (parts (tyAt ts t)) l (parts (tyAt ts t)).length ++ [cls (tyAt ts t).kind]) := by
    intro rec
    rw [txB, if_neg hp, jnT_congr _ (g' := fun p l => txB nan ts rec (p.toNat + 1) p l)]
    intro i hi
    have hb := hF.below ((parts (tyAt ts t)).getD i 0) (by rw [show ((t.toNat : Nat) : Int) = t by omega]; exact getD_mem hi)
    exact txB_more h _ _ _ _ hb.1 (by omega) (by omega) (by omega)
  cases d with
  | zero => exact key _
  | succ d => exact key _

/-! ### how long a text is -/
theorem qb_len (c : UInt8) : (qb c).length ≤ 3 := by unfold qb; split <;> simp [two]
theorem quo_len (s : List UInt8) : (quo s).length ≤ 3 * s.length + 2 := by
  have : ∀ l : List UInt8, (l.flatMap qb).length ≤ 3 * l.length := by
    intro l
    induction l with
    | nil => simp
    | cons a l ih => rw [List.flatMap_cons, List.length_append, List.length_cons]; have := qb_len a; omega
  have h := this s
  simp only [quo, List.length_cons, List.length_append, List.length_nil]
  omega
theorem hexB_len (n : Nat) : ∀ k, (hexB n k).length = 2 * k := by
  intro k
  unfold hexB
  induction k with
  | zero => simp
  | succ k ih => rw [List.range_succ, List.flatMap_append, List.length_append, ih]; simp [two]; omega
theorem nameB_len (k n : Int) : (nameB k n).length ≤ 4 ∧ 1 ≤ (nameB k n).length := by unfold nameB; split <;> (try split) <;> (try split) <;> simp
theorem wrap_rng (n : Int) : -9223372036854775808 ≤ IntKind.i64.wrap n ∧ IntKind.i64.wrap n ≤ 9223372036854775807 := by
  rw [IntKind.wrap_i64]; omega
theorem itoa_pos (n : Int) : 1 ≤ (Lib.itoa n).length := by
  by_cases hneg : n < 0
  · obtain ⟨u, rfl⟩ : ∃ u : Nat, n = -(u : Int) := ⟨n.natAbs, by omega⟩
    rw [Lib.itoa_neg u (by omega), List.length_cons]; omega
  · obtain ⟨u, rfl⟩ : ∃ u : Nat, n = u := ⟨n.toNat, by omega⟩
    rw [Lib.itoa_nonneg, Lib.decDigits_length]
    exact Lib.nDigits_pos u
theorem ctx_len (nan : Int → Bool) (k : Int) (c : Cl) (bl : Nat) (h : Fits k c.n c.s c.t bl) : (ctx nan k c).length ≤ 12300 ∧ 1 ≤ (ctx nan k c).length := by
  unfold ctx
  by_cases h1 : k = 1
  · rw [if_pos h1]; split <;> simp
  rw [if_neg h1]
  by_cases h2 : k = 2
  · rw [if_pos h2]
    have hw := wrap_rng c.n
    have := Lib.itoa_length_le _ hw.1 hw.2
    exact ⟨by omega, itoa_pos _⟩
  rw [if_neg h2]
  by_cases h3 : k = 3
  · rw [if_pos h3]
    split
    · simp
    · rw [hexB_len]; omega
  rw [if_neg h3]
  by_cases h4 : k = 4
  · rw [if_pos h4]
    have h5 := quo_len c.s.data.toList
    have h6 : c.s.data.toList.length = c.s.size := Array.length_toList
    have h7 : c.s.size ≤ 4096 := (h.2.2.2.2.1 h4).2
    refine ⟨by omega, ?_⟩
    simp [quo]
  rw [if_neg h4]
  have := nameB_len k c.n
  exact ⟨by omega, this.2⟩

/-! ### parts -/
theorem KS_len {ts : List Ty} {ps : List Int} {k : Nat} (h : k < ps.length) : (KS ts ps (k + 1)).length = (KS ts ps k).length + wid ts (ps.getD k 0) := by
  rw [KS_succ h, List.length_append]; rfl
theorem take_pc {ts : List Ty} {ps : List Int} {l : List Cl} {k : Nat} (h : k < ps.length) : l.take (KS ts ps (k + 1)).length = l.take (KS ts ps k).length ++ pc ts ps l k := by
  rw [KS_len h, List.take_add]; rfl
theorem KS_full {ts : List Ty} {ps : List Int} : KS ts ps ps.length = ps.flatMap (kinds ts) := by unfold KS; rw [List.take_length]
theorem KS_le {ts : List Ty} {ps : List Int} (k : Nat) : (KS ts ps k).length ≤ (ps.flatMap (kinds ts)).length := by rw [KS_all k, List.length_append]; omega
theorem okv_pc {ts : List Ty} {d : Nat} {ps : List Int} {l : List Cl} (h : Okv ts d (ps.flatMap (kinds ts)) l) {k : Nat} (hk : k < ps.length) : Okv ts d (kinds ts (ps.getD k 0)) (pc ts ps l k) := by
  have hl := okv_len h
  rw [KS_all (k + 1)] at h hl
  have h1 := ((okv_append hl).1 h).1
  have hl1 := okv_len h1
  rw [KS_succ hk] at h1 hl1
  have h2 := ((okv_append hl1).1 h1).2
  rw [List.drop_take, List.length_append, Nat.add_sub_cancel_left] at h2
  exact h2
theorem pc_len {ts : List Ty} {ps : List Int} {l : List Cl} (h : l.length = (ps.flatMap (kinds ts)).length) {k : Nat} (hk : k < ps.length) : (pc ts ps l k).length = wid ts (ps.getD k 0) := by
  have h1 := KS_le (ts := ts) (ps := ps) (k + 1)
  rw [KS_len hk] at h1
  unfold pc
  rw [List.length_take, List.length_drop]
  omega
theorem jnT_len {ts : List Ty} {g : Int → List Cl → List UInt8} {ps : List Int} {l : List Cl} {t : Nat} (hl : l.length = (ps.flatMap (kinds ts)).length) (hb : ∀ i, i < ps.length → (g (ps.getD i 0) (pc ts ps l i)).length ≤ 13000 * totL (pc ts ps l i) + 195 * (totL (pc ts ps l i) - (pc ts ps l i).length) + 3 * t * (pc ts ps l i).length) :
    ∀ k, k ≤ ps.length → (jnT ts g ps l k).length ≤ k + (13000 * totL (l.take (KS ts ps k).length) + 195 * (totL (l.take (KS ts ps k).length) - (l.take (KS ts ps k).length).length) + 3 * t * (l.take (KS ts ps k).length).length)
  | 0, _ => by simp [jnT]
  | k + 1, h => by
    have ih := jnT_len hl hb k (by omega)
    have hk := hb k (by omega)
    rw [jnT, List.length_append, List.length_append, take_pc (by omega), totL_append, List.length_append]
    have h1 := totL_len (l.take (KS ts ps k).length)
    have h2 := totL_len (pc ts ps l k)
    have h3 : (if k = 0 then ([] : List UInt8) else [32]).length ≤ 1 := by split <;> simp
    rw [Nat.mul_add (3 * t)]
    omega
theorem wid_pos {ts : List Ty} (hS : Sound ts) {t : Nat} (h : t < ts.length) : 1 ≤ wid ts t := by
  have h1 := kinds_len hS.2.1 (t + 1) t (by omega) (by omega) (by omega)
  have h2 := (sound_fit hS (i := t) h).1.w0
  unfold wid; omega
theorem sum_pos {ts : List Ty} (hS : Sound ts) {t : Nat} (ht : t < ts.length) : (parts (tyAt ts t)).length ≤ ((parts (tyAt ts t)).flatMap (kinds ts)).length := by
  have hF := (hS.2.1 t ht).1
  have : ∀ ps : List Int, (∀ p ∈ ps, 0 ≤ p ∧ p < ts.length) → ps.length ≤ (ps.flatMap (kinds ts)).length := by
    intro ps
    induction ps with
    | nil => simp
    | cons p ps ih =>
      intro h
      rw [List.flatMap_cons, List.length_append, List.length_cons]
      have h1 := ih (fun q hq => h q (by simp [hq]))
      have h2 := h p (by simp)
      have h3 := wid_pos hS (t := p.toNat) (by omega)
      rw [show ((p.toNat : Nat) : Int) = p by omega] at h3
      unfold wid at h3
      omega
  exact this _ (fun p hp => by have := hF.below p hp; omega)
theorem Cs.pc {d : Nat} {w : World} {a : Option Addr} {l : List Cl} (h : Cs d w a l) (ts : List Ty) (ps : List Int) (k : Nat) : ∃ a', Cs d w a' (pc ts ps l k) := by
  by_cases h0 : 0 < l.length
  · obtain ⟨d', b, o, rfl, rfl, _⟩ := h.at_ h0
    exact ⟨_, (h.drop _).take _⟩
  · obtain rfl : l = [] := List.length_eq_zero_iff.1 (by omega)
    exact ⟨none, by unfold YtfabhhmeanpmhaaDoor.pc; simpa using Cs.nil d w none⟩
theorem txt_len {nan : Int → Bool} {ts : List Ty} (hS : Sound ts) (w : World) : ∀ (d N t : Nat) (a : Option Addr) (l : List Cl), t < N → t < ts.length → Cs d w a l → Okv ts d (kinds ts t) l →
    (txt nan ts d t l).length ≤ 13000 * totL l + 195 * (totL l - l.length) + 3 * (t + 1) * l.length := by
  intro d
  induction d with
  | zero =>
    intro N t a l _ ht hC hO
    obtain rfl : l = [] := hC
    have := okv_len hO
    have h1 := wid_pos hS ht
    unfold wid at h1
    simp at this
    omega
  | succ d ihd =>
    intro N
    induction N with
    | zero => intro t _ _ h; omega
    | succ N ihN =>
      intro t a l htN ht hC hO
      have hke := kinds_eq hS.2.1 (t := (t : Int)) (by omega) (by omega)
      have hF := (hS.2.1 t ht).1
      by_cases hp : parts (tyAt ts t) = []
      · rw [if_pos hp] at hke
        rw [hke] at hO
        have hl1 : l.length = 1 := by have := okv_len hO; simpa using this
        obtain ⟨d', b, o, hd, rfl, hat⟩ := hC.at_ (by omega)
        obtain rfl : d' = d := by omega
        obtain ⟨ba, bc, hcl, hbx⟩ := hat 0 (by omega)
        obtain ⟨c, rfl⟩ : ∃ c, l = [c] := List.length_eq_one_iff.1 hl1
        have hok := (okv_one (d := d') (k := (tyAt ts t).kind) hl1).1 hO
        have ec : cAt [c] 0 = c := rfl
        rw [ec] at hok hbx
        have htot : totL [c] = 1 + totL c.box := by simp [totL, totC_eq]
        by_cases h0 : c.t = 0
        · rw [txt_leaf hp (by rw [ec]; exact h0), ec]
          have := (ctx_len nan (tyAt ts t).kind c c.box.length hok.fit).1
          rw [htot, hl1]
          omega
        · rw [txt_box hp (by rw [ec]; exact h0), ec]
          obtain ⟨hb1, hb2⟩ := hok.box h0
          have h64 := hS.1
          obtain ⟨q, hq⟩ : ∃ q : Nat, c.t - 1 = q := ⟨(c.t - 1).toNat, by have := hb1.1; omega⟩
          have hq2 : q < ts.length := by have := hb1.2.1; omega
          rw [hq] at hb2 ⊢
          have ih := ihd (q + 1) q ba c.box (by omega) hq2 hbx hb2
          have hi := Lib.itoa_length_le (q : Int) (by omega) (by omega)
          have hle := totL_len c.box
          rw [List.length_append, List.length_cons, htot, hl1]
          have : 3 * (q + 1) * c.box.length ≤ 195 * c.box.length := Nat.mul_le_mul_right _ (by omega)
          omega
      · rw [if_neg hp] at hke
        rw [hke] at hO
        have hll := okv_len hO
        rw [txt_parts hS.2.1 (by omega) (by omega) hp]
        have hj := jnT_len (g := txt nan ts (d + 1)) (t := t) hll (fun i hi => by
          have hb := hF.below ((parts (tyAt ts t)).getD i 0) (getD_mem hi)
          obtain ⟨a', hC'⟩ := hC.pc ts (parts (tyAt ts t)) i
          obtain ⟨q, hq⟩ : ∃ q : Nat, (parts (tyAt ts t)).getD i 0 = q := ⟨((parts (tyAt ts t)).getD i 0).toNat, by omega⟩
          have hO' := okv_pc hO hi
          rw [hq] at hO' ⊢
          have := ihN q a' _ (by omega) (by omega) hC' hO'
          have h3 : 3 * (q + 1) * (pc ts (parts (tyAt ts t)) l i).length ≤ 3 * t * (pc ts (parts (tyAt ts t)) l i).length := Nat.mul_le_mul_right _ (by omega)
          omega) _ (Nat.le_refl _)
        rw [KS_full, ← hll, List.take_length] at hj
        have hpl := sum_pos hS ht
        have hp1 : 1 ≤ (parts (tyAt ts t)).length := List.length_pos_iff.2 hp
        rw [List.length_cons, List.length_append, List.length_cons, List.length_nil]
        have e : 3 * (t + 1) * l.length = 3 * t * l.length + 3 * l.length := by rw [Nat.mul_add, Nat.add_mul]
        omega
theorem txt_pos {nan : Int → Bool} {ts : List Ty} (hS : Sound ts) {d t : Nat} {l : List Cl} (ht : t < ts.length) (hO : Okv ts (d + 1) (kinds ts t) l) : 1 ≤ (txt nan ts (d + 1) t l).length := by
  have hke := kinds_eq hS.2.1 (t := (t : Int)) (by omega) (by omega)
  by_cases hp : parts (tyAt ts t) = []
  · rw [if_pos hp] at hke
    rw [hke] at hO
    have hl1 : l.length = 1 := by have := okv_len hO; simpa using this
    have hok := (okv_one (d := d) (k := (tyAt ts t).kind) hl1).1 hO
    by_cases h0 : (cAt l 0).t = 0
    · rw [txt_leaf hp h0]; exact (ctx_len nan _ _ _ hok.fit).2
    · rw [txt_box hp h0, List.length_append, List.length_cons]; omega
  · rw [txt_parts hS.2.1 (by omega) (by omega) hp, List.length_cons]; omega
end Go.Proofs.YtfabhhmeanpmhaaDoor
