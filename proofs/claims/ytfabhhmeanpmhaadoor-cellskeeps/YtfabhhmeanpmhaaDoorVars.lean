/-
  Plain facts on numbers written as bytes, seven bits each, and on tables written so; no statement is proved here.
-/
import Derived.Test.YtfabhhmeanpmhaaDoorMath
namespace Go.Proofs.YtfabhhmeanpmhaaDoor

def lim : Int := 2147483647

/-- The number that begins a list of bytes, and how many they are. -/
def scan : List Int → Nat → Int → Option (Int × Nat)
  | [], _, _ => none
  | c :: r, i, n =>
    if lim < n + c % 128 * 2 ^ (7 * i) then none
    else if c < 128 then (if c = 0 ∧ 0 < i then none else some (n + c % 128 * 2 ^ (7 * i), i + 1))
    else scan r (i + 1) (n + c % 128 * 2 ^ (7 * i))

/-- The next number and the place behind it. -/
def rdN (L : List Int) (a : Nat) : Option (Int × Nat) := (scan (L.drop a) 0 0).map fun p => (p.1, a + p.2)

theorem pow7 (i : Nat) : (2 : Int) ^ (7 * (i + 1)) = 128 * 2 ^ (7 * i) := by
  rw [show 7 * (i + 1) = 7 * i + 7 from rfl, Int.pow_add, Int.mul_comm]; rfl
theorem pow7_pos (i : Nat) : (0 : Int) < 2 ^ (7 * i) := Int.pow_pos (by omega)

/-- A number's bytes. -/
def vb (n : Nat) : List Int := if n < 128 then [(n : Int)] else ((128 + n % 128 : Nat) : Int) :: vb (n / 128)
termination_by n
decreasing_by omega

theorem vb_lo {n : Nat} (h : n < 128) : vb n = [(n : Int)] := by rw [vb, if_pos h]
theorem vb_hi {n : Nat} (h : ¬ n < 128) : vb n = ((128 + n % 128 : Nat) : Int) :: vb (n / 128) := by rw [vb, if_neg h]

theorem scan_bd : ∀ (L : List Int) (i : Nat) (n v : Int) (k : Nat), scan L i n = some (v, k) → i < k ∧ k ≤ i + L.length ∧ v ≤ lim
  | [], _, _, _, _, h => by simp [scan] at h
  | c :: r, i, n, v, k, h => by
    rw [scan] at h
    by_cases h1 : lim < n + c % 128 * 2 ^ (7 * i)
    · rw [if_pos h1] at h; cases h
    rw [if_neg h1] at h
    by_cases h2 : c < 128
    · rw [if_pos h2] at h
      by_cases h3 : c = 0 ∧ 0 < i
      · rw [if_pos h3] at h; cases h
      · rw [if_neg h3] at h
        simp only [Option.some.injEq, Prod.mk.injEq] at h
        obtain ⟨rfl, rfl⟩ := h
        simp; omega
    · rw [if_neg h2] at h
      have := scan_bd r (i + 1) _ v k h
      simp; omega

theorem scan_nonneg : ∀ (L : List Int) (i : Nat) (n v : Int) (k : Nat), 0 ≤ n → scan L i n = some (v, k) → 0 ≤ v
  | [], _, _, _, _, _, h => by simp [scan] at h
  | c :: r, i, n, v, k, h0, h => by
    have hp := pow7_pos i
    have hm : 0 ≤ c % 128 * 2 ^ (7 * i) := Int.mul_nonneg (by omega) (by omega)
    rw [scan] at h
    by_cases h1 : lim < n + c % 128 * 2 ^ (7 * i)
    · rw [if_pos h1] at h; cases h
    rw [if_neg h1] at h
    by_cases h2 : c < 128
    · rw [if_pos h2] at h
      by_cases h3 : c = 0 ∧ 0 < i
      · rw [if_pos h3] at h; cases h
      · rw [if_neg h3] at h
        simp only [Option.some.injEq, Prod.mk.injEq] at h
        obtain ⟨rfl, rfl⟩ := h
        omega
    · rw [if_neg h2] at h
      exact scan_nonneg r (i + 1) _ v k (by omega) h

theorem rdN_bd {L : List Int} {a b : Nat} {v : Int} (h : rdN L a = some (v, b)) : a < b ∧ b ≤ L.length ∧ 0 ≤ v ∧ v ≤ lim := by
  unfold rdN at h
  obtain ⟨⟨v', k⟩, h1, h2⟩ := Option.map_eq_some_iff.1 h
  simp only [Prod.mk.injEq] at h2
  obtain ⟨rfl, rfl⟩ := h2
  have h3 := scan_bd _ _ _ _ _ h1
  have h4 := scan_nonneg _ _ _ _ _ (Int.le_refl _) h1
  simp at h3
  omega

/-- What is above the limit stays so: the number is none. -/
theorem scan_over : ∀ (L : List Int) (i : Nat) (n : Int), lim < n → scan L i n = none
  | [], _, _, _ => rfl
  | c :: r, i, n, h => by
    have hp := pow7_pos i
    have hm : 0 ≤ c % 128 * 2 ^ (7 * i) := Int.mul_nonneg (by omega) (by omega)
    rw [scan, if_pos (by omega)]

theorem scan_vb : ∀ (b m : Nat) (i : Nat) (n : Int) (rest : List Int), m < b → 0 ≤ n → n + m * 2 ^ (7 * i) ≤ lim → (0 < i → 0 < m) → scan (vb m ++ rest) i n = some (n + m * 2 ^ (7 * i), i + (vb m).length)
  | 0, _, _, _, _, h, _, _, _ => by omega
  | b + 1, m, i, n, rest, hb, hn, hl, hi => by
    have hp := pow7_pos i
    by_cases h : m < 128
    · rw [vb_lo h]
      have e : (m : Int) % 128 = m := by omega
      simp only [List.cons_append, List.nil_append, scan, e]
      rw [if_neg (by omega), if_pos (by omega), if_neg (by omega)]
      rfl
    · rw [vb_hi h]
      have e : (((128 + m % 128 : Nat) : Int)) % 128 = ((m % 128 : Nat) : Int) := by omega
      have hd : (m : Int) * 2 ^ (7 * i) = ((m % 128 : Nat) : Int) * 2 ^ (7 * i) + ((m / 128 : Nat) : Int) * 2 ^ (7 * (i + 1)) := by
        rw [pow7, ← Int.mul_assoc, ← Int.add_mul]
        congr 1; omega
      have m0 : 0 ≤ ((m / 128 : Nat) : Int) * 2 ^ (7 * (i + 1)) := Int.mul_nonneg (by omega) (by have := pow7_pos (i + 1); omega)
      have m1 : 0 ≤ ((m % 128 : Nat) : Int) * 2 ^ (7 * i) := Int.mul_nonneg (by omega) (by omega)
      simp only [List.cons_append, scan, e]
      rw [if_neg (by omega), if_neg (by omega), scan_vb b (m / 128) (i + 1) _ rest (by omega) (by omega) (by omega) (by omega)]
      simp only [List.length_cons, Option.some.injEq, Prod.mk.injEq]
      omega

theorem scan_back : ∀ (L : List Int) (i : Nat) (n v : Int) (k : Nat), (∀ x ∈ L, 0 ≤ x ∧ x < 256) → scan L i n = some (v, k) → ∃ m : Nat, v = n + m * 2 ^ (7 * i) ∧ L.take (k - i) = vb m ∧ (0 < i → 0 < m)
  | [], _, _, _, _, _, h => by simp [scan] at h
  | c :: r, i, n, v, k, hb, h => by
    have hc := hb c (by simp)
    have hbd := scan_bd _ _ _ _ _ h
    rw [scan] at h
    by_cases h1 : lim < n + c % 128 * 2 ^ (7 * i)
    · rw [if_pos h1] at h; cases h
    rw [if_neg h1] at h
    by_cases h2 : c < 128
    · rw [if_pos h2] at h
      by_cases h3 : c = 0 ∧ 0 < i
      · rw [if_pos h3] at h; cases h
      · rw [if_neg h3] at h
        simp only [Option.some.injEq, Prod.mk.injEq] at h
        obtain ⟨rfl, rfl⟩ := h
        refine ⟨c.toNat, ?_, ?_, ?_⟩
        · rw [show c % 128 = (c.toNat : Int) by omega]
        · rw [vb_lo (by omega), show i + 1 - i = 1 by omega]
          simp; omega
        · omega
    · rw [if_neg h2] at h
      obtain ⟨m, e1, e2, e3⟩ := scan_back r (i + 1) _ v k (fun x hx => hb x (by simp [hx])) h
      have hbd2 := scan_bd _ _ _ _ _ h
      refine ⟨(c % 128).toNat + 128 * m, ?_, ?_, ?_⟩
      · rw [e1, pow7]
        have : (((c % 128).toNat + 128 * m : Nat) : Int) = c % 128 + 128 * m := by omega
        rw [this, Int.add_mul, ← Int.mul_assoc, Int.mul_comm 128 (m : Int)]
        omega
      · rw [vb_hi (by omega), show k - i = (k - (i + 1)) + 1 by omega, List.take_succ_cons, e2]
        congr 1
        · omega
        · congr 1; omega
      · omega

theorem rdN_vb (A rest : List Int) (m : Nat) (h : (m : Int) ≤ lim) : rdN (A ++ (vb m ++ rest)) A.length = some ((m : Int), A.length + (vb m).length) := by
  unfold rdN
  rw [List.drop_left, scan_vb (m + 1) m 0 0 rest (by omega) (by omega) (by simpa using h) (by omega)]
  simp

theorem rdN_back {L : List Int} {a b : Nat} {v : Int} (hL : ∀ x ∈ L, 0 ≤ x ∧ x < 256) (h : rdN L a = some (v, b)) : L.take b = L.take a ++ vb v.toNat := by
  have hb := rdN_bd h
  unfold rdN at h
  obtain ⟨⟨v', k⟩, h1, h2⟩ := Option.map_eq_some_iff.1 h
  simp only [Prod.mk.injEq] at h2
  obtain ⟨rfl, rfl⟩ := h2
  obtain ⟨m, e1, e2, _⟩ := scan_back _ _ _ _ _ (fun x hx => hL x (List.mem_of_mem_drop hx)) h1
  simp at e1 e2
  have e3 : v'.toNat = m := by omega
  rw [e3, ← e2, List.take_add]

/-! ### tables -/

inductive Rd (α : Type) where
  | bad (at_ : Nat)
  | good (x : α) (at_ : Nat)

/-- The next number, or where the fault is. -/
def rdNum (L : List Int) (a : Nat) : Rd Int := match rdN L a with | none => .bad a | some (v, b) => .good v b

def rdKind (L : List Int) (a : Nat) : Rd Int := match rdN L a with | none => .bad a | some (v, b) => if 1 ≤ v ∧ v ≤ 10 then .good v b else .bad a

def rdFields (L : List Int) : Nat → Nat → List Int → Rd (List Int)
  | 0, a, acc => .good acc a
  | n + 1, a, acc => match rdN L a with | none => .bad a | some (v, b) => rdFields L n b (acc ++ [v])

def rdOne (L : List Int) (a : Nat) : Rd Ty :=
  match rdKind L a with
  | .bad x => .bad x
  | .good k a1 =>
    if k = 5 ∨ k = 10 then match rdNum L a1 with | .bad x => .bad x | .good e a2 => .good ⟨k, e, 0, 0, []⟩ a2
    else if k = 6 then match rdNum L a1 with | .bad x => .bad x | .good y a2 => match rdNum L a2 with | .bad x => .bad x | .good e a3 => .good ⟨k, e, y, 0, []⟩ a3
    else if k = 8 then match rdNum L a1 with | .bad x => .bad x | .good n a2 => match rdFields L n.toNat a2 [] with | .bad x => .bad x | .good f a3 => .good ⟨k, 0, 0, 0, f⟩ a3
    else if k = 9 then match rdNum L a1 with | .bad x => .bad x | .good e a2 => match rdNum L a2 with | .bad x => .bad x | .good n a3 => .good ⟨k, e, 0, n, []⟩ a3
    else .good ⟨k, 0, 0, 0, []⟩ a1

def rdMany (L : List Int) : Nat → Nat → List Ty → Rd (List Ty)
  | 0, a, acc => .good acc a
  | n + 1, a, acc => match rdOne L a with | .bad x => .bad x | .good t b => rdMany L n b (acc ++ [t])

def rdTab (L : List Int) : Rd (List Ty) := match rdNum L 0 with | .bad x => .bad x | .good n a => rdMany L n.toNat a []

/-! ### there and back -/

def encFields : List Int → List Int
  | [] => []
  | f :: r => vb f.toNat ++ encFields r

def encTy (t : Ty) : List Int :=
  vb t.kind.toNat ++
  (if t.kind = 5 ∨ t.kind = 10 then vb t.elem.toNat
   else if t.kind = 6 then vb t.key.toNat ++ vb t.elem.toNat
   else if t.kind = 8 then vb t.fields.length ++ encFields t.fields
   else if t.kind = 9 then vb t.elem.toNat ++ vb t.len.toNat
   else [])

def encMany : List Ty → List Int
  | [] => []
  | t :: r => encTy t ++ encMany r

def encTab (ts : List Ty) : List Int := vb ts.length ++ encMany ts

theorem encFields_append : ∀ a b, encFields (a ++ b) = encFields a ++ encFields b
  | [], _ => rfl
  | x :: a, b => by simp [encFields, encFields_append a b]
theorem encMany_append : ∀ a b, encMany (a ++ b) = encMany a ++ encMany b
  | [], _ => rfl
  | x :: a, b => by simp [encMany, encMany_append a b]

theorem rdN_vb' {L A rest : List Int} {v : Int} (hL : L = A ++ (vb v.toNat ++ rest)) (h0 : 0 ≤ v) (h : v ≤ lim) : rdN L A.length = some (v, (A ++ vb v.toNat).length) := by
  rw [hL, rdN_vb A rest v.toNat (by omega)]
  simp; omega

theorem rdFields_enc : ∀ (fs : List Int) (L A rest acc : List Int), L = A ++ (encFields fs ++ rest) → (∀ f ∈ fs, 0 ≤ f ∧ f ≤ lim) → rdFields L fs.length A.length acc = .good (acc ++ fs) (A ++ encFields fs).length
  | [], L, A, rest, acc, _, _ => by simp [rdFields, encFields]
  | f :: fs, L, A, rest, acc, hL, h => by
    have hf := h f (by simp)
    have e := rdN_vb' (L := L) (A := A) (rest := encFields fs ++ rest) (v := f) (by rw [hL]; simp [encFields]) hf.1 hf.2
    rw [List.length_cons, rdFields, e]
    show rdFields L fs.length (A ++ vb f.toNat).length (acc ++ [f]) = _
    rw [rdFields_enc fs L (A ++ vb f.toNat) rest (acc ++ [f]) (by rw [hL]; simp [encFields]) (fun x hx => h x (by simp [hx]))]
    simp [encFields]

/-- A type that is written whole. -/
def Writ (t : Ty) : Prop := Clean t ∧ 0 ≤ t.elem ∧ t.elem ≤ lim ∧ 0 ≤ t.key ∧ t.key ≤ lim ∧ 0 ≤ t.len ∧ t.len ≤ lim ∧ t.fields.length ≤ lim ∧ ∀ f ∈ t.fields, 0 ≤ f ∧ f ≤ lim

theorem rdOne_enc (t : Ty) (L A rest : List Int) (hL : L = A ++ (encTy t ++ rest)) (h : Writ t) : rdOne L A.length = .good t (A ++ encTy t).length := by
  obtain ⟨⟨k1, k2, c1, c2, c3, c4⟩, a1, a2, a3, a4, a5, a6, a7, a8⟩ := h
  have hlim : (10 : Int) ≤ lim := by decide
  obtain ⟨kind, elem, key, len, fields⟩ := t
  simp only at *
  have eK := rdN_vb' (L := L) (A := A) (v := kind) (rest := _) (by rw [hL]; unfold encTy; rw [List.append_assoc]) (by omega) (by omega)
  have eK2 : rdKind L A.length = .good kind (A ++ vb kind.toNat).length := by
    unfold rdKind; rw [eK]; simp only; rw [if_pos ⟨k1, k2⟩]
  unfold rdOne
  rw [eK2]
  simp only
  unfold encTy at hL ⊢
  simp only at hL ⊢
  by_cases h5 : kind = 5 ∨ kind = 10
  · rw [if_pos h5] at hL ⊢
    rw [if_pos h5]
    have e1 := rdN_vb' (L := L) (A := A ++ vb kind.toNat) (v := elem) (rest := rest) (by rw [hL]; simp) a1 a2
    unfold rdNum; rw [e1]; simp only
    obtain rfl : key = 0 := by omega
    obtain rfl : len = 0 := by omega
    obtain rfl : fields = [] := by rcases c4 with h | h; omega; exact h
    simp
  rw [if_neg h5] at hL ⊢
  rw [if_neg h5]
  by_cases h6 : kind = 6
  · rw [if_pos h6] at hL ⊢
    rw [if_pos h6]
    have e1 := rdN_vb' (L := L) (A := A ++ vb kind.toNat) (v := key) (rest := vb elem.toNat ++ rest) (by rw [hL]; simp) a3 a4
    have e2 := rdN_vb' (L := L) (A := A ++ vb kind.toNat ++ vb key.toNat) (v := elem) (rest := rest) (by rw [hL]; simp) a1 a2
    unfold rdNum; rw [e1]; simp only; rw [e2]; simp only
    obtain rfl : len = 0 := by omega
    obtain rfl : fields = [] := by rcases c4 with h | h; omega; exact h
    simp
  rw [if_neg h6] at hL ⊢
  rw [if_neg h6]
  by_cases h8 : kind = 8
  · rw [if_pos h8] at hL ⊢
    rw [if_pos h8]
    have e1 := rdN_vb' (L := L) (A := A ++ vb kind.toNat) (v := fields.length) (rest := encFields fields ++ rest) (by rw [hL]; simp) (by omega) a7
    rw [Int.toNat_natCast] at e1
    have e2 := rdFields_enc fields L (A ++ vb kind.toNat ++ vb fields.length) rest [] (by rw [hL]; simp) a8
    unfold rdNum; rw [e1]; simp only; rw [Int.toNat_natCast, e2]; simp only
    obtain rfl : len = 0 := by omega
    obtain rfl : key = 0 := by omega
    obtain rfl : elem = 0 := by omega
    simp
  rw [if_neg h8] at hL ⊢
  rw [if_neg h8]
  by_cases h9 : kind = 9
  · rw [if_pos h9] at hL ⊢
    rw [if_pos h9]
    have e1 := rdN_vb' (L := L) (A := A ++ vb kind.toNat) (v := elem) (rest := vb len.toNat ++ rest) (by rw [hL]; simp) a1 a2
    have e2 := rdN_vb' (L := L) (A := A ++ vb kind.toNat ++ vb elem.toNat) (v := len) (rest := rest) (by rw [hL]; simp) a5 a6
    unfold rdNum; rw [e1]; simp only; rw [e2]; simp only
    obtain rfl : key = 0 := by omega
    obtain rfl : fields = [] := by rcases c4 with h | h; omega; exact h
    simp
  · rw [if_neg h9] at hL ⊢
    rw [if_neg h9]
    obtain rfl : key = 0 := by omega
    obtain rfl : len = 0 := by omega
    obtain rfl : elem = 0 := by omega
    obtain rfl : fields = [] := by rcases c4 with h | h; omega; exact h
    simp

theorem rdMany_enc : ∀ (ts : List Ty) (L A rest : List Int) (acc : List Ty), L = A ++ (encMany ts ++ rest) → (∀ t ∈ ts, Writ t) → rdMany L ts.length A.length acc = .good (acc ++ ts) (A ++ encMany ts).length
  | [], L, A, rest, acc, _, _ => by simp [rdMany, encMany]
  | t :: ts, L, A, rest, acc, hL, h => by
    have e := rdOne_enc t L A (encMany ts ++ rest) (by rw [hL]; simp [encMany]) (h t (by simp))
    rw [List.length_cons, rdMany, e]
    show rdMany L ts.length (A ++ encTy t).length (acc ++ [t]) = _
    rw [rdMany_enc ts L (A ++ encTy t) rest (acc ++ [t]) (by rw [hL]; simp [encMany]) (fun x hx => h x (by simp [hx]))]
    simp [encMany]

theorem rdTab_enc (ts : List Ty) (hl : (ts.length : Int) ≤ lim) (h : ∀ t ∈ ts, Writ t) : rdTab (encTab ts) = .good ts (encTab ts).length := by
  have e1 := rdN_vb' (L := encTab ts) (A := []) (v := ts.length) (rest := encMany ts) (by rfl) (by omega) hl
  have e2 := rdMany_enc ts (encTab ts) (vb ts.length) [] [] (by simp [encTab]) h
  unfold rdTab rdNum
  rw [show (0 : Nat) = ([] : List Int).length from rfl, e1]
  simp only [Int.toNat_natCast, List.nil_append]
  rw [e2]; simp [encTab]

/-! ### and back again -/

theorem rdFields_back {L : List Int} (hL : ∀ x ∈ L, 0 ≤ x ∧ x < 256) : ∀ (n a : Nat) (acc fs : List Int) (b : Nat), rdFields L n a acc = .good fs b → ∃ ys, fs = acc ++ ys ∧ ys.length = n ∧ L.take b = L.take a ++ encFields ys
  | 0, a, acc, fs, b, h => by
    simp only [rdFields, Rd.good.injEq] at h
    obtain ⟨rfl, rfl⟩ := h
    exact ⟨[], by simp, rfl, by simp [encFields]⟩
  | n + 1, a, acc, fs, b, h => by
    rw [rdFields] at h
    cases e : rdN L a with
    | none => rw [e] at h; cases h
    | some p =>
      obtain ⟨v, a2⟩ := p
      rw [e] at h
      obtain ⟨ys, h1, h2, h3⟩ := rdFields_back hL n a2 (acc ++ [v]) fs b h
      refine ⟨v :: ys, by rw [h1]; simp, by simp [h2], ?_⟩
      rw [h3, rdN_back hL e]; simp [encFields]

theorem rdNum_back {L : List Int} (hL : ∀ x ∈ L, 0 ≤ x ∧ x < 256) {a b : Nat} {v : Int} (h : rdNum L a = .good v b) : L.take b = L.take a ++ vb v.toNat ∧ 0 ≤ v := by
  unfold rdNum at h
  cases e : rdN L a with
  | none => rw [e] at h; cases h
  | some p =>
    obtain ⟨v', b'⟩ := p
    rw [e] at h
    simp only [Rd.good.injEq] at h
    obtain ⟨rfl, rfl⟩ := h
    exact ⟨rdN_back hL e, (rdN_bd e).2.2.1⟩

theorem rdKind_back {L : List Int} (hL : ∀ x ∈ L, 0 ≤ x ∧ x < 256) {a b : Nat} {v : Int} (h : rdKind L a = .good v b) : L.take b = L.take a ++ vb v.toNat ∧ 1 ≤ v ∧ v ≤ 10 := by
  unfold rdKind at h
  cases e : rdN L a with
  | none => rw [e] at h; cases h
  | some p =>
    obtain ⟨v', b'⟩ := p
    rw [e] at h
    simp only at h
    by_cases hk : 1 ≤ v' ∧ v' ≤ 10
    · rw [if_pos hk] at h
      simp only [Rd.good.injEq] at h
      obtain ⟨rfl, rfl⟩ := h
      exact ⟨rdN_back hL e, hk⟩
    · rw [if_neg hk] at h; cases h

theorem rdOne_back {L : List Int} (hL : ∀ x ∈ L, 0 ≤ x ∧ x < 256) {a b : Nat} {t : Ty} (h : rdOne L a = .good t b) : L.take b = L.take a ++ encTy t := by
  unfold rdOne at h
  cases ek : rdKind L a with
  | bad x => rw [ek] at h; cases h
  | good k a1 =>
    rw [ek] at h
    simp only at h
    have bk := (rdKind_back hL ek).1
    by_cases h5 : k = 5 ∨ k = 10
    · rw [if_pos h5] at h
      cases e1 : rdNum L a1 with
      | bad x => rw [e1] at h; cases h
      | good e a2 =>
        rw [e1] at h
        simp only [Rd.good.injEq] at h
        obtain ⟨rfl, rfl⟩ := h
        rw [(rdNum_back hL e1).1, bk]
        simp [encTy, h5]
    rw [if_neg h5] at h
    by_cases h6 : k = 6
    · rw [if_pos h6] at h
      cases e1 : rdNum L a1 with
      | bad x => rw [e1] at h; cases h
      | good y a2 =>
        rw [e1] at h
        simp only at h
        cases e2 : rdNum L a2 with
        | bad x => rw [e2] at h; cases h
        | good e a3 =>
          rw [e2] at h
          simp only [Rd.good.injEq] at h
          obtain ⟨rfl, rfl⟩ := h
          rw [(rdNum_back hL e2).1, (rdNum_back hL e1).1, bk]
          simp [encTy, h6]
    rw [if_neg h6] at h
    by_cases h8 : k = 8
    · rw [if_pos h8] at h
      cases e1 : rdNum L a1 with
      | bad x => rw [e1] at h; cases h
      | good n a2 =>
        rw [e1] at h
        simp only at h
        cases e2 : rdFields L n.toNat a2 [] with
        | bad x => rw [e2] at h; cases h
        | good f a3 =>
          rw [e2] at h
          simp only [Rd.good.injEq] at h
          obtain ⟨rfl, rfl⟩ := h
          obtain ⟨ys, y1, y2, y3⟩ := rdFields_back hL _ _ _ _ _ e2
          simp at y1
          subst y1
          rw [y3, (rdNum_back hL e1).1, bk, ← y2]
          simp [encTy, h8]
    rw [if_neg h8] at h
    by_cases h9 : k = 9
    · rw [if_pos h9] at h
      cases e1 : rdNum L a1 with
      | bad x => rw [e1] at h; cases h
      | good y a2 =>
        rw [e1] at h
        simp only at h
        cases e2 : rdNum L a2 with
        | bad x => rw [e2] at h; cases h
        | good e a3 =>
          rw [e2] at h
          simp only [Rd.good.injEq] at h
          obtain ⟨rfl, rfl⟩ := h
          rw [(rdNum_back hL e2).1, (rdNum_back hL e1).1, bk]
          simp [encTy, h9]
    · rw [if_neg h9] at h
      simp only [Rd.good.injEq] at h
      obtain ⟨rfl, rfl⟩ := h
      rw [bk]
      simp [encTy, h5, h6, h8, h9]

theorem rdMany_back {L : List Int} (hL : ∀ x ∈ L, 0 ≤ x ∧ x < 256) : ∀ (n a : Nat) (acc ts : List Ty) (b : Nat), rdMany L n a acc = .good ts b → ∃ ys, ts = acc ++ ys ∧ ys.length = n ∧ L.take b = L.take a ++ encMany ys
  | 0, a, acc, fs, b, h => by
    simp only [rdMany, Rd.good.injEq] at h
    obtain ⟨rfl, rfl⟩ := h
    exact ⟨[], by simp, rfl, by simp [encMany]⟩
  | n + 1, a, acc, fs, b, h => by
    rw [rdMany] at h
    cases e : rdOne L a with
    | bad x => rw [e] at h; cases h
    | good v a2 =>
      rw [e] at h
      obtain ⟨ys, h1, h2, h3⟩ := rdMany_back hL n a2 (acc ++ [v]) fs b h
      refine ⟨v :: ys, by rw [h1]; simp, by simp [h2], ?_⟩
      rw [h3, rdOne_back hL e]; simp [encMany]

theorem rdTab_back {L : List Int} (hL : ∀ x ∈ L, 0 ≤ x ∧ x < 256) {ts : List Ty} (h : rdTab L = .good ts L.length) : encTab ts = L := by
  unfold rdTab at h
  cases e : rdNum L 0 with
  | bad x => rw [e] at h; cases h
  | good n a =>
    rw [e] at h
    simp only at h
    obtain ⟨ys, h1, h2, h3⟩ := rdMany_back hL _ _ _ _ _ h
    simp at h1
    subst h1
    obtain ⟨h4, h5⟩ := rdNum_back hL e
    rw [List.take_length, h4, ← h2] at h3
    simp at h3
    exact h3.symm

end Go.Proofs.YtfabhhmeanpmhaaDoor
