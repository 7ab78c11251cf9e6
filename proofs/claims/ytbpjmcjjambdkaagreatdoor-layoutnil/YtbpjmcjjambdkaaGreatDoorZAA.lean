/-
  TMath, TVars, TBase, TSmall, THas: joined by program; no statement is proved here.
-/
import Derived.Test.YtbpjmcjjambdkaaGreatDoorRows
import Derived.WalkKit
import Derived.ProofKit
import Derived.Laws.CopyOwn
import Derived.Laws.OwnMore
import Derived.Deep.QuietTactic
import Derived.BigQuiet
import Derived.Deep.WholeRow
import Derived.Deep.RegionHeld3
/-
  Plain facts on tables of types: how wide, which words are pointers, which can be compared; no statement is proved here.
-/
namespace Go.Proofs.YtbpjmcjjambdkaaGreatDoor.Ty

structure Ty where
  kind : Int
  elem : Int
  key : Int
  len : Int
  fields : List Int

structure Me where
  width : Int
  words : Int
  cmp : Bool
  ptrs : List Bool

def zeroTy : Ty := ⟨0, 0, 0, 0, []⟩
def zeroMe : Me := ⟨0, 0, false, []⟩

/-- The types of the parts. -/
def parts (t : Ty) : List Int := if t.kind = 8 then t.fields else if t.kind = 9 then List.replicate t.len.toNat t.elem else []

def at' (E : List Me) (p : Int) : Me := E.getD p.toNat zeroMe
def tyAt (ts : List Ty) (p : Int) : Ty := ts.getD p.toNat zeroTy

def sumWidth (E : List Me) : List Int → Int
  | [] => 0
  | p :: r => (at' E p).width + sumWidth E r
def sumWords (E : List Me) : List Int → Int
  | [] => 0
  | p :: r => (at' E p).words + sumWords E r
def allCmp (E : List Me) : List Int → Bool
  | [] => true
  | p :: r => (at' E p).cmp && allCmp E r
def allPtrs (E : List Me) : List Int → List Bool
  | [] => []
  | p :: r => (at' E p).ptrs ++ allPtrs E r

theorem sumWidth_append (E : List Me) : ∀ a b, sumWidth E (a ++ b) = sumWidth E a + sumWidth E b
  | [], b => by simp [sumWidth]
  | x :: a, b => by simp [sumWidth, sumWidth_append E a b]; omega
theorem sumWords_append (E : List Me) : ∀ a b, sumWords E (a ++ b) = sumWords E a + sumWords E b
  | [], b => by simp [sumWords]
  | x :: a, b => by simp [sumWords, sumWords_append E a b]; omega
theorem allCmp_append (E : List Me) : ∀ a b, allCmp E (a ++ b) = (allCmp E a && allCmp E b)
  | [], b => by simp [allCmp]
  | x :: a, b => by simp [allCmp, allCmp_append E a b, Bool.and_assoc]
theorem allPtrs_append (E : List Me) : ∀ a b, allPtrs E (a ++ b) = allPtrs E a ++ allPtrs E b
  | [], b => by simp [allPtrs]
  | x :: a, b => by simp [allPtrs, allPtrs_append E a b]

theorem take_snoc {α : Type} (l : List α) (k : Nat) (d : α) (h : k < l.length) : l.take (k + 1) = l.take k ++ [l.getD k d] := by
  rw [List.take_succ_eq_append_getElem h]
  simp [List.getD, h]

theorem sumWidth_snoc (E : List Me) (l : List Int) (k : Nat) (h : k < l.length) : sumWidth E (l.take (k + 1)) = sumWidth E (l.take k) + (at' E (l.getD k 0)).width := by
  rw [take_snoc l k 0 h, sumWidth_append]; simp [sumWidth]
theorem sumWords_snoc (E : List Me) (l : List Int) (k : Nat) (h : k < l.length) : sumWords E (l.take (k + 1)) = sumWords E (l.take k) + (at' E (l.getD k 0)).words := by
  rw [take_snoc l k 0 h, sumWords_append]; simp [sumWords]
theorem allCmp_snoc (E : List Me) (l : List Int) (k : Nat) (h : k < l.length) : allCmp E (l.take (k + 1)) = (allCmp E (l.take k) && (at' E (l.getD k 0)).cmp) := by
  rw [take_snoc l k 0 h, allCmp_append]; simp [allCmp]
theorem allPtrs_snoc (E : List Me) (l : List Int) (k : Nat) (h : k < l.length) : allPtrs E (l.take (k + 1)) = allPtrs E (l.take k) ++ (at' E (l.getD k 0)).ptrs := by
  rw [take_snoc l k 0 h, allPtrs_append]; simp [allPtrs]

/-- What is known of a type, by those of the earlier ones. -/
def meas (t : Ty) (E : List Me) : Me :=
  if t.kind = 4 then ⟨1, 2, true, [true, false]⟩
  else if t.kind = 7 then ⟨1, 2, true, [false, true]⟩
  else if t.kind = 6 ∨ t.kind = 10 then ⟨1, 1, false, [true]⟩
  else if t.kind = 8 ∨ t.kind = 9 then ⟨sumWidth E (parts t), sumWords E (parts t), allCmp E (parts t), allPtrs E (parts t)⟩
  else if t.kind = 5 then ⟨1, 1, true, [true]⟩
  else ⟨1, 1, true, [false]⟩

def go : List Ty → List Me → List Me
  | [], E => E
  | t :: r, E => go r (E ++ [meas t E])
def ms (ts : List Ty) : List Me := go ts []

theorem go_append : ∀ a b E, go (a ++ b) E = go b (go a E)
  | [], _, _ => rfl
  | _ :: a, b, E => by simp only [List.cons_append, go]; exact go_append a b _
theorem length_go : ∀ ts E, (go ts E).length = E.length + ts.length
  | [], _ => rfl
  | t :: r, E => by rw [go, length_go r]; simp; omega
theorem length_ms (ts : List Ty) : (ms ts).length = ts.length := by rw [ms, length_go]; simp
theorem ms_snoc (ts : List Ty) (t : Ty) : ms (ts ++ [t]) = ms ts ++ [meas t (ms ts)] := by rw [ms, go_append]; rfl
theorem go_prefix : ∀ ts E, (go ts E).take E.length = E
  | [], E => by simp [go]
  | t :: r, E => by
    have := go_prefix r (E ++ [meas t E])
    rw [go]
    have h2 := congrArg (List.take E.length) this
    rw [List.take_take] at h2
    simpa using h2
theorem ms_append (a b : List Ty) : (ms (a ++ b)).take a.length = ms a := by
  have h := go_prefix b (go a [])
  rw [ms, go_append, ← length_ms a]; exact h
theorem ms_take (ts : List Ty) (i : Nat) (h : i ≤ ts.length) : (ms ts).take i = ms (ts.take i) := by
  have := ms_append (ts.take i) (ts.drop i)
  rw [List.take_append_drop] at this
  simpa [List.length_take, Nat.min_eq_left h] using this
theorem ms_step (ts : List Ty) (i : Nat) (h : i < ts.length) : ms (ts.take (i + 1)) = ms (ts.take i) ++ [meas (tyAt ts i) (ms (ts.take i))] := by
  rw [take_snoc ts i zeroTy h, ms_snoc]; rfl

/-- The measure of type i. -/
def M (ts : List Ty) (i : Int) : Me := at' (ms ts) i

theorem M_take (ts : List Ty) (i : Nat) (h : i < ts.length) : M ts i = meas (tyAt ts i) (ms (ts.take i)) := by
  have h1 := ms_step ts i h
  rw [← ms_take ts (i + 1) h] at h1
  have h2 := congrArg (fun l => l.getD i zeroMe) h1
  simp only [List.getD] at h2
  rw [List.getElem?_take, if_pos (by omega)] at h2
  have hl : (ms (ts.take i)).length = i := by rw [length_ms]; simp; omega
  unfold M at'
  simp only [Int.toNat_natCast, List.getD]
  rw [h2, List.getElem?_append_right (by omega), hl]
  simp

/-- What is below i is the same in the table's head. -/
theorem at_take (ts : List Ty) (i : Nat) (h : i ≤ ts.length) (p : Int) (h0 : 0 ≤ p) (h1 : p < i) : at' (ms (ts.take i)) p = M ts p := by
  rw [← ms_take ts i h]
  unfold M at'
  simp only [List.getD]
  rw [List.getElem?_take, if_pos (by omega)]

theorem sum_cong {E F : List Me} : ∀ {l : List Int}, (∀ p ∈ l, at' E p = at' F p) → sumWidth E l = sumWidth F l ∧ sumWords E l = sumWords F l ∧ allCmp E l = allCmp F l ∧ allPtrs E l = allPtrs F l
  | [], _ => ⟨rfl, rfl, rfl, rfl⟩
  | x :: l, h => by
    have h1 := h x (by simp)
    obtain ⟨a, b, c, d⟩ := sum_cong (l := l) (fun p hp => h p (by simp [hp]))
    simp [sumWidth, sumWords, allCmp, allPtrs, h1, a, b, c, d]

theorem meas_cong {E F : List Me} (t : Ty) (h : ∀ p ∈ parts t, at' E p = at' F p) : meas t E = meas t F := by
  obtain ⟨a, b, c, d⟩ := sum_cong h
  unfold meas; rw [a, b, c, d]

theorem M_eq (ts : List Ty) (i : Nat) (h : i < ts.length) (hp : ∀ p ∈ parts (tyAt ts i), 0 ≤ p ∧ p < i) : M ts i = meas (tyAt ts i) (ms ts) := by
  rw [M_take ts i h]
  exact meas_cong _ fun p hp' => at_take ts i (by omega) p (hp p hp').1 (hp p hp').2

/-! ### which tables are sound -/

def Clean (t : Ty) : Prop := 1 ≤ t.kind ∧ t.kind ≤ 10 ∧ ((t.kind = 5 ∨ t.kind = 6 ∨ t.kind = 9 ∨ t.kind = 10) ∨ t.elem = 0) ∧ (t.kind = 6 ∨ t.key = 0) ∧ (t.kind = 9 ∨ t.len = 0) ∧ (t.kind = 8 ∨ t.fields = [])

/-- p is one of the first n types, and no iterator. -/
def Within (ts : List Ty) (n : Nat) (p : Int) : Prop := 0 ≤ p ∧ p < n ∧ (tyAt ts p).kind ≠ 10

def Formed (ts : List Ty) (i : Nat) : Prop :=
  Clean (tyAt ts i) ∧ ((tyAt ts i).kind = 5 → Within ts ts.length (tyAt ts i).elem) ∧
  ((tyAt ts i).kind = 6 → Within ts ts.length (tyAt ts i).key ∧ Within ts ts.length (tyAt ts i).elem) ∧
  ((tyAt ts i).kind = 8 → 1 ≤ (tyAt ts i).fields.length ∧ (tyAt ts i).fields.length ≤ 16 ∧ ∀ f ∈ (tyAt ts i).fields, Within ts i f) ∧
  ((tyAt ts i).kind = 9 → 1 ≤ (tyAt ts i).len ∧ (tyAt ts i).len ≤ 16 ∧ Within ts i (tyAt ts i).elem) ∧
  ((tyAt ts i).kind = 10 → 0 ≤ (tyAt ts i).elem ∧ (tyAt ts i).elem < ts.length ∧ (tyAt ts (tyAt ts i).elem).kind = 6)

def OkAt (ts : List Ty) (i : Nat) : Prop := Formed ts i ∧ (M ts i).width ≤ 16
def KeyOk (ts : List Ty) (i : Nat) : Prop := (tyAt ts i).kind = 6 → (M ts (tyAt ts i).key).cmp = true

def AllOk (ts : List Ty) : Prop := ∀ i, i < ts.length → OkAt ts i
def KeysOk (ts : List Ty) : Prop := ∀ i, i < ts.length → KeyOk ts i
def Sound (ts : List Ty) : Prop := ts.length ≤ 64 ∧ AllOk ts ∧ KeysOk ts

theorem Formed.below {ts : List Ty} {i : Nat} (h : Formed ts i) : ∀ p ∈ parts (tyAt ts i), 0 ≤ p ∧ p < i ∧ (tyAt ts p).kind ≠ 10 := by
  intro p hp
  unfold parts at hp
  by_cases h8 : (tyAt ts i).kind = 8
  · rw [if_pos h8] at hp
    exact (h.2.2.2.1 h8).2.2 p hp
  · rw [if_neg h8] at hp
    by_cases h9 : (tyAt ts i).kind = 9
    · rw [if_pos h9] at hp
      rw [(List.mem_replicate.1 hp).2]
      exact (h.2.2.2.2.1 h9).2.2
    · rw [if_neg h9] at hp; simp at hp

theorem Formed.length_parts {ts : List Ty} {i : Nat} (h : Formed ts i) : (parts (tyAt ts i)).length ≤ 16 := by
  unfold parts
  by_cases h8 : (tyAt ts i).kind = 8
  · rw [if_pos h8]; exact (h.2.2.2.1 h8).2.1
  · rw [if_neg h8]
    by_cases h9 : (tyAt ts i).kind = 9
    · rw [if_pos h9]; have := h.2.2.2.2.1 h9; simp; omega
    · rw [if_neg h9]; simp

theorem Formed.eq {ts : List Ty} {i : Nat} (h : Formed ts i) (hi : i < ts.length) : M ts i = meas (tyAt ts i) (ms ts) :=
  M_eq ts i hi fun p hp => ⟨(h.below p hp).1, (h.below p hp).2.1⟩

/-- Bounds of what is summed. -/
theorem sum_bd {E : List Me} {k : Int} : ∀ {l : List Int}, (∀ p ∈ l, 0 ≤ (at' E p).width ∧ (at' E p).width ≤ k ∧ 0 ≤ (at' E p).words ∧ (at' E p).words ≤ 2 * (at' E p).width) → 0 ≤ sumWidth E l ∧ sumWidth E l ≤ k * l.length ∧ 0 ≤ sumWords E l ∧ sumWords E l ≤ 2 * sumWidth E l
  | [], _ => by simp [sumWidth, sumWords]
  | x :: l, h => by
    obtain ⟨a, b, c, d⟩ := h x (by simp)
    obtain ⟨e, f, g, i⟩ := sum_bd (l := l) (fun p hp => h p (by simp [hp]))
    simp only [sumWidth, sumWords, List.length_cons]
    have : k * ((l.length + 1 : Nat) : Int) = k * l.length + k := by rw [Int.natCast_add, Int.mul_add]; simp
    omega

theorem ptrs_length {E : List Me} : ∀ {l : List Int}, (∀ p ∈ l, (at' E p).words = (at' E p).ptrs.length) → sumWords E l = (allPtrs E l).length
  | [], _ => rfl
  | x :: l, h => by
    have := h x (by simp)
    have h2 := ptrs_length (l := l) (fun p hp => h p (by simp [hp]))
    simp [sumWords, allPtrs, this, h2]

/-- What holds of a type whose earlier ones are in order. -/
structure Fit (m : Me) : Prop where
  w0 : 1 ≤ m.width
  d0 : 1 ≤ m.words
  dw : m.words ≤ 2 * m.width
  len : m.words = m.ptrs.length

theorem meas_fit {E : List Me} (t : Ty) (hp : ∀ p ∈ parts t, Fit (at' E p)) (h1 : t.kind = 8 ∨ t.kind = 9 → parts t ≠ []) : Fit (meas t E) := by
  unfold meas
  by_cases a : t.kind = 4
  · rw [if_pos a]; constructor <;> simp
  rw [if_neg a]
  by_cases a : t.kind = 7
  · rw [if_pos a]; constructor <;> simp
  rw [if_neg a]
  by_cases a : t.kind = 6 ∨ t.kind = 10
  · rw [if_pos a]; constructor <;> simp
  rw [if_neg a]
  by_cases a : t.kind = 8 ∨ t.kind = 9
  · rw [if_pos a]
    have hl := ptrs_length (E := E) (l := parts t) (fun p hp' => (hp p hp').len)
    have hne := h1 a
    revert hp hl hne
    generalize parts t = l
    intro hp hl hne
    have hsum : ∀ l : List Int, (∀ p ∈ l, Fit (at' E p)) → 0 ≤ sumWidth E l ∧ 0 ≤ sumWords E l ∧ sumWords E l ≤ 2 * sumWidth E l := by
      intro l
      induction l with
      | nil => intro _; simp [sumWidth, sumWords]
      | cons x l ih =>
        intro h
        have := ih (fun p hp => h p (by simp [hp]))
        have f := h x (by simp)
        have := f.w0; have := f.d0; have := f.dw
        simp only [sumWidth, sumWords]; omega
    cases l with
    | nil => exact absurd rfl hne
    | cons x l =>
      have f := hp x (by simp)
      have g := hsum l (fun p hp' => hp p (by simp [hp']))
      have := f.w0; have := f.d0; have := f.dw
      constructor
      · simp only [sumWidth]; omega
      · simp only [sumWords]; omega
      · simp only [sumWidth, sumWords]; omega
      · exact hl
  rw [if_neg a]
  by_cases a : t.kind = 5
  · rw [if_pos a]; constructor <;> simp
  · rw [if_neg a]; constructor <;> simp

theorem Formed.ne {ts : List Ty} {i : Nat} (h : Formed ts i) : (tyAt ts i).kind = 8 ∨ (tyAt ts i).kind = 9 → parts (tyAt ts i) ≠ [] := by
  intro ha he
  have hl : (parts (tyAt ts i)).length = 0 := by rw [he]; rfl
  unfold parts at hl
  rcases ha with h8 | h9
  · rw [if_pos h8] at hl; have := h.2.2.2.1 h8; omega
  · rw [if_neg (by omega), if_pos h9] at hl; have := h.2.2.2.2.1 h9; simp at hl; omega

theorem fit_of (ts : List Ty) : ∀ n i : Nat, i < n → i < ts.length → (∀ j, j ≤ i → Formed ts j) → Fit (M ts i)
  | 0, _, h, _, _ => by omega
  | n + 1, i, h, hi, hf => by
    rw [(hf i (Nat.le_refl _)).eq hi]
    refine meas_fit _ (fun p hp => ?_) (hf i (Nat.le_refl _)).ne
    obtain ⟨h0, h1, _⟩ := (hf i (Nat.le_refl _)).below p hp
    obtain ⟨q, rfl⟩ : ∃ q : Nat, p = q := ⟨p.toNat, by omega⟩
    exact fit_of ts n q (by omega) (by omega) (fun j hj => hf j (by omega))

/-- With a further type behind it what was known stays. -/
theorem M_append (a b : List Ty) (i : Nat) (h : i < a.length) : M (a ++ b) i = M a i := by
  have := at_take (a ++ b) a.length (by simp) i (by omega) (by omega)
  rw [List.take_left] at this
  rw [← this]; rfl

end Go.Proofs.YtbpjmcjjambdkaaGreatDoor.Ty

/-
  Plain facts on numbers written as bytes, seven bits each, and on tables written so; no statement is proved here.
-/
namespace Go.Proofs.YtbpjmcjjambdkaaGreatDoor.Ty

def lim : Int := 2147483647

/-- The number that begins a list of bytes, and how many they are. -/
def scan : List Int → Nat → Int → Option (Int × Nat)
  | [], _, _ => none
  | c :: r, i, n =>
    if lim < n + c % 128 * 2 ^ (7 * i) then none
    else if c < 128 then (if c = 0 ∧ 0 < i then none else some (n + c % 128 * 2 ^ (7 * i), i + 1))
    else scan r (i + 1) (n + c % 128 * 2 ^ (7 * i))

/-- The next number and the place behind it. -/
def rdN (L : List Int) (a : Nat) : Option (Int × Nat) := (scan (L.drop a) 0 0).map fun p => (p.1, a + p.2)

theorem pow7 (i : Nat) : (2 : Int) ^ (7 * (i + 1)) = 128 * 2 ^ (7 * i) := by
  rw [show 7 * (i + 1) = 7 * i + 7 from rfl, Int.pow_add, Int.mul_comm]; rfl
theorem pow7_pos (i : Nat) : (0 : Int) < 2 ^ (7 * i) := Int.pow_pos (by omega)

/-- A number's bytes. -/
def vb (n : Nat) : List Int := if n < 128 then [(n : Int)] else ((128 + n % 128 : Nat) : Int) :: vb (n / 128)
termination_by n
decreasing_by omega

theorem vb_lo {n : Nat} (h : n < 128) : vb n = [(n : Int)] := by rw [vb, if_pos h]
theorem vb_hi {n : Nat} (h : ¬ n < 128) : vb n = ((128 + n % 128 : Nat) : Int) :: vb (n / 128) := by rw [vb, if_neg h]

theorem scan_bd : ∀ (L : List Int) (i : Nat) (n v : Int) (k : Nat), scan L i n = some (v, k) → i < k ∧ k ≤ i + L.length ∧ v ≤ lim
  | [], _, _, _, _, h => by simp [scan] at h
  | c :: r, i, n, v, k, h => by
    rw [scan] at h
    by_cases h1 : lim < n + c % 128 * 2 ^ (7 * i)
    · rw [if_pos h1] at h; cases h
    rw [if_neg h1] at h
    by_cases h2 : c < 128
    · rw [if_pos h2] at h
      by_cases h3 : c = 0 ∧ 0 < i
      · rw [if_pos h3] at h; cases h
      · rw [if_neg h3] at h
        simp only [Option.some.injEq, Prod.mk.injEq] at h
        obtain ⟨rfl, rfl⟩ := h
        simp; omega
    · rw [if_neg h2] at h
      have := scan_bd r (i + 1) _ v k h
      simp; omega

theorem scan_nonneg : ∀ (L : List Int) (i : Nat) (n v : Int) (k : Nat), 0 ≤ n → scan L i n = some (v, k) → 0 ≤ v
  | [], _, _, _, _, _, h => by simp [scan] at h
  | c :: r, i, n, v, k, h0, h => by
    have hp := pow7_pos i
    have hm : 0 ≤ c % 128 * 2 ^ (7 * i) := Int.mul_nonneg (by omega) (by omega)
    rw [scan] at h
    by_cases h1 : lim < n + c % 128 * 2 ^ (7 * i)
    · rw [if_pos h1] at h; cases h
    rw [if_neg h1] at h
    by_cases h2 : c < 128
    · rw [if_pos h2] at h
      by_cases h3 : c = 0 ∧ 0 < i
      · rw [if_pos h3] at h; cases h
      · rw [if_neg h3] at h
        simp only [Option.some.injEq, Prod.mk.injEq] at h
        obtain ⟨rfl, rfl⟩ := h
        omega
    · rw [if_neg h2] at h
      exact scan_nonneg r (i + 1) _ v k (by omega) h

theorem rdN_bd {L : List Int} {a b : Nat} {v : Int} (h : rdN L a = some (v, b)) : a < b ∧ b ≤ L.length ∧ 0 ≤ v ∧ v ≤ lim := by
  unfold rdN at h
  obtain ⟨⟨v', k⟩, h1, h2⟩ := Option.map_eq_some_iff.1 h
  simp only [Prod.mk.injEq] at h2
  obtain ⟨rfl, rfl⟩ := h2
  have h3 := scan_bd _ _ _ _ _ h1
  have h4 := scan_nonneg _ _ _ _ _ (Int.le_refl _) h1
  simp at h3
  omega

/-- What is above the limit stays so: the number is none. -/
theorem scan_over : ∀ (L : List Int) (i : Nat) (n : Int), lim < n → scan L i n = none
  | [], _, _, _ => rfl
  | c :: r, i, n, h => by
    have hp := pow7_pos i
    have hm : 0 ≤ c % 128 * 2 ^ (7 * i) := Int.mul_nonneg (by omega) (by omega)
    rw [scan, if_pos (by omega)]

theorem scan_vb : ∀ (b m : Nat) (i : Nat) (n : Int) (rest : List Int), m < b → 0 ≤ n → n + m * 2 ^ (7 * i) ≤ lim → (0 < i → 0 < m) → scan (vb m ++ rest) i n = some (n + m * 2 ^ (7 * i), i + (vb m).length)
  | 0, _, _, _, _, h, _, _, _ => by omega
  | b + 1, m, i, n, rest, hb, hn, hl, hi => by
    have hp := pow7_pos i
    by_cases h : m < 128
    · rw [vb_lo h]
      have e : (m : Int) % 128 = m := by omega
      simp only [List.cons_append, List.nil_append, scan, e]
      rw [if_neg (by omega), if_pos (by omega), if_neg (by omega)]
      rfl
    · rw [vb_hi h]
      have e : (((128 + m % 128 : Nat) : Int)) % 128 = ((m % 128 : Nat) : Int) := by omega
      have hd : (m : Int) * 2 ^ (7 * i) = ((m % 128 : Nat) : Int) * 2 ^ (7 * i) + ((m / 128 : Nat) : Int) * 2 ^ (7 * (i + 1)) := by
        rw [pow7, ← Int.mul_assoc, ← Int.add_mul]
        congr 1; omega
      have m0 : 0 ≤ ((m / 128 : Nat) : Int) * 2 ^ (7 * (i + 1)) := Int.mul_nonneg (by omega) (by have := pow7_pos (i + 1); omega)
      have m1 : 0 ≤ ((m % 128 : Nat) : Int) * 2 ^ (7 * i) := Int.mul_nonneg (by omega) (by omega)
      simp only [List.cons_append, scan, e]
      rw [if_neg (by omega), if_neg (by omega), scan_vb b (m / 128) (i + 1) _ rest (by omega) (by omega) (by omega) (by omega)]
      simp only [List.length_cons, Option.some.injEq, Prod.mk.injEq]
      omega

theorem scan_back : ∀ (L : List Int) (i : Nat) (n v : Int) (k : Nat), (∀ x ∈ L, 0 ≤ x ∧ x < 256) → scan L i n = some (v, k) → ∃ m : Nat, v = n + m * 2 ^ (7 * i) ∧ L.take (k - i) = vb m ∧ (0 < i → 0 < m)
  | [], _, _, _, _, _, h => by simp [scan] at h
  | c :: r, i, n, v, k, hb, h => by
    have hc := hb c (by simp)
    have hbd := scan_bd _ _ _ _ _ h
    rw [scan] at h
    by_cases h1 : lim < n + c % 128 * 2 ^ (7 * i)
    · rw [if_pos h1] at h; cases h
    rw [if_neg h1] at h
    by_cases h2 : c < 128
    · rw [if_pos h2] at h
      by_cases h3 : c = 0 ∧ 0 < i
      · rw [if_pos h3] at h; cases h
      · rw [if_neg h3] at h
        simp only [Option.some.injEq, Prod.mk.injEq] at h
        obtain ⟨rfl, rfl⟩ := h
        refine ⟨c.toNat, ?_, ?_, ?_⟩
        · rw [show c % 128 = (c.toNat : Int) by omega]
        · rw [vb_lo (by omega), show i + 1 - i = 1 by omega]
          simp; omega
        · omega
    · rw [if_neg h2] at h
      obtain ⟨m, e1, e2, e3⟩ := scan_back r (i + 1) _ v k (fun x hx => hb x (by simp [hx])) h
      have hbd2 := scan_bd _ _ _ _ _ h
      refine ⟨(c % 128).toNat + 128 * m, ?_, ?_, ?_⟩
      · rw [e1, pow7]
        have : (((c % 128).toNat + 128 * m : Nat) : Int) = c % 128 + 128 * m := by omega
        rw [this, Int.add_mul, ← Int.mul_assoc, Int.mul_comm 128 (m : Int)]
        omega
      · rw [vb_hi (by omega), show k - i = (k - (i + 1)) + 1 by omega, List.take_succ_cons, e2]
        congr 1
        · omega
        · congr 1; omega
      · omega

theorem rdN_vb (A rest : List Int) (m : Nat) (h : (m : Int) ≤ lim) : rdN (A ++ (vb m ++ rest)) A.length = some ((m : Int), A.length + (vb m).length) := by
  unfold rdN
  rw [List.drop_left, scan_vb (m + 1) m 0 0 rest (by omega) (by omega) (by simpa using h) (by omega)]
  simp

theorem rdN_back {L : List Int} {a b : Nat} {v : Int} (hL : ∀ x ∈ L, 0 ≤ x ∧ x < 256) (h : rdN L a = some (v, b)) : L.take b = L.take a ++ vb v.toNat := by
  have hb := rdN_bd h
  unfold rdN at h
  obtain ⟨⟨v', k⟩, h1, h2⟩ := Option.map_eq_some_iff.1 h
  simp only [Prod.mk.injEq] at h2
  obtain ⟨rfl, rfl⟩ := h2
  obtain ⟨m, e1, e2, _⟩ := scan_back _ _ _ _ _ (fun x hx => hL x (List.mem_of_mem_drop hx)) h1
  simp at e1 e2
  have e3 : v'.toNat = m := by omega
  rw [e3, ← e2, List.take_add]

/-! ### tables -/

inductive Rd (α : Type) where
  | bad (at_ : Nat)
  | good (x : α) (at_ : Nat)

/-- The next number, or where the fault is. -/
def rdNum (L : List Int) (a : Nat) : Rd Int := match rdN L a with | none => .bad a | some (v, b) => .good v b

def rdKind (L : List Int) (a : Nat) : Rd Int := match rdN L a with | none => .bad a | some (v, b) => if 1 ≤ v ∧ v ≤ 10 then .good v b else .bad a

def rdFields (L : List Int) : Nat → Nat → List Int → Rd (List Int)
  | 0, a, acc => .good acc a
  | n + 1, a, acc => match rdN L a with | none => .bad a | some (v, b) => rdFields L n b (acc ++ [v])

def rdOne (L : List Int) (a : Nat) : Rd Ty :=
  match rdKind L a with
  | .bad x => .bad x
  | .good k a1 =>
    if k = 5 ∨ k = 10 then match rdNum L a1 with | .bad x => .bad x | .good e a2 => .good ⟨k, e, 0, 0, []⟩ a2
    else if k = 6 then match rdNum L a1 with | .bad x => .bad x | .good y a2 => match rdNum L a2 with | .bad x => .bad x | .good e a3 => .good ⟨k, e, y, 0, []⟩ a3
    else if k = 8 then match rdNum L a1 with | .bad x => .bad x | .good n a2 => match rdFields L n.toNat a2 [] with | .bad x => .bad x | .good f a3 => .good ⟨k, 0, 0, 0, f⟩ a3
    else if k = 9 then match rdNum L a1 with | .bad x => .bad x | .good e a2 => match rdNum L a2 with | .bad x => .bad x | .good n a3 => .good ⟨k, e, 0, n, []⟩ a3
    else .good ⟨k, 0, 0, 0, []⟩ a1

def rdMany (L : List Int) : Nat → Nat → List Ty → Rd (List Ty)
  | 0, a, acc => .good acc a
  | n + 1, a, acc => match rdOne L a with | .bad x => .bad x | .good t b => rdMany L n b (acc ++ [t])

def rdTab (L : List Int) : Rd (List Ty) := match rdNum L 0 with | .bad x => .bad x | .good n a => rdMany L n.toNat a []

/-! ### there and back -/

def encFields : List Int → List Int
  | [] => []
  | f :: r => vb f.toNat ++ encFields r

def encTy (t : Ty) : List Int :=
  vb t.kind.toNat ++
  (if t.kind = 5 ∨ t.kind = 10 then vb t.elem.toNat
   else if t.kind = 6 then vb t.key.toNat ++ vb t.elem.toNat
   else if t.kind = 8 then vb t.fields.length ++ encFields t.fields
   else if t.kind = 9 then vb t.elem.toNat ++ vb t.len.toNat
   else [])

def encMany : List Ty → List Int
  | [] => []
  | t :: r => encTy t ++ encMany r

def encTab (ts : List Ty) : List Int := vb ts.length ++ encMany ts

theorem encFields_append : ∀ a b, encFields (a ++ b) = encFields a ++ encFields b
  | [], _ => rfl
  | x :: a, b => by simp [encFields, encFields_append a b]
theorem encMany_append : ∀ a b, encMany (a ++ b) = encMany a ++ encMany b
  | [], _ => rfl
  | x :: a, b => by simp [encMany, encMany_append a b]

theorem rdN_vb' {L A rest : List Int} {v : Int} (hL : L = A ++ (vb v.toNat ++ rest)) (h0 : 0 ≤ v) (h : v ≤ lim) : rdN L A.length = some (v, (A ++ vb v.toNat).length) := by
  rw [hL, rdN_vb A rest v.toNat (by omega)]
  simp; omega

theorem rdFields_enc : ∀ (fs : List Int) (L A rest acc : List Int), L = A ++ (encFields fs ++ rest) → (∀ f ∈ fs, 0 ≤ f ∧ f ≤ lim) → rdFields L fs.length A.length acc = .good (acc ++ fs) (A ++ encFields fs).length
  | [], L, A, rest, acc, _, _ => by simp [rdFields, encFields]
  | f :: fs, L, A, rest, acc, hL, h => by
    have hf := h f (by simp)
    have e := rdN_vb' (L := L) (A := A) (rest := encFields fs ++ rest) (v := f) (by rw [hL]; simp [encFields]) hf.1 hf.2
    rw [List.length_cons, rdFields, e]
    show rdFields L fs.length (A ++ vb f.toNat).length (acc ++ [f]) = _
    rw [rdFields_enc fs L (A ++ vb f.toNat) rest (acc ++ [f]) (by rw [hL]; simp [encFields]) (fun x hx => h x (by simp [hx]))]
    simp [encFields]

/-- A type that is written whole. -/
def Writ (t : Ty) : Prop := Clean t ∧ 0 ≤ t.elem ∧ t.elem ≤ lim ∧ 0 ≤ t.key ∧ t.key ≤ lim ∧ 0 ≤ t.len ∧ t.len ≤ lim ∧ t.fields.length ≤ lim ∧ ∀ f ∈ t.fields, 0 ≤ f ∧ f ≤ lim

theorem rdOne_enc (t : Ty) (L A rest : List Int) (hL : L = A ++ (encTy t ++ rest)) (h : Writ t) : rdOne L A.length = .good t (A ++ encTy t).length := by
  obtain ⟨⟨k1, k2, c1, c2, c3, c4⟩, a1, a2, a3, a4, a5, a6, a7, a8⟩ := h
  have hlim : (10 : Int) ≤ lim := by decide
  obtain ⟨kind, elem, key, len, fields⟩ := t
  simp only at *
  have eK := rdN_vb' (L := L) (A := A) (v := kind) (rest := _) (by rw [hL]; unfold encTy; rw [List.append_assoc]) (by omega) (by omega)
  have eK2 : rdKind L A.length = .good kind (A ++ vb kind.toNat).length := by
    unfold rdKind; rw [eK]; simp only; rw [if_pos ⟨k1, k2⟩]
  unfold rdOne
  rw [eK2]
  simp only
  unfold encTy at hL ⊢
  simp only at hL ⊢
  by_cases h5 : kind = 5 ∨ kind = 10
  · rw [if_pos h5] at hL ⊢
    rw [if_pos h5]
    have e1 := rdN_vb' (L := L) (A := A ++ vb kind.toNat) (v := elem) (rest := rest) (by rw [hL]; simp) a1 a2
    unfold rdNum; rw [e1]; simp only
    obtain rfl : key = 0 := by omega
    obtain rfl : len = 0 := by omega
    obtain rfl : fields = [] := by rcases c4 with h | h; omega; exact h
    simp
  rw [if_neg h5] at hL ⊢
  rw [if_neg h5]
  by_cases h6 : kind = 6
  · rw [if_pos h6] at hL ⊢
    rw [if_pos h6]
    have e1 := rdN_vb' (L := L) (A := A ++ vb kind.toNat) (v := key) (rest := vb elem.toNat ++ rest) (by rw [hL]; simp) a3 a4
    have e2 := rdN_vb' (L := L) (A := A ++ vb kind.toNat ++ vb key.toNat) (v := elem) (rest := rest) (by rw [hL]; simp) a1 a2
    unfold rdNum; rw [e1]; simp only; rw [e2]; simp only
    obtain rfl : len = 0 := by omega
    obtain rfl : fields = [] := by rcases c4 with h | h; omega; exact h
    simp
  rw [if_neg h6] at hL ⊢
  rw [if_neg h6]
  by_cases h8 : kind = 8
  · rw [if_pos h8] at hL ⊢
    rw [if_pos h8]
    have e1 := rdN_vb' (L := L) (A := A ++ vb kind.toNat) (v := fields.length) (rest := encFields fields ++ rest) (by rw [hL]; simp) (by omega) a7
    rw [Int.toNat_natCast] at e1
    have e2 := rdFields_enc fields L (A ++ vb kind.toNat ++ vb fields.length) rest [] (by rw [hL]; simp) a8
    unfold rdNum; rw [e1]; simp only; rw [Int.toNat_natCast, e2]; simp only
    obtain rfl : len = 0 := by omega
    obtain rfl : key = 0 := by omega
    obtain rfl : elem = 0 := by omega
    simp
  rw [if_neg h8] at hL ⊢
  rw [if_neg h8]
  by_cases h9 : kind = 9
  · rw [if_pos h9] at hL ⊢
    rw [if_pos h9]
    have e1 := rdN_vb' (L := L) (A := A ++ vb kind.toNat) (v := elem) (rest := vb len.toNat ++ rest) (by rw [hL]; simp) a1 a2
    have e2 := rdN_vb' (L := L) (A := A ++ vb kind.toNat ++ vb elem.toNat) (v := len) (rest := rest) (by rw [hL]; simp) a5 a6
    unfold rdNum; rw [e1]; simp only; rw [e2]; simp only
    obtain rfl : key = 0 := by omega
    obtain rfl : fields = [] := by rcases c4 with h | h; omega; exact h
    simp
  · rw [if_neg h9] at hL ⊢
    rw [if_neg h9]
    obtain rfl : key = 0 := by omega
    obtain rfl : len = 0 := by omega
    obtain rfl : elem = 0 := by omega
    obtain rfl : fields = [] := by rcases c4 with h | h; omega; exact h
    simp

theorem rdMany_enc : ∀ (ts : List Ty) (L A rest : List Int) (acc : List Ty), L = A ++ (encMany ts ++ rest) → (∀ t ∈ ts, Writ t) → rdMany L ts.length A.length acc = .good (acc ++ ts) (A ++ encMany ts).length
  | [], L, A, rest, acc, _, _ => by simp [rdMany, encMany]
  | t :: ts, L, A, rest, acc, hL, h => by
    have e := rdOne_enc t L A (encMany ts ++ rest) (by rw [hL]; simp [encMany]) (h t (by simp))
    rw [List.length_cons, rdMany, e]
    show rdMany L ts.length (A ++ encTy t).length (acc ++ [t]) = _
    rw [rdMany_enc ts L (A ++ encTy t) rest (acc ++ [t]) (by rw [hL]; simp [encMany]) (fun x hx => h x (by simp [hx]))]
    simp [encMany]

theorem rdTab_enc (ts : List Ty) (hl : (ts.length : Int) ≤ lim) (h : ∀ t ∈ ts, Writ t) : rdTab (encTab ts) = .good ts (encTab ts).length := by
  have e1 := rdN_vb' (L := encTab ts) (A := []) (v := ts.length) (rest := encMany ts) (by rfl) (by omega) hl
  have e2 := rdMany_enc ts (encTab ts) (vb ts.length) [] [] (by simp [encTab]) h
  unfold rdTab rdNum
  rw [show (0 : Nat) = ([] : List Int).length from rfl, e1]
  simp only [Int.toNat_natCast, List.nil_append]
  rw [e2]; simp [encTab]

/-! ### and back again -/

theorem rdFields_back {L : List Int} (hL : ∀ x ∈ L, 0 ≤ x ∧ x < 256) : ∀ (n a : Nat) (acc fs : List Int) (b : Nat), rdFields L n a acc = .good fs b → ∃ ys, fs = acc ++ ys ∧ ys.length = n ∧ L.take b = L.take a ++ encFields ys
  | 0, a, acc, fs, b, h => by
    simp only [rdFields, Rd.good.injEq] at h
    obtain ⟨rfl, rfl⟩ := h
    exact ⟨[], by simp, rfl, by simp [encFields]⟩
  | n + 1, a, acc, fs, b, h => by
    rw [rdFields] at h
    cases e : rdN L a with
    | none => rw [e] at h; cases h
    | some p =>
      obtain ⟨v, a2⟩ := p
      rw [e] at h
      obtain ⟨ys, h1, h2, h3⟩ := rdFields_back hL n a2 (acc ++ [v]) fs b h
      refine ⟨v :: ys, by rw [h1]; simp, by simp [h2], ?_⟩
      rw [h3, rdN_back hL e]; simp [encFields]

theorem rdNum_back {L : List Int} (hL : ∀ x ∈ L, 0 ≤ x ∧ x < 256) {a b : Nat} {v : Int} (h : rdNum L a = .good v b) : L.take b = L.take a ++ vb v.toNat ∧ 0 ≤ v := by
  unfold rdNum at h
  cases e : rdN L a with
  | none => rw [e] at h; cases h
  | some p =>
    obtain ⟨v', b'⟩ := p
    rw [e] at h
    simp only [Rd.good.injEq] at h
    obtain ⟨rfl, rfl⟩ := h
    exact ⟨rdN_back hL e, (rdN_bd e).2.2.1⟩

theorem rdKind_back {L : List Int} (hL : ∀ x ∈ L, 0 ≤ x ∧ x < 256) {a b : Nat} {v : Int} (h : rdKind L a = .good v b) : L.take b = L.take a ++ vb v.toNat ∧ 1 ≤ v ∧ v ≤ 10 := by
  unfold rdKind at h
  cases e : rdN L a with
  | none => rw [e] at h; cases h
  | some p =>
    obtain ⟨v', b'⟩ := p
    rw [e] at h
    simp only at h
    by_cases hk : 1 ≤ v' ∧ v' ≤ 10
    · rw [if_pos hk] at h
      simp only [Rd.good.injEq] at h
      obtain ⟨rfl, rfl⟩ := h
      exact ⟨rdN_back hL e, hk⟩
    · rw [if_neg hk] at h; cases h

theorem rdOne_back {L : List Int} (hL : ∀ x ∈ L, 0 ≤ x ∧ x < 256) {a b : Nat} {t : Ty} (h : rdOne L a = .good t b) : L.take b = L.take a ++ encTy t := by
  unfold rdOne at h
  cases ek : rdKind L a with
  | bad x => rw [ek] at h; cases h
  | good k a1 =>
    rw [ek] at h
    simp only at h
    have bk := (rdKind_back hL ek).1
    by_cases h5 : k = 5 ∨ k = 10
    · rw [if_pos h5] at h
      cases e1 : rdNum L a1 with
      | bad x => rw [e1] at h; cases h
      | good e a2 =>
        rw [e1] at h
        simp only [Rd.good.injEq] at h
        obtain ⟨rfl, rfl⟩ := h
        rw [(rdNum_back hL e1).1, bk]
        simp [encTy, h5]
    rw [if_neg h5] at h
    by_cases h6 : k = 6
    · rw [if_pos h6] at h
      cases e1 : rdNum L a1 with
      | bad x => rw [e1] at h; cases h
      | good y a2 =>
        rw [e1] at h
        simp only at h
        cases e2 : rdNum L a2 with
        | bad x => rw [e2] at h; cases h
        | good e a3 =>
          rw [e2] at h
          simp only [Rd.good.injEq] at h
          obtain ⟨rfl, rfl⟩ := h
          rw [(rdNum_back hL e2).1, (rdNum_back hL e1).1, bk]
          simp [encTy, h6]
    rw [if_neg h6] at h
    by_cases h8 : k = 8
    · rw [if_pos h8] at h
      cases e1 : rdNum L a1 with
      | bad x => rw [e1] at h; cases h
      | good n a2 =>
        rw [e1] at h
        simp only at h
        cases e2 : rdFields L n.toNat a2 [] with
        | bad x => rw [e2] at h; cases h
        | good f a3 =>
          rw [e2] at h
          simp only [Rd.good.injEq] at h
          obtain ⟨rfl, rfl⟩ := h
          obtain ⟨ys, y1, y2, y3⟩ := rdFields_back hL _ _ _ _ _ e2
          simp at y1
          subst y1
          rw [y3, (rdNum_back hL e1).1, bk, ← y2]
          simp [encTy, h8]
    rw [if_neg h8] at h
    by_cases h9 : k = 9
    · rw [if_pos h9] at h
      cases e1 : rdNum L a1 with
      | bad x => rw [e1] at h; cases h
      | good y a2 =>
        rw [e1] at h
        simp only at h
        cases e2 : rdNum L a2 with
        | bad x => rw [e2] at h; cases h
        | good e a3 =>
          rw [e2] at h
          simp only [Rd.good.injEq] at h
          obtain ⟨rfl, rfl⟩ := h
          rw [(rdNum_back hL e2).1, (rdNum_back hL e1).1, bk]
          simp [encTy, h9]
    · rw [if_neg h9] at h
      simp only [Rd.good.injEq] at h
      obtain ⟨rfl, rfl⟩ := h
      rw [bk]
      simp [encTy, h5, h6, h8, h9]

theorem rdMany_back {L : List Int} (hL : ∀ x ∈ L, 0 ≤ x ∧ x < 256) : ∀ (n a : Nat) (acc ts : List Ty) (b : Nat), rdMany L n a acc = .good ts b → ∃ ys, ts = acc ++ ys ∧ ys.length = n ∧ L.take b = L.take a ++ encMany ys
  | 0, a, acc, fs, b, h => by
    simp only [rdMany, Rd.good.injEq] at h
    obtain ⟨rfl, rfl⟩ := h
    exact ⟨[], by simp, rfl, by simp [encMany]⟩
  | n + 1, a, acc, fs, b, h => by
    rw [rdMany] at h
    cases e : rdOne L a with
    | bad x => rw [e] at h; cases h
    | good v a2 =>
      rw [e] at h
      obtain ⟨ys, h1, h2, h3⟩ := rdMany_back hL n a2 (acc ++ [v]) fs b h
      refine ⟨v :: ys, by rw [h1]; simp, by simp [h2], ?_⟩
      rw [h3, rdOne_back hL e]; simp [encMany]

theorem rdTab_back {L : List Int} (hL : ∀ x ∈ L, 0 ≤ x ∧ x < 256) {ts : List Ty} (h : rdTab L = .good ts L.length) : encTab ts = L := by
  unfold rdTab at h
  cases e : rdNum L 0 with
  | bad x => rw [e] at h; cases h
  | good n a =>
    rw [e] at h
    simp only at h
    obtain ⟨ys, h1, h2, h3⟩ := rdMany_back hL _ _ _ _ _ h
    simp at h1
    subst h1
    obtain ⟨h4, h5⟩ := rdNum_back hL e
    rw [List.take_length, h4, ← h2] at h3
    simp at h3
    exact h3.symm

end Go.Proofs.YtbpjmcjjambdkaaGreatDoor.Ty

/-
  Worlds, slices and tables of types as they lie in memory; no statement is proved here.
-/
namespace Go.Proofs.YtbpjmcjjambdkaaGreatDoor.Ty
open Go.RowKit

/-! ### contracts met in a walk -/

/-- A callee that answers v and leaves the world as it is. -/
theorem met {P : Program} {f : FuncId} {args : Array Value} {w : World} {v : Value} {K : Ending → World → Prop} (h : Calls P f args w fun e w' => e = .returned v ∧ w' = w) (hK : K (.returned v) w) : Calls P f args w K :=
  h.mono (by rintro _ _ ⟨rfl, rfl⟩; exact hK)

/-! ### worlds -/

/-- The world w' is as w was but for the blocks of S and for what is new. -/
structure Ext (S : List Nat) (w w' : World) : Prop where
  os : w'.os = w.os
  tape : w'.tape = w.tape
  output : w'.output = w.output
  size : w.heap.size ≤ w'.heap.size
  block : ∀ k, k < w.heap.size → k ∉ S → w'.heap[k]? = w.heap[k]?

theorem Ext.refl (S : List Nat) (w : World) : Ext S w w := ⟨rfl, rfl, rfl, Nat.le_refl _, fun _ _ _ => rfl⟩
theorem Ext.trans {S : List Nat} {a b c : World} (h : Ext S a b) (k : Ext S b c) : Ext S a c :=
  ⟨k.os.trans h.os, k.tape.trans h.tape, k.output.trans h.output, Nat.le_trans h.size k.size, fun i hi hs => (k.block i (Nat.lt_of_lt_of_le hi h.size) hs).trans (h.block i hi hs)⟩
theorem Ext.mono {S T : List Nat} {a b : World} (h : Ext S a b) (hs : ∀ x ∈ S, x ∈ T) : Ext T a b :=
  ⟨h.os, h.tape, h.output, h.size, fun i hi hk => h.block i hi (fun q => hk (hs i q))⟩
/-- Blocks that are new need not be named. -/
theorem Ext.drop {S T : List Nat} {a b : World} (h : Ext S a b) (hs : ∀ x ∈ S, x ∈ T ∨ a.heap.size ≤ x) : Ext T a b :=
  ⟨h.os, h.tape, h.output, h.size, fun i hi hk => h.block i hi (fun q => by rcases hs i q with r | r; exact hk r; omega)⟩
theorem Ext.below {a b : World} (h : Ext [] a b) : Below a.heap.size a b := ⟨h.os, h.tape, h.output, h.size, fun k hk => h.block k hk (by simp)⟩
theorem Ext.drew (S : List Nat) (w : World) : Ext S w w.drew := ⟨rfl, rfl, rfl, Nat.le_refl _, fun _ _ _ => rfl⟩
theorem Ext.drewN (S : List Nat) (w : World) (n : Nat) : Ext S w (w.drewN n) := ⟨rfl, rfl, rfl, Nat.le_refl _, fun _ _ _ => rfl⟩
theorem Ext.alloc (S : List Nat) (w : World) (o : Obj) : Ext S w (w.alloc o) := ⟨rfl, rfl, rfl, by simp, fun k hk _ => Below.heap_alloc w o k hk⟩
theorem Ext.setCell (S : List Nat) (w : World) (a : Addr) (v : Value) (h : a.block ∈ S) : Ext S w (w.setCell a v) :=
  ⟨rfl, rfl, rfl, by simp, fun k _ hs => heap_setCell_other w a k v (fun e => hs (e ▸ h))⟩
theorem Ext.setRow (S : List Nat) (w : World) (g : Nat) (cs : Array Value) (h : g ∈ S) : Ext S w (w.setRow g cs) :=
  ⟨rfl, rfl, rfl, by simp, fun k _ hs => setRow_other w g k cs (fun e => hs (e ▸ h))⟩
theorem Ext.grown {S : List Nat} {w w' : World} {row : Option Nat} (hg : w.grownBy w' row) (h : ∀ k, row = some k → k ∈ S) : Ext S w w' :=
  ⟨hg.os, hg.tape, hg.output, hg.size, fun k hk hs => hg.block k hk (fun e => hs (h k e.symm))⟩
/-- Behind a step that turned only what is new since a. -/
theorem Ext.on {S : List Nat} {a b c : World} (h : Ext [] a b) (k : Ext S b c) (hs : ∀ x ∈ S, a.heap.size ≤ x) : Ext [] a c :=
  ((h.mono (by simp)).trans k).drop (fun x hx => .inr (hs x hx))

theorem lt_of_heap {w : World} {k : Nat} {o : Obj} (h : w.heap[k]? = some o) : k < w.heap.size := (Array.getElem?_eq_some_iff.1 h).1
theorem Ext.keep {S : List Nat} {w w' : World} (h : Ext S w w') {k : Nat} {o : Obj} (hk : w.heap[k]? = some o) (hs : k ∉ S) : w'.heap[k]? = some o :=
  (h.block k (lt_of_heap hk) hs).trans hk
theorem Ext.cell {S : List Nat} {w w' : World} (h : Ext S w w') {a : Addr} {v : Value} (hk : w.cell? a = some v) (hs : a.block ∉ S) : w'.cell? a = some v := by
  rw [← hk]
  exact World.cell?_of_block (h.block a.block (block_lt_of_cell hk) hs)

/-- The answer v, and nothing that was there has turned. -/
def SayPost (w : World) (v : Value) (e : Ending) (w' : World) : Prop := e = .returned v ∧ Ext [] w w'

/-! ### slices -/

/-- A slice with the elements vs, each of one cell, wherever it lies. -/
def Vs (w : World) (a : Option Addr) (vs : List Value) : Prop :=
  vs = [] ∨ ∃ b o, a = some ⟨b, o, none⟩ ∧ ∀ j, j < vs.length → w.cell? ⟨b, o + j, none⟩ = vs[j]?

theorem Vs.keep {S : List Nat} {w w' : World} {a : Option Addr} {vs : List Value} (h : Vs w a vs) (e : Ext S w w') (hs : ∀ ad, a = some ad → ad.block ∉ S) : Vs w' a vs := by
  rcases h with h | ⟨b, o, rfl, hc⟩
  · exact .inl h
  · refine .inr ⟨b, o, rfl, fun j hj => ?_⟩
    have h1 := hc j hj
    obtain ⟨v, hv⟩ : ∃ v, vs[j]? = some v := ⟨vs[j], by simp [hj]⟩
    rw [hv] at h1 ⊢
    exact e.cell h1 (hs ⟨b, o, none⟩ rfl)
theorem Vs.keep0 {w w' : World} {a : Option Addr} {vs : List Value} (h : Vs w a vs) (e : Ext [] w w') : Vs w' a vs := h.keep e (by simp)

/-- A slice of ints. -/
def Is (w : World) (a : Option Addr) (xs : List Int) : Prop := Vs w a (xs.map (Value.int .i64))
theorem Is.keep0 {w w' : World} {a : Option Addr} {xs : List Int} (h : Is w a xs) (e : Ext [] w w') : Is w' a xs := Vs.keep0 h e
theorem Is.at_ {w : World} {a : Option Addr} {xs : List Int} (h : Is w a xs) (h0 : xs ≠ []) : ∃ b o, a = some ⟨b, o, none⟩ ∧ ∀ j, j < xs.length → w.cell? ⟨b, o + j, none⟩ = some (.int .i64 (xs.getD j 0)) := by
  rcases h with h | ⟨b, o, h, hc⟩
  · simp at h; exact absurd h h0
  · refine ⟨b, o, h, fun j hj => ?_⟩
    rw [hc j (by simpa using hj)]; simp [hj]

/-- A slice of bytes. -/
def Bs (w : World) (a : Option Addr) (xs : List Int) : Prop := Vs w a (xs.map (Value.int .u8))
theorem Bs.keep0 {w w' : World} {a : Option Addr} {xs : List Int} (h : Bs w a xs) (e : Ext [] w w') : Bs w' a xs := Vs.keep0 h e
theorem Bs.at_ {w : World} {a : Option Addr} {xs : List Int} (h : Bs w a xs) (h0 : xs ≠ []) : ∃ b o, a = some ⟨b, o, none⟩ ∧ ∀ j, j < xs.length → w.cell? ⟨b, o + j, none⟩ = some (.int .u8 (xs.getD j 0)) := by
  rcases h with h | ⟨b, o, h, hc⟩
  · simp at h; exact absurd h h0
  · refine ⟨b, o, h, fun j hj => ?_⟩
    rw [hc j (by simpa using hj)]; simp [hj]

/-- A slice of bools. -/
def Os (w : World) (a : Option Addr) (xs : List Bool) : Prop := Vs w a (xs.map Value.bool)
theorem Os.keep0 {w w' : World} {a : Option Addr} {xs : List Bool} (h : Os w a xs) (e : Ext [] w w') : Os w' a xs := Vs.keep0 h e
theorem Os.at_ {w : World} {a : Option Addr} {xs : List Bool} (h : Os w a xs) (h0 : xs ≠ []) : ∃ b o, a = some ⟨b, o, none⟩ ∧ ∀ j, j < xs.length → w.cell? ⟨b, o + j, none⟩ = some (.bool (xs.getD j false)) := by
  rcases h with h | ⟨b, o, h, hc⟩
  · simp at h; exact absurd h h0
  · refine ⟨b, o, h, fun j hj => ?_⟩
    rw [hc j (by simpa using hj)]; simp [hj]

/-! ### tables -/

/-- A type by value. -/
def tyVal (t : Ty) (fa : Option Addr) (fc : Nat) : Value := .agg #[.int .i64 t.kind, .int .i64 t.elem, .int .i64 t.key, .int .i64 t.len, .slice fa t.fields.length fc]

/-- What goes for a type's list of fields. -/
def FOk (w : World) (t : Ty) (fa : Option Addr) : Prop := Is w fa t.fields ∧ t.fields.length ≤ 17592186044416

/-- A type in memory. -/
structure TyAt (w : World) (b o : Nat) (t : Ty) (fa : Option Addr) (fc : Nat) : Prop where
  c0 : w.cell? ⟨b, o, none⟩ = some (.int .i64 t.kind)
  c1 : w.cell? ⟨b, o + 1, none⟩ = some (.int .i64 t.elem)
  c2 : w.cell? ⟨b, o + 2, none⟩ = some (.int .i64 t.key)
  c3 : w.cell? ⟨b, o + 3, none⟩ = some (.int .i64 t.len)
  c4 : w.cell? ⟨b, o + 4, none⟩ = some (.slice fa t.fields.length fc)
  f : FOk w t fa

theorem FOk.keep0 {w w' : World} {t : Ty} {fa : Option Addr} (h : FOk w t fa) (e : Ext [] w w') : FOk w' t fa := ⟨h.1.keep0 e, h.2⟩
theorem TyAt.keep0 {w w' : World} {b o : Nat} {t : Ty} {fa : Option Addr} {fc : Nat} (h : TyAt w b o t fa fc) (e : Ext [] w w') : TyAt w' b o t fa fc :=
  ⟨e.cell h.c0 (by simp), e.cell h.c1 (by simp), e.cell h.c2 (by simp), e.cell h.c3 (by simp), e.cell h.c4 (by simp), h.f.keep0 e⟩

/-- A table in memory. -/
structure Tab (w : World) (a : Option Addr) (ts : List Ty) : Prop where
  at_ : ts = [] ∨ ∃ b o, a = some ⟨b, o, none⟩ ∧ ∀ i, i < ts.length → ∃ fa fc, TyAt w b (o + i * 5) (tyAt ts i) fa fc
  len : ts.length ≤ 2513169434843

theorem Tab.keep0 {w w' : World} {a : Option Addr} {ts : List Ty} (h : Tab w a ts) (e : Ext [] w w') : Tab w' a ts := by
  refine ⟨?_, h.len⟩
  rcases h.at_ with h | ⟨b, o, rfl, hc⟩
  · exact .inl h
  · refine .inr ⟨b, o, rfl, fun i hi => ?_⟩
    obtain ⟨fa, fc, ht⟩ := hc i hi
    exact ⟨fa, fc, ht.keep0 e⟩

theorem Tab.addr {w : World} {a : Option Addr} {ts : List Ty} (h : Tab w a ts) (h0 : 0 < ts.length) : ∃ b o, a = some ⟨b, o, none⟩ ∧ ∀ i, i < ts.length → ∃ fa fc, TyAt w b (o + i * 5) (tyAt ts i) fa fc := by
  rcases h.at_ with rfl | h
  · simp at h0
  · exact h

end Go.Proofs.YtbpjmcjjambdkaaGreatDoor.Ty

/-
  The program's small functions on kinds, counts and places; no statement is proved here.
-/
namespace Go.Proofs.YtbpjmcjjambdkaaGreatDoor.Ty
open Go.RowKit

theorem ret_bool {a b : Bool} (h : a = b) : Ending.returned (.bool a) = .returned (.bool b) := by rw [h]
theorem ret_int {k : IntKind} {a b : Int} (h : a = b) : Ending.returned (.int k a) = .returned (.int k b) := by rw [h]

theorem isKind_yes (k : Int) (w : World) (h : 1 ≤ k ∧ k ≤ 10) : Calls Tryz.prog 201 #[.int .i64 k] w fun e w' => e = .returned (.bool true) ∧ w' = w := by
  obtain ⟨h1, h2⟩ := h
  go_enter Tryz.func201, Tryz.ntmps201
  go_wp2
  go_ret
  exact ⟨rfl, rfl⟩
theorem isKind_no (k : Int) (w : World) (h : ¬ (1 ≤ k ∧ k ≤ 10)) : Calls Tryz.prog 201 #[.int .i64 k] w fun e w' => e = .returned (.bool false) ∧ w' = w := by
  rcases (by omega : k < 1 ∨ (1 ≤ k ∧ 10 < k)) with h | ⟨h, h'⟩
  · go_enter Tryz.func201, Tryz.ntmps201
    go_wp2
    go_ret
    exact ⟨rfl, rfl⟩
  · have hd : decide (k ≤ 10) = false := decide_eq_false (by omega)
    go_enter Tryz.func201, Tryz.ntmps201
    go_wp2
    go_ret
    exact ⟨rfl, rfl⟩

theorem isCount_yes (k : Int) (w : World) (h : 1 ≤ k ∧ k ≤ 16) : Calls Tryz.prog 204 #[.int .i64 k] w fun e w' => e = .returned (.bool true) ∧ w' = w := by
  obtain ⟨h1, h2⟩ := h
  go_enter Tryz.func204, Tryz.ntmps204
  go_wp2
  go_ret
  exact ⟨rfl, rfl⟩
theorem isCount_no (k : Int) (w : World) (h : ¬ (1 ≤ k ∧ k ≤ 16)) : Calls Tryz.prog 204 #[.int .i64 k] w fun e w' => e = .returned (.bool false) ∧ w' = w := by
  rcases (by omega : k < 1 ∨ (1 ≤ k ∧ 16 < k)) with h | ⟨h, h'⟩
  · go_enter Tryz.func204, Tryz.ntmps204
    go_wp2
    go_ret
    exact ⟨rfl, rfl⟩
  · have hd : decide (k ≤ 16) = false := decide_eq_false (by omega)
    go_enter Tryz.func204, Tryz.ntmps204
    go_wp2
    go_ret
    exact ⟨rfl, rfl⟩

theorem inside_yes (a : Option Addr) (n c : Nat) (p : Int) (w : World) (h : 0 ≤ p ∧ p < n) : Calls Tryz.prog 143 #[.slice a n c, .int .i64 p] w fun e w' => e = .returned (.bool true) ∧ w' = w := by
  obtain ⟨h1, h2⟩ := h
  go_enter Tryz.func143, Tryz.ntmps143
  go_wp2
  go_ret
  exact ⟨rfl, rfl⟩
theorem inside_no (a : Option Addr) (n c : Nat) (p : Int) (w : World) (h : ¬ (0 ≤ p ∧ p < n)) : Calls Tryz.prog 143 #[.slice a n c, .int .i64 p] w fun e w' => e = .returned (.bool false) ∧ w' = w := by
  rcases (by omega : p < 0 ∨ (0 ≤ p ∧ n ≤ p)) with h | ⟨h, h'⟩
  · go_enter Tryz.func143, Tryz.ntmps143
    go_wp2
    go_ret
    exact ⟨rfl, rfl⟩
  · have hd : decide (p < (n : Int)) = false := decide_eq_false (by omega)
    go_enter Tryz.func143, Tryz.ntmps143
    go_wp2
    go_ret
    exact ⟨rfl, rfl⟩

theorem Tab.kind {w : World} {a : Option Addr} {ts : List Ty} (h : Tab w a ts) {p : Nat} (hp : p < ts.length) : ∃ b o, a = some ⟨b, o, none⟩ ∧ w.cell? ⟨b, o + p * 5, none⟩ = some (.int .i64 (tyAt ts p).kind) := by
  obtain ⟨b, o, h1, h2⟩ := h.addr (by omega)
  obtain ⟨fa, fc, h3⟩ := h2 p hp
  exact ⟨b, o, h1, h3.c0⟩

theorem holdable_yes (a : Option Addr) (ts : List Ty) (n c : Nat) (p : Int) (w : World) (hT : Tab w a ts) (hn : n ≤ ts.length) (h : Within ts n p) : Calls Tryz.prog 203 #[.slice a n c, .int .i64 p] w fun e w' => e = .returned (.bool true) ∧ w' = w := by
  obtain ⟨h1, h2, h3⟩ := h
  obtain ⟨q, rfl⟩ : ∃ q : Nat, p = q := ⟨p.toNat, by omega⟩
  obtain ⟨b, o, rfl, hc⟩ := hT.kind (p := q) (by omega)
  have K := inside_yes (some ⟨b, o, none⟩) n c q w ⟨h1, h2⟩
  have hne : ((tyAt ts q).kind != 10) = true := by simpa using h3
  clear hT hn
  go_enter Tryz.func203, Tryz.ntmps203
  go_wp2_with (go_at_call 143; refine met K ?_)
  go_ret
  exact ⟨rfl, rfl⟩
theorem holdable_no (a : Option Addr) (ts : List Ty) (n c : Nat) (p : Int) (w : World) (hT : Tab w a ts) (hn : n ≤ ts.length) (h : ¬ Within ts n p) : Calls Tryz.prog 203 #[.slice a n c, .int .i64 p] w fun e w' => e = .returned (.bool false) ∧ w' = w := by
  by_cases h1 : 0 ≤ p ∧ p < n
  · have h3 : (tyAt ts p).kind = 10 := by
      by_cases e : (tyAt ts p).kind = 10
      · exact e
      · exact absurd ⟨h1.1, h1.2, e⟩ h
    clear h
    obtain ⟨q, rfl⟩ : ∃ q : Nat, p = q := ⟨p.toNat, by omega⟩
    obtain ⟨b, o, rfl, hc⟩ := hT.kind (p := q) (by omega)
    rw [h3] at hc
    have K := inside_yes (some ⟨b, o, none⟩) n c q w h1
    obtain ⟨h1, h2⟩ := h1
    clear hT hn h3
    go_enter Tryz.func203, Tryz.ntmps203
    go_wp2_with (go_at_call 143; refine met K ?_)
    go_ret
    exact ⟨rfl, rfl⟩
  · have K := inside_no a n c p w h1
    clear h h1 hT
    go_enter Tryz.func203, Tryz.ntmps203
    go_wp2_with (go_at_call 143; refine met K ?_)
    go_ret
    exact ⟨rfl, rfl⟩

def AllPost (w : World) (ts : List Ty) (n : Nat) (fs : List Int) (e : Ending) (w' : World) : Prop := ∃ r : Bool, e = .returned (.bool r) ∧ w' = w ∧ (r = true ↔ ∀ f ∈ fs, Within ts n f)

theorem allHold_any (a fa : Option Addr) (ts : List Ty) (fs : List Int) (n c m fc : Nat) (w : World) (hT : Tab w a ts) (hn : n ≤ ts.length) (hF : Is w fa fs) (hm : fs.length = m) (hm2 : m ≤ 17592186044416) :
    Calls Tryz.prog 205 #[.slice a n c, .slice fa m fc] w (AllPost w ts n fs) := by
  have HT : Hid (Tab w a ts) := hT
  have HF : Hid (Is w fa fs) := hF
  have HM : Hid (fs.length = m) := hm
  clear hT hF hm
  go_enter Tryz.func205, Tryz.ntmps205
  go_wp2
  go_loop [9] (fun q => ∃ k : Nat, q = .int .i64 k ∧ k ≤ m ∧ ∀ j, j < k → Within ts n (fs.getD j 0)) (fun q => (m - (intOf q)).toNat)
  case atStart => exact ⟨0, rfl, Nat.zero_le _, fun j hj => by omega⟩
  case round =>
    obtain ⟨k, rfl, hk, hall⟩ := hrel
    have HA : Hid (∀ j, j < k → Within ts n (fs.getD j 0)) := hall
    clear hall
    by_cases hkm : k < m
    · obtain ⟨b, o, rfl, hc⟩ := HF.out.at_ (by intro h; have := HM.out; rw [h] at this; simp at this; omega)
      have hck := hc k (by rw [HM.out]; exact hkm)
      clear hc
      by_cases hw : Within ts n (fs.getD k 0)
      · have K := holdable_yes a ts n c _ w HT.out hn hw
        have HW : Hid (Within ts n (fs.getD k 0)) := hw
        clear hw
        go_wp2_with (go_at_call 203; refine met K ?_)
        go_round
        case rel => exact ⟨k + 1, by go_num, by omega, fun j hj => by
          rcases (by omega : j < k ∨ j = k) with h | rfl
          · exact HA.out j h
          · exact HW.out⟩
        case measure => simp [intOf]; omega
      · have K := holdable_no a ts n c _ w HT.out hn hw
        have HW : Hid (¬ Within ts n (fs.getD k 0)) := hw
        clear hw
        go_wp2_with (go_at_call 203; refine met K ?_)
        go_ret
        refine ⟨false, rfl, rfl, by simp, fun h => absurd (h _ ?_) HW.out⟩
        have := HM.out
        simp [List.getD, show k < fs.length by omega]
    · go_wp2
      go_ret
      refine ⟨true, rfl, rfl, fun _ f hf => ?_, fun _ => rfl⟩
      obtain ⟨j, hj, rfl⟩ := List.getElem_of_mem hf
      have := HA.out j (by have := HM.out; omega)
      simpa [List.getD, hj] using this

end Go.Proofs.YtbpjmcjjambdkaaGreatDoor.Ty

/-
  The program's table of what each kind has, and what stands where; no statement is proved here.
-/
namespace Go.Proofs.YtbpjmcjjambdkaaGreatDoor.Ty
open Go.RowKit

/-- What the program's own table of parts holds. -/
def pt (k : Nat) : Int := [0, 0, 0, 0, 0, 2, 3, 0, 8, 6, 2].getD k 0
def Gl (w : World) : Prop := ∀ k, k ≤ 10 → w.cell? ⟨1, k, none⟩ = some (.int .i64 (pt k))
theorem Gl.keep0 {w w' : World} (h : Gl w) (e : Ext [] w w') : Gl w' := fun k hk => e.cell (h k hk) (by simp)

/-- Has the kind k the part p? -/
def has (k : Int) (p : Nat) : Bool := if p = 0 then k == 6 else if p = 1 then (k == 5 || k == 6 || k == 9 || k == 10) else if p = 2 then k == 9 else k == 8

theorem hasPart_any (k : Int) (p : Nat) (w : World) (h : 1 ≤ k ∧ k ≤ 10) (hp : p ≤ 3) (hG : Gl w) : Calls Tryz.prog 212 #[.int .i64 k, .int .i64 p] w fun e w' => e = .returned (.bool (has k p)) ∧ w' = w := by
  obtain ⟨n, rfl⟩ : ∃ n : Nat, k = n := ⟨k.toNat, by omega⟩
  have hc := hG n (by omega)
  clear hG
  have hn : n = 1 ∨ n = 2 ∨ n = 3 ∨ n = 4 ∨ n = 5 ∨ n = 6 ∨ n = 7 ∨ n = 8 ∨ n = 9 ∨ n = 10 := by omega
  have hq : p = 0 ∨ p = 1 ∨ p = 2 ∨ p = 3 := by omega
  clear h hp
  rcases hn with rfl | rfl | rfl | rfl | rfl | rfl | rfl | rfl | rfl | rfl <;> simp only [pt, List.getD_cons_succ, List.getD_cons_zero] at hc <;> rcases hq with rfl | rfl | rfl | rfl
  all_goals
    go_enter Tryz.func212, Tryz.ntmps212
    go_wp2
    go_ret
    exact ⟨rfl, rfl⟩

/-- The slot of a part that is a single number. -/
def slot (p : Nat) : Nat := if p = 0 then 2 else if p = 1 then 1 else 3

theorem numberOf_any (b : Nat) (p : Nat) (w : World) (hp : p ≤ 2) : Calls Tryz.prog 213 #[.pointer (some ⟨b, 0, none⟩), .int .i64 p] w fun e w' => e = .returned (.pointer (some ⟨b, slot p, none⟩)) ∧ w' = w := by
  rcases (by omega : p = 0 ∨ p = 1 ∨ p = 2) with rfl | rfl | rfl
  all_goals
    go_enter Tryz.func213, Tryz.ntmps213
    go_wp2
    go_ret
    exact ⟨rfl, rfl⟩

end Go.Proofs.YtbpjmcjjambdkaaGreatDoor.Ty
