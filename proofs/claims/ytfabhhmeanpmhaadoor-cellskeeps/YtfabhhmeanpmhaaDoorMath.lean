/-
  Plain facts on tables of types: how wide, which words are pointers, which can be compared; no statement is proved here.
-/
namespace Go.Proofs.YtfabhhmeanpmhaaDoor

structure Ty where
  kind : Int
  elem : Int
  key : Int
  len : Int
  fields : List Int

structure Me where
  width : Int
  words : Int
  cmp : Bool
  ptrs : List Bool

def zeroTy : Ty := ⟨0, 0, 0, 0, []⟩
def zeroMe : Me := ⟨0, 0, false, []⟩

/-- The types of the parts. -/
def parts (t : Ty) : List Int := if t.kind = 8 then t.fields else if t.kind = 9 then List.replicate t.len.toNat t.elem else []

def at' (E : List Me) (p : Int) : Me := E.getD p.toNat zeroMe
def tyAt (ts : List Ty) (p : Int) : Ty := ts.getD p.toNat zeroTy

def sumWidth (E : List Me) : List Int → Int
  | [] => 0
  | p :: r => (at' E p).width + sumWidth E r
def sumWords (E : List Me) : List Int → Int
  | [] => 0
  | p :: r => (at' E p).words + sumWords E r
def allCmp (E : List Me) : List Int → Bool
  | [] => true
  | p :: r => (at' E p).cmp && allCmp E r
def allPtrs (E : List Me) : List Int → List Bool
  | [] => []
  | p :: r => (at' E p).ptrs ++ allPtrs E r

theorem sumWidth_append (E : List Me) : ∀ a b, sumWidth E (a ++ b) = sumWidth E a + sumWidth E b
  | [], b => by simp [sumWidth]
  | x :: a, b => by simp [sumWidth, sumWidth_append E a b]; omega
theorem sumWords_append (E : List Me) : ∀ a b, sumWords E (a ++ b) = sumWords E a + sumWords E b
  | [], b => by simp [sumWords]
  | x :: a, b => by simp [sumWords, sumWords_append E a b]; omega
theorem allCmp_append (E : List Me) : ∀ a b, allCmp E (a ++ b) = (allCmp E a && allCmp E b)
  | [], b => by simp [allCmp]
  | x :: a, b => by simp [allCmp, allCmp_append E a b, Bool.and_assoc]
theorem allPtrs_append (E : List Me) : ∀ a b, allPtrs E (a ++ b) = allPtrs E a ++ allPtrs E b
  | [], b => by simp [allPtrs]
  | x :: a, b => by simp [allPtrs, allPtrs_append E a b]

theorem take_snoc {α : Type} (l : List α) (k : Nat) (d : α) (h : k < l.length) : l.take (k + 1) = l.take k ++ [l.getD k d] := by
  rw [List.take_succ_eq_append_getElem h]
  simp [List.getD, h]

theorem sumWidth_snoc (E : List Me) (l : List Int) (k : Nat) (h : k < l.length) : sumWidth E (l.take (k + 1)) = sumWidth E (l.take k) + (at' E (l.getD k 0)).width := by
  rw [take_snoc l k 0 h, sumWidth_append]; simp [sumWidth]
theorem sumWords_snoc (E : List Me) (l : List Int) (k : Nat) (h : k < l.length) : sumWords E (l.take (k + 1)) = sumWords E (l.take k) + (at' E (l.getD k 0)).words := by
  rw [take_snoc l k 0 h, sumWords_append]; simp [sumWords]
theorem allCmp_snoc (E : List Me) (l : List Int) (k : Nat) (h : k < l.length) : allCmp E (l.take (k + 1)) = (allCmp E (l.take k) && (at' E (l.getD k 0)).cmp) := by
  rw [take_snoc l k 0 h, allCmp_append]; simp [allCmp]
theorem allPtrs_snoc (E : List Me) (l : List Int) (k : Nat) (h : k < l.length) : allPtrs E (l.take (k + 1)) = allPtrs E (l.take k) ++ (at' E (l.getD k 0)).ptrs := by
  rw [take_snoc l k 0 h, allPtrs_append]; simp [allPtrs]

/-- What is known of a type, by those of the earlier ones. -/
def meas (t : Ty) (E : List Me) : Me :=
  if t.kind = 4 then ⟨1, 2, true, [true, false]⟩
  else if t.kind = 7 then ⟨1, 2, true, [false, true]⟩
  else if t.kind = 6 ∨ t.kind = 10 then ⟨1, 1, false, [true]⟩
  else if t.kind = 8 ∨ t.kind = 9 then ⟨sumWidth E (parts t), sumWords E (parts t), allCmp E (parts t), allPtrs E (parts t)⟩
  else if t.kind = 5 then ⟨1, 1, true, [true]⟩
  else ⟨1, 1, true, [false]⟩

def go : List Ty → List Me → List Me
  | [], E => E
  | t :: r, E => go r (E ++ [meas t E])
def ms (ts : List Ty) : List Me := go ts []

theorem go_append : ∀ a b E, go (a ++ b) E = go b (go a E)
  | [], _, _ => rfl
  | _ :: a, b, E => by simp only [List.cons_append, go]; exact go_append a b _
theorem length_go : ∀ ts E, (go ts E).length = E.length + ts.length
  | [], _ => rfl
  | t :: r, E => by rw [go, length_go r]; simp; omega
theorem length_ms (ts : List Ty) : (ms ts).length = ts.length := by rw [ms, length_go]; simp
theorem ms_snoc (ts : List Ty) (t : Ty) : ms (ts ++ [t]) = ms ts ++ [meas t (ms ts)] := by rw [ms, go_append]; rfl
theorem go_prefix : ∀ ts E, (go ts E).take E.length = E
  | [], E => by simp [go]
  | t :: r, E => by
    have := go_prefix r (E ++ [meas t E])
    rw [go]
    have h2 := congrArg (List.take E.length) this
    rw [List.take_take] at h2
    simpa using h2
theorem ms_append (a b : List Ty) : (ms (a ++ b)).take a.length = ms a := by
  have h := go_prefix b (go a [])
  rw [ms, go_append, ← length_ms a]; exact h
theorem ms_take (ts : List Ty) (i : Nat) (h : i ≤ ts.length) : (ms ts).take i = ms (ts.take i) := by
  have := ms_append (ts.take i) (ts.drop i)
  rw [List.take_append_drop] at this
  simpa [List.length_take, Nat.min_eq_left h] using this
theorem ms_step (ts : List Ty) (i : Nat) (h : i < ts.length) : ms (ts.take (i + 1)) = ms (ts.take i) ++ [meas (tyAt ts i) (ms (ts.take i))] := by
  rw [take_snoc ts i zeroTy h, ms_snoc]; rfl

/-- The measure of type i. -/
def M (ts : List Ty) (i : Int) : Me := at' (ms ts) i

theorem M_take (ts : List Ty) (i : Nat) (h : i < ts.length) : M ts i = meas (tyAt ts i) (ms (ts.take i)) := by
  have h1 := ms_step ts i h
  rw [← ms_take ts (i + 1) h] at h1
  have h2 := congrArg (fun l => l.getD i zeroMe) h1
  simp only [List.getD] at h2
  rw [List.getElem?_take, if_pos (by omega)] at h2
  have hl : (ms (ts.take i)).length = i := by rw [length_ms]; simp; omega
  unfold M at'
  simp only [Int.toNat_natCast, List.getD]
  rw [h2, List.getElem?_append_right (by omega), hl]
  simp

/-- What is below i is the same in the table's head. -/
theorem at_take (ts : List Ty) (i : Nat) (h : i ≤ ts.length) (p : Int) (h0 : 0 ≤ p) (h1 : p < i) : at' (ms (ts.take i)) p = M ts p := by
  rw [← ms_take ts i h]
  unfold M at'
  simp only [List.getD]
  rw [List.getElem?_take, if_pos (by omega)]

theorem sum_cong {E F : List Me} : ∀ {l : List Int}, (∀ p ∈ l, at' E p = at' F p) → sumWidth E l = sumWidth F l ∧ sumWords E l = sumWords F l ∧ allCmp E l = allCmp F l ∧ allPtrs E l = allPtrs F l
  | [], _ => ⟨rfl, rfl, rfl, rfl⟩
  | x :: l, h => by
    have h1 := h x (by simp)
    obtain ⟨a, b, c, d⟩ := sum_cong (l := l) (fun p hp => h p (by simp [hp]))
    simp [sumWidth, sumWords, allCmp, allPtrs, h1, a, b, c, d]

theorem meas_cong {E F : List Me} (t : Ty) (h : ∀ p ∈ parts t, at' E p = at' F p) : meas t E = meas t F := by
  obtain ⟨a, b, c, d⟩ := sum_cong h
  unfold meas; rw [a, b, c, d]

theorem M_eq (ts : List Ty) (i : Nat) (h : i < ts.length) (hp : ∀ p ∈ parts (tyAt ts i), 0 ≤ p ∧ p < i) : M ts i = meas (tyAt ts i) (ms ts) := by
  rw [M_take ts i h]
  exact meas_cong _ fun p hp' => at_take ts i (by omega) p (hp p hp').1 (hp p hp').2

/-! ### which tables are sound -/

def Clean (t : Ty) : Prop := 1 ≤ t.kind ∧ t.kind ≤ 10 ∧ ((t.kind = 5 ∨ t.kind = 6 ∨ t.kind = 9 ∨ t.kind = 10) ∨ t.elem = 0) ∧ (t.kind = 6 ∨ t.key = 0) ∧ (t.kind = 9 ∨ t.len = 0) ∧ (t.kind = 8 ∨ t.fields = [])

/-- p is one of the first n types, and no iterator. -/
def Within (ts : List Ty) (n : Nat) (p : Int) : Prop := 0 ≤ p ∧ p < n ∧ (tyAt ts p).kind ≠ 10

def Formed (ts : List Ty) (i : Nat) : Prop :=
  Clean (tyAt ts i) ∧ ((tyAt ts i).kind = 5 → Within ts ts.length (tyAt ts i).elem) ∧
  ((tyAt ts i).kind = 6 → Within ts ts.length (tyAt ts i).key ∧ Within ts ts.length (tyAt ts i).elem) ∧
  ((tyAt ts i).kind = 8 → 1 ≤ (tyAt ts i).fields.length ∧ (tyAt ts i).fields.length ≤ 16 ∧ ∀ f ∈ (tyAt ts i).fields, Within ts i f) ∧
  ((tyAt ts i).kind = 9 → 1 ≤ (tyAt ts i).len ∧ (tyAt ts i).len ≤ 16 ∧ Within ts i (tyAt ts i).elem) ∧
  ((tyAt ts i).kind = 10 → 0 ≤ (tyAt ts i).elem ∧ (tyAt ts i).elem < ts.length ∧ (tyAt ts (tyAt ts i).elem).kind = 6)

def OkAt (ts : List Ty) (i : Nat) : Prop := Formed ts i ∧ (M ts i).width ≤ 16
def KeyOk (ts : List Ty) (i : Nat) : Prop := (tyAt ts i).kind = 6 → (M ts (tyAt ts i).key).cmp = true

def AllOk (ts : List Ty) : Prop := ∀ i, i < ts.length → OkAt ts i
def KeysOk (ts : List Ty) : Prop := ∀ i, i < ts.length → KeyOk ts i
def Sound (ts : List Ty) : Prop := ts.length ≤ 64 ∧ AllOk ts ∧ KeysOk ts

theorem Formed.below {ts : List Ty} {i : Nat} (h : Formed ts i) : ∀ p ∈ parts (tyAt ts i), 0 ≤ p ∧ p < i ∧ (tyAt ts p).kind ≠ 10 := by
  intro p hp
  unfold parts at hp
  by_cases h8 : (tyAt ts i).kind = 8
  · rw [if_pos h8] at hp
    exact (h.2.2.2.1 h8).2.2 p hp
  · rw [if_neg h8] at hp
    by_cases h9 : (tyAt ts i).kind = 9
    · rw [if_pos h9] at hp
      rw [(List.mem_replicate.1 hp).2]
      exact (h.2.2.2.2.1 h9).2.2
    · rw [if_neg h9] at hp; simp at hp

theorem Formed.length_parts {ts : List Ty} {i : Nat} (h : Formed ts i) : (parts (tyAt ts i)).length ≤ 16 := by
  unfold parts
  by_cases h8 : (tyAt ts i).kind = 8
  · rw [if_pos h8]; exact (h.2.2.2.1 h8).2.1
  · rw [if_neg h8]
    by_cases h9 : (tyAt ts i).kind = 9
    · rw [if_pos h9]; have := h.2.2.2.2.1 h9; simp; omega
    · rw [if_neg h9]; simp

theorem Formed.eq {ts : List Ty} {i : Nat} (h : Formed ts i) (hi : i < ts.length) : M ts i = meas (tyAt ts i) (ms ts) :=
  M_eq ts i hi fun p hp => ⟨(h.below p hp).1, (h.below p hp).2.1⟩

/-- Bounds of what is summed. -/
theorem sum_bd {E : List Me} {k : Int} : ∀ {l : List Int}, (∀ p ∈ l, 0 ≤ (at' E p).width ∧ (at' E p).width ≤ k ∧ 0 ≤ (at' E p).words ∧ (at' E p).words ≤ 2 * (at' E p).width) → 0 ≤ sumWidth E l ∧ sumWidth E l ≤ k * l.length ∧ 0 ≤ sumWords E l ∧ sumWords E l ≤ 2 * sumWidth E l
  | [], _ => by simp [sumWidth, sumWords]
  | x :: l, h => by
    obtain ⟨a, b, c, d⟩ := h x (by simp)
    obtain ⟨e, f, g, i⟩ := sum_bd (l := l) (fun p hp => h p (by simp [hp]))
    simp only [sumWidth, sumWords, List.length_cons]
    have : k * ((l.length + 1 : Nat) : Int) = k * l.length + k := by rw [Int.natCast_add, Int.mul_add]; simp
    omega

theorem ptrs_length {E : List Me} : ∀ {l : List Int}, (∀ p ∈ l, (at' E p).words = (at' E p).ptrs.length) → sumWords E l = (allPtrs E l).length
  | [], _ => rfl
  | x :: l, h => by
    have := h x (by simp)
    have h2 := ptrs_length (l := l) (fun p hp => h p (by simp [hp]))
    simp [sumWords, allPtrs, this, h2]

/-- What holds of a type whose earlier ones are in order. -/
structure Fit (m : Me) : Prop where
  w0 : 1 ≤ m.width
  d0 : 1 ≤ m.words
  dw : m.words ≤ 2 * m.width
  len : m.words = m.ptrs.length

theorem meas_fit {E : List Me} (t : Ty) (hp : ∀ p ∈ parts t, Fit (at' E p)) (h1 : t.kind = 8 ∨ t.kind = 9 → parts t ≠ []) : Fit (meas t E) := by
  unfold meas
  by_cases a : t.kind = 4
  · rw [if_pos a]; constructor <;> simp
  rw [if_neg a]
  by_cases a : t.kind = 7
  · rw [if_pos a]; constructor <;> simp
  rw [if_neg a]
  by_cases a : t.kind = 6 ∨ t.kind = 10
  · rw [if_pos a]; constructor <;> simp
  rw [if_neg a]
  by_cases a : t.kind = 8 ∨ t.kind = 9
  · rw [if_pos a]
    have hl := ptrs_length (E := E) (l := parts t) (fun p hp' => (hp p hp').len)
    have hne := h1 a
    revert hp hl hne
    generalize parts t = l
    intro hp hl hne
    have hsum : ∀ l : List Int, (∀ p ∈ l, Fit (at' E p)) → 0 ≤ sumWidth E l ∧ 0 ≤ sumWords E l ∧ sumWords E l ≤ 2 * sumWidth E l := by
      intro l
      induction l with
      | nil => intro _; simp [sumWidth, sumWords]
      | cons x l ih =>
        intro h
        have := ih (fun p hp => h p (by simp [hp]))
        have f := h x (by simp)
        have := f.w0; have := f.d0; have := f.dw
        simp only [sumWidth, sumWords]; omega
    cases l with
    | nil => exact absurd rfl hne
    | cons x l =>
      have f := hp x (by simp)
      have g := hsum l (fun p hp' => hp p (by simp [hp']))
      have := f.w0; have := f.d0; have := f.dw
      constructor
      · simp only [sumWidth]; omega
      · simp only [sumWords]; omega
      · simp only [sumWidth, sumWords]; omega
      · exact hl
  rw [if_neg a]
  by_cases a : t.kind = 5
  · rw [if_pos a]; constructor <;> simp
  · rw [if_neg a]; constructor <;> simp

theorem Formed.ne {ts : List Ty} {i : Nat} (h : Formed ts i) : (tyAt ts i).kind = 8 ∨ (tyAt ts i).kind = 9 → parts (tyAt ts i) ≠ [] := by
  intro ha he
  have hl : (parts (tyAt ts i)).length = 0 := by rw [he]; rfl
  unfold parts at hl
  rcases ha with h8 | h9
  · rw [if_pos h8] at hl; have := h.2.2.2.1 h8; omega
  · rw [if_neg (by omega), if_pos h9] at hl; have := h.2.2.2.2.1 h9; simp at hl; omega

theorem fit_of (ts : List Ty) : ∀ n i : Nat, i < n → i < ts.length → (∀ j, j ≤ i → Formed ts j) → Fit (M ts i)
  | 0, _, h, _, _ => by omega
  | n + 1, i, h, hi, hf => by
    rw [(hf i (Nat.le_refl _)).eq hi]
    refine meas_fit _ (fun p hp => ?_) (hf i (Nat.le_refl _)).ne
    obtain ⟨h0, h1, _⟩ := (hf i (Nat.le_refl _)).below p hp
    obtain ⟨q, rfl⟩ : ∃ q : Nat, p = q := ⟨p.toNat, by omega⟩
    exact fit_of ts n q (by omega) (by omega) (fun j hj => hf j (by omega))

/-- With a further type behind it what was known stays. -/
theorem M_append (a b : List Ty) (i : Nat) (h : i < a.length) : M (a ++ b) i = M a i := by
  have := at_take (a ++ b) a.length (by simp) i (by omega) (by omega)
  rw [List.take_left] at this
  rw [← this]; rfl

end Go.Proofs.YtfabhhmeanpmhaaDoor
