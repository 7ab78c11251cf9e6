/-
  Heaps as plain data: runs of pages, spans with slots, bytes; no statement is proved here.
-/
import Derived.Test.YtlajjcboahflbaaDoorRMath
import Derived.Test.YtlajjcboahflbaaDoorSpanB
namespace Go.Proofs.YtlajjcboahflbaaDoor

/-! ### used runs -/

def used (R : List Rn) : List Rn := R.filter (·.u)
theorem used_append (A B : List Rn) : used (A ++ B) = used A ++ used B := by simp [used]
theorem used_cons_t {x : Rn} (B : List Rn) (h : x.u = true) : used (x :: B) = x :: used B := by simp [used, h]
theorem used_cons_f {x : Rn} (B : List Rn) (h : x.u = false) : used (x :: B) = used B := by simp [used, h]
theorem used_take {A B : List Rn} {x : Rn} {n : Nat} (_hu : x.u = false) : used (takeL (A ++ (x :: B)) A.length n) = used A ++ (⟨x.s, n, true⟩ :: used B) := by
  rw [takeL_eq, used_append, used_cons_t _ rfl, used_append]
  split
  · rw [used_cons_f _ rfl]; simp [used]
  · simp [used]
theorem used_rel {L : List Rn} {i : Nat} (hi : i < L.length) : used (relL L i) = used (L.take i) ++ used (L.drop (i + 1)) := by
  have e1 : used (L.take (relF L i)) = used (L.take i) := by
    by_cases hc : 0 < i ∧ (rnAt L (i - 1)).u = false
    · have e : relF L i = i - 1 := by unfold relF; rw [if_pos hc]
      obtain ⟨k, rfl⟩ : ∃ k, i = k + 1 := ⟨i - 1, by omega⟩
      rw [e, Nat.add_sub_cancel, List.take_add_one, rnAt_get (by omega), used_append]
      have : (rnAt L k).u = false := by simpa using hc.2
      simp [used, this]
    · have e : relF L i = i := by unfold relF; rw [if_neg hc]
      rw [e]
  have e2 : used (L.drop (relE L i)) = used (L.drop (i + 1)) := by
    by_cases hc : i + 1 < L.length ∧ (rnAt L (i + 1)).u = false
    · have e : relE L i = i + 1 + 1 := by unfold relE; rw [if_pos hc]
      have h1 : L.drop (i + 1) = rnAt L (i + 1) :: L.drop (i + 1 + 1) := by
        rw [List.drop_eq_getElem_cons hc.1]; simp [rnAt, List.getD, hc.1]
      rw [e, h1, used_cons_f _ hc.2]
    · have e : relE L i = i + 1 := by unfold relE; rw [if_neg hc]
      rw [e]
  unfold relL relJ
  rw [used_append, used_append, e1, e2, used_cons_f _ rfl]
  simp [used]

theorem used_sorted {pf : Bool} {a : Nat} {L : List Rn} (h : Tl pf a L) : (used L).Pairwise (fun x y => x.s + x.n ≤ y.s) := by
  induction L generalizing pf a with
  | nil => simp [used]
  | cons r L ih =>
    have h2 := ih h.2.2.2
    cases hu : r.u
    · rw [used_cons_f _ hu]; exact h2
    · rw [used_cons_t _ hu, List.pairwise_cons]
      refine ⟨fun y hy => ?_, h2⟩
      have := mem_endAt h.2.2.2 y (List.mem_filter.1 hy).1
      have := h.1
      omega

/-! ### spans -/

structure Spn where
  st : Nat
  n : Nat
  rm : Nat
  S : List Slot
deriving Inhabited

def us (S : List Slot) : Nat := S.countP (fun y => decide (0 < y.1))
def Spn.run (x : Spn) : Rn := ⟨x.st, x.n, true⟩
/-- Where slot j begins. -/
def adr (x : Spn) (j : Nat) : Nat := (x.st + 1) * 256 + j * x.rm
structure Spn.Ok (x : Spn) : Prop where
  n1 : 1 ≤ x.n
  rm8 : x.rm % 8 = 0
  rm1 : 8 ≤ x.rm
  rm2 : x.rm ≤ 65536
  kd : (x.rm ≤ 128 ∧ x.n = 1 ∧ ∃ c, c < 8 ∧ (x.rm : Int) = sz c) ∨ x.rm = x.n * 256
  len : x.S.length = x.n * 256 / x.rm
  sz : ∀ y ∈ x.S, 0 ≤ y.1 ∧ y.1 ≤ x.rm
  tg : ∀ y ∈ x.S, 0 ≤ y.2 ∧ y.2 ≤ 2147483647
  us : 1 ≤ us x.S

theorem Spn.Ok.fit {x : Spn} (h : x.Ok) : x.S.length * x.rm ≤ x.n * 256 := by rw [h.len]; exact Nat.div_mul_le_self _ _
theorem Spn.Ok.slot {x : Spn} (h : x.Ok) {j : Nat} (hj : j < x.S.length) : (j + 1) * x.rm ≤ x.n * 256 := Nat.le_trans (Nat.mul_le_mul_right _ (by omega)) h.fit
theorem Spn.Ok.len1 {x : Spn} (h : x.Ok) : 1 ≤ x.S.length := by
  have := h.us
  have h2 : Go.Proofs.YtlajjcboahflbaaDoor.us x.S ≤ x.S.length := List.countP_le_length
  omega
theorem Spn.Ok.len2 {x : Spn} (h : x.Ok) (hn : x.n ≤ 1024) : x.S.length ≤ 65536 := by
  have h1 := h.fit
  have h2 : x.S.length * 8 ≤ x.S.length * x.rm := Nat.mul_le_mul_left _ h.rm1
  omega

/-! ### heaps -/

structure Hs where
  P : Nat
  R : List Rn
  sp : List Spn
  B : List Int

structure Hv (H : Hs) : Prop where
  inv : Inv H.P H.R
  run : H.sp.map Spn.run = used H.R
  ok : ∀ x ∈ H.sp, x.Ok
  bl : H.B.length = (H.P + 1) * 256
  bt : Bts H.B

theorem Hv.le {H : Hs} (h : Hv H) {x : Spn} (hx : x ∈ H.sp) : x.st + x.n ≤ H.P := by
  have h1 : x.run ∈ used H.R := by rw [← h.run]; exact List.mem_map_of_mem hx
  exact (h.inv.mem _ (List.mem_filter.1 h1).1).2
theorem Hv.sorted {H : Hs} (h : Hv H) : H.sp.Pairwise (fun x y => x.st + x.n ≤ y.st) := by
  have := used_sorted h.inv.tl
  rw [← h.run, List.pairwise_map] at this
  exact this
theorem Hv.P1 {H : Hs} (h : Hv H) : H.P ≤ 1024 := h.inv.le
theorem Hv.splen {H : Hs} (h : Hv H) : H.sp.length ≤ H.P := by
  have h1 : H.sp.length = (used H.R).length := by rw [← h.run]; simp
  have h2 : (used H.R).length ≤ H.R.length := List.length_filter_le _ _
  have := h.inv.len
  omega

/-- Two spans that share a page are one. -/
theorem Hv.same {H : Hs} (h : Hv H) {k l : Nat} {x y : Spn} (hx : H.sp[k]? = some x) (hy : H.sp[l]? = some y) {i : Nat} (h1 : x.st ≤ i ∧ i < x.st + x.n) (h2 : y.st ≤ i ∧ i < y.st + y.n) : k = l := by
  have hs := List.pairwise_iff_getElem.1 h.sorted
  obtain ⟨hk, rfl⟩ := List.getElem?_eq_some_iff.1 hx
  obtain ⟨hl, rfl⟩ := List.getElem?_eq_some_iff.1 hy
  rcases Nat.lt_trichotomy k l with q | q | q
  · have := hs k l hk hl q; omega
  · exact q
  · have := hs l k hl hk q; omega

/-- The span that has a page. -/
def spanAt (L : List Spn) (i : Nat) : Option Spn := L.find? fun x => decide (x.st ≤ i) && decide (i < x.st + x.n)
theorem spanAt_some {L : List Spn} {i : Nat} {x : Spn} (h : spanAt L i = some x) : x ∈ L ∧ x.st ≤ i ∧ i < x.st + x.n := by
  have h1 := List.mem_of_find?_eq_some h
  have h2 := List.find?_some h
  simp at h2
  exact ⟨h1, h2⟩
theorem Hv.spanAt {H : Hs} (h : Hv H) {x : Spn} (hx : x ∈ H.sp) {i : Nat} (h1 : x.st ≤ i) (h2 : i < x.st + x.n) : spanAt H.sp i = some x := by
  cases hq : Go.Proofs.YtlajjcboahflbaaDoor.spanAt H.sp i with
  | none =>
    have := List.find?_eq_none.1 hq x hx
    simp at this; omega
  | some y =>
    obtain ⟨hy, h3⟩ := spanAt_some hq
    obtain ⟨k, hk⟩ := List.getElem?_of_mem hx
    obtain ⟨l, hl⟩ := List.getElem?_of_mem hy
    have := h.same hk hl ⟨h1, h2⟩ h3
    subst this
    rw [hk] at hl; cases hl; rfl

/-! ### which object has an address -/

/-- Slot j of span k holds an object of which a is a byte. -/
def At (H : Hs) (k j : Nat) (a : Int) : Prop := ∃ x y, H.sp[k]? = some x ∧ x.S[j]? = some y ∧ (adr x j : Int) ≤ a ∧ a < adr x j + y.1

/-- The plain facts of a byte of an object: its page and its slot. -/
theorem Hv.at_ {H : Hs} (h : Hv H) {k j : Nat} {a : Int} {x : Spn} {y : Slot} (hx : H.sp[k]? = some x) (hy : x.S[j]? = some y) (h1 : (adr x j : Int) ≤ a) (h2 : a < adr x j + y.1) :
    256 ≤ a ∧ a < ((H.P : Int) + 1) * 256 ∧ (∃ i : Nat, (a - 256) / 256 = i ∧ x.st ≤ i ∧ i < x.st + x.n ∧ i < H.P) ∧ (a - ((x.st : Int) + 1) * 256) / x.rm = j ∧ ((x.st : Int) + 1) * 256 ≤ a := by
  have hm : x ∈ H.sp := List.mem_of_getElem? hx
  have ho := h.ok x hm
  have hj : j < x.S.length := (List.getElem?_eq_some_iff.1 hy).1
  have hs := ho.slot hj
  have hyr := (ho.sz y (List.mem_of_getElem? hy)).2
  have hle := h.le hm
  have h8 := ho.rm1
  rw [Nat.add_mul, Nat.one_mul] at hs
  unfold adr at h1 h2
  obtain ⟨q, hq⟩ : ∃ q, q = j * x.rm := ⟨_, rfl⟩
  have hdiv : (a - ((x.st : Int) + 1) * 256) / x.rm = j := by
    rw [Int.ediv_eq_iff_of_pos (by omega)]
    have e1 : ((j : Int)) * (x.rm : Int) = (q : Nat) := by rw [hq]; simp
    constructor
    · rw [e1]; rw [← hq] at h1 h2; omega
    · rw [Int.add_mul, Int.one_mul, e1]; rw [← hq] at h1 h2; omega
  rw [← hq] at h1 h2 hs
  refine ⟨by omega, by omega, ⟨((a - 256) / 256).toNat, by omega, by omega, by omega, by omega⟩, hdiv, by omega⟩

theorem Hv.at_one {H : Hs} (h : Hv H) {k j k' j' : Nat} {a : Int} (h1 : At H k j a) (h2 : At H k' j' a) : k = k' ∧ j = j' := by
  obtain ⟨x, y, hx, hy, p1, p2⟩ := h1
  obtain ⟨x', y', hx', hy', q1, q2⟩ := h2
  obtain ⟨_, _, ⟨i, hi, i1, i2, _⟩, hj, _⟩ := h.at_ hx hy p1 p2
  obtain ⟨_, _, ⟨i', hi', i1', i2', _⟩, hj', _⟩ := h.at_ hx' hy' q1 q2
  obtain rfl : i = i' := by omega
  obtain rfl := h.same hx hx' ⟨i1, i2⟩ ⟨i1', i2'⟩
  rw [hx] at hx'; cases hx'
  exact ⟨rfl, by omega⟩

def fndS (x : Spn) (k : Nat) (a : Int) : Option (Nat × Nat) := (List.range x.S.length).findSome? fun j => match x.S[j]? with
  | none => none
  | some y => if (adr x j : Int) ≤ a ∧ a < adr x j + y.1 then some (k, j) else none
/-- The slot of the object of which a is a byte. -/
def fnd (H : Hs) (a : Int) : Option (Nat × Nat) := (List.range H.sp.length).findSome? fun k => match H.sp[k]? with
  | none => none
  | some x => fndS x k a
theorem fnd_hit {H : Hs} {k j : Nat} {a : Int} (h : fnd H a = some (k, j)) : At H k j a := by
  unfold fnd at h
  obtain ⟨k1, _, h1⟩ := List.exists_of_findSome?_eq_some h
  split at h1
  · cases h1
  · rename_i x hx
    unfold fndS at h1
    obtain ⟨j1, _, h2⟩ := List.exists_of_findSome?_eq_some h1
    split at h2
    · cases h2
    · rename_i y hy
      split at h2
      · rename_i hc
        simp only [Option.some.injEq, Prod.mk.injEq] at h2
        obtain ⟨rfl, rfl⟩ := h2
        exact ⟨x, y, hx, hy, hc.1, hc.2⟩
      · cases h2
theorem fnd_none {H : Hs} {a : Int} : fnd H a = none ↔ ∀ k j, ¬ At H k j a := by
  constructor
  · rintro h k j ⟨x, y, hx, hy, h1, h2⟩
    unfold fnd at h
    rw [List.findSome?_eq_none_iff] at h
    have h3 := h k (List.mem_range.2 (List.getElem?_eq_some_iff.1 hx).1)
    rw [hx] at h3
    simp only at h3
    unfold fndS at h3
    rw [List.findSome?_eq_none_iff] at h3
    have h4 := h3 j (List.mem_range.2 (List.getElem?_eq_some_iff.1 hy).1)
    rw [hy] at h4
    simp only at h4
    rw [if_pos ⟨h1, h2⟩] at h4
    cases h4
  · intro h
    cases hq : fnd H a with
    | none => rfl
    | some q => exact absurd (fnd_hit (k := q.1) (j := q.2) hq) (h _ _)
theorem Hv.fnd_iff {H : Hs} (h : Hv H) {k j : Nat} {a : Int} : fnd H a = some (k, j) ↔ At H k j a := by
  constructor
  · exact fnd_hit
  · intro e
    cases hq : fnd H a with
    | none => exact absurd e (fnd_none.1 hq k j)
    | some q =>
      obtain ⟨h1, h2⟩ := h.at_one (fnd_hit (k := q.1) (j := q.2) hq) e
      rw [show q = (k, j) from Prod.ext h1 h2]

end Go.Proofs.YtlajjcboahflbaaDoor
