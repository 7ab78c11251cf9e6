/-
  CRMath, CMath, CMathB, CMathC, CBase: joined by program; no statement is proved here.
-/
import Derived.Test.YtjbbomokgpoilaaGreatDoorRows
import Derived.WalkKit
import Derived.ProofKit
import Derived.Laws.CopyOwn
import Derived.Laws.OwnMore
import Derived.Deep.QuietTactic
import Derived.BigQuiet
import Derived.Deep.WholeRow
import Derived.Deep.AppendLies
import Derived.Deep.RegionHeld3
import Derived.RangeFuncNested
import Derived.RangeFuncBound
import Derived.RangeFuncCalls
import Derived.RangeFuncLeaves
import Derived.Shelf.Abstract
import Derived.Shelf.RegionOpen
import Derived.OwnWalkIn
import Derived.TacticsInMore
import Derived.LoopNIn
import Derived.LoopIn
import Derived.Maps.AppendAt
/-
  Plain facts on nets: what a search depth first gives; no statement is proved here.
-/
namespace Go.Proofs.YtjbbomokgpoilaaGreatDoor.Co

/-- What node x names. -/
def nxt (N : List (List Nat)) (x : Nat) : List Nat := N.getD x []

theorem nxt_get {N : List (List Nat)} {x : Nat} (h : x < N.length) : N[x]? = some (nxt N x) := by simp [nxt, List.getD, h]
theorem nxt_mem {N : List (List Nat)} {x : Nat} (h : x < N.length) : nxt N x ∈ N := by simp [nxt, List.getD, h]

/-- All that is named is a node. -/
def Nodes (N : List (List Nat)) (l : List Nat) : Prop := ∀ x ∈ l, x < N.length
def Net (N : List (List Nat)) : Prop := ∀ l ∈ N, Nodes N l
theorem Net.nxt {N : List (List Nat)} (h : Net N) (x : Nat) : Nodes N (nxt N x) := by
  by_cases hx : x < N.length
  · exact h _ (nxt_mem hx)
  · intro y hy
    simp [Co.nxt, List.getD, List.getElem?_eq_none (Nat.le_of_not_lt hx)] at hy

/-- A search depth first: from what came, the order so far and the lists that are open, to its end. -/
inductive Dfs (N : List (List Nat)) : List Bool → List Nat → List (List Nat) → List Bool → List Nat → Prop
  | done (C : List Bool) (O : List Nat) : Dfs N C O [] C O
  | pop {C : List Bool} {O : List Nat} {s : List (List Nat)} {C' : List Bool} {O' : List Nat} : Dfs N C O s C' O' → Dfs N C O ([] :: s) C' O'
  | skip {C : List Bool} {O : List Nat} {s : List (List Nat)} {C' : List Bool} {O' : List Nat} {x : Nat} {l : List Nat} : C[x]? = some true → Dfs N C O (l :: s) C' O' → Dfs N C O ((x :: l) :: s) C' O'
  | enter {C : List Bool} {O : List Nat} {s : List (List Nat)} {C' : List Bool} {O' : List Nat} {x : Nat} {l : List Nat} : C[x]? = some false → Dfs N (C.set x true) (O ++ [x]) (nxt N x :: l :: s) C' O' → Dfs N C O ((x :: l) :: s) C' O'

theorem Dfs.det {N : List (List Nat)} {C : List Bool} {O : List Nat} {s : List (List Nat)} {C1 C2 : List Bool} {O1 O2 : List Nat} (h : Dfs N C O s C1 O1) : Dfs N C O s C2 O2 → C1 = C2 ∧ O1 = O2 := by
  induction h with
  | done => intro k; cases k; exact ⟨rfl, rfl⟩
  | pop _ ih => intro k; cases k with | pop k => exact ih k
  | skip hx _ ih =>
    intro k
    cases k with
    | skip _ k => exact ih k
    | enter hy _ => rw [hx] at hy; cases hy
  | enter hx _ ih =>
    intro k
    cases k with
    | skip hy _ => rw [hx] at hy; cases hy
    | enter _ k => exact ih k

/-- What a step keeps, the end keeps. -/
theorem Dfs.inv {N : List (List Nat)} (I : List Bool → List Nat → List (List Nat) → Prop)
    (h1 : ∀ C O s, I C O ([] :: s) → I C O s)
    (h2 : ∀ C O s x l, C[x]? = some true → I C O ((x :: l) :: s) → I C O (l :: s))
    (h3 : ∀ C O s x l, C[x]? = some false → I C O ((x :: l) :: s) → I (C.set x true) (O ++ [x]) (nxt N x :: l :: s))
    {C : List Bool} {O : List Nat} {s : List (List Nat)} {C1 : List Bool} {O1 : List Nat} (h : Dfs N C O s C1 O1) : I C O s → I C1 O1 [] := by
  induction h with
  | done => exact id
  | pop _ ih => exact fun k => ih (h1 _ _ _ k)
  | skip hx _ ih => exact fun k => ih (h2 _ _ _ _ _ hx k)
  | enter hx _ ih => exact fun k => ih (h3 _ _ _ _ _ hx k)

/-- Nodes that came at the head of the open list are passed by. -/
theorem Dfs.skips {N : List (List Nat)} {C : List Bool} {O : List Nat} {s : List (List Nat)} {C1 : List Bool} {O1 : List Nat} {m : List Nat} : ∀ {l : List Nat}, (∀ x ∈ l, C[x]? = some true) → Dfs N C O (m :: s) C1 O1 → Dfs N C O ((l ++ m) :: s) C1 O1
  | [], _, h => h
  | x :: l, hl, h => .skip (hl x (by simp)) (Dfs.skips (fun y hy => hl y (by simp [hy])) h)

/-- Reached from roots by a way on which wo does not stand. -/
inductive Rch (N : List (List Nat)) (R : List Nat) (wo : Int) : Nat → Prop
  | root {x : Nat} : x ∈ R → (x : Int) ≠ wo → Rch N R wo x
  | step {x y : Nat} : Rch N R wo x → y ∈ nxt N x → (y : Int) ≠ wo → Rch N R wo y

theorem Rch.ne {N : List (List Nat)} {R : List Nat} {wo : Int} {x : Nat} (h : Rch N R wo x) : (x : Int) ≠ wo := by cases h <;> assumption
theorem Rch.lt {N : List (List Nat)} {R : List Nat} {wo : Int} {x : Nat} (h : Rch N R wo x) (hN : Net N) (hR : Nodes N R) : x < N.length := by
  cases h with
  | root h _ => exact hR _ h
  | step _ h _ => exact hN.nxt _ _ h
/-- Nothing smaller is closed. -/
theorem Rch.least {N : List (List Nat)} {R : List Nat} {wo : Int} {x : Nat} (h : Rch N R wo x) (G : Nat → Prop) (h1 : ∀ r ∈ R, (r : Int) ≠ wo → G r) (h2 : ∀ a, G a → ∀ b ∈ nxt N a, (b : Int) ≠ wo → G b) : G x := by
  induction h with
  | root h hw => exact h1 _ h hw
  | step _ h hw ih => exact h2 _ ih _ h hw
theorem Rch.mono {N : List (List Nat)} {R : List Nat} {wo : Int} {x : Nat} (h : Rch N R wo x) : Rch N R (-1) x := by
  induction h with
  | root h _ => exact .root h (by omega)
  | step _ h _ ih => exact .step ih h (by omega)

/-- What stands of a search at each of its steps. -/
structure Sea (N : List (List Nat)) (R : List Nat) (wo : Int) (C : List Bool) (O : List Nat) (s : List (List Nat)) : Prop where
  len : C.length = N.length
  came : ∀ x, x < N.length → (C[x]? = some true ↔ x ∈ O ∨ (x : Int) = wo)
  once : O.Nodup
  olt : ∀ x ∈ O, x < N.length ∧ (x : Int) ≠ wo
  slt : ∀ l ∈ s, Nodes N l
  roots : ∀ r ∈ R, C[r]? = some true ∨ ∃ l ∈ s, r ∈ l
  names : ∀ x ∈ O, ∀ y ∈ nxt N x, C[y]? = some true ∨ ∃ l ∈ s, y ∈ l
  from_ : ∀ l ∈ s, ∀ y ∈ l, y ∈ R ∨ ∃ p ∈ O, y ∈ nxt N p
  earlier : ∀ i, i < O.length → O.getD i 0 ∈ R ∨ ∃ k, k < i ∧ O.getD i 0 ∈ nxt N (O.getD k 0)

theorem sea_end {N : List (List Nat)} {R : List Nat} {wo : Int} (hN : Net N) {C : List Bool} {O : List Nat} {s : List (List Nat)} {C1 : List Bool} {O1 : List Nat} (h : Dfs N C O s C1 O1) : Sea N R wo C O s → Sea N R wo C1 O1 [] := by
  refine Dfs.inv (Sea N R wo) ?_ ?_ ?_ h
  · rintro C O s ⟨a1, a2, a3, a4, a5, a6, a7, a8, a9⟩
    refine ⟨a1, a2, a3, a4, fun l hl => a5 l (by simp [hl]), fun r hr => ?_, fun x hx y hy => ?_, fun l hl => a8 l (by simp [hl]), a9⟩
    · rcases a6 r hr with q | ⟨l, hl, q⟩
      · exact .inl q
      · simp only [List.mem_cons] at hl
        rcases hl with rfl | hl
        · cases q
        · exact .inr ⟨l, hl, q⟩
    · rcases a7 x hx y hy with q | ⟨l, hl, q⟩
      · exact .inl q
      · simp only [List.mem_cons] at hl
        rcases hl with rfl | hl
        · cases q
        · exact .inr ⟨l, hl, q⟩
  · rintro C O s x l hx ⟨a1, a2, a3, a4, a5, a6, a7, a8, a9⟩
    have key : ∀ y : Nat, (C[y]? = some true ∨ ∃ l' ∈ (x :: l) :: s, y ∈ l') → (C[y]? = some true ∨ ∃ l' ∈ l :: s, y ∈ l') := by
      rintro y (q | ⟨l', hl, q⟩)
      · exact .inl q
      · simp only [List.mem_cons] at hl
        rcases hl with rfl | hl
        · simp only [List.mem_cons] at q
          rcases q with rfl | q
          · exact .inl hx
          · exact .inr ⟨l, by simp, q⟩
        · exact .inr ⟨l', by simp [hl], q⟩
    refine ⟨a1, a2, a3, a4, fun l' hl => ?_, fun r hr => key _ (a6 r hr), fun z hz y hy => key _ (a7 z hz y hy), fun l' hl y hy => ?_, a9⟩
    · simp only [List.mem_cons] at hl
      rcases hl with rfl | hl
      · exact fun y hy => a5 (x :: l') (by simp) y (by simp [hy])
      · exact a5 l' (by simp [hl])
    · simp only [List.mem_cons] at hl
      rcases hl with rfl | hl
      · exact a8 (x :: l') (by simp) y (by simp [hy])
      · exact a8 l' (by simp [hl]) y hy
  · rintro C O s x l hx ⟨a1, a2, a3, a4, a5, a6, a7, a8, a9⟩
    have hxl : x < N.length := a5 (x :: l) (by simp) x (by simp)
    have hno : ¬ (x ∈ O ∨ (x : Int) = wo) := fun q => by rw [(a2 x hxl).2 q] at hx; cases hx
    have hset : ∀ y : Nat, C[y]? = some true → (C.set x true)[y]? = some true := by
      intro y hy
      by_cases hxy : x = y
      · subst hxy; rw [hx] at hy; cases hy
      · rw [List.getElem?_set_ne hxy]; exact hy
    have hxx : (C.set x true)[x]? = some true := by rw [List.getElem?_set_self (by omega)]
    have key : ∀ y : Nat, (C[y]? = some true ∨ ∃ l' ∈ (x :: l) :: s, y ∈ l') → ((C.set x true)[y]? = some true ∨ ∃ l' ∈ nxt N x :: l :: s, y ∈ l') := by
      rintro y (q | ⟨l', hl, q⟩)
      · exact .inl (hset y q)
      · simp only [List.mem_cons] at hl
        rcases hl with rfl | hl
        · simp only [List.mem_cons] at q
          rcases q with rfl | q
          · exact .inl hxx
          · exact .inr ⟨l, by simp, q⟩
        · exact .inr ⟨l', by simp [hl], q⟩
    refine ⟨by simp [a1], fun y hy => ?_, ?_, ?_, ?_, fun r hr => key _ (a6 r hr), ?_, ?_, ?_⟩
    · by_cases hxy : x = y
      · subst hxy; simp [hxx]
      · rw [List.getElem?_set_ne hxy, a2 y hy]
        simp only [List.mem_append, List.mem_singleton]
        constructor
        · rintro (q | q)
          · exact .inl (.inl q)
          · exact .inr q
        · rintro ((q | q) | q)
          · exact .inl q
          · exact absurd q.symm hxy
          · exact .inr q
    · rw [List.nodup_append]
      refine ⟨a3, by simp, ?_⟩
      intro y hy z hz
      simp only [List.mem_singleton] at hz
      subst hz
      exact fun e => hno (.inl (e ▸ hy))
    · intro y hy
      simp only [List.mem_append, List.mem_singleton] at hy
      rcases hy with hy | rfl
      · exact a4 y hy
      · exact ⟨hxl, fun q => hno (.inr q)⟩
    · intro l' hl
      simp only [List.mem_cons] at hl
      rcases hl with rfl | rfl | hl
      · exact hN.nxt x
      · exact fun y hy => a5 (x :: l') (by simp) y (by simp [hy])
      · exact a5 l' (by simp [hl])
    · intro z hz y hy
      simp only [List.mem_append, List.mem_singleton] at hz
      rcases hz with hz | rfl
      · exact key y (a7 z hz y hy)
      · exact .inr ⟨_, by simp, hy⟩
    · intro l' hl y hy
      simp only [List.mem_cons] at hl
      rcases hl with rfl | rfl | hl
      · exact .inr ⟨x, by simp, hy⟩
      · rcases a8 (x :: l') (by simp) y (by simp [hy]) with q | ⟨p, hp, q⟩
        · exact .inl q
        · exact .inr ⟨p, by simp [hp], q⟩
      · rcases a8 l' (by simp [hl]) y hy with q | ⟨p, hp, q⟩
        · exact .inl q
        · exact .inr ⟨p, by simp [hp], q⟩
    · intro i hi
      have hg : ∀ k, k < O.length → (O ++ [x]).getD k 0 = O.getD k 0 := fun k hk => by simp [List.getD, List.getElem?_append_left hk]
      simp only [List.length_append, List.length_singleton] at hi
      by_cases hil : i < O.length
      · rw [hg i hil]
        rcases a9 i hil with q | ⟨k, hk, q⟩
        · exact .inl q
        · exact .inr ⟨k, hk, by rw [hg k (by omega)]; exact q⟩
      · obtain rfl : i = O.length := by omega
        have hlast : (O ++ [x]).getD O.length 0 = x := by simp [List.getD]
        rw [hlast]
        rcases a8 (x :: l) (by simp) x (by simp) with q | ⟨p, hp, q⟩
        · exact .inl q
        · obtain ⟨k, hk, rfl⟩ := List.mem_iff_getElem.1 hp
          refine .inr ⟨k, hk, ?_⟩
          rw [hg k hk]
          simpa [List.getD, hk] using q

/-- What came ahead of a search: nothing but wo. -/
def came0 (n : Nat) (wo : Int) : List Bool := (List.range n).map fun (i : Nat) => decide ((i : Int) = wo)
theorem came0_len (n : Nat) (wo : Int) : (came0 n wo).length = n := by simp [came0]
theorem came0_get (n : Nat) (wo : Int) (i : Nat) (h : i < n) : (came0 n wo)[i]? = some (decide ((i : Int) = wo)) := by simp [came0, h]

theorem sea_start {N : List (List Nat)} {R : List Nat} {wo : Int} (hR : Nodes N R) : Sea N R wo (came0 N.length wo) [] [R] := by
  refine ⟨came0_len _ _, fun x hx => by simp [came0_get _ _ _ hx], by simp, by simp, by simpa using hR, fun r hr => .inr ⟨R, by simp, hr⟩, by simp, ?_, by simp⟩
  intro l hl y hy
  simp only [List.mem_singleton] at hl
  subst hl
  exact .inl hy

/-- The order of a search, whole. -/
structure Ord (N : List (List Nat)) (R : List Nat) (wo : Int) (O : List Nat) : Prop where
  run : ∃ C, Dfs N (came0 N.length wo) [] [R] C O
  once : O.Nodup
  lt : ∀ x ∈ O, x < N.length
  mem : ∀ x, x ∈ O ↔ Rch N R wo x
  earlier : ∀ i, i < O.length → O.getD i 0 ∈ R ∨ ∃ k, k < i ∧ O.getD i 0 ∈ nxt N (O.getD k 0)

theorem ord_of {N : List (List Nat)} {R : List Nat} {wo : Int} (hN : Net N) (hR : Nodes N R) {C : List Bool} {O : List Nat} (h : Dfs N (came0 N.length wo) [] [R] C O) : Ord N R wo O := by
  have S := sea_end hN h (sea_start hR)
  have hclosed : ∀ y, (C[y]? = some true ∨ ∃ l ∈ ([] : List (List Nat)), y ∈ l) → y < N.length → (y : Int) ≠ wo → y ∈ O := by
    rintro y (q | ⟨l, hl, _⟩) hlt hw
    · exact ((S.came y hlt).1 q).resolve_right hw
    · cases hl
  refine ⟨⟨C, h⟩, S.once, fun x hx => (S.olt x hx).1, fun x => ⟨fun hx => ?_, fun hx => ?_⟩, S.earlier⟩
  · obtain ⟨i, hi, rfl⟩ := List.mem_iff_getElem.1 hx
    have key : ∀ n i, i < n → ∀ (hi : i < O.length), Rch N R wo (O.getD i 0) := by
      intro n
      induction n with
      | zero => intro i h; omega
      | succ n ih =>
        intro i hin hi
        have hw := (S.olt (O.getD i 0) (by simp [List.getD, hi])).2
        rcases S.earlier i hi with q | ⟨k, hk, q⟩
        · exact .root q hw
        · exact .step (ih k (by omega) (by omega)) q hw
    have := key (i + 1) i (by omega) hi
    simpa [List.getD, hi] using this
  · refine hx.least (· ∈ O) (fun r hr hw => hclosed r (S.roots r hr) (hR r hr) hw) (fun a ha b hb hw => hclosed b (S.names a ha b hb) (hN.nxt a b hb) hw)

theorem Ord.det {N : List (List Nat)} {R : List Nat} {wo : Int} {A B : List Nat} (h : Ord N R wo A) (k : Ord N R wo B) : A = B := by
  obtain ⟨_, h⟩ := h.run
  obtain ⟨_, k⟩ := k.run
  exact (h.det k).2

theorem nodup_len : ∀ (n : Nat) (A : List Nat), A.Nodup → (∀ x ∈ A, x < n) → A.length ≤ n
  | 0, A, _, h => by
    cases A with
    | nil => simp
    | cons a A => have := h a (by simp); omega
  | n + 1, A, h, k => by
    by_cases hn : n ∈ A
    · have := nodup_len n (A.erase n) (h.erase n) (fun x hx => by
        have h1 := k x (List.mem_of_mem_erase hx)
        have h2 := ((List.Nodup.mem_erase_iff h).1 hx).1
        omega)
      rw [List.length_erase_of_mem hn] at this
      omega
    · have := nodup_len n A h (fun x hx => by
        have h1 := k x hx
        have h2 : x ≠ n := fun e => hn (e ▸ hx)
        omega)
      omega

theorem Ord.len {N : List (List Nat)} {R : List Nat} {wo : Int} {A : List Nat} (h : Ord N R wo A) : A.length ≤ N.length := nodup_len _ _ h.once h.lt

end Go.Proofs.YtjbbomokgpoilaaGreatDoor.Co

/-
  The collector over nodes as plain data: its calls, what they keep, and how much work a cycle takes; no statement is proved here.
-/
namespace Go.Proofs.YtjbbomokgpoilaaGreatDoor.Co

/-- A node: its color (0 none, 1 white, 2 grey, 3 black, 4 dead), its slots, and how many were looked at. -/
structure Nd where
  c : Nat
  s : List Int
  k : Nat

/-- What else the graph's block holds: seven cells. -/
structure Fo where
  a : Value
  b : Value
  c : Value
  d : Value
  e : Value
  f : Value
  g : Value

/-- A graph. -/
structure Gs where
  ns : List Nd
  le : Nat
  ln : List Nat
  ph : Nat
  cy : Nat
  pl : Nat
  en : Nat
  X : Fo

def nz : Nd := ⟨0, [], 0⟩
def ndAt (l : List Nd) (i : Nat) : Nd := l.getD i nz
theorem ndAt_get {l : List Nd} {i : Nat} (h : i < l.length) : l[i]? = some (ndAt l i) := by simp [ndAt, List.getD, h]
theorem ndAt_mem {l : List Nd} {i : Nat} (h : i < l.length) : ndAt l i ∈ l := by simp [ndAt, List.getD, h]
theorem ndAt_out {l : List Nd} {i : Nat} (h : l.length ≤ i) : ndAt l i = nz := by simp [ndAt, List.getD, h]
theorem ndAt_set {l : List Nd} {i j : Nat} {x : Nd} (h : i < l.length) : ndAt (l.set i x) j = if j = i then x else ndAt l j := by
  by_cases e : j = i
  · subst e; simp [ndAt, List.getD, h]
  · rw [if_neg e]; simp [ndAt, List.getD, List.getElem?_set_ne (Ne.symm e)]
theorem ndAt_map {l : List Nd} {i : Nat} {f : Nd → Nd} (h : i < l.length) : ndAt (l.map f) i = f (ndAt l i) := by simp [ndAt, List.getD, h]
theorem ndAt_snoc {l : List Nd} {x : Nd} {j : Nat} : ndAt (l ++ [x]) j = if j = l.length then x else ndAt l j := by
  by_cases e : j = l.length
  · subst e; simp [ndAt, List.getD]
  · rw [if_neg e]
    by_cases h : j < l.length
    · simp [ndAt, List.getD, List.getElem?_append_left h]
    · rw [ndAt_out (l := l) (by omega), ndAt_out (l := l ++ [x]) (by simp; omega)]

/-- Is a node live? -/
def lvN (G : Gs) (i : Nat) : Prop := (ndAt G.ns i).c ≠ 0 ∧ (ndAt G.ns i).c ≠ 4
instance (G : Gs) (i : Nat) : Decidable (lvN G i) := inferInstanceAs (Decidable (_ ∧ _))
def lvB (G : Gs) (x : Int) : Bool := decide (0 ≤ x ∧ lvN G x.toNat)
theorem lvN_lt {G : Gs} {i : Nat} (h : lvN G i) : i < G.ns.length := by
  by_cases q : i < G.ns.length
  · exact q
  · have := h.1; rw [ndAt_out (by omega)] at this; exact absurd rfl this
theorem lvB_nat (G : Gs) (i : Nat) : lvB G i = decide (lvN G i) := by simp [lvB]

/-- A white node becomes grey. -/
def shN (G : Gs) (i : Nat) : Gs := if (ndAt G.ns i).c = 1 then { G with ns := G.ns.set i ⟨2, (ndAt G.ns i).s, 0⟩, ln := G.ln ++ [i] } else G
def sh (G : Gs) (x : Int) : Gs := if x = -1 then G else shN G x.toNat

/-- The least free number. -/
def fr (G : Gs) : Nat := G.le + (G.ns.drop G.le).findIdx fun x => x.c == 0
def nodeG (G : Gs) (m : Nat) : Gs := if fr G = 65536 then { G with le := fr G } else { G with le := fr G, ns := (if fr G = G.ns.length then G.ns ++ [nz] else G.ns).set (fr G) ⟨3, List.replicate m (-1), 0⟩ }
/-- What Node makes, and its two answers. -/
def node (G : Gs) (x : Int) : Gs × Int × Int := if x < 0 ∨ 8192 < x then (G, 0, 2) else if fr G = 65536 then (nodeG G x.toNat, 0, 7) else (nodeG G x.toNat, fr G, 0)

def putS (H : Gs) (n j : Nat) (x : Int) : Gs := { H with ns := H.ns.set n ⟨(ndAt H.ns n).c, (ndAt H.ns n).s.set j x, (ndAt H.ns n).k⟩ }
def setG (G : Gs) (n j : Nat) (x : Int) : Gs := putS (sh (sh G ((ndAt G.ns n).s.getD j 0)) x) n j x
def set (G : Gs) (n j x : Int) : Gs × Int := if lvB G n = false then (G, 4) else if x ≠ -1 ∧ lvB G x = false then (G, 4) else if j < 0 ∨ ((ndAt G.ns n.toNat).s.length : Int) ≤ j then (G, 5) else (setG G n.toNat j.toNat x, 0)
def shade (G : Gs) (n : Int) : Gs × Int := if lvB G n = false then (G, 4) else (sh G n, 0)
def wh (x : Nd) : Nd := if x.c ≠ 0 ∧ x.c ≠ 4 then ⟨1, x.s, x.k⟩ else x
def start (G : Gs) (R : List Int) : Gs × Int := if G.ph ≠ 0 then (G, 14) else if R.all (lvB G) = false then (G, 4) else (R.foldl sh { G with ph := 1, ns := G.ns.map wh }, 0)

def die (x : Nd) : Nd := if x.c = 1 then ⟨4, [], 0⟩ else x
def mark (G : Gs) : Gs := match G.ln with
  | [] => { G with ns := G.ns.map die, ln := [], ph := 2, pl := 0, en := G.ns.length }
  | x :: t => if (ndAt G.ns x).k = (ndAt G.ns x).s.length then { G with ns := G.ns.set x ⟨3, (ndAt G.ns x).s, (ndAt G.ns x).k⟩, ln := t }
    else sh { G with ns := G.ns.set x ⟨(ndAt G.ns x).c, (ndAt G.ns x).s, (ndAt G.ns x).k + 1⟩ } ((ndAt G.ns x).s.getD (ndAt G.ns x).k 0)
def sweep (G : Gs) : Gs × List Nat := if G.pl = G.en then ({ G with ph := 0, cy := G.cy + 1 }, [])
  else if (ndAt G.ns G.pl).c = 4 then ({ G with ns := G.ns.set G.pl nz, le := min G.le G.pl, pl := G.pl + 1 }, [G.pl])
  else ({ G with pl := G.pl + 1 }, [])
def unit (G : Gs) : Gs × List Nat := if G.ph = 1 then (mark G, []) else sweep G
/-- So many units of work: how many are left, what was swept, and the graph. -/
def work : Nat → Gs → Nat × List Nat × Gs
  | 0, G => (0, [], G)
  | u + 1, G => if G.ph = 0 then (u + 1, [], G) else ((work u (unit G).1).1, (unit G).2 ++ (work u (unit G).1).2.1, (work u (unit G).1).2.2)

theorem work_idle {G : Gs} (h : G.ph = 0) : ∀ u, work u G = (u, [], G)
  | 0 => rfl
  | u + 1 => by simp [work, h]
/-- Work in pieces. -/
theorem work_add : ∀ (a b : Nat) (G : Gs), work (a + b) G = ((work a G).1 + (work b (work a G).2.2).1, (work a G).2.1 ++ (work b (work a G).2.2).2.1, (work b (work a G).2.2).2.2)
  | 0, b, G => by simp [work]
  | a + 1, b, G => by
    by_cases h : G.ph = 0
    · rw [work_idle h, work_idle h, work_idle h]; simp
    · rw [show a + 1 + b = (a + b) + 1 by omega]
      simp only [work, h, if_false]
      rw [work_add a b]
      simp
theorem work_left : ∀ (a : Nat) (G : Gs), (work a G).1 ≤ a
  | 0, G => by simp [work]
  | a + 1, G => by
    by_cases h : G.ph = 0
    · rw [work_idle h]; exact Nat.le_refl _
    · simp only [work, h, if_false]; have := work_left a (unit G).1; omega

/-- All live nodes, rising. -/
def lives (G : Gs) : List Nat := (List.range G.ns.length).filter fun i => decide (lvN G i)
theorem mem_lives {G : Gs} {i : Nat} : i ∈ lives G ↔ lvN G i := by
  simp only [lives, List.mem_filter, List.mem_range, decide_eq_true_eq]
  exact ⟨fun h => h.2, fun h => ⟨lvN_lt h, h⟩⟩

/-! ### what always holds -/

structure Iv (G : Gs) : Prop where
  len : G.ns.length ≤ 65536
  col : ∀ i, (ndAt G.ns i).c ≤ 4
  sl : ∀ i, (ndAt G.ns i).s.length ≤ 8192
  lo : ∀ i, (ndAt G.ns i).k ≤ (ndAt G.ns i).s.length
  no : ∀ i, (ndAt G.ns i).c = 0 ∨ (ndAt G.ns i).c = 4 → (ndAt G.ns i).s = []
  cl : ∀ i, lvN G i → ∀ x ∈ (ndAt G.ns i).s, x = -1 ∨ lvB G x = true
  ph : G.ph ≤ 2
  idle : G.ph ≠ 1 → G.ln = [] ∧ ∀ i, (ndAt G.ns i).c ≠ 1 ∧ (ndAt G.ns i).c ≠ 2
  grey : ∀ i, (ndAt G.ns i).c = 2 ↔ i ∈ G.ln
  nd : G.ln.Nodup
  tri : ∀ i, (ndAt G.ns i).c = 3 → ∀ x ∈ (ndAt G.ns i).s, x = -1 ∨ (ndAt G.ns x.toNat).c ≠ 1
  trg : ∀ i, (ndAt G.ns i).c = 2 → ∀ x ∈ (ndAt G.ns i).s.take (ndAt G.ns i).k, x = -1 ∨ (ndAt G.ns x.toNat).c ≠ 1
  pe : G.ph = 2 → G.pl ≤ G.en ∧ G.en ≤ G.ns.length
  le : G.le ≤ G.ns.length
  les : ∀ i, i < G.le → (ndAt G.ns i).c ≠ 0

theorem lvB_iff {G : Gs} {x : Int} : lvB G x = true ↔ 0 ≤ x ∧ lvN G x.toNat := by simp [lvB]
theorem Iv.lln {G : Gs} (h : Iv G) : G.ln.length ≤ G.ns.length := by
  have hlt : ∀ x ∈ G.ln, x < G.ns.length := fun x hx => lvN_lt (G := G) ⟨by rw [(h.grey x).2 hx]; decide, by rw [(h.grey x).2 hx]; decide⟩
  have h1 : ∀ (l : List Nat) (n : Nat), l.Nodup → (∀ x ∈ l, x < n) → l.length ≤ n := by
    intro l n
    induction n generalizing l with
    | zero =>
      intro _ hl
      cases l with
      | nil => simp
      | cons a l => have := hl a (by simp); omega
    | succ n ih =>
      intro hn hl
      have h2 := ih (l.erase n) (hn.erase n) (fun x hx => by
        have h3 := (List.Nodup.mem_erase_iff hn).1 hx
        have := hl x h3.2
        have := h3.1
        omega)
      have h4 := List.length_erase (a := n) (l := l)
      split at h4 <;> omega
  exact h1 _ _ h.nd hlt

theorem iv_new (X : Fo) : Iv ⟨[], 0, [], 0, 0, 0, 0, X⟩ := by
  have hz : ∀ i, ndAt ([] : List Nd) i = nz := fun i => ndAt_out (by simp)
  refine ⟨by simp, ?_, ?_, ?_, ?_, ?_, by simp, ?_, ?_, by simp, ?_, ?_, by simp, by simp, by simp⟩ <;> simp [hz, nz, lvN]

end Go.Proofs.YtjbbomokgpoilaaGreatDoor.Co

/-
  The calls keep what always holds of a graph; no statement is proved here.
-/
namespace Go.Proofs.YtjbbomokgpoilaaGreatDoor.Co

theorem sh_c {G : Gs} (x : Int) (hi : x = -1 ∨ 0 ≤ x) : x = -1 ∨ (ndAt (sh G x).ns x.toNat).c ≠ 1 := by
  rcases hi with h | h
  · exact .inl h
  · right
    have : x ≠ -1 := by omega
    simp only [sh, this, if_false, shN]
    split
    · rename_i h1
      have hl : x.toNat < G.ns.length := lvN_lt (G := G) ⟨by rw [h1]; decide, by rw [h1]; decide⟩
      rw [ndAt_set hl, if_pos rfl]
      simp
    · assumption

/-- What shading does to a node. -/
theorem sh_at (G : Gs) (x : Int) (j : Nat) : ndAt (sh G x).ns j = ndAt G.ns j ∨ ((ndAt G.ns j).c = 1 ∧ ndAt (sh G x).ns j = ⟨2, (ndAt G.ns j).s, 0⟩) := by
  unfold sh
  split
  · exact .inl rfl
  · unfold shN
    split
    · rename_i h1
      have hl : x.toNat < G.ns.length := lvN_lt (G := G) ⟨by rw [h1]; decide, by rw [h1]; decide⟩
      simp only
      rw [ndAt_set hl]
      by_cases e : j = x.toNat
      · subst e; right; exact ⟨h1, by simp⟩
      · rw [if_neg e]; exact .inl rfl
    · exact .inl rfl
theorem sh_len (G : Gs) (x : Int) : (sh G x).ns.length = G.ns.length := by
  unfold sh shN
  split
  · rfl
  · split <;> simp
theorem sh_fix (G : Gs) (x : Int) : (sh G x).le = G.le ∧ (sh G x).ph = G.ph ∧ (sh G x).cy = G.cy ∧ (sh G x).pl = G.pl ∧ (sh G x).en = G.en := by
  unfold sh shN
  split
  · simp
  · split <;> simp
theorem sh_s (G : Gs) (x : Int) (j : Nat) : (ndAt (sh G x).ns j).s = (ndAt G.ns j).s := by
  rcases sh_at G x j with h | ⟨_, h⟩ <;> rw [h]
theorem sh_lv (G : Gs) (x : Int) (j : Nat) : lvN (sh G x) j ↔ lvN G j := by
  unfold lvN
  rcases sh_at G x j with h | ⟨h1, h⟩
  · rw [h]
  · rw [h, h1]; simp
theorem sh_lvB (G : Gs) (x y : Int) : lvB (sh G x) y = lvB G y := by
  have := sh_lv G x y.toNat
  simp only [lvB, this]
/-- What is not white stays so. -/
theorem sh_nw (G : Gs) (x : Int) (j : Nat) (h : (ndAt G.ns j).c ≠ 1) : ndAt (sh G x).ns j = ndAt G.ns j := by
  rcases sh_at G x j with h1 | ⟨h1, _⟩
  · exact h1
  · exact absurd h1 h
theorem sh_c2 (G : Gs) (x : Int) (j : Nat) : (ndAt (sh G x).ns j).c ≠ 1 ∨ ndAt (sh G x).ns j = ndAt G.ns j := by
  rcases sh_at G x j with h1 | ⟨_, h⟩
  · exact .inr h1
  · left; rw [h]; simp

theorem iv_sh {G : Gs} (h : Iv G) (x : Int) : Iv (sh G x) := by
  by_cases h0 : x = -1
  · simp only [sh, h0, if_true]; exact h
  by_cases h1 : (ndAt G.ns x.toNat).c = 1
  · obtain ⟨i, hi⟩ : ∃ i, i = x.toNat := ⟨_, rfl⟩
    have hG : sh G x = { G with ns := G.ns.set i ⟨2, (ndAt G.ns i).s, 0⟩, ln := G.ln ++ [i] } := by
      simp only [sh, h0, if_false, shN, h1, if_true, hi]
    rw [← hi] at h1
    have hl : i < G.ns.length := lvN_lt (G := G) ⟨by rw [h1]; decide, by rw [h1]; decide⟩
    have at_ : ∀ j, ndAt (G.ns.set i ⟨2, (ndAt G.ns i).s, 0⟩) j = if j = i then ⟨2, (ndAt G.ns i).s, 0⟩ else ndAt G.ns j := fun j => ndAt_set hl
    have lv := sh_lv G x
    have lvb := sh_lvB G x
    have nw : ∀ y : Int, (ndAt G.ns y.toNat).c ≠ 1 → (ndAt (sh G x).ns y.toNat).c ≠ 1 := fun y hy => by rw [sh_nw _ _ _ hy]; exact hy
    have hni : i ∉ G.ln := fun q => by have := (h.grey i).2 q; omega
    have hph : G.ph = 1 := by
      by_cases q : G.ph = 1
      · exact q
      · exact absurd h1 ((h.idle q).2 i).1
    rw [hG] at lv lvb nw ⊢
    refine ⟨by simpa using h.len, ?_, ?_, ?_, ?_, ?_, h.ph, fun q => absurd hph q, ?_, ?_, ?_, ?_, by simpa using h.pe, by simpa using h.le, ?_⟩
    · intro j; simp only [at_]; split
      · simp
      · exact h.col j
    · intro j; simp only [at_]; split
      · exact h.sl i
      · exact h.sl j
    · intro j; simp only [at_]; split
      · exact Nat.zero_le _
      · exact h.lo j
    · intro j; simp only [at_]; split
      · intro q; rcases q with q | q <;> simp at q
      · exact h.no j
    · intro j hj y hy
      rw [lvb]
      have hj2 := (lv j).1 hj
      simp only [at_] at hy
      split at hy
      · rename_i e; subst e; exact h.cl j hj2 y hy
      · exact h.cl j hj2 y hy
    · intro j; simp only [at_, List.mem_append, List.mem_singleton]; split
      · rename_i e; simp [e]
      · rename_i e; rw [h.grey j]; simp [e]
    · exact List.nodup_append.2 ⟨h.nd, by simp, fun a ha b hb => by simp at hb; subst hb; intro e; exact hni (e ▸ ha)⟩
    · intro j; simp only [at_]; split
      · intro q; simp at q
      · intro q y hy
        rcases h.tri j q y hy with r | r
        · exact .inl r
        · right; have := nw y r; simpa only [at_] using this
    · intro j; simp only [at_]; split
      · intro _ y hy; simp at hy
      · intro q y hy
        rcases h.trg j q y hy with r | r
        · exact .inl r
        · right; have := nw y r; simpa only [at_] using this
    · intro j hj; simp only [at_]; split
      · simp
      · exact h.les j hj
  · have : sh G x = G := by simp only [sh, h0, if_false, shN, h1]
    rw [this]; exact h

theorem iv_shs (R : List Int) : ∀ {G : Gs}, Iv G → Iv (R.foldl sh G) := by
  induction R with
  | nil => exact fun h => h
  | cons x R ih => exact fun h => ih (iv_sh h x)

/-! ### Node -/

theorem fr_le {G : Gs} (h : G.le ≤ G.ns.length) : G.le ≤ fr G ∧ fr G ≤ G.ns.length := by
  have := List.findIdx_le_length (p := fun x : Nd => x.c == 0) (xs := G.ns.drop G.le)
  simp only [List.length_drop] at this
  unfold fr; omega
theorem ndAt_eq {l : List Nd} {i : Nat} (h : i < l.length) : ndAt l i = l[i] := by simp [ndAt, List.getD, h]
theorem drop_at (l : List Nd) (a j : Nat) : ndAt (l.drop a) j = ndAt l (a + j) := by simp [ndAt, List.getD]
theorem fr_free {G : Gs} : (ndAt G.ns (fr G)).c = 0 := by
  unfold fr
  rw [← drop_at]
  by_cases h : (G.ns.drop G.le).findIdx (fun x => x.c == 0) < (G.ns.drop G.le).length
  · have := List.findIdx_getElem (p := fun x : Nd => x.c == 0) (w := h)
    simp only [beq_iff_eq] at this
    rw [ndAt_eq h]; exact this
  · rw [ndAt_out (by omega)]; rfl
theorem fr_lo {G : Gs} {i : Nat} (h : G.le ≤ i) (hi : i < fr G) : (ndAt G.ns i).c ≠ 0 := by
  unfold fr at hi
  have h1 : i - G.le < (G.ns.drop G.le).findIdx (fun x => x.c == 0) := by omega
  have := List.not_of_lt_findIdx h1
  have hl := List.findIdx_le_length (p := fun x : Nd => x.c == 0) (xs := G.ns.drop G.le)
  have h2 : i - G.le < (G.ns.drop G.le).length := by omega
  have h3 : ndAt (G.ns.drop G.le) (i - G.le) = ndAt G.ns i := by rw [drop_at]; congr 1; omega
  rw [← h3, ndAt_eq h2]
  simpa using this

theorem node_at {G : Gs} (h : G.le ≤ G.ns.length) (hf : fr G ≠ 65536) (m j : Nat) : ndAt (nodeG G m).ns j = if j = fr G then ⟨3, List.replicate m (-1), 0⟩ else ndAt G.ns j := by
  have hfl := (fr_le h).2
  simp only [nodeG, hf, if_false]
  by_cases e : fr G = G.ns.length
  · rw [if_pos e, ndAt_set (by simp; omega)]
    split
    · rfl
    · rename_i q; rw [ndAt_snoc, if_neg (by omega)]
  · rw [if_neg e, ndAt_set (by omega)]
theorem node_len {G : Gs} (h : G.le ≤ G.ns.length) (hf : fr G ≠ 65536) (m : Nat) : (nodeG G m).ns.length = max G.ns.length (fr G + 1) := by
  have hfl := (fr_le h).2
  simp only [nodeG, hf, if_false]
  by_cases e : fr G = G.ns.length
  · rw [if_pos e]; simp; omega
  · rw [if_neg e]; simp; omega
theorem node_lv {G : Gs} (h : G.le ≤ G.ns.length) (hf : fr G ≠ 65536) (m j : Nat) : lvN (nodeG G m) j ↔ j = fr G ∨ lvN G j := by
  unfold lvN
  rw [node_at h hf]
  split
  · rename_i e; simp [e]
  · rename_i e; simp [e]

theorem iv_nodeG {G : Gs} (h : Iv G) (m : Nat) (hm : m ≤ 8192) : Iv (nodeG G m) := by
  have hfl := fr_le h.le
  by_cases hf : fr G = 65536
  · simp only [nodeG, hf, if_true]
    refine ⟨h.len, h.col, h.sl, h.lo, h.no, h.cl, h.ph, h.idle, h.grey, h.nd, h.tri, h.trg, h.pe, by have := hfl.2; simp; omega, fun i hi => ?_⟩
    by_cases q : i < G.le
    · exact h.les i q
    · exact fr_lo (G := G) (by omega) (by simp at hi; omega)
  · have at_ := node_at h.le hf m
    have lv := node_lv h.le hf m
    have ln := node_len h.le hf m
    have hfr := fr_free (G := G)
    have hx : (nodeG G m).ln = G.ln ∧ (nodeG G m).ph = G.ph ∧ (nodeG G m).pl = G.pl ∧ (nodeG G m).en = G.en ∧ (nodeG G m).le = fr G := by simp [nodeG, hf]
    obtain ⟨x1, x2, x3, x4, x5⟩ := hx
    refine ⟨by have := h.len; omega, ?_, ?_, ?_, ?_, ?_, by rw [x2]; exact h.ph, ?_, ?_, by rw [x1]; exact h.nd, ?_, ?_, ?_, by rw [x5]; omega, ?_⟩
    · intro j; rw [at_]; split
      · simp
      · exact h.col j
    · intro j; rw [at_]; split
      · simpa using hm
      · exact h.sl j
    · intro j; rw [at_]; split
      · exact Nat.zero_le _
      · exact h.lo j
    · intro j; rw [at_]; split
      · intro q; rcases q with q | q <;> simp at q
      · exact h.no j
    · intro j hj y hy
      rw [at_] at hy
      split at hy
      · simp only [List.mem_replicate] at hy; exact .inl hy.2
      · rename_i e
        have hj2 : lvN G j := by rcases (lv j).1 hj with q | q; exact absurd q e; exact q
        rcases h.cl j hj2 y hy with q | q
        · exact .inl q
        · right; rw [lvB_iff] at q ⊢; exact ⟨q.1, (lv _).2 (.inr q.2)⟩
    · rw [x1, x2]
      intro q
      refine ⟨(h.idle q).1, fun j => ?_⟩
      rw [at_]; split
      · exact ⟨by simp, by simp⟩
      · exact (h.idle q).2 j
    · intro j; rw [x1, at_]; split
      · rename_i e; rw [← h.grey j, e, hfr]; simp
      · exact h.grey j
    · intro j; rw [at_]; split
      · intro _ y hy; simp only [List.mem_replicate] at hy; exact .inl hy.2
      · intro q y hy
        rcases h.tri j q y hy with r | r
        · exact .inl r
        · right; rw [at_]; split
          · simp
          · exact r
    · intro j; rw [at_]; split
      · intro q; simp at q
      · intro q y hy
        rcases h.trg j q y hy with r | r
        · exact .inl r
        · right; rw [at_]; split
          · simp
          · exact r
    · rw [x2, x3, x4]; intro q; have := h.pe q; omega
    · intro j hj; rw [at_]; split
      · simp
      · by_cases q : j < G.le
        · exact h.les j q
        · exact fr_lo (by omega) (by omega)

theorem iv_node {G : Gs} (h : Iv G) (x : Int) : Iv (node G x).1 := by
  unfold node
  split
  · exact h
  · split <;> exact iv_nodeG h _ (by omega)

/-! ### Set, Shade, Start -/

theorem iv_setG {G : Gs} (h : Iv G) (n j : Nat) (x : Int) (hn : lvN G n) (hx : x = -1 ∨ lvB G x = true) : Iv (setG G n j x) := by
  have h2 : Iv (sh (sh G ((ndAt G.ns n).s.getD j 0)) x) := iv_sh (iv_sh h _) _
  have hx2 : x = -1 ∨ (ndAt (sh (sh G ((ndAt G.ns n).s.getD j 0)) x).ns x.toNat).c ≠ 1 := sh_c x (by rcases hx with q | q; exact .inl q; exact .inr (lvB_iff.1 q).1)
  have hn2 : lvN (sh (sh G ((ndAt G.ns n).s.getD j 0)) x) n := (sh_lv _ _ _).2 ((sh_lv _ _ _).2 hn)
  have hx3 : x = -1 ∨ lvB (sh (sh G ((ndAt G.ns n).s.getD j 0)) x) x = true := by rw [sh_lvB, sh_lvB]; exact hx
  unfold setG putS
  generalize sh (sh G ((ndAt G.ns n).s.getD j 0)) x = H at *
  have hl := lvN_lt hn2
  have at_ : ∀ i, ndAt (H.ns.set n ⟨(ndAt H.ns n).c, (ndAt H.ns n).s.set j x, (ndAt H.ns n).k⟩) i = if i = n then ⟨(ndAt H.ns n).c, (ndAt H.ns n).s.set j x, (ndAt H.ns n).k⟩ else ndAt H.ns i := fun i => ndAt_set hl
  have atc : ∀ i, (ndAt (H.ns.set n ⟨(ndAt H.ns n).c, (ndAt H.ns n).s.set j x, (ndAt H.ns n).k⟩) i).c = (ndAt H.ns i).c := fun i => by rw [at_]; by_cases e : i = n <;> simp [e]
  have atk : ∀ i, (ndAt (H.ns.set n ⟨(ndAt H.ns n).c, (ndAt H.ns n).s.set j x, (ndAt H.ns n).k⟩) i).k = (ndAt H.ns i).k := fun i => by rw [at_]; by_cases e : i = n <;> simp [e]
  have atl : ∀ i, (ndAt (H.ns.set n ⟨(ndAt H.ns n).c, (ndAt H.ns n).s.set j x, (ndAt H.ns n).k⟩) i).s.length = (ndAt H.ns i).s.length := fun i => by rw [at_]; by_cases e : i = n <;> simp [e]
  have lv : ∀ i, lvN { H with ns := H.ns.set n ⟨(ndAt H.ns n).c, (ndAt H.ns n).s.set j x, (ndAt H.ns n).k⟩ } i ↔ lvN H i := fun i => by unfold lvN; simp only [atc]
  have lvb : ∀ y, lvB { H with ns := H.ns.set n ⟨(ndAt H.ns n).c, (ndAt H.ns n).s.set j x, (ndAt H.ns n).k⟩ } y = lvB H y := fun y => by simp only [lvB, lv]
  refine ⟨by simpa using h2.len, fun i => by rw [atc]; exact h2.col i, fun i => by rw [atl]; exact h2.sl i, fun i => by rw [atl, atk]; exact h2.lo i, ?_, ?_, h2.ph, ?_, fun i => by rw [atc]; exact h2.grey i, h2.nd, ?_, ?_, by simpa using h2.pe, by simpa using h2.le, fun i hi => by rw [atc]; exact h2.les i hi⟩
  · intro i hi
    rw [atc] at hi
    have := h2.no i hi
    have hl0 := atl i
    rw [this] at hl0
    exact List.length_eq_zero_iff.1 hl0
  · intro i hi y hy
    rw [lvb]
    have hi2 := (lv i).1 hi
    simp only [at_] at hy
    split at hy
    · rename_i e
      rw [e] at hi2
      rcases List.mem_or_eq_of_mem_set hy with q | q
      · exact h2.cl n hi2 y q
      · rw [q]; exact hx3
    · exact h2.cl i hi2 y hy
  · intro q
    exact ⟨(h2.idle q).1, fun i => by rw [atc]; exact (h2.idle q).2 i⟩
  · intro i hi y hy
    rw [atc] at hi
    simp only [atc]
    simp only [at_] at hy
    split at hy
    · rename_i e
      rw [e] at hi
      rcases List.mem_or_eq_of_mem_set hy with q | q
      · exact h2.tri n hi y q
      · rw [q]; exact hx2
    · exact h2.tri i hi y hy
  · intro i hi y hy
    rw [atc] at hi
    simp only [atc]
    rw [atk] at hy
    simp only [at_] at hy
    split at hy
    · rename_i e
      rw [e] at hi hy
      rw [List.take_set] at hy
      rcases List.mem_or_eq_of_mem_set hy with q | q
      · exact h2.trg n hi y q
      · rw [q]; exact hx2
    · exact h2.trg i hi y hy

theorem iv_set {G : Gs} (h : Iv G) (n j x : Int) : Iv (set G n j x).1 := by
  unfold set
  split
  · exact h
  · split
    · exact h
    · split
      · exact h
      · rename_i h1 h2 h3
        simp only [Bool.not_eq_false] at h1
        refine iv_setG h _ _ _ (lvB_iff.1 h1).2 ?_
        by_cases q : x = -1
        · exact .inl q
        · right
          simp only [ne_eq, q, not_false_eq_true, true_and, Bool.not_eq_false] at h2
          exact h2
theorem iv_shade {G : Gs} (h : Iv G) (n : Int) : Iv (shade G n).1 := by
  unfold shade
  split
  · exact h
  · exact iv_sh h _

theorem wh_c (x : Nd) : (wh x).c = if x.c ≠ 0 ∧ x.c ≠ 4 then 1 else x.c := by unfold wh; split <;> rfl
theorem wh_s (x : Nd) : (wh x).s = x.s ∧ (wh x).k = x.k := by unfold wh; split <;> exact ⟨rfl, rfl⟩
theorem wh_at (l : List Nd) (i : Nat) : ndAt (l.map wh) i = wh (ndAt l i) := by
  by_cases h : i < l.length
  · exact ndAt_map h
  · rw [ndAt_out (by simp; omega), ndAt_out (by omega)]; rfl
theorem wh_lv {G : Gs} (i : Nat) : lvN { G with ph := 1, ns := G.ns.map wh } i ↔ lvN G i := by
  unfold lvN
  simp only [wh_at]
  unfold wh
  split
  · rename_i h; simp [h]
  · exact Iff.rfl

/-- All live nodes white. -/
def begin (G : Gs) : Gs := { G with ph := 1, ns := G.ns.map wh }
theorem iv_begin {G : Gs} (h : Iv G) (h0 : G.ph = 0) : Iv (begin G) := by
  have hid := h.idle (by omega)
  have lvb : ∀ y, lvB (begin G) y = lvB G y := fun y => by simp only [lvB, begin, wh_lv]
  have nc : ∀ i, (wh (ndAt G.ns i)).c ≠ 2 ∧ (wh (ndAt G.ns i)).c ≠ 3 := fun i => by
    unfold wh
    split
    · exact ⟨by simp, by simp⟩
    · rename_i q
      have := h.col i
      omega
  refine ⟨by simpa [begin] using h.len, ?_, ?_, ?_, ?_, ?_, by simp [begin], by simp [begin], ?_, h.nd, ?_, ?_, by simp [begin], by simpa [begin] using h.le, ?_⟩
  · intro i; simp only [begin, wh_at]; rw [wh_c]; split; decide; exact h.col i
  · intro i; simp only [begin, wh_at, wh_s]; exact h.sl i
  · intro i; simp only [begin, wh_at, wh_s]; exact h.lo i
  · intro i; simp only [begin, wh_at, wh_s]; intro q
    refine h.no i ?_
    rw [wh_c] at q
    split at q
    · rcases q with q | q <;> simp at q
    · exact q
  · intro i hi y hy
    rw [lvb]
    simp only [begin, wh_at, wh_s] at hy
    exact h.cl i (wh_lv i |>.1 hi) y hy
  · intro i; simp only [begin, wh_at]; rw [hid.1]; simp [(nc i).1]
  · intro i hi; simp only [begin, wh_at] at hi; exact absurd hi (nc i).2
  · intro i hi; simp only [begin, wh_at] at hi; exact absurd hi (nc i).1
  · intro i hi; simp only [begin, wh_at]; rw [wh_c]
    have := h.les i hi
    split
    · decide
    · exact this
theorem iv_start {G : Gs} (h : Iv G) (R : List Int) : Iv (start G R).1 := by
  unfold start
  split
  · exact h
  · split
    · exact h
    · rename_i h1 _
      simp only [ne_eq, Decidable.not_not] at h1
      exact iv_shs R (iv_begin h h1)

/-! ### Work -/

theorem die_at (l : List Nd) (i : Nat) : ndAt (l.map die) i = die (ndAt l i) := by
  by_cases h : i < l.length
  · exact ndAt_map h
  · rw [ndAt_out (by simp; omega), ndAt_out (by omega)]; rfl

/-- A grey node has been looked at once more. -/
def bump (G : Gs) (x : Nat) : Gs := { G with ns := G.ns.set x ⟨(ndAt G.ns x).c, (ndAt G.ns x).s, (ndAt G.ns x).k + 1⟩ }
theorem sh_bump {G : Gs} {x : Nat} (hx : (ndAt G.ns x).c = 2) (y : Int) : sh (bump G x) y = bump (sh G y) x := by
  have hl : x < G.ns.length := lvN_lt (G := G) ⟨by rw [hx]; decide, by rw [hx]; decide⟩
  unfold sh
  split
  · rfl
  · unfold shN bump
    simp only
    rw [ndAt_set hl]
    by_cases e : y.toNat = x
    · rw [if_pos e]
      simp [e, hx]
    · rw [if_neg e]
      split
      · simp only
        rename_i h1
        have hl2 : y.toNat < G.ns.length := lvN_lt (G := G) ⟨by rw [h1]; decide, by rw [h1]; decide⟩
        rw [ndAt_set hl2, if_neg (Ne.symm e), List.set_comm _ _ (Ne.symm e)]
      · rfl
theorem mark_look {G : Gs} {x : Nat} {t : List Nat} (h : Iv G) (hl : G.ln = x :: t) (hk : (ndAt G.ns x).k ≠ (ndAt G.ns x).s.length) : mark G = bump (sh G ((ndAt G.ns x).s.getD (ndAt G.ns x).k 0)) x := by
  have hx := (h.grey x).2 (by simp [hl])
  rw [← sh_bump hx]
  simp only [mark, hl, hk, if_false, bump]

theorem iv_bump {G : Gs} (h : Iv G) (x : Nat) (hx : (ndAt G.ns x).c = 2) (hk : (ndAt G.ns x).k < (ndAt G.ns x).s.length) (hw : (ndAt G.ns x).s.getD (ndAt G.ns x).k 0 = -1 ∨ (ndAt G.ns ((ndAt G.ns x).s.getD (ndAt G.ns x).k 0).toNat).c ≠ 1) : Iv (bump G x) := by
  have hl : x < G.ns.length := lvN_lt (G := G) ⟨by rw [hx]; decide, by rw [hx]; decide⟩
  have at_ : ∀ i, ndAt (bump G x).ns i = if i = x then ⟨(ndAt G.ns x).c, (ndAt G.ns x).s, (ndAt G.ns x).k + 1⟩ else ndAt G.ns i := fun i => ndAt_set hl
  have atc : ∀ i, (ndAt (bump G x).ns i).c = (ndAt G.ns i).c := fun i => by rw [at_]; by_cases e : i = x <;> simp [e]
  have ats : ∀ i, (ndAt (bump G x).ns i).s = (ndAt G.ns i).s := fun i => by rw [at_]; by_cases e : i = x <;> simp [e]
  have lv : ∀ i, lvN (bump G x) i ↔ lvN G i := fun i => by unfold lvN; simp only [atc]
  have lvb : ∀ y, lvB (bump G x) y = lvB G y := fun y => by simp only [lvB, lv]
  refine ⟨by simpa [bump] using h.len, fun i => by rw [atc]; exact h.col i, fun i => by rw [ats]; exact h.sl i, ?_, fun i => by rw [atc, ats]; exact h.no i, fun i hi y hy => by rw [lvb]; rw [ats] at hy; exact h.cl i ((lv i).1 hi) y hy, h.ph, fun q => ⟨(h.idle q).1, fun i => by rw [atc]; exact (h.idle q).2 i⟩, fun i => by rw [atc]; exact h.grey i, h.nd, ?_, ?_, by simpa [bump] using h.pe, by simpa [bump] using h.le, fun i hi => by rw [atc]; exact h.les i hi⟩
  · intro i
    rw [ats, at_]
    split
    · rename_i e; rw [e]; exact hk
    · exact h.lo i
  · intro i hi y hy
    rw [atc] at hi ⊢; rw [ats] at hy
    exact h.tri i hi y hy
  · intro i hi y hy
    rw [atc] at hi ⊢
    rw [ats, at_] at hy
    split at hy
    · rename_i e
      rw [e] at hi hy
      simp only at hy
      rw [List.take_add_one] at hy
      rcases List.mem_append.1 hy with q | q
      · exact h.trg x hi y q
      · rw [List.getElem?_eq_getElem hk] at q
        simp at q
        have : (ndAt G.ns x).s.getD (ndAt G.ns x).k 0 = y := by simp [List.getD, hk, q]
        rw [this] at hw
        exact hw
    · exact h.trg i hi y hy

theorem iv_mark {G : Gs} (h : Iv G) (h1 : G.ph = 1) : Iv (mark G) := by
  cases hl : G.ln with
  | nil =>
    have hg : ∀ i, (ndAt G.ns i).c ≠ 2 := fun i q => by have := (h.grey i).1 q; rw [hl] at this; cases this
    simp only [mark, hl]
    have dc : ∀ i, (die (ndAt G.ns i)).c = if (ndAt G.ns i).c = 1 then 4 else (ndAt G.ns i).c := fun i => by unfold die; split <;> rfl
    have lv : ∀ i, lvN { G with ns := G.ns.map die, ln := [], ph := 2, pl := 0, en := G.ns.length } i ↔ (ndAt G.ns i).c = 3 := fun i => by
      unfold lvN
      simp only [die_at, dc]
      have := h.col i
      have := hg i
      split <;> omega
    refine ⟨by simpa using h.len, ?_, ?_, ?_, ?_, ?_, by simp, ?_, ?_, by simp, ?_, ?_, by simp, by simpa using h.le, ?_⟩
    · intro i; simp only [die_at, dc]; split; decide; exact h.col i
    · intro i; simp only [die_at]; unfold die; split; simp; exact h.sl i
    · intro i; simp only [die_at]; unfold die; split; simp; exact h.lo i
    · intro i; simp only [die_at]; unfold die; split; simp; exact h.no i
    · intro i hi y hy
      have h3 := (lv i).1 hi
      simp only [die_at] at hy
      unfold die at hy
      rw [if_neg (by omega)] at hy
      rcases h.tri i h3 y hy with q | q
      · exact .inl q
      · rcases h.cl i ⟨by omega, by omega⟩ y hy with r | r
        · exact .inl r
        · right
          rw [lvB_iff] at r ⊢
          refine ⟨r.1, (lv _).2 ?_⟩
          have := h.col y.toNat
          have := hg y.toNat
          have := r.2.1
          have := r.2.2
          omega
    · intro _
      refine ⟨rfl, fun i => ?_⟩
      simp only [die_at, dc]
      have := hg i
      split <;> omega
    · intro i
      simp only [die_at, dc]
      have := hg i
      split <;> simp <;> omega
    · intro i hi y hy
      simp only [die_at, dc] at hi ⊢
      right
      split <;> omega
    · intro i hi
      simp only [die_at, dc] at hi
      have := hg i
      split at hi <;> omega
    · intro i hi
      simp only [die_at, dc]
      have := h.les i hi
      split <;> omega
  | cons x t =>
    have hx := (h.grey x).2 (by simp [hl])
    have hxl : x < G.ns.length := lvN_lt (G := G) ⟨by rw [hx]; decide, by rw [hx]; decide⟩
    have hnd := h.nd
    rw [hl] at hnd
    have hxt : x ∉ t := (List.nodup_cons.1 hnd).1
    by_cases hk : (ndAt G.ns x).k = (ndAt G.ns x).s.length
    · have hmk : mark G = { G with ns := G.ns.set x ⟨3, (ndAt G.ns x).s, (ndAt G.ns x).k⟩, ln := t } := by simp only [mark, hl, if_pos hk]
      rw [hmk]
      have at_ : ∀ i, ndAt (G.ns.set x ⟨3, (ndAt G.ns x).s, (ndAt G.ns x).k⟩) i = if i = x then ⟨3, (ndAt G.ns x).s, (ndAt G.ns x).k⟩ else ndAt G.ns i := fun i => ndAt_set hxl
      have ats : ∀ i, (ndAt (G.ns.set x ⟨3, (ndAt G.ns x).s, (ndAt G.ns x).k⟩) i).s = (ndAt G.ns i).s := fun i => by rw [at_]; by_cases e : i = x <;> simp [e]
      have atk : ∀ i, (ndAt (G.ns.set x ⟨3, (ndAt G.ns x).s, (ndAt G.ns x).k⟩) i).k = (ndAt G.ns i).k := fun i => by rw [at_]; by_cases e : i = x <;> simp [e]
      have atc : ∀ i, (ndAt (G.ns.set x ⟨3, (ndAt G.ns x).s, (ndAt G.ns x).k⟩) i).c = if i = x then 3 else (ndAt G.ns i).c := fun i => by rw [at_]; split <;> rfl
      have lv : ∀ i, lvN { G with ns := G.ns.set x ⟨3, (ndAt G.ns x).s, (ndAt G.ns x).k⟩, ln := t } i ↔ lvN G i := fun i => by
        unfold lvN; simp only [atc]; split
        · rename_i e; rw [e, hx]; simp
        · exact Iff.rfl
      have lvb : ∀ y, lvB { G with ns := G.ns.set x ⟨3, (ndAt G.ns x).s, (ndAt G.ns x).k⟩, ln := t } y = lvB G y := fun y => by simp only [lvB, lv]
      have nw : ∀ y : Int, (ndAt G.ns y.toNat).c ≠ 1 → (if y.toNat = x then 3 else (ndAt G.ns y.toNat).c) ≠ 1 := fun y q => by split; decide; exact q
      refine ⟨by simpa using h.len, ?_, fun i => by rw [ats]; exact h.sl i, fun i => by rw [ats, atk]; exact h.lo i, ?_, fun i hi y hy => by rw [lvb]; rw [ats] at hy; exact h.cl i ((lv i).1 hi) y hy, h.ph, fun q => absurd h1 q, ?_, (List.nodup_cons.1 hnd).2, ?_, ?_, by simpa using h.pe, by simpa using h.le, ?_⟩
      · intro i; rw [atc]; split; decide; exact h.col i
      · intro i; rw [atc, ats]; split
        · intro q; rcases q with q | q <;> simp at q
        · exact h.no i
      · intro i; rw [atc]; split
        · rename_i e; rw [e]; simp [hxt]
        · rename_i e; rw [h.grey i, hl]; simp [e]
      · intro i hi y hy
        rw [ats] at hy
        simp only [atc] at hi ⊢
        split at hi
        · rename_i e
          rw [e] at hy
          rcases h.trg x hx y (by rw [hk, List.take_length]; exact hy) with q | q
          · exact .inl q
          · exact .inr (nw y q)
        · rcases h.tri i hi y hy with q | q
          · exact .inl q
          · exact .inr (nw y q)
      · intro i hi y hy
        rw [ats, atk] at hy
        simp only [atc] at hi ⊢
        split at hi
        · simp at hi
        · rcases h.trg i hi y hy with q | q
          · exact .inl q
          · exact .inr (nw y q)
      · intro i hi; rw [atc]; split; decide; exact h.les i hi
    · rw [mark_look h hl hk]
      have hlo := h.lo x
      have h2 := iv_sh h ((ndAt G.ns x).s.getD (ndAt G.ns x).k 0)
      have hnx := sh_nw G ((ndAt G.ns x).s.getD (ndAt G.ns x).k 0) x (by omega)
      have hkl : (ndAt G.ns x).k < (ndAt G.ns x).s.length := by omega
      have hm : (ndAt G.ns x).s.getD (ndAt G.ns x).k 0 ∈ (ndAt G.ns x).s := by simp [List.getD, hkl]
      refine iv_bump h2 x (by rw [hnx]; exact hx) (by rw [hnx]; exact hkl) ?_
      rw [hnx]
      refine sh_c _ ?_
      rcases h.cl x ⟨by omega, by omega⟩ _ hm with q | q
      · exact .inl q
      · exact .inr (lvB_iff.1 q).1

theorem iv_sweep {G : Gs} (h : Iv G) (h2 : G.ph = 2) : Iv (sweep G).1 := by
  have hid := h.idle (by omega)
  have hpe := h.pe h2
  unfold sweep
  split
  · exact ⟨h.len, h.col, h.sl, h.lo, h.no, h.cl, by simp, fun _ => hid, h.grey, h.nd, h.tri, h.trg, by simp, h.le, h.les⟩
  · rename_i hne
    split
    · rename_i h4
      have hl : G.pl < G.ns.length := by omega
      have at_ : ∀ i, ndAt (G.ns.set G.pl nz) i = if i = G.pl then nz else ndAt G.ns i := fun i => ndAt_set hl
      have lv : ∀ i, lvN { G with ns := G.ns.set G.pl nz, le := min G.le G.pl, pl := G.pl + 1 } i ↔ lvN G i := fun i => by
        unfold lvN; simp only [at_]; split
        · rename_i e; rw [e, h4]; simp [nz]
        · exact Iff.rfl
      have lvb : ∀ y, lvB { G with ns := G.ns.set G.pl nz, le := min G.le G.pl, pl := G.pl + 1 } y = lvB G y := fun y => by simp only [lvB, lv]
      refine ⟨by simpa using h.len, ?_, ?_, ?_, ?_, ?_, h.ph, ?_, ?_, h.nd, ?_, ?_, ?_, ?_, ?_⟩
      · intro i; simp only [at_]; split; decide; exact h.col i
      · intro i; simp only [at_]; split; simp [nz]; exact h.sl i
      · intro i; simp only [at_]; split; simp [nz]; exact h.lo i
      · intro i; simp only [at_]; split; simp [nz]; exact h.no i
      · intro i hi y hy
        rw [lvb]
        simp only [at_] at hy
        split at hy
        · simp [nz] at hy
        · exact h.cl i ((lv i).1 hi) y hy
      · intro _; refine ⟨hid.1, fun i => ?_⟩; simp only [at_]; split; exact ⟨by decide, by decide⟩; exact hid.2 i
      · intro i; simp only [at_]; split
        · rename_i e; rw [e, ← h.grey, h4]; simp [nz]
        · exact h.grey i
      · intro i; simp only [at_]; split
        · intro q; simp [nz] at q
        · intro q y hy
          right; split; decide; exact (hid.2 _).1
      · intro i; simp only [at_]; split
        · intro q; simp [nz] at q
        · intro q y hy
          right; split; decide; exact (hid.2 _).1
      · intro _; simp; omega
      · have := h.le; simp; omega
      · intro i hi; simp only [at_]; simp only at hi
        have := h.les i (by omega)
        rw [if_neg (by omega)]; exact this
    · exact ⟨h.len, h.col, h.sl, h.lo, h.no, h.cl, h.ph, h.idle, h.grey, h.nd, h.tri, h.trg, fun _ => by simp; omega, h.le, h.les⟩

theorem iv_unit {G : Gs} (h : Iv G) (h0 : G.ph ≠ 0) : Iv (unit G).1 := by
  unfold unit
  split
  · exact iv_mark h ‹_›
  · exact iv_sweep h (by have := h.ph; omega)
theorem iv_work : ∀ (u : Nat) {G : Gs}, Iv G → Iv (work u G).2.2
  | 0, _, h => h
  | u + 1, G, h => by
    by_cases q : G.ph = 0
    · rw [work_idle q]; exact h
    · simp only [work, q, if_false]; exact iv_work u (iv_unit h q)

end Go.Proofs.YtjbbomokgpoilaaGreatDoor.Co

/-
  How much work a cycle takes, scripts, and what a graph comes to; no statement is proved here.
-/
namespace Go.Proofs.YtjbbomokgpoilaaGreatDoor.Co

/-- The units that a node still takes. -/
def cost (x : Nd) : Nat := if x.c = 1 then x.s.length + 1 else if x.c = 2 then x.s.length - x.k + 1 else 0
def costs (l : List Nd) : Nat := (l.map cost).sum
theorem costs_set : ∀ (l : List Nd) (i : Nat) (y : Nd), i < l.length → costs (l.set i y) + cost (ndAt l i) = costs l + cost y
  | [], _, _, h => by simp at h
  | x :: l, 0, y, _ => by simp [costs, ndAt]; omega
  | x :: l, i + 1, y, h => by
    have := costs_set l i y (by simpa using h)
    simp only [costs, List.set_cons_succ, List.map_cons, List.sum_cons] at this ⊢
    rw [show ndAt (x :: l) (i + 1) = ndAt l i by simp [ndAt]]
    omega
theorem costs_snoc (l : List Nd) (y : Nd) : costs (l ++ [y]) = costs l + cost y := by simp [costs]
theorem sh_costs (G : Gs) (x : Int) : costs (sh G x).ns = costs G.ns := by
  unfold sh
  split
  · rfl
  · unfold shN
    split
    · rename_i h1
      have hl : x.toNat < G.ns.length := lvN_lt (G := G) ⟨by rw [h1]; decide, by rw [h1]; decide⟩
      have := costs_set G.ns x.toNat ⟨2, (ndAt G.ns x.toNat).s, 0⟩ hl
      simp only
      rw [show cost (ndAt G.ns x.toNat) = (ndAt G.ns x.toNat).s.length + 1 by simp [cost, h1], show cost ⟨2, (ndAt G.ns x.toNat).s, 0⟩ = (ndAt G.ns x.toNat).s.length + 1 by simp [cost]] at this
      omega
    · rfl

/-- The units that a cycle still takes, at most. -/
def mu (G : Gs) : Nat := if G.ph = 0 then 0 else if G.ph = 1 then costs G.ns + G.ns.length + 2 else G.en - G.pl + 1

theorem mu_unit {G : Gs} (h : Iv G) (h0 : G.ph ≠ 0) : mu (unit G).1 + 1 ≤ mu G := by
  by_cases h1 : G.ph = 1
  · have hmu : mu G = costs G.ns + G.ns.length + 2 := by simp [mu, h1]
    have hu : (unit G).1 = mark G := by simp only [unit, h1, if_true]
    rw [hmu, hu]
    cases hl : G.ln with
    | nil =>
      have : mark G = { G with ns := G.ns.map die, ln := [], ph := 2, pl := 0, en := G.ns.length } := by simp only [mark, hl]
      rw [this]
      simp only [mu]
      simp
    | cons x t =>
      have hx := (h.grey x).2 (by simp [hl])
      have hxl : x < G.ns.length := lvN_lt (G := G) ⟨by rw [hx]; decide, by rw [hx]; decide⟩
      have hlo := h.lo x
      by_cases hk : (ndAt G.ns x).k = (ndAt G.ns x).s.length
      · have : mark G = { G with ns := G.ns.set x ⟨3, (ndAt G.ns x).s, (ndAt G.ns x).k⟩, ln := t } := by simp only [mark, hl, if_pos hk]
        rw [this]
        simp only [mu, h1, List.length_set]
        have hc := costs_set G.ns x ⟨3, (ndAt G.ns x).s, (ndAt G.ns x).k⟩ hxl
        rw [show cost (ndAt G.ns x) = 1 by simp [cost, hx, hk], show cost ⟨3, (ndAt G.ns x).s, (ndAt G.ns x).k⟩ = 0 by simp [cost]] at hc
        simp
        omega
      · rw [mark_look h hl hk]
        generalize (ndAt G.ns x).s.getD (ndAt G.ns x).k 0 = y
        have hnx := sh_nw G y x (by omega)
        have hph := (sh_fix G y).2.1
        have hln := sh_len G y
        have hcs := sh_costs G y
        have hc := costs_set (sh G y).ns x ⟨(ndAt G.ns x).c, (ndAt G.ns x).s, (ndAt G.ns x).k + 1⟩ (by rw [hln]; exact hxl)
        rw [hnx, show cost (ndAt G.ns x) = (ndAt G.ns x).s.length - (ndAt G.ns x).k + 1 by simp [cost, hx], show cost ⟨(ndAt G.ns x).c, (ndAt G.ns x).s, (ndAt G.ns x).k + 1⟩ = (ndAt G.ns x).s.length - ((ndAt G.ns x).k + 1) + 1 by simp [cost, hx]] at hc
        simp only [mu, bump, hnx, hph, h1, List.length_set, hln]
        simp
        omega
  · have h2 : G.ph = 2 := by have := h.ph; omega
    have hpe := h.pe h2
    have hmu : mu G = G.en - G.pl + 1 := by simp [mu, h2]
    have hu : (unit G).1 = (sweep G).1 := by simp only [unit, h1, if_false]
    rw [hmu, hu]
    unfold sweep
    split
    · simp [mu]
    · split
      · simp [mu, h2]; omega
      · simp [mu, h2]; omega

theorem mu_zero {G : Gs} (h : mu G = 0) : G.ph = 0 := by
  unfold mu at h
  split at h
  · assumption
  · split at h <;> omega

/-- A cycle ends with as much work. -/
theorem work_ends : ∀ (u : Nat) {G : Gs}, Iv G → mu G ≤ u → (work u G).2.2.ph = 0 ∧ u - mu G ≤ (work u G).1
  | 0, G, _, hu => by simp only [work]; exact ⟨mu_zero (by omega), by omega⟩
  | u + 1, G, h, hu => by
    by_cases q : G.ph = 0
    · rw [work_idle q]; exact ⟨q, by simp⟩
    · simp only [work, q, if_false]
      have h1 := mu_unit h q
      have := work_ends u (iv_unit h q) (by omega)
      exact ⟨this.1, by omega⟩

theorem costs_le {l : List Nd} (h : ∀ x ∈ l, x.s.length ≤ 8192) : costs l ≤ l.length * 8193 := by
  induction l with
  | nil => simp [costs]
  | cons x l ih =>
    have h1 := ih (fun y hy => h y (by simp [hy]))
    have h2 := h x (by simp)
    have h3 : cost x ≤ 8193 := by unfold cost; split; omega; split <;> omega
    simp only [costs, List.map_cons, List.sum_cons, List.length_cons] at h1 ⊢
    omega
theorem mem_at {l : List Nd} {x : Nd} (h : x ∈ l) : ∃ i, i < l.length ∧ ndAt l i = x := by
  obtain ⟨i, hi, e⟩ := List.getElem_of_mem h
  exact ⟨i, hi, by simp [ndAt, List.getD, hi, e]⟩
theorem mu_le {G : Gs} (h : Iv G) : mu G ≤ 600000000 := by
  have hl := h.len
  have h1 := costs_le (l := G.ns) (fun x hx => by obtain ⟨i, _, rfl⟩ := mem_at hx; exact h.sl i)
  have h2 : G.ns.length * 8193 ≤ 65536 * 8193 := Nat.mul_le_mul_right _ hl
  unfold mu
  split
  · omega
  · split
    · omega
    · have := h.ph
      have := h.pe (by omega)
      omega

/-- Where a graph comes to when all work is done. -/
def Fin (G G' : Gs) : Prop := G'.ph = 0 ∧ ∃ u, G' = (work u G).2.2
theorem work_more {G : Gs} {u v : Nat} (h : (work u G).2.2.ph = 0) (hv : u ≤ v) : (work v G).2.2 = (work u G).2.2 ∧ (work v G).2.1 = (work u G).2.1 := by
  obtain ⟨k, rfl⟩ : ∃ k, v = u + k := ⟨v - u, by omega⟩
  rw [work_add, work_idle h]
  simp
theorem Fin.det {G A B : Gs} (h : Fin G A) (k : Fin G B) : A = B := by
  obtain ⟨h0, u, rfl⟩ := h
  obtain ⟨k0, v, rfl⟩ := k
  rcases Nat.le_total u v with q | q
  · exact (work_more h0 q).1.symm
  · exact (work_more k0 q).1
theorem Fin.iv {G A : Gs} (h : Fin G A) (hI : Iv G) : Iv A := by
  obtain ⟨_, u, rfl⟩ := h
  exact iv_work u hI
theorem Fin.idle {G : Gs} (h : G.ph = 0) : Fin G G := ⟨h, 0, rfl⟩
theorem Fin.of_ge {G : Gs} (h : Iv G) {u : Nat} (hu : 600000000 ≤ u) : Fin G (work u G).2.2 := ⟨(work_ends u h (Nat.le_trans (mu_le h) hu)).1, u, rfl⟩

theorem unit_cy (G : Gs) : (unit G).1.cy = G.cy ∨ ((unit G).1.cy = G.cy + 1 ∧ (unit G).1.ph = 0) := by
  unfold unit
  split
  · left
    unfold mark
    split
    · rfl
    · split
      · rfl
      · exact (sh_fix _ _).2.2.1
  · unfold sweep
    split
    · right; exact ⟨rfl, rfl⟩
    · left; split <;> rfl
theorem work_cy : ∀ (u : Nat) (G : Gs), (work u G).2.2.cy ≤ G.cy + 1
  | 0, G => by simp [work]
  | u + 1, G => by
    by_cases h : G.ph = 0
    · rw [work_idle h]; exact Nat.le_succ _
    · simp only [work, h, if_false]
      rcases unit_cy G with q | ⟨q, r⟩
      · have := work_cy u (unit G).1; omega
      · rw [work_idle r]; simp only; omega
theorem shs_cy (R : List Int) : ∀ G : Gs, (R.foldl sh G).cy = G.cy := by
  induction R with
  | nil => intro G; rfl
  | cons x R ih => intro G; simp only [List.foldl_cons]; rw [ih, (sh_fix G x).2.2.1]
theorem node_cy (G : Gs) (x : Int) : (node G x).1.cy = G.cy := by
  unfold node nodeG
  split
  · rfl
  · split <;> first | rfl | (split <;> rfl)
theorem set_cy (G : Gs) (n j x : Int) : (set G n j x).1.cy = G.cy := by
  unfold set
  split
  · rfl
  · split
    · rfl
    · split
      · rfl
      · simp only [setG, putS, (sh_fix _ _).2.2.1]
theorem shade_cy (G : Gs) (n : Int) : (shade G n).1.cy = G.cy := by
  unfold shade
  split
  · rfl
  · exact (sh_fix _ _).2.2.1
theorem start_cy (G : Gs) (R : List Int) : (start G R).1.cy = G.cy := by
  unfold start
  split
  · rfl
  · split
    · rfl
    · simp only [shs_cy]
theorem work_cyc : ∀ (u : Nat) {G : Gs}, G.ph ≠ 0 → (work u G).2.2.ph = 0 → (work u G).2.2.cy = G.cy + 1
  | 0, G, h, k => absurd k h
  | u + 1, G, h, k => by
    simp only [work, h, if_false] at k ⊢
    by_cases q : (unit G).1.ph = 0
    · rw [work_idle q]
      rcases unit_cy G with r | r
      · exfalso
        have hm : ∀ H : Gs, H.ph ≠ 0 → (unit H).1.ph = 0 → (unit H).1.cy = H.cy + 1 := fun H h1 h2 => by
          unfold unit at h2 ⊢
          split at h2
          · exfalso
            unfold mark at h2
            split at h2
            · simp at h2
            · split at h2
              · exact h1 h2
              · rw [(sh_fix _ _).2.1] at h2; exact h1 h2
          · rename_i h3
            rw [if_neg h3]
            unfold sweep at h2 ⊢
            split at h2
            · rename_i h4; rw [if_pos h4]
            · split at h2 <;> exact absurd h2 h1
        have := hm G h q
        omega
      · exact r.1
    · have := work_cyc u q k
      rcases unit_cy G with r | r
      · omega
      · exact absurd r.2 q

end Go.Proofs.YtjbbomokgpoilaaGreatDoor.Co

/-
  Worlds, slices of one's own, lists of numbers and nets as they lie in memory; no statement is proved here.
-/
namespace Go.Proofs.YtjbbomokgpoilaaGreatDoor.Co
open Go.RowKit

/-! ### contracts met in a walk -/

/-- A callee that answers v and leaves the world as it is. -/
theorem met {P : Program} {f : FuncId} {args : Array Value} {w : World} {v : Value} {K : Ending → World → Prop} (h : Calls P f args w fun e w' => e = .returned v ∧ w' = w) (hK : K (.returned v) w) : Calls P f args w K :=
  h.mono (by rintro _ _ ⟨rfl, rfl⟩; exact hK)

theorem hid {p : Prop} (h : p) : Hid p := h

/-! ### worlds -/

/-- The world w' is as w was but for the blocks of S and for what is new. -/
structure Ext (S : List Nat) (w w' : World) : Prop where
  os : w'.os = w.os
  tape : w'.tape = w.tape
  output : w'.output = w.output
  size : w.heap.size ≤ w'.heap.size
  block : ∀ k, k < w.heap.size → k ∉ S → w'.heap[k]? = w.heap[k]?

theorem Ext.refl (S : List Nat) (w : World) : Ext S w w := ⟨rfl, rfl, rfl, Nat.le_refl _, fun _ _ _ => rfl⟩
theorem Ext.trans {S : List Nat} {a b c : World} (h : Ext S a b) (k : Ext S b c) : Ext S a c :=
  ⟨k.os.trans h.os, k.tape.trans h.tape, k.output.trans h.output, Nat.le_trans h.size k.size, fun i hi hs => (k.block i (Nat.lt_of_lt_of_le hi h.size) hs).trans (h.block i hi hs)⟩
theorem Ext.mono {S T : List Nat} {a b : World} (h : Ext S a b) (hs : ∀ x ∈ S, x ∈ T) : Ext T a b :=
  ⟨h.os, h.tape, h.output, h.size, fun i hi hk => h.block i hi (fun q => hk (hs i q))⟩
/-- Blocks that are new need not be named. -/
theorem Ext.drop {S T : List Nat} {a b : World} (h : Ext S a b) (hs : ∀ x ∈ S, x ∈ T ∨ a.heap.size ≤ x) : Ext T a b :=
  ⟨h.os, h.tape, h.output, h.size, fun i hi hk => h.block i hi (fun q => by rcases hs i q with r | r; exact hk r; omega)⟩
theorem Ext.below {a b : World} (h : Ext [] a b) : Below a.heap.size a b := ⟨h.os, h.tape, h.output, h.size, fun k hk => h.block k hk (by simp)⟩
theorem Ext.drew (S : List Nat) (w : World) : Ext S w w.drew := ⟨rfl, rfl, rfl, Nat.le_refl _, fun _ _ _ => rfl⟩
theorem Ext.drewN (S : List Nat) (w : World) (n : Nat) : Ext S w (w.drewN n) := ⟨rfl, rfl, rfl, Nat.le_refl _, fun _ _ _ => rfl⟩
theorem Ext.alloc (S : List Nat) (w : World) (o : Obj) : Ext S w (w.alloc o) := ⟨rfl, rfl, rfl, by simp, fun k hk _ => Below.heap_alloc w o k hk⟩
theorem Ext.setCell (S : List Nat) (w : World) (a : Addr) (v : Value) (h : a.block ∈ S) : Ext S w (w.setCell a v) :=
  ⟨rfl, rfl, rfl, by simp, fun k _ hs => heap_setCell_other w a k v (fun e => hs (e ▸ h))⟩
theorem Ext.setRow (S : List Nat) (w : World) (g : Nat) (cs : Array Value) (h : g ∈ S) : Ext S w (w.setRow g cs) :=
  ⟨rfl, rfl, rfl, by simp, fun k _ hs => setRow_other w g k cs (fun e => hs (e ▸ h))⟩
theorem Ext.grown {S : List Nat} {w w' : World} {row : Option Nat} (hg : w.grownBy w' row) (h : ∀ k, row = some k → k ∈ S) : Ext S w w' :=
  ⟨hg.os, hg.tape, hg.output, hg.size, fun k hk hs => hg.block k hk (fun e => hs (h k e.symm))⟩
/-- Behind a step that turned only what is new since a. -/
theorem Ext.on {S : List Nat} {a b c : World} (h : Ext [] a b) (k : Ext S b c) (hs : ∀ x ∈ S, a.heap.size ≤ x) : Ext [] a c :=
  ((h.mono (by simp)).trans k).drop (fun x hx => .inr (hs x hx))

theorem lt_of_heap {w : World} {k : Nat} {o : Obj} (h : w.heap[k]? = some o) : k < w.heap.size := (Array.getElem?_eq_some_iff.1 h).1
theorem Ext.keep {S : List Nat} {w w' : World} (h : Ext S w w') {k : Nat} {o : Obj} (hk : w.heap[k]? = some o) (hs : k ∉ S) : w'.heap[k]? = some o :=
  (h.block k (lt_of_heap hk) hs).trans hk
theorem Ext.cell {S : List Nat} {w w' : World} (h : Ext S w w') {a : Addr} {v : Value} (hk : w.cell? a = some v) (hs : a.block ∉ S) : w'.cell? a = some v := by
  rw [← hk]
  exact World.cell?_of_block (h.block a.block (block_lt_of_cell hk) hs)

/-- The answer v, and nothing that was there has turned. -/
def SayPost (w : World) (v : Value) (e : Ending) (w' : World) : Prop := e = .returned v ∧ Ext [] w w'

theorem own_keep {S : List Nat} {w w' : World} {base : Nat} {e : TypeId} {s : Nat} {v : Value} {n : Nat} {xs : List Value} (h : w.ownsRow base e s v n xs) (x : Ext S w w') (hs : ∀ b ∈ S, v.ownBlock ≠ some b) : w'.ownsRow base e s v n xs := by
  refine ⟨h.1, ?_⟩
  rcases h.2 with h | ⟨g, cap, cur, rfl, h1, h2, h3⟩
  · exact .inl h
  · exact .inr ⟨g, cap, cur, rfl, h1, x.keep h2 (fun hg => hs g hg rfl), h3⟩
theorem own_keep0 {w w' : World} {base : Nat} {e : TypeId} {s : Nat} {v : Value} {n : Nat} {xs : List Value} (h : w.ownsRow base e s v n xs) (x : Ext [] w w') : w'.ownsRow base e s v n xs := own_keep h x (by simp)
theorem own_base {w : World} {base base' : Nat} {e : TypeId} {s : Nat} {v : Value} {n : Nat} {xs : List Value} (h : w.ownsRow base e s v n xs) (hb : base' ≤ base) : w.ownsRow base' e s v n xs := by
  refine ⟨h.1, ?_⟩
  rcases h.2 with h | ⟨g, cap, cur, h0, h1, h2⟩
  · exact .inl h
  · exact .inr ⟨g, cap, cur, h0, by omega, h2⟩
theorem own_nil (w : World) (base : Nat) (e : TypeId) (s : Nat) : w.ownsRow base e s (.slice none 0 0) 0 [] := ⟨by simp, .inl ⟨rfl, rfl⟩⟩

/-- The value is a slice. -/
theorem own_slice {w : World} {base : Nat} {e : TypeId} {s : Nat} {v : Value} {n : Nat} {xs : List Value} (h : w.ownsRow base e s v n xs) : ∃ a c, v = .slice a n c ∧ n ≤ c := by
  rcases h.2 with ⟨rfl, rfl⟩ | ⟨g, cap, cur, rfl, h1, h2, h3, _⟩
  · exact ⟨none, 0, rfl, Nat.le_refl _⟩
  · exact ⟨_, _, rfl, h3⟩
theorem own_lt {w : World} {base : Nat} {e : TypeId} {s n : Nat} {v : Value} {xs : List Value} (h : w.ownsRow base e s v n xs) : ∀ g, v.ownBlock = some g → base ≤ g ∧ g < w.heap.size := by
  intro g hg
  rcases h.2 with ⟨rfl, _⟩ | ⟨g', cap, cur, rfl, h1, h2, _⟩
  · simp [Value.ownBlock] at hg
  · simp [Value.ownBlock] at hg
    subst hg
    exact ⟨h1, lt_of_heap h2⟩

theorem info_parts {P : Program} {t : TypeId} {z : Value} {s b : Nat} (h : (P.info? t).map (fun i => (i.zero, i.size, i.bytes)) = some (some z, s, b)) : ∃ i, P.info? t = some i ∧ i.zero = some z ∧ i.size = s ∧ i.bytes = b := by
  cases hq : P.info? t with
  | none => simp [hq] at h
  | some i =>
    simp [hq] at h
    exact ⟨i, rfl, h.1, h.2.1, h.2.2⟩
/-- append, met by what its run is known to be. -/
theorem wpList_append_run {P : Program} {w w' : World} {ops : Array Oper} {rest : List Oper} {o : Oper} {a : Act} {Q : Exit → Act → World → Prop} (hgd : o.guard = none) (s x : Operand) (t : TypeId)
    (ho : o.op = .call { callee := .builtin .append, args := #[s, x], argTypes := #[t, t] }) (vs vx v' : Value) (hs : a.eval s = vs) (hx : a.eval x = vx)
    (hr : (Builtin.append_ #[t, t] o.type #[vs, vx]).run P w = .ok v' w') (h : wpList P ops Q rest (a.put o.dst v') w') : wpList P ops Q (o :: rest) a w := by
  refine wpList_plain hgd fun K hK => ?_
  unfold Oper.wp execOp
  simp only [ho, resolve, invoke, builtin, Sem.run_bind, Sem.run_pure, Result.andThen_ok, List.map_toArray, List.map_cons, List.map_nil, hs, hx, hr]
  exact hK _ _ h


theorem own_ne {w : World} {base : Nat} {e e' : TypeId} {s n : Nat} {v : Value} {xs : List Value} {cs : Array Value} {k : Nat} (h : w.ownsRow base e s v n xs) (hk : w.heap[k]? = some (.cells cs e' (0, 0))) (he : e' ≠ e) : v.ownBlock ≠ some k := by
  intro hv
  rcases h.2 with ⟨rfl, _⟩ | ⟨g, cap, cur, rfl, h1, h2, _⟩
  · simp [Value.ownBlock] at hv
  · simp [Value.ownBlock] at hv
    subst hv
    rw [hk] at h2
    simp at h2
    exact he h2.2
theorem below_ext {a b : World} (h : Below a.heap.size a b) : Ext [] a b := ⟨h.os, h.tape, h.output, h.size, fun k hk _ => h.block k hk⟩
theorem ext_grown {w w' : World} {v : Value} (hg : w.grownBy w' v.ownBlock) : Ext v.ownBlock.toList w w' := Ext.grown hg (by intro q hq; simp [hq])

theorem info3 : (Tryz.prog.info? 3).map (fun i => (i.zero, i.size, i.bytes)) = some (some (.int .i64 0), 1, 8) := by kernel_rfl
theorem info4 : (Tryz.prog.info? 4).map (fun i => (i.zero, i.size, i.bytes)) = some (some (.bool false), 1, 1) := by kernel_rfl
theorem info32 : (Tryz.prog.info? 32).map (fun i => (i.zero, i.size, i.bytes)) = some (some (.slice none 0 0), 1, 24) := by kernel_rfl

/-! ### slices -/

/-- A slice with the elements vs, each of one cell, wherever it lies. -/
def Vs (w : World) (a : Option Addr) (vs : List Value) : Prop :=
  vs = [] ∨ ∃ b o, a = some ⟨b, o, none⟩ ∧ ∀ j, j < vs.length → w.cell? ⟨b, o + j, none⟩ = vs[j]?

theorem Vs.keep {S : List Nat} {w w' : World} {a : Option Addr} {vs : List Value} (h : Vs w a vs) (e : Ext S w w') (hs : ∀ ad, a = some ad → ad.block ∉ S) : Vs w' a vs := by
  rcases h with h | ⟨b, o, rfl, hc⟩
  · exact .inl h
  · refine .inr ⟨b, o, rfl, fun j hj => ?_⟩
    have h1 := hc j hj
    obtain ⟨v, hv⟩ : ∃ v, vs[j]? = some v := ⟨vs[j], by simp [hj]⟩
    rw [hv] at h1 ⊢
    exact e.cell h1 (hs ⟨b, o, none⟩ rfl)
theorem Vs.keep0 {w w' : World} {a : Option Addr} {vs : List Value} (h : Vs w a vs) (e : Ext [] w w') : Vs w' a vs := h.keep e (by simp)

/-- A slice of ints. -/
def Is (w : World) (a : Option Addr) (xs : List Int) : Prop := Vs w a (xs.map (Value.int .i64))
theorem Is.keep0 {w w' : World} {a : Option Addr} {xs : List Int} (h : Is w a xs) (e : Ext [] w w') : Is w' a xs := Vs.keep0 h e
theorem Is.at_ {w : World} {a : Option Addr} {xs : List Int} (h : Is w a xs) (h0 : xs ≠ []) : ∃ b o, a = some ⟨b, o, none⟩ ∧ ∀ j, j < xs.length → w.cell? ⟨b, o + j, none⟩ = some (.int .i64 (xs.getD j 0)) := by
  rcases h with h | ⟨b, o, h, hc⟩
  · simp at h; exact absurd h h0
  · refine ⟨b, o, h, fun j hj => ?_⟩
    rw [hc j (by simpa using hj)]; simp [hj]

/-- A slice of bools. -/
def Os (w : World) (a : Option Addr) (xs : List Bool) : Prop := Vs w a (xs.map Value.bool)
theorem Os.keep0 {w w' : World} {a : Option Addr} {xs : List Bool} (h : Os w a xs) (e : Ext [] w w') : Os w' a xs := Vs.keep0 h e
theorem Os.at_ {w : World} {a : Option Addr} {xs : List Bool} (h : Os w a xs) (h0 : xs ≠ []) : ∃ b o, a = some ⟨b, o, none⟩ ∧ ∀ j, j < xs.length → w.cell? ⟨b, o + j, none⟩ = some (.bool (xs.getD j false)) := by
  rcases h with h | ⟨b, o, h, hc⟩
  · simp at h; exact absurd h h0
  · refine ⟨b, o, h, fun j hj => ?_⟩
    rw [hc j (by simpa using hj)]; simp [hj]

theorem own_vs {w : World} {base : Nat} {e : TypeId} {a : Option Addr} {m n c : Nat} {xs : List Value} (h : w.ownsRow base e 1 (.slice a m c) n xs) : Vs w a xs := by
  have hl := h.1
  rcases h.2 with ⟨h1, h2⟩ | ⟨g, cap, cur, h0, h1, h2, h3, h4, h5, h6⟩
  · left
    exact List.length_eq_zero_iff.1 (by omega)
  · right
    cases h0
    refine ⟨g, 0, rfl, fun j hj => ?_⟩
    rw [Nat.zero_add, cell_of_row w g j _ _ _ h2]
    have : (cur.toList.take (m * 1))[j]? = cur[j]? := by
      rw [List.getElem?_take, if_pos (by omega)]; simp
    rw [← this, h6]
theorem run_append_none {P : Program} (w : World) (base : Nat) (t ty e : TypeId) (i : TypeInfo) (size : Nat) (ht : P.underlying t = some (.slice e)) (hi : P.info? e = some i)
    (v : Value) (n : Nat) (xs : List Value) (hown : w.ownsRow base e size v n xs) (c : Nat) : (Builtin.append_ #[t, t] ty #[v, .slice none 0 c]).run P w = .ok v w := by
  rcases hown.2 with ⟨rfl, rfl⟩ | ⟨g, cap, cur, rfl, _, _, hnc, _⟩
  · simp [Builtin.append_, run_underlying ht, sizeOf, typeInfo, hi, Builtin.lenOf, Builtin.firstCells]
  · simp [Builtin.append_, run_underlying ht, sizeOf, typeInfo, hi, Builtin.lenOf, Builtin.firstCells, hnc, storeCells]

/-- append of elements of one cell each onto a slice of one's own: only what is new since w0 turns. -/
theorem app_own (w0 w : World) (hE : Ext [] w0 w) (t ty e : TypeId) (z : Value) (B : Nat) (ht : Tryz.prog.underlying t = some (.slice e)) (hi : (Tryz.prog.info? e).map (fun i => (i.zero, i.size, i.bytes)) = some (some z, 1, B)) (hzs : z.cells.size = 1) (hB : 1 ≤ B)
    (v : Value) (n : Nat) (xs : List Value) (hown : w.ownsRow w0.heap.size e 1 v n xs) (a : Option Addr) (m c : Nat) (ys : List Value) (hm : ys.length = m) (hys : Vs w a ys) (h1 : ∀ u ∈ ys, u.oneCell' = true) (hb : (n + m) * B ≤ 140737488355328) :
    ∃ v' w', (Builtin.append_ #[t, t] ty #[v, .slice a m c]).run Tryz.prog w = .ok v' w' ∧ w'.ownsRow w0.heap.size e 1 v' (n + m) (xs ++ ys) ∧ Ext [] w0 w' ∧ Ext v.ownBlock.toList w w' := by
  obtain ⟨i, hi0, hz0, hz1, hz2⟩ := info_parts hi
  have hnm : n + m ≤ 140737488355328 := Nat.le_trans (Nat.le_mul_of_pos_right _ (by omega)) hb
  have hlt := own_lt hown
  have fin : ∀ w', w.grownBy w' v.ownBlock → Ext [] w0 w' ∧ Ext v.ownBlock.toList w w' := fun w' hg => by
    have h2 := Ext.grown (S := v.ownBlock.toList) hg (by intro k hk; simp [hk])
    exact ⟨hE.on h2 (fun x hx => (hlt x (by simpa using hx)).1), h2⟩
  rcases hys with rfl | ⟨b, o, rfl, hc⟩
  · simp only [List.length_nil] at hm
    subst hm
    cases a with
    | none =>
      refine ⟨v, w, run_append_none w w0.heap.size t ty e i 1 ht hi0 v n xs hown c, by simpa using hown, hE, Ext.refl _ _⟩
    | some ad =>
      obtain ⟨v', w', hr, ho, hg, _⟩ := run_append_own (P := Tryz.prog) w w0.heap.size t ty e i z 1 B ht hi0 hz0 hz1 hz2 hzs (by decide) v n xs hown ad 0 c [] (by simp) (by simp) (by simp) (by unfold maxLen; omega) hb hE.size
      exact ⟨v', w', hr, ho, fin w' hg⟩
  · obtain ⟨v', w', hr, ho, hg, _⟩ := run_append_own (P := Tryz.prog) w w0.heap.size t ty e i z 1 B ht hi0 hz0 hz1 hz2 hzs (by decide) v n xs hown ⟨b, o, none⟩ m c ys (by omega) (fun j u hu => by
        have hj : j < ys.length := (List.getElem?_eq_some_iff.1 hu).1
        rw [Addr.add_lit, hc j hj, hu]) h1 (by unfold maxLen; omega) hb hE.size
    exact ⟨v', w', hr, ho, fin w' hg⟩

/-- A new slice of a literal's own. -/
theorem vs_new (w : World) (e : TypeId) (ys : List Value) : Vs (w.alloc (.cells ys.toArray e)) (some ⟨w.heap.size, 0, none⟩) ys := by
  right
  refine ⟨_, 0, rfl, fun j hj => ?_⟩
  rw [cell_of_row _ _ _ _ _ _ (heap_alloc_new w _)]
  simp

theorem own_at {w : World} {base : Nat} {e : TypeId} {s n : Nat} {v : Value} {xs : List Value} (h : w.ownsRow base e s v n xs) {q : Nat} (hq : v.ownBlock = some q) : ∃ cur, w.heap[q]? = some (.cells cur e (0, 0)) := by
  rcases h.2 with ⟨rfl, _⟩ | ⟨g, cap, cur, rfl, h1, h2, _⟩
  · simp [Value.ownBlock] at hq
  · simp [Value.ownBlock] at hq
    subst hq
    exact ⟨cur, h2⟩
theorem own_apart {w : World} {base base' : Nat} {e e' : TypeId} {s s' n n' : Nat} {v v' : Value} {xs xs' : List Value} (h : w.ownsRow base e s v n xs) (h' : w.ownsRow base' e' s' v' n' xs') (hne : e' ≠ e) : ∀ q ∈ v'.ownBlock.toList, v.ownBlock ≠ some q := fun q hq => by
  obtain ⟨cur, h2⟩ := own_at h' (by simpa using hq)
  exact own_ne h h2 hne

/-! ### nets -/

/-- A list of a net, as a value. -/
def lsAt (M : List (List Int)) (i : Nat) : List Int := M.getD i []

/-- A net in memory. -/
structure Nt (w : World) (a : Option Addr) (M : List (List Int)) : Prop where
  at_ : M = [] ∨ ∃ b o, a = some ⟨b, o, none⟩ ∧ ∀ i, i < M.length → ∃ fa fc, w.cell? ⟨b, o + i, none⟩ = some (.slice fa (lsAt M i).length fc) ∧ Is w fa (lsAt M i) ∧ (lsAt M i).length ≤ fc ∧ (lsAt M i).length ≤ 17592186044416
  len : M.length ≤ 5864062014805

theorem Nt.keep0 {w w' : World} {a : Option Addr} {M : List (List Int)} (h : Nt w a M) (e : Ext [] w w') : Nt w' a M := by
  refine ⟨?_, h.len⟩
  rcases h.at_ with h | ⟨b, o, rfl, hc⟩
  · exact .inl h
  · refine .inr ⟨b, o, rfl, fun i hi => ?_⟩
    obtain ⟨fa, fc, h1, h2, h3⟩ := hc i hi
    exact ⟨fa, fc, e.cell h1 (by simp), h2.keep0 e, h3⟩
theorem Nt.addr {w : World} {a : Option Addr} {M : List (List Int)} (h : Nt w a M) (h0 : 0 < M.length) : ∃ b o, a = some ⟨b, o, none⟩ ∧ ∀ i, i < M.length → ∃ fa fc, w.cell? ⟨b, o + i, none⟩ = some (.slice fa (lsAt M i).length fc) ∧ Is w fa (lsAt M i) ∧ (lsAt M i).length ≤ fc ∧ (lsAt M i).length ≤ 17592186044416 := by
  rcases h.at_ with rfl | h
  · simp at h0
  · exact h
theorem Is.cell {w : World} {a : Option Addr} {xs : List Int} (h : Is w a xs) {j : Nat} (hj : j < xs.length) : ∃ b o, a = some ⟨b, o, none⟩ ∧ w.cell? ⟨b, o + j, none⟩ = some (.int .i64 (xs.getD j 0)) := by
  obtain ⟨b, o, h1, h2⟩ := h.at_ (by intro e; rw [e] at hj; simp at hj)
  exact ⟨b, o, h1, h2 j hj⟩
theorem Os.cell {w : World} {a : Option Addr} {xs : List Bool} (h : Os w a xs) {j : Nat} (hj : j < xs.length) : ∃ b o, a = some ⟨b, o, none⟩ ∧ w.cell? ⟨b, o + j, none⟩ = some (.bool (xs.getD j false)) := by
  obtain ⟨b, o, h1, h2⟩ := h.at_ (by intro e; rw [e] at hj; simp at hj)
  exact ⟨b, o, h1, h2 j hj⟩

end Go.Proofs.YtjbbomokgpoilaaGreatDoor.Co
