/-
  Plain facts on nets: what a search depth first gives; no statement is proved here.
-/
import Derived.Test.YtbjplfbplkjibaaRows
namespace Go.Proofs.Ytbjplfbplkjibaa

/-- What node x names. -/
def nxt (N : List (List Nat)) (x : Nat) : List Nat := N.getD x []

theorem nxt_get {N : List (List Nat)} {x : Nat} (h : x < N.length) : N[x]? = some (nxt N x) := by simp [nxt, List.getD, h]
theorem nxt_mem {N : List (List Nat)} {x : Nat} (h : x < N.length) : nxt N x ∈ N := by simp [nxt, List.getD, h]

/-- All that is named is a node. -/
def Nodes (N : List (List Nat)) (l : List Nat) : Prop := ∀ x ∈ l, x < N.length
def Net (N : List (List Nat)) : Prop := ∀ l ∈ N, Nodes N l
theorem Net.nxt {N : List (List Nat)} (h : Net N) (x : Nat) : Nodes N (nxt N x) := by
  by_cases hx : x < N.length
  · exact h _ (nxt_mem hx)
  · intro y hy
    simp [Ytbjplfbplkjibaa.nxt, List.getD, List.getElem?_eq_none (Nat.le_of_not_lt hx)] at hy

/-- A search depth first: from what came, the order so far and the lists that are open, to its end. -/
inductive Dfs (N : List (List Nat)) : List Bool → List Nat → List (List Nat) → List Bool → List Nat → Prop
  | done (C : List Bool) (O : List Nat) : Dfs N C O [] C O
  | pop {C : List Bool} {O : List Nat} {s : List (List Nat)} {C' : List Bool} {O' : List Nat} : Dfs N C O s C' O' → Dfs N C O ([] :: s) C' O'
  | skip {C : List Bool} {O : List Nat} {s : List (List Nat)} {C' : List Bool} {O' : List Nat} {x : Nat} {l : List Nat} : C[x]? = some true → Dfs N C O (l :: s) C' O' → Dfs N C O ((x :: l) :: s) C' O'
  | enter {C : List Bool} {O : List Nat} {s : List (List Nat)} {C' : List Bool} {O' : List Nat} {x : Nat} {l : List Nat} : C[x]? = some false → Dfs N (C.set x true) (O ++ [x]) (nxt N x :: l :: s) C' O' → Dfs N C O ((x :: l) :: s) C' O'

theorem Dfs.det {N : List (List Nat)} {C : List Bool} {O : List Nat} {s : List (List Nat)} {C1 C2 : List Bool} {O1 O2 : List Nat} (h : Dfs N C O s C1 O1) : Dfs N C O s C2 O2 → C1 = C2 ∧ O1 = O2 := by
  induction h with
  | done => intro k; cases k; exact ⟨rfl, rfl⟩
  | pop _ ih => intro k; cases k with | pop k => exact ih k
  | skip hx _ ih =>
    intro k
    cases k with
    | skip _ k => exact ih k
    | enter hy _ => rw [hx] at hy; cases hy
  | enter hx _ ih =>
    intro k
    cases k with
    | skip hy _ => rw [hx] at hy; cases hy
    | enter _ k => exact ih k

/-- What a step keeps, the end keeps. -/
theorem Dfs.inv {N : List (List Nat)} (I : List Bool → List Nat → List (List Nat) → Prop)
    (h1 : ∀ C O s, I C O ([] :: s) → I C O s)
    (h2 : ∀ C O s x l, C[x]? = some true → I C O ((x :: l) :: s) → I C O (l :: s))
    (h3 : ∀ C O s x l, C[x]? = some false → I C O ((x :: l) :: s) → I (C.set x true) (O ++ [x]) (nxt N x :: l :: s))
    {C : List Bool} {O : List Nat} {s : List (List Nat)} {C1 : List Bool} {O1 : List Nat} (h : Dfs N C O s C1 O1) : I C O s → I C1 O1 [] := by
  induction h with
  | done => exact id
  | pop _ ih => exact fun k => ih (h1 _ _ _ k)
  | skip hx _ ih => exact fun k => ih (h2 _ _ _ _ _ hx k)
  | enter hx _ ih => exact fun k => ih (h3 _ _ _ _ _ hx k)

/-- Nodes that came at the head of the open list are passed by. -/
theorem Dfs.skips {N : List (List Nat)} {C : List Bool} {O : List Nat} {s : List (List Nat)} {C1 : List Bool} {O1 : List Nat} {m : List Nat} : ∀ {l : List Nat}, (∀ x ∈ l, C[x]? = some true) → Dfs N C O (m :: s) C1 O1 → Dfs N C O ((l ++ m) :: s) C1 O1
  | [], _, h => h
  | x :: l, hl, h => .skip (hl x (by simp)) (Dfs.skips (fun y hy => hl y (by simp [hy])) h)

/-- Reached from roots by a way on which wo does not stand. -/
inductive Rch (N : List (List Nat)) (R : List Nat) (wo : Int) : Nat → Prop
  | root {x : Nat} : x ∈ R → (x : Int) ≠ wo → Rch N R wo x
  | step {x y : Nat} : Rch N R wo x → y ∈ nxt N x → (y : Int) ≠ wo → Rch N R wo y

theorem Rch.ne {N : List (List Nat)} {R : List Nat} {wo : Int} {x : Nat} (h : Rch N R wo x) : (x : Int) ≠ wo := by cases h <;> assumption
theorem Rch.lt {N : List (List Nat)} {R : List Nat} {wo : Int} {x : Nat} (h : Rch N R wo x) (hN : Net N) (hR : Nodes N R) : x < N.length := by
  cases h with
  | root h _ => exact hR _ h
  | step _ h _ => exact hN.nxt _ _ h
/-- Nothing smaller is closed. -/
theorem Rch.least {N : List (List Nat)} {R : List Nat} {wo : Int} {x : Nat} (h : Rch N R wo x) (G : Nat → Prop) (h1 : ∀ r ∈ R, (r : Int) ≠ wo → G r) (h2 : ∀ a, G a → ∀ b ∈ nxt N a, (b : Int) ≠ wo → G b) : G x := by
  induction h with
  | root h hw => exact h1 _ h hw
  | step _ h hw ih => exact h2 _ ih _ h hw
theorem Rch.mono {N : List (List Nat)} {R : List Nat} {wo : Int} {x : Nat} (h : Rch N R wo x) : Rch N R (-1) x := by
  induction h with
  | root h _ => exact .root h (by omega)
  | step _ h _ ih => exact .step ih h (by omega)

/-- What stands of a search at each of its steps. -/
structure Sea (N : List (List Nat)) (R : List Nat) (wo : Int) (C : List Bool) (O : List Nat) (s : List (List Nat)) : Prop where
  len : C.length = N.length
  came : ∀ x, x < N.length → (C[x]? = some true ↔ x ∈ O ∨ (x : Int) = wo)
  once : O.Nodup
  olt : ∀ x ∈ O, x < N.length ∧ (x : Int) ≠ wo
  slt : ∀ l ∈ s, Nodes N l
  roots : ∀ r ∈ R, C[r]? = some true ∨ ∃ l ∈ s, r ∈ l
  names : ∀ x ∈ O, ∀ y ∈ nxt N x, C[y]? = some true ∨ ∃ l ∈ s, y ∈ l
  from_ : ∀ l ∈ s, ∀ y ∈ l, y ∈ R ∨ ∃ p ∈ O, y ∈ nxt N p
  earlier : ∀ i, i < O.length → O.getD i 0 ∈ R ∨ ∃ k, k < i ∧ O.getD i 0 ∈ nxt N (O.getD k 0)

theorem sea_end {N : List (List Nat)} {R : List Nat} {wo : Int} (hN : Net N) {C : List Bool} {O : List Nat} {s : List (List Nat)} {C1 : List Bool} {O1 : List Nat} (h : Dfs N C O s C1 O1) : Sea N R wo C O s → Sea N R wo C1 O1 [] := by
  refine Dfs.inv (Sea N R wo) ?_ ?_ ?_ h
  · rintro C O s ⟨a1, a2, a3, a4, a5, a6, a7, a8, a9⟩
    refine ⟨a1, a2, a3, a4, fun l hl => a5 l (by simp [hl]), fun r hr => ?_, fun x hx y hy => ?_, fun l hl => a8 l (by simp [hl]), a9⟩
    · rcases a6 r hr with q | ⟨l, hl, q⟩
      · exact .inl q
      · simp only [List.mem_cons] at hl
        rcases hl with rfl | hl
        · cases q
        · exact .inr ⟨l, hl, q⟩
    · rcases a7 x hx y hy with q | ⟨l, hl, q⟩
      · exact .inl q
      · simp only [List.mem_cons] at hl
        rcases hl with rfl | hl
        · cases q
        · exact .inr ⟨l, hl, q⟩
  · rintro C O s x l hx ⟨a1, a2, a3, a4, a5, a6, a7, a8, a9⟩
    have key : ∀ y : Nat, (C[y]? = some true ∨ ∃ l' ∈ (x :: l) :: s, y ∈ l') → (C[y]? = some true ∨ ∃ l' ∈ l :: s, y ∈ l') := by
      rintro y (q | ⟨l', hl, q⟩)
      · exact .inl q
      · simp only [List.mem_cons] at hl
        rcases hl with rfl | hl
        · simp only [List.mem_cons] at q
          rcases q with rfl | q
          · exact .inl hx
          · exact .inr ⟨l, by simp, q⟩
        · exact .inr ⟨l', by simp [hl], q⟩
    refine ⟨a1, a2, a3, a4, fun l' hl => ?_, fun r hr => key _ (a6 r hr), fun z hz y hy => key _ (a7 z hz y hy), fun l' hl y hy => ?_, a9⟩
    · simp only [List.mem_cons] at hl
      rcases hl with rfl | hl
      · exact fun y hy => a5 (x :: l') (by simp) y (by simp [hy])
      · exact a5 l' (by simp [hl])
    · simp only [List.mem_cons] at hl
      rcases hl with rfl | hl
      · exact a8 (x :: l') (by simp) y (by simp [hy])
      · exact a8 l' (by simp [hl]) y hy
  · rintro C O s x l hx ⟨a1, a2, a3, a4, a5, a6, a7, a8, a9⟩
    have hxl : x < N.length := a5 (x :: l) (by simp) x (by simp)
    have hno : ¬ (x ∈ O ∨ (x : Int) = wo) := fun q => by rw [(a2 x hxl).2 q] at hx; cases hx
    have hset : ∀ y : Nat, C[y]? = some true → (C.set x true)[y]? = some true := by
      intro y hy
      by_cases hxy : x = y
      · subst hxy; rw [hx] at hy; cases hy
      · rw [List.getElem?_set_ne hxy]; exact hy
    have hxx : (C.set x true)[x]? = some true := by rw [List.getElem?_set_self (by omega)]
    have key : ∀ y : Nat, (C[y]? = some true ∨ ∃ l' ∈ (x :: l) :: s, y ∈ l') → ((C.set x true)[y]? = some true ∨ ∃ l' ∈ nxt N x :: l :: s, y ∈ l') := by
      rintro y (q | ⟨l', hl, q⟩)
      · exact .inl (hset y q)
      · simp only [List.mem_cons] at hl
        rcases hl with rfl | hl
        · simp only [List.mem_cons] at q
          rcases q with rfl | q
          · exact .inl hxx
          · exact .inr ⟨l, by simp, q⟩
        · exact .inr ⟨l', by simp [hl], q⟩
    refine ⟨by simp [a1], fun y hy => ?_, ?_, ?_, ?_, fun r hr => key _ (a6 r hr), ?_, ?_, ?_⟩
    · by_cases hxy : x = y
      · subst hxy; simp [hxx]
      · rw [List.getElem?_set_ne hxy, a2 y hy]
        simp only [List.mem_append, List.mem_singleton]
        constructor
        · rintro (q | q)
          · exact .inl (.inl q)
          · exact .inr q
        · rintro ((q | q) | q)
          · exact .inl q
          · exact absurd q.symm hxy
          · exact .inr q
    · rw [List.nodup_append]
      refine ⟨a3, by simp, ?_⟩
      intro y hy z hz
      simp only [List.mem_singleton] at hz
      subst hz
      exact fun e => hno (.inl (e ▸ hy))
    · intro y hy
      simp only [List.mem_append, List.mem_singleton] at hy
      rcases hy with hy | rfl
      · exact a4 y hy
      · exact ⟨hxl, fun q => hno (.inr q)⟩
    · intro l' hl
      simp only [List.mem_cons] at hl
      rcases hl with rfl | rfl | hl
      · exact hN.nxt x
      · exact fun y hy => a5 (x :: l') (by simp) y (by simp [hy])
      · exact a5 l' (by simp [hl])
    · intro z hz y hy
      simp only [List.mem_append, List.mem_singleton] at hz
      rcases hz with hz | rfl
      · exact key y (a7 z hz y hy)
      · exact .inr ⟨_, by simp, hy⟩
    · intro l' hl y hy
      simp only [List.mem_cons] at hl
      rcases hl with rfl | rfl | hl
      · exact .inr ⟨x, by simp, hy⟩
      · rcases a8 (x :: l') (by simp) y (by simp [hy]) with q | ⟨p, hp, q⟩
        · exact .inl q
        · exact .inr ⟨p, by simp [hp], q⟩
      · rcases a8 l' (by simp [hl]) y hy with q | ⟨p, hp, q⟩
        · exact .inl q
        · exact .inr ⟨p, by simp [hp], q⟩
    · intro i hi
      have hg : ∀ k, k < O.length → (O ++ [x]).getD k 0 = O.getD k 0 := fun k hk => by simp [List.getD, List.getElem?_append_left hk]
      simp only [List.length_append, List.length_singleton] at hi
      by_cases hil : i < O.length
      · rw [hg i hil]
        rcases a9 i hil with q | ⟨k, hk, q⟩
        · exact .inl q
        · exact .inr ⟨k, hk, by rw [hg k (by omega)]; exact q⟩
      · obtain rfl : i = O.length := by omega
        have hlast : (O ++ [x]).getD O.length 0 = x := by simp [List.getD]
        rw [hlast]
        rcases a8 (x :: l) (by simp) x (by simp) with q | ⟨p, hp, q⟩
        · exact .inl q
        · obtain ⟨k, hk, rfl⟩ := List.mem_iff_getElem.1 hp
          refine .inr ⟨k, hk, ?_⟩
          rw [hg k hk]
          simpa [List.getD, hk] using q

/-- What came ahead of a search: nothing but wo. -/
def came0 (n : Nat) (wo : Int) : List Bool := (List.range n).map fun (i : Nat) => decide ((i : Int) = wo)
theorem came0_len (n : Nat) (wo : Int) : (came0 n wo).length = n := by simp [came0]
theorem came0_get (n : Nat) (wo : Int) (i : Nat) (h : i < n) : (came0 n wo)[i]? = some (decide ((i : Int) = wo)) := by simp [came0, h]

theorem sea_start {N : List (List Nat)} {R : List Nat} {wo : Int} (hR : Nodes N R) : Sea N R wo (came0 N.length wo) [] [R] := by
  refine ⟨came0_len _ _, fun x hx => by simp [came0_get _ _ _ hx], by simp, by simp, by simpa using hR, fun r hr => .inr ⟨R, by simp, hr⟩, by simp, ?_, by simp⟩
  intro l hl y hy
  simp only [List.mem_singleton] at hl
  subst hl
  exact .inl hy

/-- The order of a search, whole. -/
structure Ord (N : List (List Nat)) (R : List Nat) (wo : Int) (O : List Nat) : Prop where
  run : ∃ C, Dfs N (came0 N.length wo) [] [R] C O
  once : O.Nodup
  lt : ∀ x ∈ O, x < N.length
  mem : ∀ x, x ∈ O ↔ Rch N R wo x
  earlier : ∀ i, i < O.length → O.getD i 0 ∈ R ∨ ∃ k, k < i ∧ O.getD i 0 ∈ nxt N (O.getD k 0)

theorem ord_of {N : List (List Nat)} {R : List Nat} {wo : Int} (hN : Net N) (hR : Nodes N R) {C : List Bool} {O : List Nat} (h : Dfs N (came0 N.length wo) [] [R] C O) : Ord N R wo O := by
  have S := sea_end hN h (sea_start hR)
  have hclosed : ∀ y, (C[y]? = some true ∨ ∃ l ∈ ([] : List (List Nat)), y ∈ l) → y < N.length → (y : Int) ≠ wo → y ∈ O := by
    rintro y (q | ⟨l, hl, _⟩) hlt hw
    · exact ((S.came y hlt).1 q).resolve_right hw
    · cases hl
  refine ⟨⟨C, h⟩, S.once, fun x hx => (S.olt x hx).1, fun x => ⟨fun hx => ?_, fun hx => ?_⟩, S.earlier⟩
  · obtain ⟨i, hi, rfl⟩ := List.mem_iff_getElem.1 hx
    have key : ∀ n i, i < n → ∀ (hi : i < O.length), Rch N R wo (O.getD i 0) := by
      intro n
      induction n with
      | zero => intro i h; omega
      | succ n ih =>
        intro i hin hi
        have hw := (S.olt (O.getD i 0) (by simp [List.getD, hi])).2
        rcases S.earlier i hi with q | ⟨k, hk, q⟩
        · exact .root q hw
        · exact .step (ih k (by omega) (by omega)) q hw
    have := key (i + 1) i (by omega) hi
    simpa [List.getD, hi] using this
  · refine hx.least (· ∈ O) (fun r hr hw => hclosed r (S.roots r hr) (hR r hr) hw) (fun a ha b hb hw => hclosed b (S.names a ha b hb) (hN.nxt a b hb) hw)

theorem Ord.det {N : List (List Nat)} {R : List Nat} {wo : Int} {A B : List Nat} (h : Ord N R wo A) (k : Ord N R wo B) : A = B := by
  obtain ⟨_, h⟩ := h.run
  obtain ⟨_, k⟩ := k.run
  exact (h.det k).2

theorem nodup_len : ∀ (n : Nat) (A : List Nat), A.Nodup → (∀ x ∈ A, x < n) → A.length ≤ n
  | 0, A, _, h => by
    cases A with
    | nil => simp
    | cons a A => have := h a (by simp); omega
  | n + 1, A, h, k => by
    by_cases hn : n ∈ A
    · have := nodup_len n (A.erase n) (h.erase n) (fun x hx => by
        have h1 := k x (List.mem_of_mem_erase hx)
        have h2 := ((List.Nodup.mem_erase_iff h).1 hx).1
        omega)
      rw [List.length_erase_of_mem hn] at this
      omega
    · have := nodup_len n A h (fun x hx => by
        have h1 := k x hx
        have h2 : x ≠ n := fun e => hn (e ▸ hx)
        omega)
      omega

theorem Ord.len {N : List (List Nat)} {R : List Nat} {wo : Int} {A : List Nat} (h : Ord N R wo A) : A.length ≤ N.length := nodup_len _ _ h.once h.lt

end Go.Proofs.Ytbjplfbplkjibaa
