/-
  A loop over an iterator that is itself made with loops over iterators, and that may be left; no statement is proved here.
-/
import Derived.Test.YtkknadkcpndnaaaDoorTBase
namespace Go.Proofs.YtkknadkcpndnaaaDoor
open Go.RowKit Go.Shelf

theorem keepsFrom_put {B : Nat} {W : World} {l : Nat} {o : Obj} (h : l < B) : KeepsFrom B W (W.putObj l o) :=
  ⟨(grownBy_putObj' W l o).size, fun k _ hk h0 _ => (World.putObj_heap_other (by omega)).trans h0⟩
theorem keepsFrom_up {B B' : Nat} {A C : World} (h : KeepsFrom B A C) (hB : B ≤ B') : KeepsFrom B' A C := ⟨h.size, fun k o hk => h.same k o (Nat.le_trans hB hk)⟩

/-! ### who owns which cells -/

/-- Cells that the loop's own body does not own (O tells what it owns) stay; what it owns behind the step it owned, or it is new. -/
structure Kc (O : World → Nat → Prop) (A B : World) : Prop where
  size : A.heap.size ≤ B.heap.size
  same : ∀ k o, A.heap[k]? = some o → o.isCells = true → ¬ O A k → B.heap[k]? = some o
  back : ∀ k, O B k → O A k ∨ A.heap.size ≤ k
theorem Kc.refl (O : World → Nat → Prop) (A : World) : Kc O A A := ⟨Nat.le_refl _, fun _ _ h _ _ => h, fun _ h => .inl h⟩
theorem Kc.trans {O : World → Nat → Prop} {A B C : World} (h : Kc O A B) (k : Kc O B C) : Kc O A C := by
  refine ⟨Nat.le_trans h.size k.size, fun i o hi hc hO => ?_, fun i hi => ?_⟩
  · refine k.same i o (h.same i o hi hc hO) hc (fun q => ?_)
    rcases h.back i q with r | r
    · exact hO r
    · have := (Array.getElem?_eq_some_iff.1 hi).1; omega
  · rcases k.back i hi with q | q
    · exact h.back i q
    · exact .inr (Nat.le_trans h.size q)

/-- A step that lays blocks, or turns one that is no cells, from B on. -/
def Stp (B : Nat) (A C : World) (row : Option Nat) : Prop := A.grownBy C row ∧ ∀ r, row = some r → B ≤ r ∧ ∃ o : Obj, A.heap[r]? = some o ∧ o.isCells = false
/-- What a loop says of its invariant J and of what it owns. -/
structure Cal {β : Type} (O : World → Nat → Prop) (J : β → World → Prop) (B : Nat) : Prop where
  own : OwnFrom B J
  lt : ∀ s W k, J s W → O W k → k < W.heap.size
  back : ∀ s A C row k, J s A → Stp B A C row → O C k → O A k
theorem Cal.up {β : Type} {O : World → Nat → Prop} {J : β → World → Prop} {B B' : Nat} (h : Cal O J B) (hB : B ≤ B') : Cal O J B' :=
  ⟨fun s W W' row hs hg hr => h.own s W W' row hs hg (fun r e => ⟨Nat.le_trans hB (hr r e).1, (hr r e).2⟩), h.lt, fun s A C row k hs hS => h.back s A C row k hs ⟨hS.1, fun r e => ⟨Nat.le_trans hB (hS.2 r e).1, (hS.2 r e).2⟩⟩⟩

/-- The cells o lie at k, and they are not the loop's. -/
def Mine (O : World → Nat → Prop) (k : Nat) (o : Obj) (W : World) : Prop := W.heap[k]? = some o ∧ o.isCells = true ∧ ¬ O W k
theorem Mine.kc {O : World → Nat → Prop} {k : Nat} {o : Obj} {A B : World} (h : Mine O k o A) (x : Kc O A B) : Mine O k o B := by
  refine ⟨x.same k o h.1 h.2.1 h.2.2, h.2.1, fun q => ?_⟩
  rcases x.back k q with r | r
  · exact h.2.2 r
  · have := lt_of_heap h.1; omega
theorem Mine.stp {β : Type} {O : World → Nat → Prop} {J : β → World → Prop} {B : Nat} (c : Cal O J B) {s : β} {k : Nat} {o : Obj} {A C : World} {row : Option Nat} (hJ : J s A) (h : Mine O k o A) (x : Stp B A C row) : Mine O k o C := by
  refine ⟨(x.1.block k (lt_of_heap h.1) (fun e => ?_)).trans h.1, h.2.1, fun q => h.2.2 (c.back s A C row k hJ x q)⟩
  obtain ⟨o', ho', hc'⟩ := (x.2 k e.symm).2
  rw [h.1] at ho'
  cases ho'
  rw [h.2.1] at hc'
  cases hc'
theorem stp_drewN (B : Nat) (W : World) (n : Nat) : Stp B W (W.drewN n) none := ⟨⟨rfl, rfl, rfl, Nat.le_refl _, fun _ _ _ => rfl⟩, fun _ e => by cases e⟩
theorem stp_alloc (B : Nat) (W : World) (o : Obj) : Stp B W (W.alloc o) none := ⟨World.grownBy_alloc W o none, fun _ e => by cases e⟩
theorem Mine.new {β : Type} {O : World → Nat → Prop} {J : β → World → Prop} {B : Nat} (c : Cal O J B) {s : β} {W : World} (hJ : J s W) (o : Obj) (ho : o.isCells = true) : Mine O W.heap.size o (W.alloc o) := by
  refine ⟨World.alloc_heap_new W o, ho, fun q => ?_⟩
  have := c.lt s W _ hJ (c.back s W _ none _ hJ (stp_alloc B W o) q)
  omega
def Mines (O : World → Nat → Prop) (L : List (Nat × Obj)) (W : World) : Prop := ∀ p ∈ L, Mine O p.1 p.2 W
theorem Mines.kc {O : World → Nat → Prop} {L : List (Nat × Obj)} {A B : World} (h : Mines O L A) (x : Kc O A B) : Mines O L B := fun p hp => (h p hp).kc x
theorem Mines.stp {β : Type} {O : World → Nat → Prop} {J : β → World → Prop} {B : Nat} (c : Cal O J B) {s : β} {L : List (Nat × Obj)} {A C : World} {row : Option Nat} (hJ : J s A) (h : Mines O L A) (x : Stp B A C row) : Mines O L C := fun p hp => (h p hp).stp c hJ x
theorem Mines.cons {O : World → Nat → Prop} {L : List (Nat × Obj)} {W : World} {k : Nat} {o : Obj} (h : Mine O k o W) (hs : Mines O L W) : Mines O ((k, o) :: L) W := by
  intro p hp
  rcases List.mem_cons.1 hp with rfl | q
  · exact h
  · exact hs p q
theorem Mines.nil (O : World → Nat → Prop) (W : World) : Mines O [] W := fun _ h => by cases h
theorem Mines.tail {O : World → Nat → Prop} {L : List (Nat × Obj)} {W : World} {p : Nat × Obj} (h : Mines O (p :: L) W) : Mines O L W := fun q hq => h q (List.mem_cons_of_mem _ hq)
/-- The invariant with one's own cells beside it. -/
theorem Cal.mines {β γ : Type} {O : World → Nat → Prop} {J : β → World → Prop} {B : Nat} (c : Cal O J B) (f : γ → β) (L : List (Nat × Obj)) : OwnFrom B (fun s W => J (f s) W ∧ Mines O L W) :=
  fun s A C row hs hg hr => ⟨c.own (f s) A C row hs.1 hg hr, hs.2.stp c hs.1 ⟨hg, hr⟩⟩
theorem Kc.stp {β : Type} {O : World → Nat → Prop} {J : β → World → Prop} {B : Nat} (c : Cal O J B) {s : β} {A C : World} {row : Option Nat} (hJ : J s A) (x : Stp B A C row) : Kc O A C := by
  refine ⟨x.1.size, fun k o hk hc _ => (x.1.block k (lt_of_heap hk) (fun e => ?_)).trans hk, fun k hk => .inl (c.back s A C row k hJ x hk)⟩
  obtain ⟨o', ho', hc'⟩ := (x.2 k e.symm).2
  rw [hk] at ho'
  cases ho'
  rw [hc] at hc'
  cases hc'

/-- What an iterator gives a loop that begins in the world w. -/
def GivesS {α : Type} (F : Fence) (n : Nat) (P : Program) (gf : Nat) (lb : Array Value) (encs : α → Array Value) (O : World → Nat → Prop) (V : α → Prop) (S Sp : List α → Prop) (N : Nat) (w : World) : Prop :=
  ∀ (l : Nat) (J Jx : List α → World → Prop) (W1 : World), l < W1.heap.size → Below w.heap.size w W1 → (∀ k, k < w.heap.size → O W1 k → O w k) → Cal O J W1.heap.size → OwnFrom W1.heap.size Jx →
    (∀ pre x W, J pre W → pre.length < N → V x → YieldAt F (n - 1) P l (encs x) W fun e W' => (e = .returned (.bool true) ∧ J (pre ++ [x]) W' ∧ KeepsFrom W1.heap.size W W' ∧ Kc O W W') ∨ (e = .returned (.bool false) ∧ Jx (pre ++ [x]) W' ∧ KeepsFrom W1.heap.size W W' ∧ Kc O W W')) →
    J [] W1 → CallsIn F n P gf (#[.func (.yield l) #[] #[]] ++ lb) W1 fun e W' => (∃ v, e = .returned v) ∧ ((∃ xs, S xs ∧ J xs W') ∨ (∃ pre, Sp pre ∧ Jx pre W'))

/-- How the body of a round may be left. -/
def ownPostC {α : Type} (B : Nat) (O : World → Nat → Prop) (I : List α → World → Prop) (Ix : Code → List α → World → Prop) (xs : List α) (W : World) : Exit → Act → World → Prop
  | .normal, _, W' => KeepsFrom B W W' ∧ Kc O W W' ∧ I xs W'
  | .ret, _, W' => KeepsFrom B W W' ∧ Kc O W W' ∧ Ix .ret xs W'
  | .exit id, _, W' => KeepsFrom B W W' ∧ Kc O W W' ∧ Ix (.exit id) xs W'
  | .goto _, _, _ => False
  | .panic _, _, _ => False
  | .outgrown, _, _ => False
/-- The law of such a loop. -/
theorem loop_givesS {F : Fence} {n : Nat} {P : Program} {α : Type} {g : Operand} {ps : Array Tmp} {assign body : Code} {Q : Exit → Act → World → Prop} {a : Act} {w : World}
    (hro : F.round = none) (h1 : 1 ≤ n) {gf : Nat} {lb : Array Value} (hg : a.eval g = .func (.func gf) #[] lb) (hFg : F.fn gf) (eg : ∀ args w, (callFunc gf args).run P w = .ok (.enter gf args) w)
    {encs : α → Array Value} {O : World → Nat → Prop} {V : α → Prop} {S Sp : List α → Prop} {N : Nat} (hseq : GivesS F (n - 1) P gf lb encs O V S Sp N w) (hps : ∀ x, (encs x).size = ps.size)
    (I : List α → World → Prop) (Ix : Code → List α → World → Prop) (hI : Cal O I w.heap.size) (hIx : ∀ c, Cal O (Ix c) w.heap.size) (h0 : I [] w) (Ax : α → Act → World → Prop) (hAx : ∀ x a', OwnFrom w.heap.size (fun (_ : Unit) W => Ax x a' W))
    (hassign : ∀ (l : Nat) (pre : List α) (x : α) (W : World) (K : Act → World → Prop), V x → I pre W → (∀ a' W', KeepsFrom w.heap.size W W' → Kc O W W' → I pre W' → Ax x a' W' → K a' W') →
      assign.wpIn (F.inRound l) (n - 1 - 1) P (Exit.then K (fun _ _ _ => False)) { tmps := (ps.zip (encs x)).foldl (fun t (p, v) => t.setIfInBounds p v) a.tmps, defers := [] } W)
    (hbody : ∀ (l : Nat) (pre : List α) (x : α) (a' : Act) (W : World), w.heap.size ≤ l → (∃ r, W.heap[l]? = some (.loop r)) → I pre W → Ax x a' W → pre.length < N → V x → body.wpIn (F.inRound l) (n - 1 - 1) P (ownPostC w.heap.size O I Ix (pre ++ [x]) W) a' W)
    (hdone : ∀ (D : Nat) (xs : List α) (W : World), w.heap.size ≤ D → S xs → I xs W → W.heap[D]? = some (.deferred (some [])) → Q .normal { a with defers := { target := .collected D, args := #[] } :: a.defers } W)
    (hstop : ∀ (D : Nat) (c : Code) (pre : List α) (W : World), w.heap.size ≤ D → Sp pre → Ix c pre W → W.heap[D]? = some (.deferred (some [])) → c.wpIn F n P Q { a with defers := { target := .collected D, args := #[] } :: a.defers } W) :
    (Code.rangeFunc g ps assign body).wpIn F n P Q a w := by
  refine wpIn_rangeFunc fun fn hfn => ?_
  rw [hro]
  obtain ⟨s, hs⟩ : ∃ s, s = w.heap.size := ⟨_, rfl⟩
  obtain ⟨rec, hrec⟩ : ∃ rec : LoopState → Option Code → Loop, rec = fun st pe => { state := st, pending := pe, fn, tmps := a.tmps, params := ps, assign, body, defers := w.heap.size } := ⟨_, rfl⟩
  obtain ⟨W1, hW1⟩ : ∃ W1, (w.alloc (.deferred (some []))).alloc (.loop (rec .ready none)) = W1 := ⟨_, rfl⟩
  have hz1 : W1.heap.size = s + 2 := by rw [← hW1]; simp [hs]
  have hL1 : W1.heap[s + 1]? = some (.loop (rec .ready none)) := by
    have h := World.alloc_heap_new (w.alloc (.deferred (some []))) (.loop (rec .ready none))
    rw [World.size_alloc, ← hs, hW1] at h; exact h
  have hK1 : W1.heap[s]? = some (.deferred (some [])) := by
    rw [← hW1, hs]; exact (Below.heap_alloc _ _ _ (by simp)).trans (World.alloc_heap_new w _)
  have hI1' : I [] (w.alloc (.deferred (some []))) := hI.own.alloc _ h0
  have hI1 : I [] W1 := by rw [← hW1]; exact hI.own.alloc _ hI1'
  have hO1 : ∀ k, k < w.heap.size → O W1 k → O w k := fun k _ hk => by
    rw [← hW1] at hk
    exact hI.back [] _ _ none k h0 (stp_alloc _ _ _) (hI.back [] _ _ none k hI1' (stp_alloc _ _ _) hk)
  have hb1 : Below w.heap.size w W1 := by rw [← hW1]; exact ((Below.refl _ w).alloc (Nat.le_refl _) _).alloc (by simp) _
  refine ⟨s + 1, [{ target := .collected s, args := #[] }], W1, { target := .fn (.func gf) lb, args := #[.func (.yield (s + 1)) #[] #[]] }, W1, gf, #[.func (.yield (s + 1)) #[] #[]] ++ lb, W1, ?_, ?_, ?_, ?_, fun _ => h1, ?_⟩
  · rw [← hW1, hrec, hs]; exact run_enterLoop_outer _ _ _ _ _
  · simp only [resolve, hg]
    simp [go_sem]
  · intro f' hf'; simp [Target.leads] at hf'; subst hf'; exact hFg
  · simp [invoke, go_sem, eg]
  · have hrow : ∀ {A B : World} {row : Option Nat}, (∀ r, row = some r → W1.heap.size ≤ r ∧ ∃ o : Obj, A.heap[r]? = some o ∧ o.isCells = false) → (∀ r, row = some r → w.heap.size ≤ r ∧ ∃ o : Obj, A.heap[r]? = some o ∧ o.isCells = false) :=
      fun hr r e => ⟨by have := (hr r e).1; omega, (hr r e).2⟩
    have hbook : ∀ (q : Loop) {A B : World} {row : Option Nat}, A.grownBy B row → (∀ r, row = some r → W1.heap.size ≤ r ∧ ∃ o : Obj, A.heap[r]? = some o ∧ o.isCells = false) → A.heap[s + 1]? = some (.loop q) → A.heap[s]? = some (.deferred (some [])) → B.heap[s + 1]? = some (.loop q) ∧ B.heap[s]? = some (.deferred (some [])) := fun q {A B row} hg' hr hl hk => by
      have hne : ∀ k, k < s + 2 → some k ≠ row := fun k hk e => by have := (hr k e.symm).1; omega
      exact ⟨(hg'.block _ (Array.getElem?_eq_some_iff.1 hl).1 (hne _ (by omega))).trans hl, (hg'.block _ (Array.getElem?_eq_some_iff.1 hk).1 (hne _ (by omega))).trans hk⟩
    refine (hseq (s + 1) (fun pre W => I pre W ∧ W.heap[s + 1]? = some (.loop (rec .ready none)) ∧ W.heap[s]? = some (.deferred (some [])))
      (fun pre W => ∃ c, Ix c pre W ∧ W.heap[s + 1]? = some (.loop (rec .done (some c))) ∧ W.heap[s]? = some (.deferred (some []))) W1 (by omega) hb1 hO1
      ⟨fun q A B row hq hg' hr => ⟨hI.own q A B row hq.1 hg' (hrow (B := B) hr), hbook _ hg' hr hq.2.1 hq.2.2⟩, fun q W k hq => hI.lt q W k hq.1, fun q A C row k hq hS => hI.back q A C row k hq.1 ⟨hS.1, hrow (B := C) hS.2⟩⟩
      (fun q A B row hq hg' hr => by obtain ⟨c, hc, hl, hk⟩ := hq; exact ⟨c, (hIx c).own q A B row hc hg' (hrow (B := B) hr), hbook _ hg' hr hl hk⟩) ?_ ⟨hI1, hL1, hK1⟩).mono ?_
    · rintro pre x W ⟨hi, hl, hk⟩ hlen hvx
      have hy := run_yield (P := P) (args := encs x) hl (by rw [hrec]; exact hps x)
      rw [hrec] at hy
      refine ⟨fn, _, assign, body, hy, roundIn_of_wpIn hfn (hassign _ pre x W _ hvx hi ?_)⟩
      clear hy
      intro a' V hkf hkp hiV hax
      have hlV := hkf.same _ _ (by omega) hl rfl
      have hkV := hkf.same _ _ (by omega) hk rfl
      have hlt : s + 1 < V.heap.size := (Array.getElem?_eq_some_iff.1 hlV).1
      refine ⟨_, run_beginRound hlV (by rw [hrec]), ?_⟩
      have hl2 : (V.putObj (s + 1) (.loop { rec .ready none with state := .busy })).heap[s + 1]? = some (.loop { rec .ready none with state := .busy }) := World.putObj_heap_same hlt
      have hk2 : (V.putObj (s + 1) (.loop { rec .ready none with state := .busy })).heap[s]? = some (.deferred (some [])) := (World.putObj_heap_other (by omega)).trans hkV
      have hput : ∀ (W : World) (o o' : Obj), W.heap[s + 1]? = some o → o.isCells = false → Stp w.heap.size W (W.putObj (s + 1) o') (some (s + 1)) := fun W o o' ho hc => ⟨grownBy_putObj' W _ _, fun r e => by cases e; exact ⟨by omega, o, ho, hc⟩⟩
      have hkp1 := Kc.stp hI hiV (hput V _ (.loop { rec .ready none with state := .busy }) hlV rfl)
      refine wpIn_mono (hbody _ pre x a' _ (by omega) ⟨_, hl2⟩ (hI.own.putObj _ hiV (by omega) hlV rfl) ((hAx x a').putObj (s := ()) _ hax (by omega) hlV rfl) hlen hvx) ?_
      have fin : ∀ (jump : Option Code) (W3 : World), KeepsFrom w.heap.size (V.putObj (s + 1) (.loop { rec .ready none with state := .busy })) W3 →
          (Instr.endRound (s + 1) jump).run P W3 = .ok (.bool jump.isNone) (W3.putObj (s + 1) (.loop (rec (if jump.isNone then .ready else .done) jump))) ∧
          W3.heap[s + 1]? = some (.loop { rec .ready none with state := .busy }) ∧
          (W3.putObj (s + 1) (.loop (rec (if jump.isNone then .ready else .done) jump))).heap[s + 1]? = some (.loop (rec (if jump.isNone then .ready else .done) jump)) ∧
          (W3.putObj (s + 1) (.loop (rec (if jump.isNone then .ready else .done) jump))).heap[s]? = some (.deferred (some [])) ∧
          KeepsFrom W1.heap.size W (W3.putObj (s + 1) (.loop (rec (if jump.isNone then .ready else .done) jump))) := fun jump W3 hk3 => by
        have hl3 := hk3.same _ _ (by omega) hl2 rfl
        have := run_endRound (P := P) jump hl3
        have hkk : KeepsFrom W1.heap.size W (W3.putObj (s + 1) (.loop (rec (if jump.isNone then .ready else .done) jump))) := (keepsFrom_up hkf (by omega)).trans ((keepsFrom_put (by omega)).trans ((keepsFrom_up hk3 (by omega)).trans (keepsFrom_put (by omega))))
        rw [hrec] at this hkk ⊢
        exact ⟨this, by rw [hrec] at hl3; exact hl3, World.putObj_heap_same (Array.getElem?_eq_some_iff.1 hl3).1, (World.putObj_heap_other (by omega)).trans (hk3.same _ _ (by omega) hk2 rfl), hkk⟩
      rintro e a3 W3 hp
      cases e with
      | normal =>
        obtain ⟨hk3, hkp3, hi3⟩ := hp
        obtain ⟨hr, hl3, hl4, hk4, hkk⟩ := fin none W3 hk3
        exact ⟨_, _, hr, .inl ⟨rfl, ⟨hI.own.putObj _ hi3 (by omega) hl3 rfl, hl4, hk4⟩, hkk, hkp.trans (hkp1.trans (hkp3.trans (Kc.stp hI hi3 (hput W3 _ _ hl3 rfl))))⟩⟩
      | ret =>
        obtain ⟨hk3, hkp3, hi3⟩ := hp
        obtain ⟨hr, hl3, hl4, hk4, hkk⟩ := fin (some .ret) W3 hk3
        exact ⟨_, _, hr, .inr ⟨rfl, ⟨.ret, (hIx _).own.putObj _ hi3 (by omega) hl3 rfl, hl4, hk4⟩, hkk, hkp.trans (hkp1.trans (hkp3.trans (Kc.stp (hIx _) hi3 (hput W3 _ _ hl3 rfl))))⟩⟩
      | exit id =>
        obtain ⟨hk3, hkp3, hi3⟩ := hp
        obtain ⟨hr, hl3, hl4, hk4, hkk⟩ := fin (some (.exit id)) W3 hk3
        exact ⟨_, _, hr, .inr ⟨rfl, ⟨.exit id, (hIx _).own.putObj _ hi3 (by omega) hl3 rfl, hl4, hk4⟩, hkk, hkp.trans (hkp1.trans (hkp3.trans (Kc.stp (hIx _) hi3 (hput W3 _ _ hl3 rfl))))⟩⟩
      | goto t => exact hp.elim
      | panic ch => exact hp.elim
      | outgrown => exact hp.elim
    · rintro e W2 ⟨⟨v, rfl⟩, (⟨xs, hS, hi, hl, hk⟩ | ⟨pre, hSp, c, hi, hl, hk⟩)⟩
      · exact ⟨none, _, by have := run_endLoop (P := P) hl (by rw [hrec]; simp); rw [hrec] at this; exact this, hdone _ xs _ (by omega) hS (hI.own.putObj _ hi (by omega) hl rfl) ((World.putObj_heap_other (by omega)).trans hk)⟩
      · exact ⟨some c, _, by have := run_endLoop (P := P) hl (by rw [hrec]; simp); rw [hrec] at this; exact this, hstop _ c pre _ (by omega) hSp ((hIx c).own.putObj _ hi (by omega) hl rfl) ((World.putObj_heap_other (by omega)).trans hk)⟩

end Go.Proofs.YtkknadkcpndnaaaDoor
