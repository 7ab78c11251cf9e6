/-
  HeldR, Objs, Vals, Near, Holes, Coll: joined by program; no statement is proved here.
-/
import Derived.Test.YtjbbomokgpoilaaGreatDoorZHB
import Derived.OrdersIn
import Derived.Test.YtjbbomokgpoilaaGreatDoorZHE
/-
  A region that draws, inside a loop's round: operations that read are taken first, those that write come in one order; no statement is proved here.
-/
namespace Go.Proofs.YtjbbomokgpoilaaGreatDoor

section
variable {F : Fence} {n : Nat} {P : Program} {ops : Array Oper} {Q : Exit → Act → World → Prop} {md : Region.Mode} {S : World → Prop}

/-- In every world that meets S the operation leaves v in its temporary, does nothing else and calls nothing. -/
structure YieldsR (P : Program) (S : World → Prop) (o : Oper) (v : Value) (a : Act) : Prop where
  gd : o.guard = none
  run : ∀ w, S w → (execOp a.eval o).run P w = .ok (.value v) w
  about : ∀ w, o.about P w a.eval = none
  nd : isDefer o.op = false

theorem YieldsR.wpOpIn {i : Nat} {o : Oper} {v : Value} {a : Act} (hi : ops[i]? = some o) (hy : YieldsR P S o v a) {K : Act → World → Prop} {w : World} (hS : S w) (h : K (a.put o.dst v) w) : wpOpIn F n P ops Q i K a w := by
  unfold Go.wpOpIn
  simp only [hi]
  have hw : Region.wanted o (yielded ops a.tmps) = true := by simp [Region.wanted, hy.gd]
  simp only [hw, if_true, Oper.wpIn]
  refine ⟨fun f hf => (by rw [hy.about w] at hf; cases hf), ?_⟩
  rw [Oper.semAt_eq _ _ _ (ne_defer hy.nd), hy.run w hS]
  exact h

theorem YieldsR.of_same {o : Oper} {v : Value} {a a' : Act} (hy : YieldsR P S o v a) (he : execOp a'.eval o = execOp a.eval o) (hb : ∀ w, o.about P w a'.eval = o.about P w a.eval) : YieldsR P S o v a' :=
  ⟨hy.gd, fun w hw => by rw [he]; exact hy.run w hw, fun w => by rw [hb w]; exact hy.about w, hy.nd⟩

theorem wpOpIn_putR {j : Nat} {oi oj : Oper} {v : Value} (hj : ops[j]? = some oj) (hdj : isDefer oj.op = false) (hap : oi.apart ops oj = true)
    (hsi : ∀ cs b, oi.op ≠ .select cs b) (hsj : ∀ cs b, oj.op ≠ .select cs b)
    (hQ : ∀ c a w, Q (.panic c) (a.put oi.dst v) w → Q (.panic c) a w) {K : Act → World → Prop} {a : Act} {w : World}
    (hy : YieldsR P S oi v a) (h : wpOpIn F n P ops Q j K (a.put oi.dst v) w) :
    wpOpIn F n P ops Q j (fun a' w' => YieldsR P S oi v a' ∧ K (a'.put oi.dst v) w') a w := by
  obtain ⟨h1, h2, h3⟩ := Oper.apart_spec hap
  have keep : ∀ (a : Act), YieldsR P S oi v a → ∀ u, YieldsR P S oi v (a.put oj.dst u) := fun a hy u =>
    hy.of_same (execOp_put oi hsi a oj.dst u h3) (fun w => about_put oi w a oj.dst u h3)
  have keepD : ∀ d, YieldsR P S oi v { a with defers := d :: a.defers } := fun d => hy.of_same rfl (fun _ => rfl)
  unfold wpOpIn at *
  simp only [hj] at *
  rw [wanted_put oj a oi.dst v h1, about_put oj w a oi.dst v h1] at h
  split
  · rename_i hw
    simp only [hw, if_true] at h
    unfold Oper.wpIn at *
    rw [about_put oj w a oi.dst v h1] at h
    refine ⟨h.1, ?_⟩
    have h := h.2
    rw [Oper.semAt_eq _ _ _ (ne_defer hdj), execOp_put oj hsj a oi.dst v h1] at h
    rw [Oper.semAt_eq _ _ _ (ne_defer hdj)]
    generalize (execOp a.eval oj).run P w = r at *
    cases r with
    | ok x w' =>
      cases x <;> simp only [Oper.uponIn] at h ⊢
      case value u => exact ⟨keep a hy u, by rw [← Act.put_comm a v u h2]; exact h⟩
      case skip => exact ⟨keep a hy _, by rw [← Act.put_comm a v undef h2]; exact h⟩
      case defer d =>
        refine ⟨keep _ (keepD d) _, ?_⟩
        rw [← Act.put_comm _ v undef h2, ← Act.put_defers]
        exact h
      case enter f args =>
        refine ⟨h.1, CallsIn.mono h.2 fun e w'' he => ?_⟩
        cases e with
        | returned u => exact ⟨keep a hy u, by rw [← Act.put_comm a v u h2]; exact he⟩
        | panicked c => exact hQ _ _ _ he
        | outgrown => exact he
      case row row args => exact ⟨h.1, RowsIn.mono h.2 fun u w'' he => ⟨keep a hy u, by rw [← Act.put_comm a v u h2]; exact he⟩⟩
      case round l f tmps assign body =>
        refine ⟨h.1, RoundIn.mono h.2 fun e w'' he => ?_⟩
        cases e with
        | returned u => exact ⟨keep a hy u, by rw [← Act.put_comm a v u h2]; exact he⟩
        | panicked c => exact hQ _ _ _ he
        | outgrown => exact he
    | halt x w' =>
      cases x <;> simp only [Oper.uponIn] at h ⊢
      case panic u => exact hQ _ _ _ h
  · rename_i hw
    simp only [hw] at h
    exact ⟨h.1, keep a hy _, by rw [← Act.put_comm a v undef h2]; exact h.2⟩

/-! ### the last operation waits for all others -/

def aftersOf (md : Region.Mode) (ops : Array Oper) (k : Nat) : List Nat := match ops[k]? with
  | some o => (o.after.toList.filter (fun e => Region.binds md e)).map (·.on)
  | none => []
def preds (md : Region.Mode) (ops : Array Oper) : Nat → List Nat → List Nat
  | 0, L => L
  | fuel + 1, L => preds md ops fuel (L ++ (L.flatMap (aftersOf md ops)).filter (fun k => !L.contains k))
/-- All operations but t are forced ahead of t. -/
def lastB (md : Region.Mode) (ops : Array Oper) (t : Nat) : Bool := (List.range ops.size).all fun i => i == t || (preds md ops 8 (aftersOf md ops t)).contains i

/-- Whatever is listed has its forerunners listed. -/
def Cl (md : Region.Mode) (ops : Array Oper) (listed : Array Bool) : Prop := ∀ k, listed.getD k false = true → ∀ i ∈ aftersOf md ops k, listed.getD i false = true

theorem preds_listed {listed : Array Bool} (hc : Cl md ops listed) : ∀ (fuel : Nat) (L : List Nat), (∀ k ∈ L, listed.getD k false = true) → ∀ k ∈ preds md ops fuel L, listed.getD k false = true
  | 0, _, h, k, hk => h k hk
  | fuel + 1, L, h, k, hk => preds_listed hc fuel _ (fun j hj => by
      rcases List.mem_append.1 hj with q | q
      · exact h j q
      · obtain ⟨i, hi, hji⟩ := List.mem_flatMap.1 (List.mem_filter.1 q).1
        exact hc i (h i hi) j hji) k hk

theorem ready_afters {listed : Array Bool} {t : Nat} (hr : t ∈ Region.ready md ops listed) : ∀ i ∈ aftersOf md ops t, listed.getD i false = true := by
  obtain ⟨_, o, ho, hall⟩ := mem_ready.1 hr
  intro i hi
  unfold aftersOf at hi
  rw [ho] at hi
  simp only [List.mem_map, List.mem_filter, Array.mem_toList_iff] at hi
  obtain ⟨e, ⟨he, hb⟩, rfl⟩ := hi
  exact hall e he hb

theorem last_all {listed : Array Bool} {t i : Nat} (hB : lastB md ops t = true) (hc : Cl md ops listed) (hr : t ∈ Region.ready md ops listed) (hi : i < ops.size) (hne : i ≠ t) : listed.getD i false = true := by
  have := List.all_eq_true.1 hB i (List.mem_range.2 hi)
  simp only [Bool.or_eq_true, beq_iff_eq, hne, false_or] at this
  exact preds_listed hc 8 _ (ready_afters hr) i (by simpa using this)

theorem cl_set {listed : Array Bool} {j : Nat} (hc : Cl md ops listed) (hr : j ∈ Region.ready md ops listed) : Cl md ops (listed.setIfInBounds j true) := by
  intro k hk i hi
  by_cases hkj : k = j
  · subst hkj
    exact getD_set_true (ready_afters hr i hi)
  · rw [getD_set_ne false (Ne.symm hkj)] at hk
    exact getD_set_true (hc k hk i hi)
theorem cl_start (m : Nat) : Cl md ops (Array.replicate m false) := by
  intro k hk
  rw [Array.getD_eq_getD_getElem?, Array.getElem?_replicate] at hk
  split at hk <;> simp at hk

/-- Whatever order is picked from here on, and S holds behind every operation but number t. -/
def wpAnyR (F : Fence) (n : Nat) (P : Program) (md : Region.Mode) (ops : Array Oper) (Q : Exit → Act → World → Prop) (S : World → Prop) (t : Nat) : Nat → Array Bool → Act → World → Prop
  | 0, listed, a, w => Region.ready md ops listed = [] ∧ Q .normal a w
  | fuel + 1, listed, a, w =>
    (Region.ready md ops listed = [] → Q .normal a w) ∧
    ∀ i ∈ Region.ready md ops listed, wpOpIn F n P ops Q i (fun a' w' => (i = t ∨ S w') ∧ wpAnyR F n P md ops Q S t fuel (listed.setIfInBounds i true) a' w') a w

theorem wpAnyIn_of_R {t : Nat} : ∀ (fuel : Nat) (listed : Array Bool) (a : Act) (w : World), wpAnyR F n P md ops Q S t fuel listed a w → wpAnyIn F n P md ops Q fuel listed a w
  | 0, _, _, _, h => h
  | fuel + 1, _, _, _, h => ⟨h.1, fun i hi => wpOpIn_mono (fun a' w' h' => wpAnyIn_of_R fuel _ a' w' h'.2) (h.2 i hi)⟩

theorem wpAnyR_first {i t : Nat} {oi : Oper} {v : Value} (hi : ops[i]? = some oi) (hit : i ≠ t) (hB : lastB md ops t = true) (hsel : ∀ (j : Nat) (o : Oper) cs b, ops[j]? = some o → o.op ≠ .select cs b) (hnd : ∀ (j : Nat) (o : Oper), ops[j]? = some o → isDefer o.op = false)
    (hQ : ∀ c a w, Q (.panic c) (a.put oi.dst v) w → Q (.panic c) a w) :
    ∀ (fuel : Nat) (listed : Array Bool) (a : Act) (w : World), Cl md ops listed →
      (∀ j oj, ops[j]? = some oj → j ≠ i → listed.getD j true = false → (∀ e ∈ oj.after, Region.binds md e = true → e.on ≠ i) → oi.apart ops oj = true) →
      i ∈ Region.ready md ops listed → YieldsR P S oi v a → S w →
      wpAnyR F n P md ops Q S t fuel (listed.setIfInBounds i true) (a.put oi.dst v) w → wpAnyR F n P md ops Q S t (fuel + 1) listed a w := by
  intro fuel
  induction fuel with
  | zero =>
    intro listed a w _ _ hr hy hS H
    refine ⟨fun h => (by rw [h] at hr; cases hr), fun j hj => ?_⟩
    by_cases hji : j = i
    · subst hji; exact hy.wpOpIn hi hS ⟨.inr hS, H⟩
    · have := ready_mono hj hji
      rw [H.1] at this
      cases this
  | succ fuel ih =>
    intro listed a w hcl hfree hr hy hS H
    refine ⟨fun h => (by rw [h] at hr; cases hr), fun j hj => ?_⟩
    by_cases hji : j = i
    · subst hji; exact hy.wpOpIn hi hS ⟨.inr hS, H⟩
    · have h1 := H.2 j (ready_mono hj hji)
      obtain ⟨hjun, oj, hoj, hall⟩ := mem_ready.1 hj
      have hnot : ∀ e ∈ oj.after, Region.binds md e = true → e.on ≠ i := fun e he hb heq => by
        have h1 := hall e he hb
        have h0 := (mem_ready.1 hr).1
        rw [heq] at h1
        rcases Nat.lt_or_ge i listed.size with h' | h'
        · simp [h'] at h0 h1; rw [h0] at h1; cases h1
        · simp [Array.getElem?_eq_none h'] at h1
      have hjt : j ≠ t := fun e => by
        subst e
        have h2 := last_all hB hcl hj (Array.getElem?_eq_some_iff.1 hi).1 hit
        have h0 := (mem_ready.1 hr).1
        rcases Nat.lt_or_ge i listed.size with h' | h'
        · simp [h'] at h0 h2; rw [h0] at h2; cases h2
        · simp [Array.getElem?_eq_none h'] at h2
      have h2 := wpOpIn_putR hoj (hnd j oj hoj) (hfree j oj hoj hji hjun hnot) (fun cs b => hsel i oi cs b hi) (fun cs b => hsel j oj cs b hoj) hQ hy h1
      have hfree' : ∀ k ok, ops[k]? = some ok → k ≠ i → (listed.setIfInBounds j true).getD k true = false →
          (∀ e ∈ ok.after, Region.binds md e = true → e.on ≠ i) → oi.apart ops ok = true := fun k ok hk hki hun hno => by
        refine hfree k ok hk hki ?_ hno
        by_cases hjk : j = k
        · subst hjk; exact hjun
        · rw [getD_set_ne true hjk] at hun; exact hun
      refine wpOpIn_mono (fun a' w' h3 => ?_) h2
      obtain ⟨hy3, hS3, h3⟩ := h3
      have hS3 := hS3.resolve_left hjt
      refine ⟨.inr hS3, ih (listed.setIfInBounds j true) a' w' (cl_set hcl hj) hfree' (ready_mono hr (Ne.symm hji)) hy3 hS3 ?_⟩
      rw [Array.setIfInBounds_comm _ _ hji]
      exact h3

/-! ### the walk: first those that read, then the rest in the text's order -/

/-- The rest in the text's order. -/
def wpSeqR (F : Fence) (n : Nat) (P : Program) (ops : Array Oper) (Q : Exit → Act → World → Prop) (S : World → Prop) : List Oper → Act → World → Prop
  | [], a, w => Q .normal a w
  | o :: rest, a, w => if Region.wanted o (yielded ops a.tmps) then o.wpIn F n P a w (fun a' w' => (rest = [] ∨ S w') ∧ wpSeqR F n P ops Q S rest a' w') Q
      else (∀ f, o.about P w a.eval = some f → F.fn f) ∧ (rest = [] ∨ S w) ∧ wpSeqR F n P ops Q S rest (a.put o.dst undef) w
/-- From number k on one alone may come up. -/
def soleB (md : Region.Mode) (ops : Array Oper) : Nat → Nat → Array Bool → Bool
  | 0, _, listed => (Region.ready md ops listed).isEmpty
  | fuel + 1, k, listed => (Region.ready md ops listed == [k]) && soleB md ops fuel (k + 1) (listed.setIfInBounds k true)

theorem wpAnyR_seq {t : Nat} : ∀ (l : List Oper) (k : Nat) (listed : Array Bool) (a : Act) (w : World), (∀ j, l[j]? = ops[k + j]?) → (l = [] ∨ k + l.length = t + 1) → soleB md ops l.length k listed = true →
    wpSeqR F n P ops Q S l a w → wpAnyR F n P md ops Q S t l.length listed a w
  | [], _, _, _, _, _, _, hB, h => ⟨by simpa [soleB] using hB, h⟩
  | o :: l, k, listed, a, w, hl, ht, hB, h => by
    have h0 : ops[k]? = some o := by simpa using (hl 0).symm
    simp only [List.length_cons, soleB, Bool.and_eq_true, beq_iff_eq] at hB
    obtain ⟨hr, hB'⟩ := hB
    have ht' : k + (l.length + 1) = t + 1 := by rcases ht with h | h; cases h; simpa using h
    have hrec : ∀ a' w', wpSeqR F n P ops Q S l a' w' → wpAnyR F n P md ops Q S t l.length (listed.setIfInBounds k true) a' w' := fun a' w' => wpAnyR_seq l (k + 1) (listed.setIfInBounds k true) a' w' (fun j => by have := hl (j + 1); simpa [Nat.add_assoc, Nat.add_comm 1 j] using this) (by
      by_cases e : l = []
      · exact .inl e
      · right; omega) hB' 
    refine ⟨fun h => (by rw [hr] at h; cases h), fun i hi => ?_⟩
    rw [hr] at hi
    simp only [List.mem_singleton] at hi
    subst hi
    have conv : ∀ a' w', ((l = [] ∨ S w') ∧ wpSeqR F n P ops Q S l a' w') → ((i = t ∨ S w') ∧ wpAnyR F n P md ops Q S t l.length (listed.setIfInBounds i true) a' w') := fun a' w' hh => by
      refine ⟨?_, hrec a' w' hh.2⟩
      rcases hh.1 with e | e
      · left; subst e; simp at ht'; omega
      · exact .inr e
    unfold wpOpIn
    rw [h0]
    simp only
    unfold wpSeqR at h
    split
    · rename_i hw
      simp only [hw, if_true] at h
      exact Oper.wpIn_mono conv h
    · rename_i hw
      simp only [hw] at h
      exact ⟨h.1, conv _ _ h.2⟩

/-- Those that read. -/
def wpPreR (P : Program) (ops : Array Oper) (S : World → Prop) (R : Act → Prop) : List Oper → Act → Prop
  | [], a => R a
  | o :: rest, a => ∃ v, YieldsR P S o v a ∧ wpPreR P ops S R rest (a.put o.dst v)
def preB (md : Region.Mode) (ops : Array Oper) (t : Nat) : Nat → Nat → Array Bool → Bool
  | 0, k, listed => soleB md ops (t + 1 - k) k listed
  | fuel + 1, k, listed => (Region.ready md ops listed).contains k && Region.free md ops listed k && (k != t) && preB md ops t fuel (k + 1) (listed.setIfInBounds k true)

theorem wpAnyR_pre {t : Nat} {suf : List Oper} (hs : Region.noSelect ops = true) (hnd : ∀ (j : Nat) (o : Oper), ops[j]? = some o → isDefer o.op = false) (hB : lastB md ops t = true) (hQ : ∀ c d v a w, Q (.panic c) (Act.put a d v) w → Q (.panic c) a w) :
    ∀ (l : List Oper) (k : Nat) (listed : Array Bool) (a : Act) (w : World), Cl md ops listed → (∀ j, (l ++ suf)[j]? = ops[k + j]?) → k + (l ++ suf).length = t + 1 → suf ≠ [] → preB md ops t l.length k listed = true → S w →
    wpPreR P ops S (fun a' => wpSeqR F n P ops Q S suf a' w) l a → wpAnyR F n P md ops Q S t (l ++ suf).length listed a w
  | [], k, listed, a, w, _, hl, ht, _, hp, hS, h => by
    simp only [List.nil_append, List.length_nil] at *
    refine wpAnyR_seq suf k listed a w hl (.inr ht) ?_ h
    simp only [preB] at hp
    rw [show t + 1 - k = suf.length by omega] at hp
    exact hp
  | o :: l, k, listed, a, w, hc, hl, ht, hne, hp, hS, h => by
    obtain ⟨v, hy, hr⟩ := h
    have h0 : ops[k]? = some o := by simpa using (hl 0).symm
    simp only [List.length_cons, preB, Bool.and_eq_true] at hp
    obtain ⟨⟨⟨hrd, hfr⟩, hkt⟩, hp'⟩ := hp
    have hrd' : k ∈ Region.ready md ops listed := by simpa using hrd
    have hrec := wpAnyR_pre hs hnd hB hQ l (k + 1) (listed.setIfInBounds k true) (a.put o.dst v) w (cl_set hc hrd') (fun j => by have := hl (j + 1); simpa [Nat.add_assoc, Nat.add_comm 1 j] using this) (by simp at ht ⊢; omega) hne hp' hS hr
    exact wpAnyR_first h0 (by simpa using hkt) hB (Region.noSelect_spec hs) hnd (fun c a w => hQ c o.dst v a w) _ listed a w hc (Region.free_spec h0 hfr) hrd' hy hS hrec

theorem wpSeqR_step {o : Oper} {rest : List Oper} {a : Act} {w : World}
    (h : ∀ K : Act → World → Prop, (∀ a' w', (rest = [] ∨ S w') → wpSeqR F n P ops Q S rest a' w' → K a' w') → if Region.wanted o (yielded ops a.tmps) then o.wpIn F n P a w K Q else (∀ f, o.about P w a.eval = some f → F.fn f) ∧ K (a.put o.dst undef) w) : wpSeqR F n P ops Q S (o :: rest) a w := by
  have := h (fun a' w' => (rest = [] ∨ S w') ∧ wpSeqR F n P ops Q S rest a' w') (fun _ _ h1 h2 => ⟨h1, h2⟩)
  unfold wpSeqR
  split
  · rename_i hw; simp only [hw, if_true] at this; exact this
  · rename_i hw; simp only [hw] at this; exact this
theorem stepR_append {o : Oper} {a : Act} {w w' : World} {K : Act → World → Prop} {E : Prop} (hF : ∀ f, F.fn f) (hgd : o.guard = none) (d s : Operand) (t : TypeId)
    (ho : o.op = .call { callee := .builtin .append, args := #[d, s], argTypes := #[t, t] }) (vd vs v' : Value) (hd : a.eval d = vd) (hs : a.eval s = vs)
    (hr : (Builtin.append_ #[t, t] o.type #[vd, vs]).run P w = .ok v' w') (h : K (a.put o.dst v') w') :
    if Region.wanted o (yielded ops a.tmps) = true then Oper.wpIn F n P o a w K Q else E := by
  rw [if_pos (by simp [Region.wanted, hgd])]
  unfold Oper.wpIn
  refine ⟨fun f _ => hF f, ?_⟩
  rw [Oper.semAt_eq _ _ _ (fun c h => by rw [ho] at h; cases h)]
  unfold execOp
  simp only [ho, resolve, invoke, builtin, Sem.run_bind, Sem.run_pure, Result.andThen_ok, List.map_toArray, List.map_cons, List.map_nil, hd, hs, hr]
  exact h
theorem wpSeqR_nil {a : Act} {w : World} (h : Q .normal a w) : wpSeqR F n P ops Q S [] a w := h
theorem wpPreR_cons {R : Act → Prop} {o : Oper} {rest : List Oper} {a : Act} (v : Value) (hg : o.guard = none) (hd : isDefer o.op = false) (hr : ∀ w, S w → (execOp a.eval o).run P w = .ok (.value v) w) (ha : ∀ w, o.about P w a.eval = none) (h : wpPreR P ops S R rest (a.put o.dst v)) : wpPreR P ops S R (o :: rest) a :=
  ⟨v, ⟨hg, hr, ha, hd⟩, h⟩

/-- A region that draws: m operations that read, then the rest in one order. -/
theorem wpIn_region_heldR {id : Nat} {a : Act} {w : World} {l suf : List Oper} (S : World → Prop) (hnd : (l ++ suf).all (fun o => !isDefer o.op) = true) (hm : P.follows .mixedOrders = true)
    (hB : (Region.noSelect (l ++ suf).toArray && lastB .any (l ++ suf).toArray ((l ++ suf).length - 1) && preB .any (l ++ suf).toArray ((l ++ suf).length - 1) l.length 0 (Array.replicate (l ++ suf).toArray.size false) && !suf.isEmpty) = true)
    (hQ : ∀ c d v a w, Q (.panic c) (Act.put a d v) w → Q (.panic c) a w) (hS : S w.drew)
    (h : wpPreR P (l ++ suf).toArray S (fun a' => wpSeqR F n P (l ++ suf).toArray Q S suf a' w.drew) l a) : (Code.region id (l ++ suf).toArray true).wpIn F n P Q a w := by
  simp only [Bool.and_eq_true] at hB
  obtain ⟨⟨⟨h1, h2⟩, h3⟩, h4⟩ := hB
  have hne : suf ≠ [] := by rintro rfl; simp at h4
  have hlen : 0 < (l ++ suf).length := by
    have := List.length_pos_iff.2 hne
    simp; omega
  have hnd' : ∀ (i : Nat) (o : Oper), (l ++ suf).toArray[i]? = some o → isDefer o.op = false := fun i o ho => by
    have h1 : o ∈ l ++ suf := by simp only [List.getElem?_toArray] at ho; exact List.mem_of_getElem? ho
    have := List.all_eq_true.1 hnd o h1
    simpa using this
  refine wpIn_region_any hm (wpAnyIn_of_R (S := S) (t := (l ++ suf).length - 1) _ _ _ _ ?_)
  have := wpAnyR_pre (F := F) (n := n) (P := P) (Q := Q) (md := .any) (ops := (l ++ suf).toArray) (S := S) (t := (l ++ suf).length - 1) (suf := suf) h1 hnd' h2 hQ l 0 (Array.replicate (l ++ suf).toArray.size false) a w.drew (cl_start _) (by simp) (by omega) hne h3 hS h
  have e : (l ++ suf).toArray.size = (l ++ suf).length := by simp
  rw [e] at this ⊢
  exact this

end

end Go.Proofs.YtjbbomokgpoilaaGreatDoor

/-
  Objects: all objects of a heap, in a list of their own; no statement is proved here.
-/
namespace Go.Proofs.YtjbbomokgpoilaaGreatDoor
open Go.RowKit Go.Shelf

attribute [local go_sem] Oper.semAt_some

/-- An object: address, size, tag. -/
abbrev Ob := Int × Int × Int
def obc (o : Ob) : List Value := [.int .i64 o.1, .int .i64 o.2.1, .int .i64 o.2.2, .slice none 0 0]
def obcs (L : List Ob) : List Value := L.flatMap obc
theorem obcs_append (A B : List Ob) : obcs (A ++ B) = obcs A ++ obcs B := by simp [obcs]
theorem obcs_len (L : List Ob) : (obcs L).length = L.length * 4 := by
  induction L with
  | nil => rfl
  | cons o L ih => simp [obcs, obc] at ih ⊢; omega
def Obl (w : World) (v : Value) (L : List Ob) : Prop := w.ownsRow 0 34 4 v L.length (obcs L)
theorem obl_nil (w : World) : Obl w (.slice none 0 0) [] := own_nil _ _ _ _

theorem Obl.push {w : World} {v : Value} {L : List Ob} (h : Obl w v L) (g : Nat) (o : Ob) (hg : w.heap[g]? = some (.cells #[.int .i64 o.1, .int .i64 o.2.1, .int .i64 o.2.2, .slice none 0 0] 34 (0, 0))) (hl : L.length ≤ 1000000) (ty : TypeId) :
    ∃ v' w', (Builtin.append_ #[37, 37] ty #[v, .slice (some ⟨g, 0, none⟩) 1 1]).run Tryz.prog w = .ok v' w' ∧ Obl w' v' (L ++ [o]) ∧ Ext v.ownBlock.toList w w' ∧ w.grownBy w' v.ownBlock ∧ (v'.ownBlock = v.ownBlock ∨ v'.ownBlock = some w.heap.size) := by
  obtain ⟨i, hi0, hz0, hz1, hz2⟩ := info_parts info34
  obtain ⟨v', w', hr, ho, hgr, _, hn⟩ := run_append_own_at (P := Tryz.prog) w 0 37 ty 34 i _ 4 48 Tryz.underlying37 hi0 hz0 hz1 hz2 rfl (by decide) v L.length (obcs L) h ⟨g, 0, none⟩ 1 1 (obc o) rfl (fun j u hu => by
    rw [Addr.add_lit, cell_of_row _ _ _ _ _ _ hg, Nat.zero_add, ← hu]; simp [obc]) (by simp [obc, Value.oneCell']) (by unfold maxLen; omega) (by omega) (by omega)
  refine ⟨v', w', hr, ?_, ext_grown hgr, hgr, hn⟩
  unfold Obl
  rw [List.length_append, obcs_append]
  simpa [obcs] using ho

/-- The objects in the first i slots of a span. -/
def sobs (x : Spn) : Nat → List Ob
  | 0 => []
  | i + 1 => sobs x i ++ (if 0 < (x.S.getD i (0, 0)).1 then [(((adr x i : Nat) : Int), (x.S.getD i (0, 0)).1, (x.S.getD i (0, 0)).2)] else [])
def objs (L : List Spn) : List Ob := L.flatMap fun x => sobs x x.S.length
theorem sobs_len (x : Spn) : ∀ i, (sobs x i).length ≤ i
  | 0 => by simp [sobs]
  | i + 1 => by have := sobs_len x i; simp only [sobs, List.length_append]; split <;> simp <;> omega

theorem objs_snoc (L : List Spn) (x : Spn) : objs (L ++ [x]) = objs L ++ sobs x x.S.length := by simp [objs]
theorem sobs_yes {x : Spn} {i : Nat} (h : 0 < (x.S.getD i (0, 0)).1) : sobs x (i + 1) = sobs x i ++ [(((adr x i : Nat) : Int), (x.S.getD i (0, 0)).1, (x.S.getD i (0, 0)).2)] := by rw [sobs, if_pos h]
theorem sobs_no {x : Spn} {i : Nat} (h : ¬ 0 < (x.S.getD i (0, 0)).1) : sobs x (i + 1) = sobs x i := by rw [sobs, if_neg h, List.append_nil]

/-- A bound on how many objects there are. -/
theorem objs_len {H : Hs} (h : Hv H) : ∀ L : List Spn, (∀ x ∈ L, x ∈ H.sp) → (objs L).length ≤ L.length * 65536
  | [], _ => by simp [objs]
  | x :: L, hm => by
    have ih := objs_len h L (fun y hy => hm y (List.mem_cons_of_mem _ hy))
    have h1 := sobs_len x x.S.length
    have hx := hm x (by simp)
    have h2 := (h.ok x hx).len2 (by have := h.le hx; have := h.P1; omega)
    simp only [objs, List.flatMap_cons, List.length_append, List.length_cons] at ih ⊢
    omega

def ovit (Bn : Nat) : Value := .func (.func 112) #[] #[.pointer (some ⟨Bn, 0, none⟩)]
theorem values28 (v : Value) (hv : ∃ a n c, v = .slice a n c) (w : World) : Calls Tryz.prog 82 #[v] w fun e w' => e = .returned (ovit w.heap.size) ∧ w' = w.alloc (.cells #[v] 37) := by
  obtain ⟨a, n, c, rfl⟩ := hv
  go_enter Tryz.func82, Tryz.ntmps82
  go_wp2
  go_ret
  exact ⟨rfl, rfl⟩

def ObPost (w : World) (L : List Ob) (e : Ending) (w' : World) : Prop := ∃ Bn v, e = .returned (ovit Bn) ∧ Boxed w' Bn 37 v ∧ Obl w' v L ∧ w.heap.size ≤ Bn ∧ (∀ g, v.ownBlock = some g → w.heap.size ≤ g) ∧ Ext [] w w'

theorem keepsOthers_of_ext {S : List Nat} {A B : World} (x : Ext S A B) (hS : ∀ b ∈ S, b < A.heap.size → ∃ cs t m, A.heap[b]? = some (.cells cs t m)) : KeepsOthers A B := by
  refine ⟨x.size, fun k o hk ho => ?_⟩
  by_cases hs : k ∈ S
  · obtain ⟨cs, t, m, hc⟩ := hS k hs (lt_of_heap hk)
    rw [hk] at hc; cases hc; cases ho
  · exact x.keep hk hs

/-- What an iterator over spans gives a loop, wherever it is called. -/
def SpIt (w : World) (pv : Option Addr) (H : Hs) (sb : Nat → Nat × Nat) (K : Nat → List Nat) : Prop :=
  (∀ W Bn, Ext [] w W → w.heap.size ≤ Bn → Boxed W Bn 125 (.pointer pv) → SeqStopsK Fence.wide 7 Tryz.prog 111 #[.pointer (some ⟨Bn, 0, none⟩)] (fun x : Os H => #[.pointer (some ⟨(sb x.val.st).1, 0, none⟩)]) (Ks (K Bn)) (fun ys => ys = H.sp.attach) (fun pre => pre <+: H.sp.attach) H.sp.attach.length W) ∧
  (∀ Bn, ∀ b ∈ K Bn, b = Bn ∨ b < w.heap.size)

set_option maxRecDepth 100000 in
set_option maxHeartbeats 8000000 in
theorem objects_of (pv : Option Addr) (H : Hs) (sb : Nat → Nat × Nat) (K : Nat → List Nat) (w : World) (hv : Hv H) (hS : ∀ x ∈ H.sp, Sp w (sb x.st).1 (sb x.st).2 x.st x.n x.rm (us x.S) x.S) (hI : SpIt w pv H sb K) : Calls Tryz.prog 46 #[.pointer pv] w (ObPost w (objs H.sp)) := by
  refine (callsIn_wide (n := 8)).1 ?_
  refine callsIn_of_wp_marks Tryz.func46 rfl trivial ?_ rfl
  simp only [Tryz.ntmps46, List.size_toArray, List.length_cons, List.length_nil, Nat.reduceAdd, Nat.reduceSub, Array.replicate_succ, Array.replicate_zero, List.push_toArray, List.append_toArray, List.nil_append, List.cons_append]
  have K1 := fun u => spans_any pv u
  obtain ⟨i0, hi0, hzz0, hz1, hz2⟩ := info_parts info34
  have HI0 := hid hi0
  have HZ0 := hid hzz0
  clear hi0 hzz0
  have HS := hid hS
  have HV := hid hv
  have HI := hid hI
  clear hS hv hI
  gi_wp2_with (refine ⟨trivial, ?_⟩; gi_at_call 81; refine (callsIn_wide.2 (K1 _)).mono ?_; rintro e w' ⟨rfl, rfl⟩)
  clear K1
  obtain ⟨z, hz⟩ : ∃ z, z = w.heap.size := ⟨_, rfl⟩
  have hE0 : Ext [] w ((w.alloc (.cells #[.slice none 0 0] 37)).alloc (.cells #[.pointer pv] 125)) := (Ext.alloc [] _ _).trans (Ext.alloc [] _ _)
  have bL := (Boxed.new w 37 (.slice none 0 0)).alloc (.cells #[.pointer pv] 125)
  have bN := Boxed.new (w.alloc (.cells #[.slice none 0 0] 37)) 125 (.pointer pv)
  simp only [World.size_alloc] at bN
  have hsz : ((w.alloc (.cells #[.slice none 0 0] 37)).alloc (.cells #[.pointer pv] 125)).heap.size = w.heap.size + 2 := by simp
  obtain ⟨W0, hW0⟩ : ∃ W0, (w.alloc (.cells #[.slice none 0 0] 37)).alloc (.cells #[.pointer pv] 125) = W0 := ⟨_, rfl⟩
  rw [hW0] at bL bN hE0 hsz ⊢
  clear hW0
  have hSt := HI.out.1 W0 (w.heap.size + 1) hE0 (by omega) bN
  have hKb : ∀ b ∈ K (w.heap.size + 1), b < W0.heap.size := fun b hb => by rcases HI.out.2 _ b hb with q | q <;> omega
  have HKb := hid (HI.out.2 (w.heap.size + 1))
  have HBz := hid hE0.below
  rw [← hz] at bL bN hSt hKb HBz hsz HKb ⊢
  have HZ := hid hz
  clear hz hE0 bN HI
  refine wpIn_rangeFunc_ownH rfl (by omega) (gf := 111) (lb := #[.pointer (some ⟨z + 1, 0, none⟩)]) rfl trivial (enters_of Tryz.func111 (by kernel_rfl) rfl)
    hSt ksK_t (ksK_b hKb) (Below.refl _ _) (fun _ => rfl)
    (fun pre W => (∃ v, Boxed W z 37 v ∧ W.ownsRow z 34 4 v (objs (pre.map Subtype.val)).length (obcs (objs (pre.map Subtype.val))) ∧ (∀ g, v.ownBlock = some g → z + 2 ≤ g)) ∧ Below z w W)
    (fun _ _ _ => False)
    (OwnFrom.and (Own.from (holdsRow_own z z 37 34 4 (fun pre : List (Os H) => (objs (pre.map Subtype.val)).length) (fun pre => obcs (objs (pre.map Subtype.val))) (fun _ v => ∀ g, v.ownBlock = some g → z + 2 ≤ g)) _) (ownFrom_below (by have := HZ.out; omega) (by omega)))
    (fun _ _ _ _ _ hs _ _ => hs)
    ⟨⟨_, bL, own_nil _ _ _ _, by simp [Value.ownBlock]⟩, HBz.out⟩
    (fun x a' _ => a' = { tmps := #[.pointer pv, undef, .nilFunc, .pointer (some ⟨z, 0, none⟩), .pointer (some ⟨(sb x.val.st).1, 0, none⟩), undef, .pointer pv, sitv (z + 1), .pointer (some ⟨(sb x.val.st).1, 0, none⟩), undef, undef, undef, undef, undef, undef, undef, undef, undef, undef, undef, undef, undef, undef, undef, undef, undef, undef, undef, undef, undef, undef, undef, undef, undef, undef], defers := [] })
    (fun x a' _ X Y row hs hg hr => hs)
    ?assign ?body ?done ?stop
  case assign =>
    rintro l pre x W K hI hK
    gi_wp2
    exact hK _ _ (KeepsFrom.refl _ _) (Ks.refl _ _) hI rfl
  case body =>
    rintro l pre x a' W hl ⟨r, hr⟩ ⟨⟨v, bL1, hrow, hvn⟩, hB1⟩ rfl hpl
    have hx0 : Ext [] w W := by rw [HZ.out] at hB1; exact below_ext hB1
    have hs0 := (HS.out x.val x.property).keep hx0 (by simp) (by simp)
    have c4 := hs0.c4
    have hxo := HV.out.ok x.val x.property
    have hle := HV.out.le x.property
    have hP := HV.out.P1
    have hl2 := hxo.len2 (by omega)
    have hlen := objs_len HV.out ((pre ++ [x]).map Subtype.val) (fun y hy => by obtain ⟨q, _, rfl⟩ := List.mem_map.1 hy; exact q.property)
    have hpl2 : pre.length + 1 ≤ 1024 := by
      have := HV.out.splen
      simp only [List.length_attach] at hpl
      omega
    have hst0 : (sb x.val.st).1 < z ∧ (sb x.val.st).2 < z := by
      have h1 := lt_of_heap (HS.out x.val x.property).box
      have h2 := lt_of_heap (HS.out x.val x.property).row
      have := HZ.out
      omega
    have HJ0 : Hid ((∃ v, Boxed W z 37 v ∧ W.ownsRow z 34 4 v (objs (pre.map Subtype.val) ++ sobs x.val 0).length (obcs (objs (pre.map Subtype.val) ++ sobs x.val 0)) ∧ (∀ g, v.ownBlock = some g → z + 2 ≤ g)) ∧ Below z w W ∧ KeepsOthers W W ∧ Ext [z] W W) := by
      refine ⟨⟨v, bL1, ?_, hvn⟩, hB1, KeepsOthers.refl _, Ext.refl _ _⟩
      simp only [sobs, List.append_nil]
      exact hrow
    have HBW := hid hB1
    have hlW : l < W.heap.size := lt_of_heap hr
    clear bL1 hrow hvn hB1 hr bL hpl
    generalize hnn : x.val.S.length = nn at *
    gi_wp2_with fail
    gi_loopw [14] (fun q wr => ∃ i : Nat, q = .int .i64 i ∧ i ≤ nn ∧ (∃ v, Boxed wr z 37 v ∧ wr.ownsRow z 34 4 v (objs (pre.map Subtype.val) ++ sobs x.val i).length (obcs (objs (pre.map Subtype.val) ++ sobs x.val i)) ∧ (∀ g, v.ownBlock = some g → z + 2 ≤ g)) ∧ Below z w wr ∧ KeepsOthers W wr ∧ wr.heap[z + 1]? = W.heap[z + 1]?) (fun q _ => (nn - (intOf q)).toNat)
    case atStart => exact ⟨0, rfl, Nat.zero_le _, HJ0.out.1, HJ0.out.2.1, HJ0.out.2.2.1, rfl⟩
    case round =>
      clear HJ0
      obtain ⟨i, rfl, hi, ⟨v, bL1, hrow, hvn⟩, hB1, hK1, hq1⟩ := hrel
      by_cases hin : i < nn
      · have hini : (i : Int) < nn := by omega
        have hx1 : Ext [] w wr := by rw [HZ.out] at hB1; exact below_ext hB1
        have hs1 := (HS.out x.val x.property).keep hx1 (by simp) (by simp)
        have d4 := hs1.c4
        rw [hnn] at d4
        obtain ⟨e0, e1⟩ := hs1.at_ (i := i) (by omega)
        by_cases hsz : 0 < (x.val.S.getD i (0, 0)).1
        · obtain ⟨va, vc, rfl, _⟩ := own_slice hrow
          have cz := bL1.cell
          have fz0 := bL1.frozen
          have had : ((x.val.st : Int) + 1) * 256 + i * x.val.rm = ((adr x.val i : Nat) : Int) := by unfold adr; simp
          have KO : Hid (∀ u, Ext [] wr u → Calls Tryz.prog 75 #[.pointer (some ⟨(sb x.val.st).1, 0, none⟩), .int .i64 i] u (SayPost u (.agg #[.int .i64 (adr x.val i : Nat), .int .i64 (x.val.S.getD i (0, 0)).1, .int .i64 (x.val.S.getD i (0, 0)).2, .slice none 0 0]))) := fun u hu => by
            have := object_any _ _ _ _ _ _ i _ u (hs1.keep hu (by simp) (by simp)) (by omega) (by have := hxo.rm2; omega) (by omega) (by omega)
            rw [had] at this
            exact this
          have hll : (objs (pre.map Subtype.val) ++ sobs x.val i).length ≤ 1000000000 := by
            have h1 := sobs_len x.val i
            have h2 := objs_len HV.out (pre.map Subtype.val) (fun y hy => by obtain ⟨q, _, rfl⟩ := List.mem_map.1 hy; exact q.property)
            simp only [List.length_append, List.length_map] at h2 ⊢
            omega
          have HB1 := hid hB1
          have HK1 := hid hK1
          have HQ1 := hid hq1
          have HbL := hid bL1
          have Hrow := hid hrow
          have HVn := hid hvn
          have Hsob := hid (sobs_yes hsz)
          clear bL1 hrow hvn hB1 hK1 hq1 hs1 hx1 had
          generalize hLL : objs (pre.map Subtype.val) ++ sobs x.val i = LL at *
          generalize hz0 : (x.val.S.getD i (0, 0)).1 = sz0 at *
          generalize (x.val.S.getD i (0, 0)).2 = tg0 at *
          generalize hs : (sb x.val.st).1 = sx at *
          generalize ((adr x.val i : Nat) : Int) = ad at *
          generalize hln : LL.length = ln at *
          have HLn := hid hln
          clear hln
          gi_wp2_with fail
          refine wpIn_region_heldR (l := [_, _, _]) (suf := [_, _, _, _]) (fun w' => w'.cell? ⟨z, 0, none⟩ = some (.slice va ln vc)) (by kernel_rfl) (by kernel_rfl) (by kernel_rfl) (fun _ _ _ _ _ h => h) (by simpa using cz) ?_
          simp only [List.cons_append, List.nil_append]
          refine wpPreR_cons (.slice va ln vc) rfl rfl (fun u hu => by go_simp) (fun u => rfl) ?_
          refine wpPreR_cons (.pointer (some ⟨sx, 0, none⟩)) rfl rfl (fun u hu => by go_simp) (fun u => rfl) ?_
          refine wpPreR_cons (.int .i64 i) rfl rfl (fun u hu => by go_simp) (fun u => rfl) ?_
          show wpSeqR _ _ _ _ _ _ _ _ _
          refine wpSeqR_step (fun K1 hK1 => ?_)
          go_simp
          refine ⟨trivial, ((callsIn_wide.2 (KO.out _ (Ext.drew _ _))).inRound l).mono ?_⟩
          rintro e u ⟨rfl, hu⟩
          have hEu : Ext [] wr u := (Ext.drew [] _).trans hu
          refine hK1 _ _ (.inr (hEu.cell cz (by simp))) ?_
          clear hK1 K1
          refine wpSeqR_step (fun K2 hK2 => ?_)
          go_simp
          have hEb : Ext [] wr (u.alloc (.cells #[.int .i64 ad, .int .i64 sz0, .int .i64 tg0, .slice none 0 0] 34)) := hEu.trans (Ext.alloc [] _ _)
          refine hK2 _ _ (.inr (hEb.cell cz (by simp))) ?_
          clear hK2 K2
          refine wpSeqR_step (fun K3 hK3 => ?_)
          obtain ⟨v', w', hr5, ho5, hg5, _, hn5⟩ := run_append_own_at (P := Tryz.prog) (u.alloc (.cells #[.int .i64 ad, .int .i64 sz0, .int .i64 tg0, .slice none 0 0] 34)) z 37 37 34 i0 _ 4 48 Tryz.underlying37 HI0.out HZ0.out hz1 hz2 rfl (by decide) (.slice va ln vc) ln (obcs LL) (own_keep0 Hrow.out hEb) ⟨u.heap.size, 0, none⟩ 1 1 [.int .i64 ad, .int .i64 sz0, .int .i64 tg0, .slice none 0 0] rfl (fun j u2 hu2 => by rw [Addr.add_lit, cell_of_row _ _ _ _ _ _ (heap_alloc_new u _), Nat.zero_add, ← hu2]; simp) (by simp [Value.oneCell']) (by unfold maxLen; omega) (by omega) (by have := HbL.out.lt; have := hEb.size; omega)
          refine stepR_append (fun _ => trivial) rfl _ _ 37 rfl (.slice va ln vc) (.slice (some ⟨u.heap.size, 0, none⟩) 1 1) v' rfl rfl hr5 ?_
          have hx5 := ext_grown hg5
          have hzv : z ∉ (Value.slice va ln vc).ownBlock.toList := by
            intro hm
            rw [Option.mem_toList] at hm
            have := HVn.out z hm
            omega
          have hzv1 : z + 1 ∉ (Value.slice va ln vc).ownBlock.toList := by
            intro hm
            rw [Option.mem_toList] at hm
            have := HVn.out (z + 1) hm
            omega
          have hbz : Boxed w' z 37 (.slice va ln vc) := hx5.keep (hEb.keep HbL.out (by simp)) hzv
          have hzl := HbL.out.lt
          have hul := hEu.size
          have hz2l : z + 2 ≤ wr.heap.size := by
            have := HK1.out.size
            have := hsz
            have := HBW.out.size
            omega
          obtain ⟨a5, c5, hv5, _⟩ := own_slice ho5
          have hvn5 : ∀ g, v'.ownBlock = some g → z + 2 ≤ g := fun g hg => by
            rcases hn5 with q | q
            · rw [q] at hg; exact HVn.out g hg
            · rw [q] at hg; simp at hg; omega
          have cz' := hbz.cell
          have fz' := hbz.frozen
          refine hK3 _ _ (.inr cz') ?_
          clear hK3 K3
          have HFin : Hid ((∃ v, Boxed (w'.setCell ⟨z, 0, none⟩ v') z 37 v ∧ (w'.setCell ⟨z, 0, none⟩ v').ownsRow z 34 4 v (objs (pre.map Subtype.val) ++ sobs x.val (i + 1)).length (obcs (objs (pre.map Subtype.val) ++ sobs x.val (i + 1))) ∧ (∀ g, v.ownBlock = some g → z + 2 ≤ g)) ∧ Below z w (w'.setCell ⟨z, 0, none⟩ v') ∧ KeepsOthers W (w'.setCell ⟨z, 0, none⟩ v') ∧ (w'.setCell ⟨z, 0, none⟩ v').heap[z + 1]? = W.heap[z + 1]?) := by
            have hx6 := Ext.setCell [z] w' ⟨z, 0, none⟩ v' (by simp)
            refine ⟨⟨v', hbz.set v', ?_, hvn5⟩, ?_, ?_, ?_⟩
            · rw [Hsob.out, ← List.append_assoc, hLL, obcs_append, List.length_append, HLn.out]
              refine own_keep (by simpa [obcs, obc] using ho5) hx6 (fun b hb hv => ?_)
              simp only [List.mem_singleton] at hb
              have := hvn5 b hv
              omega
            · have hb7 : Below z wr (w'.setCell ⟨z, 0, none⟩ v') := by
                refine ⟨hx6.os.trans (hx5.os.trans hEb.os), hx6.tape.trans (hx5.tape.trans hEb.tape), hx6.output.trans (hx5.output.trans hEb.output), Nat.le_trans hEb.size (Nat.le_trans hx5.size hx6.size), fun k hk => ?_⟩
                have hkv : k ∉ (Value.slice va ln vc).ownBlock.toList := by
                  intro hm
                  rw [Option.mem_toList] at hm
                  have := HVn.out k hm
                  omega
                rw [hx6.block k (by have := hx5.size; have := hEb.size; omega) (by simp; omega), hx5.block k (by have := hEb.size; omega) hkv, hEb.block k (by omega) (by simp)]
              exact HB1.out.trans hb7
            · refine HK1.out.trans ((keepsOthers_of_ext hEb (by simp)).trans ((keepsOthers_of_ext hx5 (fun b hb _ => ?_)).trans (KeepsOthers.setCell _ _ _)))
              rw [Option.mem_toList] at hb
              rcases (own_keep0 Hrow.out hEb).2 with ⟨q, _⟩ | ⟨g, cap, cur, q, _, hg, _⟩
              · rw [q] at hb; simp [Value.ownBlock] at hb
              · rw [q] at hb; simp [Value.ownBlock] at hb; subst hb; exact ⟨_, _, _, hg⟩
            · rw [hx6.block (z + 1) (by have := hx5.size; have := hEb.size; omega) (by simp), hx5.block (z + 1) (by have := hEb.size; omega) hzv1, hEb.block (z + 1) (by omega) (by simp)]
              exact HQ1.out
          subst hv5
          clear hx5 hzv hzv1 hbz hvn5 hg5 ho5 hr5 hEb hEu hu cz fz0
          refine wpSeqR_step (fun K4 hK4 => ?_)
          go_simp
          refine hK4 _ _ (.inl rfl) ?_
          clear hK4 K4
          refine wpSeqR_nil ?_
          gi_wp2_with fail
          go_roundw
          case rel => exact ⟨i + 1, by go_num, by omega, HFin.out⟩
          case measure => simp [intOf]; omega
        · have HR : Hid (∃ v, Boxed wr z 37 v ∧ wr.ownsRow z 34 4 v (objs (pre.map Subtype.val) ++ sobs x.val (i + 1)).length (obcs (objs (pre.map Subtype.val) ++ sobs x.val (i + 1))) ∧ (∀ g, v.ownBlock = some g → z + 2 ≤ g)) := by
            rw [sobs_no hsz]; exact ⟨v, bL1, hrow, hvn⟩
          have HB1 := hid hB1
          have HK1 := hid hK1
          have HQ1 := hid hq1
          clear bL1 hrow hvn hB1 hK1 hq1 hs1 hx1
          generalize (x.val.S.getD i (0, 0)).1 = sz0 at *
          generalize (x.val.S.getD i (0, 0)).2 = tg0 at *
          gi_wp2_with fail
          go_roundw
          case rel => exact ⟨i + 1, by go_num, by omega, HR.out, HB1.out, HK1.out, HQ1.out⟩
          case measure => simp [intOf]; omega
      · obtain rfl : i = nn := by omega
        have HR : Hid ((∃ v, Boxed wr z 37 v ∧ wr.ownsRow z 34 4 v (objs (pre.map Subtype.val) ++ sobs x.val i).length (obcs (objs (pre.map Subtype.val) ++ sobs x.val i)) ∧ (∀ g, v.ownBlock = some g → z + 2 ≤ g)) ∧ Below z w wr ∧ KeepsOthers W wr ∧ wr.heap[z + 1]? = W.heap[z + 1]?) := ⟨⟨v, bL1, hrow, hvn⟩, hB1, hK1, hq1⟩
        clear bL1 hrow hvn hB1 hK1 hq1
        gi_wp2_with fail
        obtain ⟨⟨v2, b2, r2, n2⟩, hb2, hk2, hq2⟩ := HR.out
        refine ⟨hk2.from _, fun b hb o ho => ?_, ⟨v2, b2, ?_, n2⟩, hb2⟩
        · rcases HKb.out b hb with rfl | hbz
          · rw [hq2]; exact ho
          · have hbz2 : b < z := by have := HZ.out; omega
            rw [hb2.block b hbz2, ← HBW.out.block b hbz2]; exact ho
        · rw [List.map_append, List.map_cons, List.map_nil, objs_snoc, hnn]
          exact r2
  case done =>
    rintro D zs W hD rfl ⟨⟨v, bL1, hrow, hvn⟩, hB1⟩ hK
    obtain ⟨va, vc, rfl, _⟩ := own_slice hrow
    rw [List.attach_map_subtype_val] at hrow
    have cz := bL1.cell
    have KV := fun u => values28 (.slice va (objs (H.sp.attach.map Subtype.val)).length vc) ⟨_, _, _, rfl⟩ u
    rw [List.attach_map_subtype_val] at KV cz
    have Hrow := hid hrow
    have HB1 := hid hB1
    have HVn := hid hvn
    have HK := hid hK
    clear bL1 hrow hvn hB1 hK
    generalize hln : (objs H.sp).length = ln at *
    have HLn := hid hln.symm
    clear hln
    gi_wp2_with (first | (refine ⟨trivial, ?_⟩; gi_at_call 82; refine (callsIn_wide.2 (KV _)).mono ?_; rintro e w' ⟨rfl, rfl⟩) | fail "no arm")
    have hK2 := (KeepsOthers.alloc W (.cells #[.slice va ln vc] 37)).same _ _ HK.out rfl
    refine ⟨by simp, .inl ⟨_, _, rfl, run_takeDeferred hK2, ?_⟩⟩
    have hP := grownBy_putObj' (W.alloc (.cells #[.slice va ln vc] 37)) D (.deferred none)
    have hx1 := Ext.alloc [] W (.cells #[.slice va ln vc] 37)
    have hx2 := Ext.grown (S := [D]) hP (by simp)
    have hx0 : Ext [] w W := by have h := HB1.out; rw [HZ.out] at h; exact below_ext h
    have hDW := lt_of_heap HK.out
    have hz2 := HZ.out
    refine ⟨_, results_tmp rfl _ _ _, W.heap.size, .slice va ln vc, rfl, ?_, ?_, ?_, ?_, ?_⟩
    · exact hx2.keep (heap_alloc_new W _) (by simp; omega)
    · have h1 := own_keep0 Hrow.out hx1
      unfold Obl
      rw [← HLn.out]
      refine own_base (own_keep h1 hx2 (fun b hb hv => ?_)) (Nat.zero_le _)
      simp only [List.mem_singleton] at hb
      subst hb
      rcases h1.2 with ⟨q, _⟩ | ⟨g, cap, cur, q, _, hg, _⟩
      · rw [q] at hv; simp [Value.ownBlock] at hv
      · rw [q] at hv; simp [Value.ownBlock] at hv; subst hv; rw [hK2] at hg; simp at hg
    · have := hx0.size; exact this
    · intro g hg
      have := HVn.out g (by cases va <;> exact hg)
      omega
    · exact (hx0.trans hx1).on hx2 (by simp; omega)
  case stop =>
    rintro D c pre W _ _ h _
    exact h.elim

end Go.Proofs.YtjbbomokgpoilaaGreatDoor

/-
  The library's iterators over lists of objects, spans and runs; no statement is proved here.
-/
namespace Go.Proofs.YtjbbomokgpoilaaGreatDoor
open Go.RowKit Go.Shelf

attribute [local go_sem] Oper.semAt_some

theorem kl_own {Bn : Nat} {v : Value} {A B : World} (h : Kl Bn v A B) {base : Nat} {e : TypeId} {s n : Nat} {xs : List Value} (hl : A.ownsRow base e s v n xs) : B.ownsRow base e s v n xs := by
  refine ⟨hl.1, ?_⟩
  rcases hl.2 with q | ⟨g, cap, cur, rfl, h1, h2, h3⟩
  · exact .inl q
  · exact .inr ⟨g, cap, cur, rfl, h1, h.row g rfl _ h2, h3⟩

/-- The cells of one element of a list of structs. -/
theorem own_at {w : World} {e : TypeId} {s : Nat} {v : Value} {α : Type} {L : List α} {f : α → List Value} (hf : ∀ x ∈ L, (f x).length = s) (h : w.ownsRow 0 e s v L.length (L.flatMap f)) {k : Nat} (hk : k < L.length) :
    ∃ g c, v = .slice (some ⟨g, 0, none⟩) L.length c ∧ ∀ j, j < s → w.cell? ⟨g, k * s + j, none⟩ = (f L[k])[j]? := by
  rcases h.2 with ⟨_, h2⟩ | ⟨g, cap, cur, h0, h1, h2, h3, h4, h5, h6⟩
  · omega
  · refine ⟨g, cap, h0, fun j hj => ?_⟩
    rw [cell_of_row w g _ _ _ _ h2]
    have hkl : k * s + j < L.length * s := by
      have : (k + 1) * s ≤ L.length * s := Nat.mul_le_mul_right _ hk
      rw [Nat.add_mul, Nat.one_mul] at this
      omega
    have e1 : (cur.toList.take (L.length * s))[k * s + j]? = cur[k * s + j]? := by
      rw [List.getElem?_take, if_pos hkl]; simp
    rw [← e1, h6]
    clear h6 e1 h5 h4 h3 h2 h1 h0 hkl h
    induction L generalizing k with
    | nil => simp at hk
    | cons a L ih =>
      rw [List.flatMap_cons]
      cases k with
      | zero =>
        rw [Nat.zero_mul, Nat.zero_add, List.getElem?_append_left (by rw [hf a (by simp)]; exact hj)]
        rfl
      | succ k =>
        rw [List.getElem?_append_right (by rw [hf a (by simp), Nat.add_mul]; omega), hf a (by simp), show (k + 1) * s + j - s = k * s + j by rw [Nat.add_mul, Nat.one_mul]; omega]
        exact ih (fun x hx => hf x (List.mem_cons_of_mem _ hx)) (by simpa using hk)

theorem obl_at {w : World} {v : Value} {L : List Ob} (h : Obl w v L) {k : Nat} (hk : k < L.length) : ∃ g c, v = .slice (some ⟨g, 0, none⟩) L.length c ∧ (w.cell? ⟨g, k * 4, none⟩ = some (.int .i64 L[k].1) ∧ w.cell? ⟨g, k * 4 + 1, none⟩ = some (.int .i64 L[k].2.1) ∧ w.cell? ⟨g, k * 4 + 2, none⟩ = some (.int .i64 L[k].2.2) ∧ w.cell? ⟨g, k * 4 + 3, none⟩ = some (.slice none 0 0)) := by
  obtain ⟨g, c, hv, hc⟩ := own_at (f := obc) (by intro x _; rfl) h hk
  exact ⟨g, c, hv, hc 0 (by omega), hc 1 (by omega), hc 2 (by omega), hc 3 (by omega)⟩
theorem lst_at {w : World} {v : Value} {L : List Rn} (h : Lst w v L) {k : Nat} (hk : k < L.length) : ∃ g c, v = .slice (some ⟨g, 0, none⟩) L.length c ∧ (w.cell? ⟨g, k * 3, none⟩ = some (.int .i64 L[k].s) ∧ w.cell? ⟨g, k * 3 + 1, none⟩ = some (.int .i64 L[k].n) ∧ w.cell? ⟨g, k * 3 + 2, none⟩ = some (.bool L[k].u)) := by
  obtain ⟨g, c, hv, hc⟩ := own_at (f := Rn.cells) (by intro x _; rfl) h hk
  exact ⟨g, c, hv, hc 0 (by omega), hc 1 (by omega), hc 2 (by omega)⟩

set_option maxRecDepth 100000 in
set_option maxHeartbeats 2000000 in
theorem vals78_in (F : Fence) (n : Nat) (h34 : F.fn 112) (hro : F.round = none) (hn : 1 ≤ n) (l Bn : Nat) (v : Value) (L : List Ob) (hlen : L.length ≤ 1000000000) (J Jx : List Ob → World → Prop) (B0 : Nat) (hJ : AbidesFrom B0 J)
    (hY : ∀ pre x W, J pre W → pre.length < L.length → YieldAt F (n - 1) Tryz.prog l #[.agg #[.int .i64 x.1, .int .i64 x.2.1, .int .i64 x.2.2, .slice none 0 0]] W fun e W' =>
      (e = .returned (.bool true) ∧ J (pre ++ [x]) W' ∧ Kl Bn v W W') ∨ (e = .returned (.bool false) ∧ Jx (pre ++ [x]) W'))
    (W : World) (hBn : Boxed W Bn 37 v) (hL : Obl W v L) (h0 : J [] W) :
    CallsIn F n Tryz.prog 112 #[.func (.yield l) #[] #[], .pointer (some ⟨Bn, 0, none⟩)] W fun e W' => (∃ v, e = .returned v) ∧
      ((∃ ys, ys = L ∧ J ys W') ∨ (∃ pre, pre <+: L ∧ Jx pre W')) := by
  obtain ⟨a, c, rfl, _⟩ := own_slice hL
  have hc := hBn.cell
  refine callsIn_of_wp Tryz.func112 rfl h34 ?_ hro
  simp only [Tryz.ntmps112, List.size_toArray, List.length_cons, List.length_nil, Nat.reduceAdd, Nat.reduceSub, Array.replicate_succ, Array.replicate_zero, List.push_toArray, List.append_toArray, List.nil_append, List.cons_append]
  have HL := hid hL
  have HB := hid hBn
  clear hL hBn
  gi_wp2
  gi_loopw [7] (fun q wr => ∃ k : Nat, q = .int .i64 k ∧ k ≤ L.length ∧ Obl wr (.slice a L.length c) L ∧ Boxed wr Bn 37 (.slice a L.length c) ∧ J (L.take k) wr) (fun q _ => (L.length - (intOf q)).toNat)
  case atStart => exact ⟨0, rfl, Nat.zero_le _, HL.out, HB.out, by simpa using h0⟩
  case round =>
    clear HL HB
    obtain ⟨k, rfl, hk, hL, hB, hJk⟩ := hrel
    have HL := hid hL
    have HB := hid hB
    have HJk := hid hJk
    clear hB hJk
    by_cases hlt : k < L.length
    · obtain ⟨g, c', hv, hcs⟩ := obl_at hL hlt
      simp only [Value.slice.injEq, true_and] at hv
      obtain ⟨rfl, rfl⟩ := hv
      have HM : Hid (L.take k ++ [L[k]] = L.take (k + 1)) := by
        show _ = _
        rw [List.take_add_one, List.getElem?_eq_getElem hlt]; rfl
      obtain ⟨x, hx⟩ : ∃ x, x = L[k] := ⟨_, rfl⟩
      rw [← hx] at hcs HM
      clear hx hL
      have hJ2 : J (L.take k) (wr.alloc (.cells #[.int .i64 x.1, .int .i64 x.2.1, .int .i64 x.2.2, .slice none 0 0] 34)) := hJ _ _ _ none HJk.out (World.grownBy_alloc _ _ _) (by simp)
      obtain ⟨fn, tmps, assign, body, hy, hR⟩ := hY (L.take k) x _ hJ2 (by simp; omega)
      clear hJ2
      gi_wp2
      refine hR.mono ?_
      rintro e W3 (⟨rfl, hJ3, hk3⟩ | ⟨rfl, hJx3⟩)
      · have hE := Ext.alloc [] wr (.cells #[.int .i64 x.1, .int .i64 x.2.1, .int .i64 x.2.2, .slice none 0 0] 34)
        have HL3 := hid (kl_own hk3 (own_keep0 HL.out hE))
        have HB3 := hid (hk3.boxed (HB.out.alloc _))
        clear hE
        gi_wp2
        go_roundw
        case rel => exact ⟨k + 1, by go_num, by omega, HL3.out, HB3.out, by rw [← HM.out]; exact hJ3⟩
        case measure => simp [intOf]; omega
      · gi_wp2
        refine bodyPost_ret (results_none rfl _ _ _) rfl ?_
        exact ⟨⟨_, rfl⟩, .inr ⟨_, by rw [HM.out]; exact List.take_prefix _ _, hJx3⟩⟩
    · obtain rfl : k = L.length := by omega
      gi_wp2
      go_end0
      exact ⟨⟨_, rfl⟩, .inl ⟨L, rfl, by have := HJk.out; rwa [List.take_length] at this⟩⟩

theorem vals78_stops (F : Fence) (n : Nat) (h34 : F.fn 112) (hro : F.round = none) (hn : 1 ≤ n) (Bn : Nat) (v : Value) (L : List Ob) (hlen : L.length ≤ 1000000000) (w : World) (hB : Boxed w Bn 37 v) (hL : Obl w v L) :
    SeqStopsK F n Tryz.prog 112 #[.pointer (some ⟨Bn, 0, none⟩)] (fun x : Ob => #[Value.agg #[.int .i64 x.1, .int .i64 x.2.1, .int .i64 x.2.2, .slice none 0 0]]) (Kl Bn v) (fun ys => ys = L) (fun pre => pre <+: L) L.length w := fun l J Jx W hW hJ _ hY h0 =>
  vals78_in F n h34 hro hn l Bn v L hlen J Jx _ hJ hY W ((below_ext hW).keep hB (by simp)) (own_keep0 hL (below_ext hW)) h0

set_option maxRecDepth 100000 in
set_option maxHeartbeats 2000000 in
theorem vals81_in (F : Fence) (n : Nat) (h34 : F.fn 108) (hro : F.round = none) (hn : 1 ≤ n) (l Bn : Nat) (v : Value) (L : List Rn) (hlen : L.length ≤ 1000000000) (J Jx : List Rn → World → Prop) (B0 : Nat) (hJ : AbidesFrom B0 J)
    (hY : ∀ pre x W, J pre W → pre.length < L.length → YieldAt F (n - 1) Tryz.prog l #[.agg #[.int .i64 x.s, .int .i64 x.n, .bool x.u]] W fun e W' =>
      (e = .returned (.bool true) ∧ J (pre ++ [x]) W' ∧ Kl Bn v W W') ∨ (e = .returned (.bool false) ∧ Jx (pre ++ [x]) W'))
    (W : World) (hBn : Boxed W Bn 38 v) (hL : Lst W v L) (h0 : J [] W) :
    CallsIn F n Tryz.prog 108 #[.func (.yield l) #[] #[], .pointer (some ⟨Bn, 0, none⟩)] W fun e W' => (∃ v, e = .returned v) ∧
      ((∃ ys, ys = L ∧ J ys W') ∨ (∃ pre, pre <+: L ∧ Jx pre W')) := by
  obtain ⟨a, c, rfl, _⟩ := own_slice hL
  have hc := hBn.cell
  refine callsIn_of_wp Tryz.func108 rfl h34 ?_ hro
  simp only [Tryz.ntmps108, List.size_toArray, List.length_cons, List.length_nil, Nat.reduceAdd, Nat.reduceSub, Array.replicate_succ, Array.replicate_zero, List.push_toArray, List.append_toArray, List.nil_append, List.cons_append]
  have HL := hid hL
  have HB := hid hBn
  clear hL hBn
  gi_wp2
  gi_loopw [7] (fun q wr => ∃ k : Nat, q = .int .i64 k ∧ k ≤ L.length ∧ Lst wr (.slice a L.length c) L ∧ Boxed wr Bn 38 (.slice a L.length c) ∧ J (L.take k) wr) (fun q _ => (L.length - (intOf q)).toNat)
  case atStart => exact ⟨0, rfl, Nat.zero_le _, HL.out, HB.out, by simpa using h0⟩
  case round =>
    clear HL HB
    obtain ⟨k, rfl, hk, hL, hB, hJk⟩ := hrel
    have HL := hid hL
    have HB := hid hB
    have HJk := hid hJk
    clear hB hJk
    by_cases hlt : k < L.length
    · obtain ⟨g, c', hv, hcs⟩ := lst_at hL hlt
      simp only [Value.slice.injEq, true_and] at hv
      obtain ⟨rfl, rfl⟩ := hv
      have HM : Hid (L.take k ++ [L[k]] = L.take (k + 1)) := by
        show _ = _
        rw [List.take_add_one, List.getElem?_eq_getElem hlt]; rfl
      obtain ⟨x, hx⟩ : ∃ x, x = L[k] := ⟨_, rfl⟩
      rw [← hx] at hcs HM
      clear hx hL
      have hJ2 : J (L.take k) (wr.alloc (.cells #[.int .i64 x.s, .int .i64 x.n, .bool x.u] 98)) := hJ _ _ _ none HJk.out (World.grownBy_alloc _ _ _) (by simp)
      obtain ⟨fn, tmps, assign, body, hy, hR⟩ := hY (L.take k) x _ hJ2 (by simp; omega)
      clear hJ2
      gi_wp2
      refine hR.mono ?_
      rintro e W3 (⟨rfl, hJ3, hk3⟩ | ⟨rfl, hJx3⟩)
      · have hE := Ext.alloc [] wr (.cells #[.int .i64 x.s, .int .i64 x.n, .bool x.u] 98)
        have HL3 := hid (kl_own hk3 (own_keep0 HL.out hE))
        have HB3 := hid (hk3.boxed (HB.out.alloc _))
        clear hE
        gi_wp2
        go_roundw
        case rel => exact ⟨k + 1, by go_num, by omega, HL3.out, HB3.out, by rw [← HM.out]; exact hJ3⟩
        case measure => simp [intOf]; omega
      · gi_wp2
        refine bodyPost_ret (results_none rfl _ _ _) rfl ?_
        exact ⟨⟨_, rfl⟩, .inr ⟨_, by rw [HM.out]; exact List.take_prefix _ _, hJx3⟩⟩
    · obtain rfl : k = L.length := by omega
      gi_wp2
      go_end0
      exact ⟨⟨_, rfl⟩, .inl ⟨L, rfl, by have := HJk.out; rwa [List.take_length] at this⟩⟩

theorem vals81_stops (F : Fence) (n : Nat) (h34 : F.fn 108) (hro : F.round = none) (hn : 1 ≤ n) (Bn : Nat) (v : Value) (L : List Rn) (hlen : L.length ≤ 1000000000) (w : World) (hB : Boxed w Bn 38 v) (hL : Lst w v L) :
    SeqStopsK F n Tryz.prog 108 #[.pointer (some ⟨Bn, 0, none⟩)] (fun x : Rn => #[Value.agg #[.int .i64 x.s, .int .i64 x.n, .bool x.u]]) (Kl Bn v) (fun ys => ys = L) (fun pre => pre <+: L) L.length w := fun l J Jx W hW hJ _ hY h0 =>
  vals81_in F n h34 hro hn l Bn v L hlen J Jx _ hJ hY W ((below_ext hW).keep hB (by simp)) (own_keep0 hL (below_ext hW)) h0

end Go.Proofs.YtjbbomokgpoilaaGreatDoor

/-
  A loop over an iterator that is itself made with a loop over an iterator; no statement is proved here.
-/
namespace Go.Proofs.YtjbbomokgpoilaaGreatDoor
open Go.RowKit Go.Shelf

/-- What an iterator gives a loop whose rounds always go on, where the loop begins in the world w. The rounds keep what is no cells from the iterator's own heap on, and Kp. -/
def Gives {α : Type} (F : Fence) (n : Nat) (P : Program) (gf : Nat) (lb : Array Value) (encs : α → Array Value) (Kp : World → World → Prop) (L : List α) (N : Nat) (w : World) : Prop :=
  ∀ (l : Nat) (J : List α → World → Prop) (W1 : World), l < W1.heap.size → Below w.heap.size w W1 → OwnFrom W1.heap.size J →
    (∀ pre x W, J pre W → pre.length < N → YieldAt F (n - 1) P l (encs x) W fun e W' => e = .returned (.bool true) ∧ J (pre ++ [x]) W' ∧ KeepsFrom W1.heap.size W W' ∧ Kp W W') →
    J [] W1 → CallsIn F n P gf (#[.func (.yield l) #[] #[]] ++ lb) W1 fun e W' => (∃ v, e = .returned v) ∧ J L W'

theorem keepsFrom_put {B : Nat} {W : World} {l : Nat} {o : Obj} (h : l < B) : KeepsFrom B W (W.putObj l o) :=
  ⟨(grownBy_putObj' W l o).size, fun k _ hk h0 _ => (World.putObj_heap_other (by omega)).trans h0⟩
theorem keepsFrom_up {B B' : Nat} {A C : World} (h : KeepsFrom B A C) (hB : B ≤ B') : KeepsFrom B' A C := ⟨h.size, fun k o hk => h.same k o (Nat.le_trans hB hk)⟩

/-- The law of such a loop. -/
theorem loop_gives {F : Fence} {n : Nat} {P : Program} {α : Type} {g : Operand} {ps : Array Tmp} {assign body : Code} {Q : Exit → Act → World → Prop} {a : Act} {w : World}
    (hro : F.round = none) (h1 : 1 ≤ n) {gf : Nat} {lb : Array Value} (hg : a.eval g = .func (.func gf) #[] lb) (hFg : F.fn gf) (eg : ∀ args w, (callFunc gf args).run P w = .ok (.enter gf args) w)
    {encs : α → Array Value} {Kp : World → World → Prop} {L : List α} {N : Nat} (hseq : Gives F (n - 1) P gf lb encs Kp L N w)
    (hKt : ∀ {A B C : World}, Kp A B → Kp B C → Kp A C) (hKb : ∀ (W : World) (r : Loop) (o' : Obj), W.heap[w.heap.size + 1]? = some (.loop r) → Kp W (W.putObj (w.heap.size + 1) o')) (hps : ∀ x, (encs x).size = ps.size)
    (I : List α → World → Prop) (hI : OwnFrom w.heap.size I) (h0 : I [] w) (Ax : α → Act → World → Prop) (hAx : ∀ x a', OwnFrom w.heap.size (fun (_ : Unit) W => Ax x a' W))
    (hassign : ∀ (l : Nat) (pre : List α) (x : α) (W : World) (K : Act → World → Prop), I pre W → (∀ a' W', KeepsFrom w.heap.size W W' → Kp W W' → I pre W' → Ax x a' W' → K a' W') →
      assign.wpIn (F.inRound l) (n - 1 - 1) P (Exit.then K (fun _ _ _ => False)) { tmps := (ps.zip (encs x)).foldl (fun t (p, v) => t.setIfInBounds p v) a.tmps, defers := [] } W)
    (hbody : ∀ (l : Nat) (pre : List α) (x : α) (a' : Act) (W : World), w.heap.size ≤ l → (∃ r, W.heap[l]? = some (.loop r)) → I pre W → Ax x a' W → pre.length < N → body.wpIn (F.inRound l) (n - 1 - 1) P (fun e _ W' => e = .normal ∧ KeepsFrom w.heap.size W W' ∧ Kp W W' ∧ I (pre ++ [x]) W') a' W)
    (hdone : ∀ (D : Nat) (W : World), w.heap.size ≤ D → I L W → W.heap[D]? = some (.deferred (some [])) → Q .normal { a with defers := { target := .collected D, args := #[] } :: a.defers } W) :
    (Code.rangeFunc g ps assign body).wpIn F n P Q a w := by
  refine wpIn_rangeFunc fun fn hfn => ?_
  rw [hro]
  obtain ⟨s, hs⟩ : ∃ s, s = w.heap.size := ⟨_, rfl⟩
  obtain ⟨rec, hrec⟩ : ∃ rec : LoopState → Option Code → Loop, rec = fun st pe => { state := st, pending := pe, fn, tmps := a.tmps, params := ps, assign, body, defers := w.heap.size } := ⟨_, rfl⟩
  obtain ⟨W1, hW1⟩ : ∃ W1, (w.alloc (.deferred (some []))).alloc (.loop (rec .ready none)) = W1 := ⟨_, rfl⟩
  have hz1 : W1.heap.size = s + 2 := by rw [← hW1]; simp [hs]
  have hL1 : W1.heap[s + 1]? = some (.loop (rec .ready none)) := by
    have h := World.alloc_heap_new (w.alloc (.deferred (some []))) (.loop (rec .ready none))
    rw [World.size_alloc, ← hs, hW1] at h; exact h
  have hK1 : W1.heap[s]? = some (.deferred (some [])) := by
    rw [← hW1, hs]; exact (Below.heap_alloc _ _ _ (by simp)).trans (World.alloc_heap_new w _)
  have hI1 : I [] W1 := by rw [← hW1]; exact hI.alloc _ (hI.alloc _ h0)
  have hb1 : Below w.heap.size w W1 := by rw [← hW1]; exact ((Below.refl _ w).alloc (Nat.le_refl _) _).alloc (by simp) _
  refine ⟨s + 1, [{ target := .collected s, args := #[] }], W1, { target := .fn (.func gf) lb, args := #[.func (.yield (s + 1)) #[] #[]] }, W1, gf, #[.func (.yield (s + 1)) #[] #[]] ++ lb, W1, ?_, ?_, ?_, ?_, fun _ => h1, ?_⟩
  · rw [← hW1, hrec, hs]; exact run_enterLoop_outer _ _ _ _ _
  · simp only [resolve, hg]
    simp [go_sem]
  · intro f' hf'; simp [Target.leads] at hf'; subst hf'; exact hFg
  · simp [invoke, go_sem, eg]
  · refine (hseq (s + 1) (fun pre W => I pre W ∧ W.heap[s + 1]? = some (.loop (rec .ready none)) ∧ W.heap[s]? = some (.deferred (some []))) W1 (by omega) hb1
      (fun q A B row hq hg' hr => ?_) ?_ ⟨hI1, hL1, hK1⟩).mono ?_
    · have hne : ∀ k, k < s + 2 → some k ≠ row := fun k hk e => by have := (hr k e.symm).1; omega
      refine ⟨hI q A B row hq.1 hg' (fun r e => ⟨by have := (hr r e).1; omega, (hr r e).2⟩), ?_, ?_⟩
      · exact (hg'.block _ (Array.getElem?_eq_some_iff.1 hq.2.1).1 (hne _ (by omega))).trans hq.2.1
      · exact (hg'.block _ (Array.getElem?_eq_some_iff.1 hq.2.2).1 (hne _ (by omega))).trans hq.2.2
    · rintro pre x W ⟨hi, hl, hk⟩ hlen
      have hy := run_yield (P := P) (args := encs x) hl (by rw [hrec]; exact hps x)
      rw [hrec] at hy
      refine ⟨fn, _, assign, body, hy, roundIn_of_wpIn hfn (hassign _ pre x W _ hi ?_)⟩
      clear hy
      intro a' V hkf hkp hiV hax
      have hlV := hkf.same _ _ (by omega) hl rfl
      have hkV := hkf.same _ _ (by omega) hk rfl
      have hlt : s + 1 < V.heap.size := (Array.getElem?_eq_some_iff.1 hlV).1
      refine ⟨_, run_beginRound hlV (by rw [hrec]), ?_⟩
      have hl2 : (V.putObj (s + 1) (.loop { rec .ready none with state := .busy })).heap[s + 1]? = some (.loop { rec .ready none with state := .busy }) := World.putObj_heap_same hlt
      have hk2 : (V.putObj (s + 1) (.loop { rec .ready none with state := .busy })).heap[s]? = some (.deferred (some [])) := (World.putObj_heap_other (by omega)).trans hkV
      refine wpIn_mono (hbody _ pre x a' _ (by omega) ⟨_, hl2⟩ (hI.putObj _ hiV (by omega) hlV rfl) ((hAx x a').putObj (s := ()) _ hax (by omega) hlV rfl) hlen) ?_
      rintro e a3 W3 ⟨rfl, hk3, hp3, hi3⟩
      have hl3 := hk3.same _ _ (by omega) hl2 rfl
      have hr3 : (Instr.endRound (s + 1) none).run P W3 = .ok (.bool true) (W3.putObj (s + 1) (.loop (rec .ready none))) := by
        have h := run_endRound (P := P) none hl3
        rw [hrec] at h ⊢; exact h
      have hkp1 : Kp V (V.putObj (s + 1) (.loop { rec .ready none with state := .busy })) := by rw [hs] at hlV ⊢; exact hKb _ _ _ hlV
      have hkp2 : Kp W3 (W3.putObj (s + 1) (.loop (rec .ready none))) := by rw [hs] at hl3 ⊢; exact hKb _ _ _ hl3
      refine ⟨.bool true, _, hr3, rfl, ⟨hI.putObj _ hi3 (by omega) hl3 rfl, ?_, ?_⟩, ?_, ?_⟩
      · exact World.putObj_heap_same (Array.getElem?_eq_some_iff.1 hl3).1
      · exact (World.putObj_heap_other (by omega)).trans (hk3.same _ _ (by omega) hk2 rfl)
      · exact (keepsFrom_up hkf (by omega)).trans ((keepsFrom_put (by omega)).trans ((keepsFrom_up hk3 (by omega)).trans (keepsFrom_put (by omega))))
      · exact hKt hkp (hKt hkp1 (hKt hp3 hkp2))
    · rintro e W2 ⟨⟨v, rfl⟩, hi, hl, hk⟩
      refine ⟨none, _, by have := run_endLoop (P := P) hl (by rw [hrec]; simp); rw [hrec] at this; exact this, hdone _ _ (by omega) (hI.putObj _ hi (by omega) hl rfl) ((World.putObj_heap_other (by omega)).trans hk)⟩

end Go.Proofs.YtjbbomokgpoilaaGreatDoor

/-
  Holes: the free runs of a heap's pages, and the iterator over them; no statement is proved here.
-/
namespace Go.Proofs.YtjbbomokgpoilaaGreatDoor
open Go.RowKit Go.Shelf

attribute [local go_sem] Oper.semAt_some
theorem run_store_func (P : Program) (w : World) (a : Addr) (f : Fn) (x y : Array Value) (m : Mode) : (store a (.func f x y) m).run P w = stored P w a (.func f x y) m := run_store P w a _ m rfl
attribute [local go_sem] run_store_func

def fr (L : List Rn) : List Rn := L.filter fun x => !x.u
theorem fr_snoc (L : List Rn) (x : Rn) : fr (L ++ [x]) = if x.u then fr L else fr L ++ [x] := by
  unfold fr
  rw [List.filter_append]
  cases hx : x.u <;> simp [hx]
theorem fr_len (L : List Rn) : (fr L).length ≤ L.length := List.length_filter_le _ _

def hitv (B : Nat) : Value := .func (.func 80) #[] #[.pointer (some ⟨B, 0, none⟩)]
def HlPost (w : World) (L : List Rn) (e : Ending) (w' : World) : Prop := ∃ B Bn v, e = .returned (hitv B) ∧ Boxed w' B 100 (itv Bn) ∧ Boxed w' Bn 38 v ∧ Lst w' v L ∧ w.heap.size ≤ B ∧ w.heap.size ≤ Bn ∧ (∀ g, v.ownBlock = some g → w.heap.size ≤ g) ∧ Ext [] w w'

theorem holes_any {T : TypeId} {ox : Nat} {cs : Array Value} (p : Nat) (v : Value) (L : List Rn) (w : World) (hR : Rs T ox cs w p v L) (hlen : L.length ≤ 1000000) : Calls Tryz.prog 45 #[.pointer (some ⟨p, ox, none⟩)] w (HlPost w L) := by
  have K := all_any p v L w hR hlen
  clear hR
  go_enter Tryz.func45, Tryz.ntmps45
  go_wp2_with fail
  refine K.mono ?_
  clear K
  rintro e w1 ⟨Bn, v', rfl, hB, hL1, h1, h2, hE⟩
  have hx := Ext.alloc [] w1 (.cells #[itv Bn] 100)
  have HF : Hid (HlPost w L (.returned (hitv w1.heap.size)) (w1.alloc (.cells #[itv Bn] 100))) :=
    ⟨_, _, _, rfl, Boxed.new _ _ _, hx.keep hB (by simp), hL1.keep0 hx, hE.size, h1, h2, hE.trans hx⟩
  clear hB hL1 h1 h2 hE hx
  unfold itv
  go_wp2
  go_ret
  exact HF.out

/-- What a round of a loop over the holes must keep. -/
def Kh (K : List Nat) (A B : World) : Prop := Ks K A B ∧ ∀ b v, Boxed A b 135 v → Boxed B b 135 v
theorem Kh.refl (K : List Nat) (A : World) : Kh K A A := ⟨Ks.refl _ _, fun _ _ h => h⟩
theorem khK_t {K : List Nat} {A B C : World} (h : Kh K A B) (k : Kh K B C) : Kh K A C := ⟨h.1.trans k.1, fun b v hb => k.2 b v (h.2 b v hb)⟩
theorem kh_ext0 {K : List Nat} {A B : World} (x : Ext [] A B) : Kh K A B := ⟨Ks.of_ext0 x, fun _ _ hb => x.keep hb (by simp)⟩
theorem Kh.kl {Bn B : Nat} {v : Value} {A C : World} (h : Kh (B :: Bn :: v.ownBlock.toList) A C) : Kl Bn v A C :=
  ⟨fun o ho => h.1 Bn (by simp) o ho, fun g hg o ho => h.1 g (by simp [hg]) o ho⟩
theorem yield_any {m n : Nat} {P : Program} {l l' : Nat} {args : Array Value} {W : World} {R : Ending → World → Prop} (h : YieldAt Fence.wide n P l args W R) : YieldAt (Fence.wide.inRound l') m P l args W R := by
  obtain ⟨fn, t, a, b, hy, h1, h2⟩ := h
  exact ⟨fn, t, a, b, hy, h1, fun c cs _ => h2 c cs (room_wide _)⟩

set_option maxRecDepth 100000 in
set_option maxHeartbeats 4000000 in
theorem holes_gives (n : Nat) (hn : 4 ≤ n) (B Bn : Nat) (v : Value) (L : List Rn) (hlen : L.length ≤ 1000000) (w : World) (hB : Boxed w B 100 (itv Bn)) (hBn : Boxed w Bn 38 v) (hL : Lst w v L) :
    Gives Fence.wide n Tryz.prog 80 #[.pointer (some ⟨B, 0, none⟩)] (fun x : Rn => #[Value.agg #[.int .i64 x.s, .int .i64 x.n, .bool x.u]]) (Kh (B :: Bn :: v.ownBlock.toList)) (fr L) L.length w := by
  intro l J W1 hl hb hJ hY h0
  have hE1 := below_ext hb
  replace hB := hE1.keep hB (by simp)
  replace hBn := hE1.keep hBn (by simp)
  replace hL := hL.keep0 hE1
  clear hE1 hb
  refine callsIn_of_wp_marks Tryz.func80 rfl trivial ?_ rfl
  simp only [Tryz.ntmps80, List.size_toArray, List.length_cons, List.length_nil, Nat.reduceAdd, Nat.reduceSub, Array.replicate_succ, Array.replicate_zero, List.push_toArray, List.append_toArray, List.nil_append, List.cons_append]
  have hE2 := Ext.alloc [] W1 (.cells #[.func (.yield l) #[] #[]] 135)
  have hcB := Boxed.cell (hE2.keep hB (by simp))
  have hbn := hE2.keep hBn (by simp)
  have hl2 := hL.keep0 hE2
  have hgl : ∀ g, v.ownBlock = some g → g < W1.heap.size := fun g hg => by
    rcases id hL.2 with ⟨q, _⟩ | ⟨g', cap, cur, q, _, hg', _⟩
    · rw [q] at hg; simp [Value.ownBlock] at hg
    · rw [q] at hg; simp [Value.ownBlock] at hg; subst hg; exact lt_of_heap hg'
  have hbnl := Boxed.lt hBn
  have bY := Boxed.new W1 135 (.func (.yield l) #[] #[])
  have hJ0 : J [] (W1.alloc (.cells #[.func (.yield l) #[] #[]] 135)) := hJ.alloc _ h0
  have hz : (W1.alloc (.cells #[.func (.yield l) #[] #[]] 135)).heap.size = W1.heap.size + 1 := by simp
  unfold itv at hcB
  have HB := hid hB
  clear hB hBn hL hE2
  gi_wp2
  obtain ⟨W0, hW0⟩ : ∃ W0, W1.alloc (.cells #[.func (.yield l) #[] #[]] 135) = W0 := ⟨_, rfl⟩
  rw [hW0] at bY hJ0 hz hbn hl2 ⊢
  clear hW0 h0
  refine wpIn_rangeFunc_ownH rfl (by omega) (gf := 127) (lb := #[.pointer (some ⟨Bn, 0, none⟩)]) rfl trivial (enters_of Tryz.func127 (by kernel_rfl) rfl)
    (each_stops Fence.wide _ trivial rfl (by omega) Bn v L hlen W0 hbn hl2) klK_t (klK_b (by omega) (fun g hg => by have := hgl g hg; omega)) (Below.refl _ _) (fun _ => rfl)
    (fun pre W => J (fr pre) W ∧ Boxed W W1.heap.size 135 (.func (.yield l) #[] #[]))
    (fun _ _ _ => False)
    (OwnFrom.and (fun s X Y row hs hg hr => hJ (fr s) X Y row hs hg (fun r e => ⟨by have := (hr r e).1; omega, (hr r e).2⟩)) (Own.from (boxed_own _ _ _) _))
    (fun _ _ _ _ _ hs _ _ => hs)
    ⟨hJ0, bY⟩
    (fun x a' W => ∃ Bx, W.heap[Bx]? = some (.cells #[.int .i64 x.s, .int .i64 x.n, .bool x.u] 98 (0, 0)) ∧ a' = { tmps := #[.func (.yield l) #[] #[], .pointer (some ⟨B, 0, none⟩), .pointer (some ⟨W1.heap.size, 0, none⟩), .pointer (some ⟨Bx, 0, none⟩), .func (.func 127) #[] #[.pointer (some ⟨Bn, 0, none⟩)], .agg #[.int .i64 x.s, .int .i64 x.n, .bool x.u], undef, undef, undef, undef, undef, undef, undef, undef, undef], defers := [] })
    (fun x a' _ X Y row hs hg hr => by obtain ⟨Bx, h2, h3⟩ := hs; exact ⟨Bx, rowAt_own Bx 98 (fun _ : Unit => #[.int .i64 x.s, .int .i64 x.n, .bool x.u]) () X Y row h2 hg (fun r e => (hr r e).2), h3⟩)
    ?assign ?body ?done ?stop
  case assign =>
    rintro l2 pre x W K ⟨hi, hbY⟩ hK
    gi_wp2
    exact hK _ _ ((KeepsOthers.alloc _ _).from _) (Kl.of_ext0 (Ext.alloc [] _ _)) ⟨hJ.alloc _ hi, hbY.alloc _⟩ ⟨W.heap.size, heap_alloc_new _ _, rfl⟩
  case body =>
    rintro l2 pre x a' W hl ⟨r, hr⟩ ⟨hi, hbY⟩ ⟨Bx, bX, rfl⟩ hlt
    have cY := Boxed.cell hbY
    have c0 : W.cell? ⟨Bx, 0, none⟩ = some (.int .i64 x.s) := by rw [cell_of_row _ _ _ _ _ _ bX]; rfl
    have c1 : W.cell? ⟨Bx, 1, none⟩ = some (.int .i64 x.n) := by rw [cell_of_row _ _ _ _ _ _ bX]; rfl
    have c2 : W.cell? ⟨Bx, 2, none⟩ = some (.bool x.u) := by rw [cell_of_row _ _ _ _ _ _ bX]; rfl
    have Hsn := hid (fr_snoc pre x)
    have hpl := fr_len pre
    cases hu : x.u with
    | true =>
      rw [hu] at c2 Hsn
      have HI := hid hi
      have HBY := hid hbY
      clear hi hbY hY
      gi_wp2
      refine ⟨fun f hf => (by cases hf), ?_⟩
      gi_wp2
      exact ⟨KeepsFrom.refl _ _, Kl.refl _ _ _, by rw [Hsn.out]; exact HI.out, HBY.out⟩
    | false =>
      obtain ⟨fn, tmps, assign, body, hy, hR⟩ := yield_any (l' := l2) (m := n - 1 - 1 - 1) (hY (fr pre) x W hi (by omega))
      rw [hu] at c2 Hsn hy
      have HBY := hid hbY
      clear hi hbY hY
      gi_wp2
      refine ⟨fun _ => by omega, hR.mono ?_⟩
      rintro e W3 ⟨rfl, hJ3, hk3, hkp3⟩
      have HF : Hid (KeepsFrom W0.heap.size W W3 ∧ Kl Bn v W W3 ∧ J (fr (pre ++ [x])) W3 ∧ Boxed W3 W1.heap.size 135 (.func (.yield l) #[] #[])) :=
        ⟨keepsFrom_up hk3 (by omega), hkp3.kl, by rw [Hsn.out]; exact hJ3, hkp3.2 _ _ HBY.out⟩
      clear hJ3 hk3 hkp3
      gi_wp2
      exact HF.out
  case done =>
    rintro D zs W hD rfl ⟨hi, _⟩ hK
    gi_wp2
    refine ⟨by simp, .inl ⟨_, _, rfl, run_takeDeferred hK, ?_⟩⟩
    refine ⟨_, results_none rfl _ _ _, ⟨_, rfl⟩, ?_⟩
    exact hJ.putObj _ hi (by omega) hK rfl
  case stop =>
    rintro D c pre W _ _ h _
    exact h.elim

end Go.Proofs.YtjbbomokgpoilaaGreatDoor

/-
  What a loop does that collects what comes in a list; no statement is proved here.
-/
namespace Go.Proofs.YtjbbomokgpoilaaGreatDoor
open Go.RowKit Go.Shelf

theorem ownFrom_ext {β : Type} {b : Nat} {W0 : World} : OwnFrom W0.heap.size (fun (_ : β) W => Ext [b] W0 W) := fun _ X Y row hs hg hr => by
  have hx := Ext.grown (S := row.toList) hg (fun k hk => by simp [hk])
  refine ⟨hx.os.trans hs.os, hx.tape.trans hs.tape, hx.output.trans hs.output, Nat.le_trans hs.size hx.size, fun k hk hkb => ?_⟩
  rw [hg.block k (by have := hs.size; omega) (fun e => ?_), hs.block k hk hkb]
  have := (hr k e.symm).1
  omega

/-- A list in the box b, grown since W0. -/
structure Cll {α : Type} (b : Nat) (t e : TypeId) (s : Nat) (f : α → List Value) (W0 : World) (pre : List α) (W : World) : Prop where
  has : ∃ v, Boxed W b t v ∧ W.ownsRow W0.heap.size e s v pre.length (pre.flatMap f) ∧ True
  ext : Ext [b] W0 W
theorem cl_own {α : Type} {b : Nat} {t e : TypeId} {s : Nat} {f : α → List Value} {W0 : World} : OwnFrom W0.heap.size (Cll b t e s f W0) := fun pre X Y row hs hg hr =>
  ⟨(Own.from (holdsRow_own W0.heap.size b t e s (fun pre : List α => pre.length) (fun pre => pre.flatMap f) (fun _ _ => True)) _) pre X Y row hs.has hg hr, ownFrom_ext (β := List α) pre X Y row hs.ext hg hr⟩
theorem Cll.alloc {α : Type} {b : Nat} {t e : TypeId} {s : Nat} {f : α → List Value} {W0 : World} {pre : List α} {W : World} (h : Cll b t e s f W0 pre W) (o : Obj) : Cll b t e s f W0 pre (W.alloc o) := cl_own.alloc _ h
theorem Cll.start {α : Type} {b : Nat} {t e : TypeId} {s : Nat} {f : α → List Value} {W0 : World} (h : Boxed W0 b t (.slice none 0 0)) : Cll b t e s f W0 [] W0 := ⟨⟨_, h, own_nil _ _ _ _, trivial⟩, Ext.refl _ _⟩

/-- One more. -/
structure CStep {α : Type} (b : Nat) (t e : TypeId) (s : Nat) (f : α → List Value) (W0 : World) (pre : List α) (W W' : World) : Prop where
  cl : Cll b t e s f W0 pre W'
  keeps : KeepsOthers W W'
  same : ∀ k, k < W0.heap.size → k ≠ b → W'.heap[k]? = W.heap[k]?
  typed : ∀ (k : Nat) (c : Array Value) (t' : TypeId) (m : Nat × Nat), W.heap[k]? = some (.cells c t' m) → t' ≠ t → t' ≠ e → W'.heap[k]? = some (.cells c t' m)

theorem coll_step {α : Type} {b : Nat} {t e : TypeId} {s : Nat} {f : α → List Value} {W0 W w1 : World} {pre : List α} {x : α} {v v' : Value} {tmp : Obj}
    (hte : t ≠ e) (hv : Boxed W b t v) (hrow : W.ownsRow W0.heap.size e s v pre.length (pre.flatMap f)) (hE : Ext [b] W0 W) (hb : b < W0.heap.size)
    (hown' : w1.ownsRow W0.heap.size e s v' (pre.length + 1) (pre.flatMap f ++ f x)) (hgrow : (W.alloc tmp).grownBy w1 v.ownBlock) :
    Boxed w1 b t v ∧ Boxed (w1.setCell ⟨b, 0, none⟩ v') b t v' ∧ CStep b t e s f W0 (pre ++ [x]) W (w1.setCell ⟨b, 0, none⟩ v') := by
  have hv1 : Boxed w1 b t v := (hv.alloc tmp).kept hgrow (hv.not_row hte hrow)
  have hx1 := Ext.alloc [] W tmp
  have hx2 := ext_grown hgrow
  have hx3 := Ext.setCell [b] w1 ⟨b, 0, none⟩ v' (by simp)
  have hcells : ∀ k ∈ v.ownBlock.toList, ∃ cs, W.heap[k]? = some (.cells cs e (0, 0)) := fun k hk => by
    rw [Option.mem_toList] at hk
    rcases hrow.2 with ⟨q, _⟩ | ⟨g, cap, cur, q, _, hg, _⟩
    · rw [q] at hk; simp [Value.ownBlock] at hk
    · rw [q] at hk; simp [Value.ownBlock] at hk; subst hk; exact ⟨_, hg⟩
  have hlow : ∀ k, k < W0.heap.size → k ∉ v.ownBlock.toList := fun k hk hm => by
    rw [Option.mem_toList] at hm
    have := (own_lt hrow k hm).1
    omega
  have hz1 := hx1.size
  have hz2 := hx2.size
  have hz0 := hE.size
  refine ⟨hv1, hv1.set v', ⟨⟨_, hv1.set v', ?_, trivial⟩, ?_⟩, ?_, ?_, ?_⟩
  · rw [List.length_append, List.flatMap_append]
    simp only [List.length_cons, List.length_nil, Nat.zero_add, List.flatMap_cons, List.flatMap_nil, List.append_nil]
    exact hown'.kept (grownBy_setCell' w1 b v') (.inr (hv1.not_row hte hown').symm)
  · refine ⟨hx3.os.trans (hx2.os.trans (hx1.os.trans hE.os)), hx3.tape.trans (hx2.tape.trans (hx1.tape.trans hE.tape)), hx3.output.trans (hx2.output.trans (hx1.output.trans hE.output)), by have := hx3.size; omega, fun k hk hkb => ?_⟩
    rw [hx3.block k (by omega) hkb, hx2.block k (by omega) (hlow k hk), hx1.block k (by omega) (by simp), hE.block k hk hkb]
  · refine (KeepsOthers.alloc W tmp).trans ((keepsOthers_of_ext hx2 (fun k hk _ => ?_)).trans (KeepsOthers.setCell _ _ _))
    obtain ⟨cs, hc⟩ := hcells k hk
    exact ⟨_, _, _, hx1.keep hc (by simp)⟩
  · intro k hk hkb
    rw [hx3.block k (by omega) (by simpa using hkb), hx2.block k (by omega) (hlow k hk), hx1.block k (by omega) (by simp)]
  · intro k c t' m hk h1 h2
    have hkb : k ≠ b := fun h => by subst h; rw [show W.heap[k]? = _ from hv] at hk; cases hk; exact h1 rfl
    have hko : k ∉ v.ownBlock.toList := fun h => by obtain ⟨cs, hc⟩ := hcells k h; rw [hc] at hk; cases hk; exact h2 rfl
    exact hx3.keep (hx2.keep (hx1.keep hk (by simp)) hko) (by simpa using hkb)

theorem results_cells4 {P : Program} {fn : Func} {p1 p2 p3 p4 : Tmp} {t1 t2 t3 t4 : TypeId} (h : fn.results = #[.cell p1 t1, .cell p2 t2, .cell p3 t3, .cell p4 t4]) (tmps : Array Value) (w : World) (a1 a2 a3 a4 : Addr) (v1 v2 v3 v4 : Value)
    (h1 : tmps.getD p1 undef = .pointer (some a1)) (h2 : tmps.getD p2 undef = .pointer (some a2)) (h3 : tmps.getD p3 undef = .pointer (some a3)) (h4 : tmps.getD p4 undef = .pointer (some a4))
    (l1 : (loadVar t1 a1).run P w = .ok v1 w) (l2 : (loadVar t2 a2).run P w = .ok v2 w) (l3 : (loadVar t3 a3).run P w = .ok v3 w) (l4 : (loadVar t4 a4).run P w = .ok v4 w) : (results fn tmps).run P w = .ok (.tuple #[v1, v2, v3, v4]) w := by
  have h1' : tmps[p1]?.getD undef = .pointer (some a1) := by simpa using h1
  have h2' : tmps[p2]?.getD undef = .pointer (some a2) := by simpa using h2
  have h3' : tmps[p3]?.getD undef = .pointer (some a3) := by simpa using h3
  have h4' : tmps[p4]?.getD undef = .pointer (some a4) := by simpa using h4
  simp [results, h, h1', h2', h3', h4', asAddr, l1, l2, l3, l4]

/-! ### marks that a function leaves behind -/
def mkD (D : Nat) : Deferred := { target := .collected D, args := #[] }
def Marks (Ds : List Nat) (W : World) : Prop := ∀ D ∈ Ds, W.heap[D]? = some (.deferred (some []))
theorem leaves_marks {F : Fence} {n : Nat} {P : Program} {fn : Func} {tmps : Array Value} {R : Ending → World → Prop} : ∀ (Ds : List Nat) (W : World), Marks Ds W → Ds.Nodup →
    (∀ W', Ext Ds W W' → ∃ v, (results fn tmps).run P W' = .ok v W' ∧ R (.returned v) W') → LeavesInM F n P fn tmps R (Ds.map mkD) .returning W
  | [], W, _, _, h => by
    obtain ⟨v, h1, h2⟩ := h W (Ext.refl _ _)
    exact ⟨v, h1, h2⟩
  | D :: Ds, W, hM, hN, h => by
    have hD := hM D (by simp)
    refine ⟨by simp, .inl ⟨_, _, rfl, run_takeDeferred hD, leaves_marks Ds _ ?_ (List.nodup_cons.1 hN).2 ?_⟩⟩
    · intro D' h'
      refine (World.putObj_heap_other ?_).trans (hM D' (by simp [h']))
      rintro rfl
      exact (List.nodup_cons.1 hN).1 h'
    · intro W' hX
      refine h W' ?_
      exact (Ext.grown (S := D :: Ds) (grownBy_putObj' W D (.deferred none)) (by simp)).trans (hX.mono (by simp; intro a ha; exact .inr ha))

end Go.Proofs.YtjbbomokgpoilaaGreatDoor
