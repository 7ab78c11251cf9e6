/-
  A region that draws, inside a loop's round: operations that read are taken first, those that write come in one order; no statement is proved here.
-/
import Derived.Test.YtlajjcboahflbaaDoorQuietR
import Derived.OrdersIn
namespace Go.Proofs.YtlajjcboahflbaaDoor

section
variable {F : Fence} {n : Nat} {P : Program} {ops : Array Oper} {Q : Exit → Act → World → Prop} {md : Region.Mode} {S : World → Prop}

/-- In every world that meets S the operation leaves v in its temporary, does nothing else and calls nothing. -/
structure YieldsR (P : Program) (S : World → Prop) (o : Oper) (v : Value) (a : Act) : Prop where
  gd : o.guard = none
  run : ∀ w, S w → (execOp a.eval o).run P w = .ok (.value v) w
  about : ∀ w, o.about P w a.eval = none
  nd : isDefer o.op = false

theorem YieldsR.wpOpIn {i : Nat} {o : Oper} {v : Value} {a : Act} (hi : ops[i]? = some o) (hy : YieldsR P S o v a) {K : Act → World → Prop} {w : World} (hS : S w) (h : K (a.put o.dst v) w) : wpOpIn F n P ops Q i K a w := by
  unfold Go.wpOpIn
  simp only [hi]
  have hw : Region.wanted o (yielded ops a.tmps) = true := by simp [Region.wanted, hy.gd]
  simp only [hw, if_true, Oper.wpIn]
  refine ⟨fun f hf => (by rw [hy.about w] at hf; cases hf), ?_⟩
  rw [Oper.semAt_eq _ _ _ (ne_defer hy.nd), hy.run w hS]
  exact h

theorem YieldsR.of_same {o : Oper} {v : Value} {a a' : Act} (hy : YieldsR P S o v a) (he : execOp a'.eval o = execOp a.eval o) (hb : ∀ w, o.about P w a'.eval = o.about P w a.eval) : YieldsR P S o v a' :=
  ⟨hy.gd, fun w hw => by rw [he]; exact hy.run w hw, fun w => by rw [hb w]; exact hy.about w, hy.nd⟩

theorem wpOpIn_putR {j : Nat} {oi oj : Oper} {v : Value} (hj : ops[j]? = some oj) (hdj : isDefer oj.op = false) (hap : oi.apart ops oj = true)
    (hsi : ∀ cs b, oi.op ≠ .select cs b) (hsj : ∀ cs b, oj.op ≠ .select cs b)
    (hQ : ∀ c a w, Q (.panic c) (a.put oi.dst v) w → Q (.panic c) a w) {K : Act → World → Prop} {a : Act} {w : World}
    (hy : YieldsR P S oi v a) (h : wpOpIn F n P ops Q j K (a.put oi.dst v) w) :
    wpOpIn F n P ops Q j (fun a' w' => YieldsR P S oi v a' ∧ K (a'.put oi.dst v) w') a w := by
  obtain ⟨h1, h2, h3⟩ := Oper.apart_spec hap
  have keep : ∀ (a : Act), YieldsR P S oi v a → ∀ u, YieldsR P S oi v (a.put oj.dst u) := fun a hy u =>
    hy.of_same (execOp_put oi hsi a oj.dst u h3) (fun w => about_put oi w a oj.dst u h3)
  have keepD : ∀ d, YieldsR P S oi v { a with defers := d :: a.defers } := fun d => hy.of_same rfl (fun _ => rfl)
  unfold wpOpIn at *
  simp only [hj] at *
  rw [wanted_put oj a oi.dst v h1, about_put oj w a oi.dst v h1] at h
  split
  · rename_i hw
    simp only [hw, if_true] at h
    unfold Oper.wpIn at *
    rw [about_put oj w a oi.dst v h1] at h
    refine ⟨h.1, ?_⟩
    have h := h.2
    rw [Oper.semAt_eq _ _ _ (ne_defer hdj), execOp_put oj hsj a oi.dst v h1] at h
    rw [Oper.semAt_eq _ _ _ (ne_defer hdj)]
    generalize (execOp a.eval oj).run P w = r at *
    cases r with
    | ok x w' =>
      cases x <;> simp only [Oper.uponIn] at h ⊢
      case value u => exact ⟨keep a hy u, by rw [← Act.put_comm a v u h2]; exact h⟩
      case skip => exact ⟨keep a hy _, by rw [← Act.put_comm a v undef h2]; exact h⟩
      case defer d =>
        refine ⟨keep _ (keepD d) _, ?_⟩
        rw [← Act.put_comm _ v undef h2, ← Act.put_defers]
        exact h
      case enter f args =>
        refine ⟨h.1, CallsIn.mono h.2 fun e w'' he => ?_⟩
        cases e with
        | returned u => exact ⟨keep a hy u, by rw [← Act.put_comm a v u h2]; exact he⟩
        | panicked c => exact hQ _ _ _ he
        | outgrown => exact he
      case row row args => exact ⟨h.1, RowsIn.mono h.2 fun u w'' he => ⟨keep a hy u, by rw [← Act.put_comm a v u h2]; exact he⟩⟩
      case round l f tmps assign body =>
        refine ⟨h.1, RoundIn.mono h.2 fun e w'' he => ?_⟩
        cases e with
        | returned u => exact ⟨keep a hy u, by rw [← Act.put_comm a v u h2]; exact he⟩
        | panicked c => exact hQ _ _ _ he
        | outgrown => exact he
    | halt x w' =>
      cases x <;> simp only [Oper.uponIn] at h ⊢
      case panic u => exact hQ _ _ _ h
  · rename_i hw
    simp only [hw] at h
    exact ⟨h.1, keep a hy _, by rw [← Act.put_comm a v undef h2]; exact h.2⟩

/-! ### the last operation waits for all others -/

def aftersOf (md : Region.Mode) (ops : Array Oper) (k : Nat) : List Nat := match ops[k]? with
  | some o => (o.after.toList.filter (fun e => Region.binds md e)).map (·.on)
  | none => []
def preds (md : Region.Mode) (ops : Array Oper) : Nat → List Nat → List Nat
  | 0, L => L
  | fuel + 1, L => preds md ops fuel (L ++ (L.flatMap (aftersOf md ops)).filter (fun k => !L.contains k))
/-- All operations but t are forced ahead of t. -/
def lastB (md : Region.Mode) (ops : Array Oper) (t : Nat) : Bool := (List.range ops.size).all fun i => i == t || (preds md ops 8 (aftersOf md ops t)).contains i

/-- Whatever is listed has its forerunners listed. -/
def Cl (md : Region.Mode) (ops : Array Oper) (listed : Array Bool) : Prop := ∀ k, listed.getD k false = true → ∀ i ∈ aftersOf md ops k, listed.getD i false = true

theorem preds_listed {listed : Array Bool} (hc : Cl md ops listed) : ∀ (fuel : Nat) (L : List Nat), (∀ k ∈ L, listed.getD k false = true) → ∀ k ∈ preds md ops fuel L, listed.getD k false = true
  | 0, _, h, k, hk => h k hk
  | fuel + 1, L, h, k, hk => preds_listed hc fuel _ (fun j hj => by
      rcases List.mem_append.1 hj with q | q
      · exact h j q
      · obtain ⟨i, hi, hji⟩ := List.mem_flatMap.1 (List.mem_filter.1 q).1
        exact hc i (h i hi) j hji) k hk

theorem ready_afters {listed : Array Bool} {t : Nat} (hr : t ∈ Region.ready md ops listed) : ∀ i ∈ aftersOf md ops t, listed.getD i false = true := by
  obtain ⟨_, o, ho, hall⟩ := mem_ready.1 hr
  intro i hi
  unfold aftersOf at hi
  rw [ho] at hi
  simp only [List.mem_map, List.mem_filter, Array.mem_toList_iff] at hi
  obtain ⟨e, ⟨he, hb⟩, rfl⟩ := hi
  exact hall e he hb

theorem last_all {listed : Array Bool} {t i : Nat} (hB : lastB md ops t = true) (hc : Cl md ops listed) (hr : t ∈ Region.ready md ops listed) (hi : i < ops.size) (hne : i ≠ t) : listed.getD i false = true := by
  have := List.all_eq_true.1 hB i (List.mem_range.2 hi)
  simp only [Bool.or_eq_true, beq_iff_eq, hne, false_or] at this
  exact preds_listed hc 8 _ (ready_afters hr) i (by simpa using this)

theorem cl_set {listed : Array Bool} {j : Nat} (hc : Cl md ops listed) (hr : j ∈ Region.ready md ops listed) : Cl md ops (listed.setIfInBounds j true) := by
  intro k hk i hi
  by_cases hkj : k = j
  · subst hkj
    exact getD_set_true (ready_afters hr i hi)
  · rw [getD_set_ne false (Ne.symm hkj)] at hk
    exact getD_set_true (hc k hk i hi)
theorem cl_start (m : Nat) : Cl md ops (Array.replicate m false) := by
  intro k hk
  rw [Array.getD_eq_getD_getElem?, Array.getElem?_replicate] at hk
  split at hk <;> simp at hk

/-- Whatever order is picked from here on, and S holds behind every operation but number t. -/
def wpAnyR (F : Fence) (n : Nat) (P : Program) (md : Region.Mode) (ops : Array Oper) (Q : Exit → Act → World → Prop) (S : World → Prop) (t : Nat) : Nat → Array Bool → Act → World → Prop
  | 0, listed, a, w => Region.ready md ops listed = [] ∧ Q .normal a w
  | fuel + 1, listed, a, w =>
    (Region.ready md ops listed = [] → Q .normal a w) ∧
    ∀ i ∈ Region.ready md ops listed, wpOpIn F n P ops Q i (fun a' w' => (i = t ∨ S w') ∧ wpAnyR F n P md ops Q S t fuel (listed.setIfInBounds i true) a' w') a w

theorem wpAnyIn_of_R {t : Nat} : ∀ (fuel : Nat) (listed : Array Bool) (a : Act) (w : World), wpAnyR F n P md ops Q S t fuel listed a w → wpAnyIn F n P md ops Q fuel listed a w
  | 0, _, _, _, h => h
  | fuel + 1, _, _, _, h => ⟨h.1, fun i hi => wpOpIn_mono (fun a' w' h' => wpAnyIn_of_R fuel _ a' w' h'.2) (h.2 i hi)⟩

theorem wpAnyR_first {i t : Nat} {oi : Oper} {v : Value} (hi : ops[i]? = some oi) (hit : i ≠ t) (hB : lastB md ops t = true) (hsel : ∀ (j : Nat) (o : Oper) cs b, ops[j]? = some o → o.op ≠ .select cs b) (hnd : ∀ (j : Nat) (o : Oper), ops[j]? = some o → isDefer o.op = false)
    (hQ : ∀ c a w, Q (.panic c) (a.put oi.dst v) w → Q (.panic c) a w) :
    ∀ (fuel : Nat) (listed : Array Bool) (a : Act) (w : World), Cl md ops listed →
      (∀ j oj, ops[j]? = some oj → j ≠ i → listed.getD j true = false → (∀ e ∈ oj.after, Region.binds md e = true → e.on ≠ i) → oi.apart ops oj = true) →
      i ∈ Region.ready md ops listed → YieldsR P S oi v a → S w →
      wpAnyR F n P md ops Q S t fuel (listed.setIfInBounds i true) (a.put oi.dst v) w → wpAnyR F n P md ops Q S t (fuel + 1) listed a w := by
  intro fuel
  induction fuel with
  | zero =>
    intro listed a w _ _ hr hy hS H
    refine ⟨fun h => (by rw [h] at hr; cases hr), fun j hj => ?_⟩
    by_cases hji : j = i
    · subst hji; exact hy.wpOpIn hi hS ⟨.inr hS, H⟩
    · have := ready_mono hj hji
      rw [H.1] at this
      cases this
  | succ fuel ih =>
    intro listed a w hcl hfree hr hy hS H
    refine ⟨fun h => (by rw [h] at hr; cases hr), fun j hj => ?_⟩
    by_cases hji : j = i
    · subst hji; exact hy.wpOpIn hi hS ⟨.inr hS, H⟩
    · have h1 := H.2 j (ready_mono hj hji)
      obtain ⟨hjun, oj, hoj, hall⟩ := mem_ready.1 hj
      have hnot : ∀ e ∈ oj.after, Region.binds md e = true → e.on ≠ i := fun e he hb heq => by
        have h1 := hall e he hb
        have h0 := (mem_ready.1 hr).1
        rw [heq] at h1
        rcases Nat.lt_or_ge i listed.size with h' | h'
        · simp [h'] at h0 h1; rw [h0] at h1; cases h1
        · simp [Array.getElem?_eq_none h'] at h1
      have hjt : j ≠ t := fun e => by
        subst e
        have h2 := last_all hB hcl hj (Array.getElem?_eq_some_iff.1 hi).1 hit
        have h0 := (mem_ready.1 hr).1
        rcases Nat.lt_or_ge i listed.size with h' | h'
        · simp [h'] at h0 h2; rw [h0] at h2; cases h2
        · simp [Array.getElem?_eq_none h'] at h2
      have h2 := wpOpIn_putR hoj (hnd j oj hoj) (hfree j oj hoj hji hjun hnot) (fun cs b => hsel i oi cs b hi) (fun cs b => hsel j oj cs b hoj) hQ hy h1
      have hfree' : ∀ k ok, ops[k]? = some ok → k ≠ i → (listed.setIfInBounds j true).getD k true = false →
          (∀ e ∈ ok.after, Region.binds md e = true → e.on ≠ i) → oi.apart ops ok = true := fun k ok hk hki hun hno => by
        refine hfree k ok hk hki ?_ hno
        by_cases hjk : j = k
        · subst hjk; exact hjun
        · rw [getD_set_ne true hjk] at hun; exact hun
      refine wpOpIn_mono (fun a' w' h3 => ?_) h2
      obtain ⟨hy3, hS3, h3⟩ := h3
      have hS3 := hS3.resolve_left hjt
      refine ⟨.inr hS3, ih (listed.setIfInBounds j true) a' w' (cl_set hcl hj) hfree' (ready_mono hr (Ne.symm hji)) hy3 hS3 ?_⟩
      rw [Array.setIfInBounds_comm _ _ hji]
      exact h3

/-! ### the walk: first those that read, then the rest in the text's order -/

/-- The rest in the text's order. -/
def wpSeqR (F : Fence) (n : Nat) (P : Program) (ops : Array Oper) (Q : Exit → Act → World → Prop) (S : World → Prop) : List Oper → Act → World → Prop
  | [], a, w => Q .normal a w
  | o :: rest, a, w => if Region.wanted o (yielded ops a.tmps) then o.wpIn F n P a w (fun a' w' => (rest = [] ∨ S w') ∧ wpSeqR F n P ops Q S rest a' w') Q
      else (∀ f, o.about P w a.eval = some f → F.fn f) ∧ (rest = [] ∨ S w) ∧ wpSeqR F n P ops Q S rest (a.put o.dst undef) w
/-- From number k on one alone may come up. -/
def soleB (md : Region.Mode) (ops : Array Oper) : Nat → Nat → Array Bool → Bool
  | 0, _, listed => (Region.ready md ops listed).isEmpty
  | fuel + 1, k, listed => (Region.ready md ops listed == [k]) && soleB md ops fuel (k + 1) (listed.setIfInBounds k true)

theorem wpAnyR_seq {t : Nat} : ∀ (l : List Oper) (k : Nat) (listed : Array Bool) (a : Act) (w : World), (∀ j, l[j]? = ops[k + j]?) → (l = [] ∨ k + l.length = t + 1) → soleB md ops l.length k listed = true →
    wpSeqR F n P ops Q S l a w → wpAnyR F n P md ops Q S t l.length listed a w
  | [], _, _, _, _, _, _, hB, h => ⟨by simpa [soleB] using hB, h⟩
  | o :: l, k, listed, a, w, hl, ht, hB, h => by
    have h0 : ops[k]? = some o := by simpa using (hl 0).symm
    simp only [List.length_cons, soleB, Bool.and_eq_true, beq_iff_eq] at hB
    obtain ⟨hr, hB'⟩ := hB
    have ht' : k + (l.length + 1) = t + 1 := by rcases ht with h | h; cases h; simpa using h
    have hrec : ∀ a' w', wpSeqR F n P ops Q S l a' w' → wpAnyR F n P md ops Q S t l.length (listed.setIfInBounds k true) a' w' := fun a' w' => wpAnyR_seq l (k + 1) (listed.setIfInBounds k true) a' w' (fun j => by have := hl (j + 1); simpa [Nat.add_assoc, Nat.add_comm 1 j] using this) (by
      by_cases e : l = []
      · exact .inl e
      · right; omega) hB' 
    refine ⟨fun h => (by rw [hr] at h; cases h), fun i hi => ?_⟩
    rw [hr] at hi
    simp only [List.mem_singleton] at hi
    subst hi
    have conv : ∀ a' w', ((l = [] ∨ S w') ∧ wpSeqR F n P ops Q S l a' w') → ((i = t ∨ S w') ∧ wpAnyR F n P md ops Q S t l.length (listed.setIfInBounds i true) a' w') := fun a' w' hh => by
      refine ⟨?_, hrec a' w' hh.2⟩
      rcases hh.1 with e | e
      · left; subst e; simp at ht'; omega
      · exact .inr e
    unfold wpOpIn
    rw [h0]
    simp only
    unfold wpSeqR at h
    split
    · rename_i hw
      simp only [hw, if_true] at h
      exact Oper.wpIn_mono conv h
    · rename_i hw
      simp only [hw] at h
      exact ⟨h.1, conv _ _ h.2⟩

/-- Those that read. -/
def wpPreR (P : Program) (ops : Array Oper) (S : World → Prop) (R : Act → Prop) : List Oper → Act → Prop
  | [], a => R a
  | o :: rest, a => ∃ v, YieldsR P S o v a ∧ wpPreR P ops S R rest (a.put o.dst v)
def preB (md : Region.Mode) (ops : Array Oper) (t : Nat) : Nat → Nat → Array Bool → Bool
  | 0, k, listed => soleB md ops (t + 1 - k) k listed
  | fuel + 1, k, listed => (Region.ready md ops listed).contains k && Region.free md ops listed k && (k != t) && preB md ops t fuel (k + 1) (listed.setIfInBounds k true)

theorem wpAnyR_pre {t : Nat} {suf : List Oper} (hs : Region.noSelect ops = true) (hnd : ∀ (j : Nat) (o : Oper), ops[j]? = some o → isDefer o.op = false) (hB : lastB md ops t = true) (hQ : ∀ c d v a w, Q (.panic c) (Act.put a d v) w → Q (.panic c) a w) :
    ∀ (l : List Oper) (k : Nat) (listed : Array Bool) (a : Act) (w : World), Cl md ops listed → (∀ j, (l ++ suf)[j]? = ops[k + j]?) → k + (l ++ suf).length = t + 1 → suf ≠ [] → preB md ops t l.length k listed = true → S w →
    wpPreR P ops S (fun a' => wpSeqR F n P ops Q S suf a' w) l a → wpAnyR F n P md ops Q S t (l ++ suf).length listed a w
  | [], k, listed, a, w, _, hl, ht, _, hp, hS, h => by
    simp only [List.nil_append, List.length_nil] at *
    refine wpAnyR_seq suf k listed a w hl (.inr ht) ?_ h
    simp only [preB] at hp
    rw [show t + 1 - k = suf.length by omega] at hp
    exact hp
  | o :: l, k, listed, a, w, hc, hl, ht, hne, hp, hS, h => by
    obtain ⟨v, hy, hr⟩ := h
    have h0 : ops[k]? = some o := by simpa using (hl 0).symm
    simp only [List.length_cons, preB, Bool.and_eq_true] at hp
    obtain ⟨⟨⟨hrd, hfr⟩, hkt⟩, hp'⟩ := hp
    have hrd' : k ∈ Region.ready md ops listed := by simpa using hrd
    have hrec := wpAnyR_pre hs hnd hB hQ l (k + 1) (listed.setIfInBounds k true) (a.put o.dst v) w (cl_set hc hrd') (fun j => by have := hl (j + 1); simpa [Nat.add_assoc, Nat.add_comm 1 j] using this) (by simp at ht ⊢; omega) hne hp' hS hr
    exact wpAnyR_first h0 (by simpa using hkt) hB (Region.noSelect_spec hs) hnd (fun c a w => hQ c o.dst v a w) _ listed a w hc (Region.free_spec h0 hfr) hrd' hy hS hrec

theorem wpSeqR_step {o : Oper} {rest : List Oper} {a : Act} {w : World}
    (h : ∀ K : Act → World → Prop, (∀ a' w', (rest = [] ∨ S w') → wpSeqR F n P ops Q S rest a' w' → K a' w') → if Region.wanted o (yielded ops a.tmps) then o.wpIn F n P a w K Q else (∀ f, o.about P w a.eval = some f → F.fn f) ∧ K (a.put o.dst undef) w) : wpSeqR F n P ops Q S (o :: rest) a w := by
  have := h (fun a' w' => (rest = [] ∨ S w') ∧ wpSeqR F n P ops Q S rest a' w') (fun _ _ h1 h2 => ⟨h1, h2⟩)
  unfold wpSeqR
  split
  · rename_i hw; simp only [hw, if_true] at this; exact this
  · rename_i hw; simp only [hw] at this; exact this
theorem stepR_append {o : Oper} {a : Act} {w w' : World} {K : Act → World → Prop} {E : Prop} (hF : ∀ f, F.fn f) (hgd : o.guard = none) (d s : Operand) (t : TypeId)
    (ho : o.op = .call { callee := .builtin .append, args := #[d, s], argTypes := #[t, t] }) (vd vs v' : Value) (hd : a.eval d = vd) (hs : a.eval s = vs)
    (hr : (Builtin.append_ #[t, t] o.type #[vd, vs]).run P w = .ok v' w') (h : K (a.put o.dst v') w') :
    if Region.wanted o (yielded ops a.tmps) = true then Oper.wpIn F n P o a w K Q else E := by
  rw [if_pos (by simp [Region.wanted, hgd])]
  unfold Oper.wpIn
  refine ⟨fun f _ => hF f, ?_⟩
  rw [Oper.semAt_eq _ _ _ (fun c h => by rw [ho] at h; cases h)]
  unfold execOp
  simp only [ho, resolve, invoke, builtin, Sem.run_bind, Sem.run_pure, Result.andThen_ok, List.map_toArray, List.map_cons, List.map_nil, hd, hs, hr]
  exact h
theorem wpSeqR_nil {a : Act} {w : World} (h : Q .normal a w) : wpSeqR F n P ops Q S [] a w := h
theorem wpPreR_cons {R : Act → Prop} {o : Oper} {rest : List Oper} {a : Act} (v : Value) (hg : o.guard = none) (hd : isDefer o.op = false) (hr : ∀ w, S w → (execOp a.eval o).run P w = .ok (.value v) w) (ha : ∀ w, o.about P w a.eval = none) (h : wpPreR P ops S R rest (a.put o.dst v)) : wpPreR P ops S R (o :: rest) a :=
  ⟨v, ⟨hg, hr, ha, hd⟩, h⟩

/-- A region that draws: m operations that read, then the rest in one order. -/
theorem wpIn_region_heldR {id : Nat} {a : Act} {w : World} {l suf : List Oper} (S : World → Prop) (hnd : (l ++ suf).all (fun o => !isDefer o.op) = true) (hm : P.follows .mixedOrders = true)
    (hB : (Region.noSelect (l ++ suf).toArray && lastB .any (l ++ suf).toArray ((l ++ suf).length - 1) && preB .any (l ++ suf).toArray ((l ++ suf).length - 1) l.length 0 (Array.replicate (l ++ suf).toArray.size false) && !suf.isEmpty) = true)
    (hQ : ∀ c d v a w, Q (.panic c) (Act.put a d v) w → Q (.panic c) a w) (hS : S w.drew)
    (h : wpPreR P (l ++ suf).toArray S (fun a' => wpSeqR F n P (l ++ suf).toArray Q S suf a' w.drew) l a) : (Code.region id (l ++ suf).toArray true).wpIn F n P Q a w := by
  simp only [Bool.and_eq_true] at hB
  obtain ⟨⟨⟨h1, h2⟩, h3⟩, h4⟩ := hB
  have hne : suf ≠ [] := by rintro rfl; simp at h4
  have hlen : 0 < (l ++ suf).length := by
    have := List.length_pos_iff.2 hne
    simp; omega
  have hnd' : ∀ (i : Nat) (o : Oper), (l ++ suf).toArray[i]? = some o → isDefer o.op = false := fun i o ho => by
    have h1 : o ∈ l ++ suf := by simp only [List.getElem?_toArray] at ho; exact List.mem_of_getElem? ho
    have := List.all_eq_true.1 hnd o h1
    simpa using this
  refine wpIn_region_any hm (wpAnyIn_of_R (S := S) (t := (l ++ suf).length - 1) _ _ _ _ ?_)
  have := wpAnyR_pre (F := F) (n := n) (P := P) (Q := Q) (md := .any) (ops := (l ++ suf).toArray) (S := S) (t := (l ++ suf).length - 1) (suf := suf) h1 hnd' h2 hQ l 0 (Array.replicate (l ++ suf).toArray.size false) a w.drew (cl_start _) (by simp) (by omega) hne h3 hS h
  have e : (l ++ suf).toArray.size = (l ++ suf).length := by simp
  rw [e] at this ⊢
  exact this

end

end Go.Proofs.YtlajjcboahflbaaDoor
