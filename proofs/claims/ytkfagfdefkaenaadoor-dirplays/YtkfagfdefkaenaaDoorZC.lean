/-
  QuietR, HeldR, Help, Snd, AllF, Sou: joined by program; no statement is proved here.
-/
import Derived.Sort.QuietThIn
import Derived.Sort.BigQuietIn
import Derived.TacticsIn
import Derived.OrdersIn
import Derived.Test.YtkfagfdefkaenaaDoorZB
import Derived.Scope
import Derived.Deep.OwnRows
/-
  A region that draws and only reads, inside a loop's round: one walk in the text's order serves every order; no statement is proved here.
-/
namespace Go.Proofs.YtkfagfdefkaenaaDoor

section
variable {F : Fence} {n : Nat} {P : Program} {ops : Array Oper} {md : Region.Mode} {C : World → Prop}

/-- Is it a defer statement? -/
def isDefer : Op → Bool
  | .defer _ => true
  | _ => false
theorem ne_defer {o : Op} (h : isDefer o = false) : ∀ c, o ≠ .defer c := fun c e => by rw [e] at h; cases h

theorem quietR_op {o : Oper} {a : Act} {K : Act → Prop} {K' : Act → World → Prop} {Q' : Exit → Act → World → Prop} {w : World} (hd : isDefer o.op = false) (hw : C w) (h : ∀ a w', C w' → K a → K' a w')
    (ha : o.askedIn F P a C) (hh : o.quietIn F n P a C K) : o.wpIn F n P a w K' Q' := by
  obtain ⟨v, h1, h2⟩ := hh
  have h3 := h1 w hw
  unfold Oper.quietAtIn at h3
  unfold Oper.wpIn
  refine ⟨ha w hw, ?_⟩
  rw [Oper.semAt_eq _ _ _ (ne_defer hd)]
  generalize (execOp a.eval o).run P w = r at *
  cases r with
  | ok x w' =>
    cases x <;> simp only [Oper.quietUponIn] at h3 <;> simp only [Oper.uponIn]
    case value u =>
      obtain ⟨e1, e2⟩ := h3
      rw [e1, e2]
      exact h _ _ hw h2
    case skip =>
      obtain ⟨e1, e2⟩ := h3
      rw [e1, ← e2]
      exact h _ _ hw h2
    case enter f args =>
      obtain ⟨e1, hd, hc⟩ := h3
      rw [e1]
      exact ⟨hd, hc.mono fun e w'' ⟨he, hw''⟩ => by subst he; exact h _ _ hw'' h2⟩
  | halt x w' => simp only [Oper.quietUponIn] at h3

theorem quietR_opIn (hnd : ∀ (i : Nat) (o : Oper), ops[i]? = some o → isDefer o.op = false) {i : Nat} {a : Act} {K : Act → Prop} {K' : Act → World → Prop} {Q' : Exit → Act → World → Prop} {w : World} (hC : C w) (h : ∀ a w', C w' → K a → K' a w')
    (hh : qOpIn F n P ops C i K a) : wpOpIn F n P ops Q' i K' a w := by
  unfold qOpIn at hh
  unfold wpOpIn
  split
  · rename_i ho; simp only [ho] at hh; exact h _ _ hC hh
  · rename_i o ho
    simp only [ho] at hh
    obtain ⟨ha, hh⟩ := hh
    split
    · rename_i hw; simp only [hw, if_true] at hh; exact quietR_op (hnd i o ho) hC h ha hh
    · rename_i hw; simp only [hw] at hh; exact ⟨ha w hC, h _ _ hC hh⟩

theorem quietR_any (hnd : ∀ (i : Nat) (o : Oper), ops[i]? = some o → isDefer o.op = false) {Q : Act → Prop} {Q' : Exit → Act → World → Prop} (hQ : ∀ a w, C w → Q a → Q' .normal a w) : ∀ (fuel : Nat) (listed : Array Bool) (a : Act) (w : World), C w →
    wpAnyQIn F n P md ops C Q fuel listed a → wpAnyIn F n P md ops Q' fuel listed a w
  | 0, _, _, _, hw, h => ⟨h.1, hQ _ _ hw h.2⟩
  | fuel + 1, _, _, _, hw, h => ⟨fun h0 => hQ _ _ hw (h.1 h0), fun i hi => quietR_opIn hnd hw (fun a' w' hw' => quietR_any hnd hQ fuel _ a' w' hw') (h.2 i hi)⟩

/-- One walk of the text's order serves every order, whatever round runs. -/
theorem wpIn_region_quietR {id : Nat} {Q : Exit → Act → World → Prop} {a : Act} {w : World} {l : List Oper} (hnd : l.all (fun o => !isDefer o.op) = true) (hm : P.follows .mixedOrders = true) (hB : Region.lexB .any l.toArray = true)
    (h : wpQuietIn F n P l.toArray (fun w' => ∃ n, w' = w.drewN n) (fun a' => ∀ w', (∃ n, w' = w.drewN n) → Q .normal a' w') l a) : (Code.region id l.toArray true).wpIn F n P Q a w := by
  simp only [Region.lexB, Bool.and_eq_true] at hB
  have hnd' : ∀ (i : Nat) (o : Oper), l.toArray[i]? = some o → isDefer o.op = false := fun i o ho => by
    have h1 : o ∈ l := by simp only [List.getElem?_toArray] at ho; exact List.mem_of_getElem? ho
    have := List.all_eq_true.1 hnd o h1
    simpa using this
  refine wpIn_region_any hm (quietR_any (C := fun w' => ∃ n, w' = w.drewN n) hnd' (Q := fun a' => ∀ w', (∃ n, w' = w.drewN n) → Q .normal a' w') (fun _ w' hw' h => h w' hw') _ _ _ _ ⟨1, rfl⟩ ?_)
  have := wpAnyQIn_lex (F := F) (n := n) (P := P) (C := fun w' => ∃ n, w' = w.drewN n) (md := .any) hB.1 l 0 (Array.replicate l.toArray.size false) a (by simp) (by simpa using hB.2) h
  simpa using this

end

end Go.Proofs.YtkfagfdefkaenaaDoor

/-
  A region that draws, inside a loop's round: operations that read are taken first, those that write come in one order; no statement is proved here.
-/
namespace Go.Proofs.YtkfagfdefkaenaaDoor

section
variable {F : Fence} {n : Nat} {P : Program} {ops : Array Oper} {Q : Exit → Act → World → Prop} {md : Region.Mode} {S : World → Prop}

/-- In every world that meets S the operation leaves v in its temporary, does nothing else and calls nothing; or it is not wanted. -/
structure YieldsR (P : Program) (ops : Array Oper) (S : World → Prop) (o : Oper) (v : Value) (a : Act) : Prop where
  run : (Region.wanted o (yielded ops a.tmps) = true ∧ ∀ w, S w → (execOp a.eval o).run P w = .ok (.value v) w) ∨ (Region.wanted o (yielded ops a.tmps) = false ∧ v = undef)
  about : ∀ w, o.about P w a.eval = none
  nd : isDefer o.op = false

theorem YieldsR.wpOpIn {i : Nat} {o : Oper} {v : Value} {a : Act} (hi : ops[i]? = some o) (hy : YieldsR P ops S o v a) {K : Act → World → Prop} {w : World} (hS : S w) (h : K (a.put o.dst v) w) : wpOpIn F n P ops Q i K a w := by
  unfold Go.wpOpIn
  simp only [hi]
  rcases hy.run with ⟨hw, hv⟩ | ⟨hw, hv⟩
  · simp only [hw, if_true, Oper.wpIn]
    refine ⟨fun f hf => (by rw [hy.about w] at hf; cases hf), ?_⟩
    rw [Oper.semAt_eq _ _ _ (ne_defer hy.nd), hv w hS]
    exact h
  · subst hv
    simp only [hw, Bool.false_eq_true, if_false]
    exact ⟨fun f hf => (by rw [hy.about w] at hf; cases hf), h⟩

theorem YieldsR.of_same {o : Oper} {v : Value} {a a' : Act} (hy : YieldsR P ops S o v a) (he : execOp a'.eval o = execOp a.eval o) (hb : ∀ w, o.about P w a'.eval = o.about P w a.eval) (hw : Region.wanted o (yielded ops a'.tmps) = Region.wanted o (yielded ops a.tmps)) : YieldsR P ops S o v a' :=
  ⟨by rw [he, hw]; exact hy.run, fun w => by rw [hb w]; exact hy.about w, hy.nd⟩

theorem wpOpIn_putR {j : Nat} {oi oj : Oper} {v : Value} (hj : ops[j]? = some oj) (hdj : isDefer oj.op = false) (hap : oi.apart ops oj = true)
    (hsi : ∀ cs b, oi.op ≠ .select cs b) (hsj : ∀ cs b, oj.op ≠ .select cs b)
    (hQ : ∀ c a w, Q (.panic c) (a.put oi.dst v) w → Q (.panic c) a w) {K : Act → World → Prop} {a : Act} {w : World}
    (hy : YieldsR P ops S oi v a) (h : wpOpIn F n P ops Q j K (a.put oi.dst v) w) :
    wpOpIn F n P ops Q j (fun a' w' => YieldsR P ops S oi v a' ∧ K (a'.put oi.dst v) w') a w := by
  obtain ⟨h1, h2, h3⟩ := Oper.apart_spec hap
  have keep : ∀ (a : Act), YieldsR P ops S oi v a → ∀ u, YieldsR P ops S oi v (a.put oj.dst u) := fun a hy u =>
    hy.of_same (execOp_put oi hsi a oj.dst u h3) (fun w => about_put oi w a oj.dst u h3) (wanted_put oi a oj.dst u h3)
  have keepD : ∀ d, YieldsR P ops S oi v { a with defers := d :: a.defers } := fun d => hy.of_same rfl (fun _ => rfl) rfl
  unfold wpOpIn at *
  simp only [hj] at *
  rw [wanted_put oj a oi.dst v h1, about_put oj w a oi.dst v h1] at h
  split
  · rename_i hw
    simp only [hw, if_true] at h
    unfold Oper.wpIn at *
    rw [about_put oj w a oi.dst v h1] at h
    refine ⟨h.1, ?_⟩
    have h := h.2
    rw [Oper.semAt_eq _ _ _ (ne_defer hdj), execOp_put oj hsj a oi.dst v h1] at h
    rw [Oper.semAt_eq _ _ _ (ne_defer hdj)]
    generalize (execOp a.eval oj).run P w = r at *
    cases r with
    | ok x w' =>
      cases x <;> simp only [Oper.uponIn] at h ⊢
      case value u => exact ⟨keep a hy u, by rw [← Act.put_comm a v u h2]; exact h⟩
      case skip => exact ⟨keep a hy _, by rw [← Act.put_comm a v undef h2]; exact h⟩
      case defer d =>
        refine ⟨keep _ (keepD d) _, ?_⟩
        rw [← Act.put_comm _ v undef h2, ← Act.put_defers]
        exact h
      case enter f args =>
        refine ⟨h.1, CallsIn.mono h.2 fun e w'' he => ?_⟩
        cases e with
        | returned u => exact ⟨keep a hy u, by rw [← Act.put_comm a v u h2]; exact he⟩
        | panicked c => exact hQ _ _ _ he
        | outgrown => exact he
      case row row args => exact ⟨h.1, RowsIn.mono h.2 fun u w'' he => ⟨keep a hy u, by rw [← Act.put_comm a v u h2]; exact he⟩⟩
      case round l f tmps assign body =>
        refine ⟨h.1, RoundIn.mono h.2 fun e w'' he => ?_⟩
        cases e with
        | returned u => exact ⟨keep a hy u, by rw [← Act.put_comm a v u h2]; exact he⟩
        | panicked c => exact hQ _ _ _ he
        | outgrown => exact he
    | halt x w' =>
      cases x <;> simp only [Oper.uponIn] at h ⊢
      case panic u => exact hQ _ _ _ h
  · rename_i hw
    simp only [hw] at h
    exact ⟨h.1, keep a hy _, by rw [← Act.put_comm a v undef h2]; exact h.2⟩

/-! ### the last operation waits for all others -/

def aftersOf (md : Region.Mode) (ops : Array Oper) (k : Nat) : List Nat := match ops[k]? with
  | some o => (o.after.toList.filter (fun e => Region.binds md e)).map (·.on)
  | none => []
def preds (md : Region.Mode) (ops : Array Oper) : Nat → List Nat → List Nat
  | 0, L => L
  | fuel + 1, L => preds md ops fuel (L ++ (L.flatMap (aftersOf md ops)).filter (fun k => !L.contains k))
/-- All operations but t are forced ahead of t. -/
def lastB (md : Region.Mode) (ops : Array Oper) (t : Nat) : Bool := (List.range ops.size).all fun i => i == t || (preds md ops 8 (aftersOf md ops t)).contains i

/-- Whatever is listed has its forerunners listed. -/
def Cl (md : Region.Mode) (ops : Array Oper) (listed : Array Bool) : Prop := ∀ k, listed.getD k false = true → ∀ i ∈ aftersOf md ops k, listed.getD i false = true

theorem preds_listed {listed : Array Bool} (hc : Cl md ops listed) : ∀ (fuel : Nat) (L : List Nat), (∀ k ∈ L, listed.getD k false = true) → ∀ k ∈ preds md ops fuel L, listed.getD k false = true
  | 0, _, h, k, hk => h k hk
  | fuel + 1, L, h, k, hk => preds_listed hc fuel _ (fun j hj => by
      rcases List.mem_append.1 hj with q | q
      · exact h j q
      · obtain ⟨i, hi, hji⟩ := List.mem_flatMap.1 (List.mem_filter.1 q).1
        exact hc i (h i hi) j hji) k hk

theorem ready_afters {listed : Array Bool} {t : Nat} (hr : t ∈ Region.ready md ops listed) : ∀ i ∈ aftersOf md ops t, listed.getD i false = true := by
  obtain ⟨_, o, ho, hall⟩ := mem_ready.1 hr
  intro i hi
  unfold aftersOf at hi
  rw [ho] at hi
  simp only [List.mem_map, List.mem_filter, Array.mem_toList_iff] at hi
  obtain ⟨e, ⟨he, hb⟩, rfl⟩ := hi
  exact hall e he hb

theorem last_all {listed : Array Bool} {t i : Nat} (hB : lastB md ops t = true) (hc : Cl md ops listed) (hr : t ∈ Region.ready md ops listed) (hi : i < ops.size) (hne : i ≠ t) : listed.getD i false = true := by
  have := List.all_eq_true.1 hB i (List.mem_range.2 hi)
  simp only [Bool.or_eq_true, beq_iff_eq, hne, false_or] at this
  exact preds_listed hc 8 _ (ready_afters hr) i (by simpa using this)

theorem cl_set {listed : Array Bool} {j : Nat} (hc : Cl md ops listed) (hr : j ∈ Region.ready md ops listed) : Cl md ops (listed.setIfInBounds j true) := by
  intro k hk i hi
  by_cases hkj : k = j
  · subst hkj
    exact getD_set_true (ready_afters hr i hi)
  · rw [getD_set_ne false (Ne.symm hkj)] at hk
    exact getD_set_true (hc k hk i hi)
theorem cl_start (m : Nat) : Cl md ops (Array.replicate m false) := by
  intro k hk
  rw [Array.getD_eq_getD_getElem?, Array.getElem?_replicate] at hk
  split at hk <;> simp at hk

/-- Whatever order is picked from here on, and S holds behind every operation but number t. -/
def wpAnyR (F : Fence) (n : Nat) (P : Program) (md : Region.Mode) (ops : Array Oper) (Q : Exit → Act → World → Prop) (S : World → Prop) (t : Nat) : Nat → Array Bool → Act → World → Prop
  | 0, listed, a, w => Region.ready md ops listed = [] ∧ Q .normal a w
  | fuel + 1, listed, a, w =>
    (Region.ready md ops listed = [] → Q .normal a w) ∧
    ∀ i ∈ Region.ready md ops listed, wpOpIn F n P ops Q i (fun a' w' => (i = t ∨ S w') ∧ wpAnyR F n P md ops Q S t fuel (listed.setIfInBounds i true) a' w') a w

theorem wpAnyIn_of_R {t : Nat} : ∀ (fuel : Nat) (listed : Array Bool) (a : Act) (w : World), wpAnyR F n P md ops Q S t fuel listed a w → wpAnyIn F n P md ops Q fuel listed a w
  | 0, _, _, _, h => h
  | fuel + 1, _, _, _, h => ⟨h.1, fun i hi => wpOpIn_mono (fun a' w' h' => wpAnyIn_of_R fuel _ a' w' h'.2) (h.2 i hi)⟩

theorem wpAnyR_first {i t : Nat} {oi : Oper} {v : Value} (hi : ops[i]? = some oi) (hit : i ≠ t) (hB : lastB md ops t = true) (hsel : ∀ (j : Nat) (o : Oper) cs b, ops[j]? = some o → o.op ≠ .select cs b) (hnd : ∀ (j : Nat) (o : Oper), ops[j]? = some o → isDefer o.op = false)
    (hQ : ∀ c a w, Q (.panic c) (a.put oi.dst v) w → Q (.panic c) a w) :
    ∀ (fuel : Nat) (listed : Array Bool) (a : Act) (w : World), Cl md ops listed →
      (∀ j oj, ops[j]? = some oj → j ≠ i → listed.getD j true = false → (∀ e ∈ oj.after, Region.binds md e = true → e.on ≠ i) → oi.apart ops oj = true) →
      i ∈ Region.ready md ops listed → YieldsR P ops S oi v a → S w →
      wpAnyR F n P md ops Q S t fuel (listed.setIfInBounds i true) (a.put oi.dst v) w → wpAnyR F n P md ops Q S t (fuel + 1) listed a w := by
  intro fuel
  induction fuel with
  | zero =>
    intro listed a w _ _ hr hy hS H
    refine ⟨fun h => (by rw [h] at hr; cases hr), fun j hj => ?_⟩
    by_cases hji : j = i
    · subst hji; exact hy.wpOpIn hi hS ⟨.inr hS, H⟩
    · have := ready_mono hj hji
      rw [H.1] at this
      cases this
  | succ fuel ih =>
    intro listed a w hcl hfree hr hy hS H
    refine ⟨fun h => (by rw [h] at hr; cases hr), fun j hj => ?_⟩
    by_cases hji : j = i
    · subst hji; exact hy.wpOpIn hi hS ⟨.inr hS, H⟩
    · have h1 := H.2 j (ready_mono hj hji)
      obtain ⟨hjun, oj, hoj, hall⟩ := mem_ready.1 hj
      have hnot : ∀ e ∈ oj.after, Region.binds md e = true → e.on ≠ i := fun e he hb heq => by
        have h1 := hall e he hb
        have h0 := (mem_ready.1 hr).1
        rw [heq] at h1
        rcases Nat.lt_or_ge i listed.size with h' | h'
        · simp [h'] at h0 h1; rw [h0] at h1; cases h1
        · simp [Array.getElem?_eq_none h'] at h1
      have hjt : j ≠ t := fun e => by
        subst e
        have h2 := last_all hB hcl hj (Array.getElem?_eq_some_iff.1 hi).1 hit
        have h0 := (mem_ready.1 hr).1
        rcases Nat.lt_or_ge i listed.size with h' | h'
        · simp [h'] at h0 h2; rw [h0] at h2; cases h2
        · simp [Array.getElem?_eq_none h'] at h2
      have h2 := wpOpIn_putR hoj (hnd j oj hoj) (hfree j oj hoj hji hjun hnot) (fun cs b => hsel i oi cs b hi) (fun cs b => hsel j oj cs b hoj) hQ hy h1
      have hfree' : ∀ k ok, ops[k]? = some ok → k ≠ i → (listed.setIfInBounds j true).getD k true = false →
          (∀ e ∈ ok.after, Region.binds md e = true → e.on ≠ i) → oi.apart ops ok = true := fun k ok hk hki hun hno => by
        refine hfree k ok hk hki ?_ hno
        by_cases hjk : j = k
        · subst hjk; exact hjun
        · rw [getD_set_ne true hjk] at hun; exact hun
      refine wpOpIn_mono (fun a' w' h3 => ?_) h2
      obtain ⟨hy3, hS3, h3⟩ := h3
      have hS3 := hS3.resolve_left hjt
      refine ⟨.inr hS3, ih (listed.setIfInBounds j true) a' w' (cl_set hcl hj) hfree' (ready_mono hr (Ne.symm hji)) hy3 hS3 ?_⟩
      rw [Array.setIfInBounds_comm _ _ hji]
      exact h3

theorem stepR_append {o : Oper} {a : Act} {w w' : World} {K : Act → World → Prop} {E : Prop} (hF : ∀ f, F.fn f) (hgd : o.guard = none) (d s : Operand) (t : TypeId)
    (ho : o.op = .call { callee := .builtin .append, args := #[d, s], argTypes := #[t, t] }) (vd vs v' : Value) (hd : a.eval d = vd) (hs : a.eval s = vs)
    (hr : (Builtin.append_ #[t, t] o.type #[vd, vs]).run P w = .ok v' w') (h : K (a.put o.dst v') w') :
    if Region.wanted o (yielded ops a.tmps) = true then Oper.wpIn F n P o a w K Q else E := by
  rw [if_pos (by simp [Region.wanted, hgd])]
  unfold Oper.wpIn
  refine ⟨fun f _ => hF f, ?_⟩
  rw [Oper.semAt_eq _ _ _ (fun c h => by rw [ho] at h; cases h)]
  unfold execOp
  simp only [ho, resolve, invoke, builtin, Sem.run_bind, Sem.run_pure, Result.andThen_ok, List.map_toArray, List.map_cons, List.map_nil, hd, hs, hr]
  exact h
/-! ### the moves of a walk -/
/-- Whatever order is picked, where what is listed has its forerunners listed. -/
def wpAnyC (F : Fence) (n : Nat) (P : Program) (md : Region.Mode) (ops : Array Oper) (Q : Exit → Act → World → Prop) (S : World → Prop) (t : Nat) (fuel : Nat) (listed : Array Bool) (a : Act) (w : World) : Prop := Cl md ops listed → wpAnyR F n P md ops Q S t fuel listed a w

/-- Number i is taken first. -/
theorem wpAnyC_take {i t : Nat} {oi : Oper} {v : Value} {fuel : Nat} {listed : Array Bool} {a : Act} {w : World} (hi : ops[i]? = some oi) (hb : (Region.noSelect ops && lastB md ops t && (i != t) && ops.all (fun o => !isDefer o.op) && Region.free md ops listed i && (Region.ready md ops listed).contains i) = true)
    (hQ : ∀ c a w, Q (.panic c) (a.put oi.dst v) w → Q (.panic c) a w) (hy : YieldsR P ops S oi v a) (hS : S w)
    (h : wpAnyC F n P md ops Q S t fuel (listed.setIfInBounds i true) (a.put oi.dst v) w) : wpAnyC F n P md ops Q S t (fuel + 1) listed a w := by
  simp only [Bool.and_eq_true] at hb
  obtain ⟨⟨⟨⟨⟨h1, h2⟩, h3⟩, h4⟩, h5⟩, h6⟩ := hb
  have hr : i ∈ Region.ready md ops listed := by simpa using h6
  have hnd : ∀ (j : Nat) (o : Oper), ops[j]? = some o → isDefer o.op = false := fun j o ho => by
    obtain ⟨hj, e⟩ := Array.getElem?_eq_some_iff.1 ho
    have := (Array.all_eq_true.1 h4) j hj
    rw [e] at this
    simpa using this
  intro hc
  exact wpAnyR_first hi (by simpa using h3) h2 (Region.noSelect_spec h1) hnd hQ fuel listed a w hc (Region.free_spec hi h5) hr hy hS (h (cl_set hc hr))
theorem yieldsR_run {o : Oper} {v : Value} {a : Act} (hw : Region.wanted o (yielded ops a.tmps) = true) (hd : isDefer o.op = false) (ha : ∀ w, o.about P w a.eval = none) (hr : ∀ w, S w → (execOp a.eval o).run P w = .ok (.value v) w) : YieldsR P ops S o v a :=
  ⟨.inl ⟨hw, hr⟩, ha, hd⟩
theorem yieldsR_skip {o : Oper} {a : Act} (hw : Region.wanted o (yielded ops a.tmps) = false) (hd : isDefer o.op = false) (ha : ∀ w, o.about P w a.eval = none) : YieldsR P ops S o undef a :=
  ⟨.inr ⟨hw, rfl⟩, ha, hd⟩
/-- Number i alone may come up. -/
theorem wpAnyC_sole {i t : Nat} {o : Oper} {fuel : Nat} {listed : Array Bool} {a : Act} {w : World} (hi : ops[i]? = some o) (hr : (Region.ready md ops listed == [i]) = true)
    (h : ∀ K : Act → World → Prop, (∀ a' w', (i = t ∨ S w') → wpAnyC F n P md ops Q S t fuel (listed.setIfInBounds i true) a' w' → K a' w') → if Region.wanted o (yielded ops a.tmps) = true then o.wpIn F n P a w K Q else (∀ f, o.about P w a.eval = some f → F.fn f) ∧ K (a.put o.dst undef) w) : wpAnyC F n P md ops Q S t (fuel + 1) listed a w := by
  have hr' : Region.ready md ops listed = [i] := by simpa using hr
  intro hc
  refine ⟨fun h => (by rw [hr'] at h; cases h), fun j hj => ?_⟩
  have hji : j = i := by rw [hr'] at hj; simpa using hj
  subst hji
  have := h (fun a' w' => (j = t ∨ S w') ∧ wpAnyR F n P md ops Q S t fuel (listed.setIfInBounds j true) a' w') (fun a' w' h1 h2 => ⟨h1, h2 (cl_set hc hj)⟩)
  unfold wpOpIn
  rw [hi]
  simp only
  split
  · rename_i hw; simp only [hw, if_true] at this; exact this
  · rename_i hw; simp only [hw] at this; exact this
theorem wpAnyC_done {t fuel : Nat} {listed : Array Bool} {a : Act} {w : World} (hr : (Region.ready md ops listed).isEmpty = true) (h : Q .normal a w) : wpAnyC F n P md ops Q S t fuel listed a w := by
  have hr' : Region.ready md ops listed = [] := by simpa using hr
  intro _
  cases fuel with
  | zero => exact ⟨hr', h⟩
  | succ fuel => exact ⟨fun _ => h, fun j hj => by rw [hr'] at hj; cases hj⟩
/-- A region that draws. -/
theorem wpIn_region_heldC {id : Nat} {a : Act} {w : World} {l : List Oper} (S : World → Prop) (t : Nat) (hm : P.follows .mixedOrders = true)
    (h : wpAnyC F n P .any l.toArray Q S t l.length (Array.replicate l.length false) a w.drew) : (Code.region id l.toArray true).wpIn F n P Q a w := by
  refine wpIn_region_any hm (wpAnyIn_of_R (S := S) (t := t) _ _ _ _ ?_)
  have e : l.toArray.size = l.length := by simp
  rw [e]
  exact h (cl_start _)

end

end Go.Proofs.YtkfagfdefkaenaaDoor

/-
  Small matters of loops over iterators; no statement is proved here.
-/
namespace Go.Proofs.YtkfagfdefkaenaaDoor
open Go.RowKit Go.Shelf
open Pr (Gp sq pl)

theorem run_store_func (P : Program) (w : World) (a : Addr) (f : Fn) (x y : Array Value) (m : Mode) : (store a (.func f x y) m).run P w = stored P w a (.func f x y) m := run_store P w a _ m rfl

def penc (p : Nat × Nat) : Array Value := #[.int .i64 (p.1 : Nat), .int .i64 (p.2 : Nat)]
theorem mines_new {β : Type} {O : World → Nat → Prop} {J : β → World → Prop} {B : Nat} (c : Cal O J B) {s : β} {L : List (Nat × Obj)} {W : World} (hJ : J s W) (h : Mines O L W) (o : Obj) (ho : o.isCells = true) : J s (W.alloc o) ∧ Mines O ((W.heap.size, o) :: L) (W.alloc o) :=
  ⟨c.own.alloc o hJ, Mines.cons (Mine.new c hJ o ho) (h.stp c hJ (stp_alloc B W o))⟩
theorem wd_obj {A B : World} {b o : Nat} {T : List Nat} {R : Obj} (h : Wd A (some ⟨b, o, none⟩) T) (hA : A.heap[b]? = some R) (hB : B.heap[b]? = some R) : Wd B (some ⟨b, o, none⟩) T := by
  rcases h with h | ⟨b', o', e, hc⟩
  · exact .inl h
  · cases e
    exact .inr ⟨b, o, rfl, fun j hj => by rw [← hc j hj]; exact World.cell?_of_block (hB.trans hA.symm)⟩
theorem tb_obj {A B : World} {R : Obj} (h : Tb A) (hA : A.heap[0]? = some R) (hB : B.heap[0]? = some R) : Tb B := fun j hj => by
  rw [← h j hj]; exact World.cell?_of_block (hB.trans hA.symm)
theorem wide_fn (f : Nat) : Fence.wide.fn f = True := eq_true trivial
theorem wide_depth : Fence.wide.depth = none := rfl
theorem mt_lt256 (c h : Nat) : mt c h < 256 := mk_lt _ 8
theorem yield_any {m n : Nat} {P : Program} {l l' : Nat} {args : Array Value} {W : World} {R : Ending → World → Prop} (h : YieldAt Fence.wide n P l args W R) : YieldAt (Fence.wide.inRound l') m P l args W R := by
  obtain ⟨fn, t, a, b, hy, h1, h2⟩ := h
  exact ⟨fn, t, a, b, hy, h1, fun c cs _ => h2 c cs (room_wide _)⟩


/-! ### a region that draws, in a function's own body -/
/-- Q, and no panic. -/
def noP (Q : Exit → Act → World → Prop) : Exit → Act → World → Prop
  | .panic _, _, _ => False
  | .normal, a, w => Q .normal a w
  | .ret, a, w => Q .ret a w
  | .exit id, a, w => Q (.exit id) a w
  | .goto t, a, w => Q (.goto t) a w
  | .outgrown, a, w => Q .outgrown a w
theorem noP_imp {Q : Exit → Act → World → Prop} : ∀ e a w, noP Q e a w → Q e a w
  | .panic _, _, _, h => h.elim
  | .normal, _, _, h => h
  | .ret, _, _, h => h
  | .exit _, _, _, h => h
  | .goto _, _, _, h => h
  | .outgrown, _, _, h => h
theorem wpIn_region_heldP {F : Fence} {n : Nat} {P : Program} {Q : Exit → Act → World → Prop} {id : Nat} {a : Act} {w : World} {l : List Oper} (S : World → Prop) (t : Nat) (hm : P.follows .mixedOrders = true)
    (h : wpAnyC F n P .any l.toArray (noP Q) S t l.length (Array.replicate l.length false) a w.drew) : (Code.region id l.toArray true).wpIn F n P Q a w :=
  Code.wpIn_mono noP_imp (wpIn_region_heldC S t hm h)
theorem wpAnyC_doneP {F : Fence} {n : Nat} {P : Program} {ops : Array Oper} {Q : Exit → Act → World → Prop} {md : Region.Mode} {S : World → Prop} {t fuel : Nat} {listed : Array Bool} {a : Act} {w : World} (hr : (Region.ready md ops listed).isEmpty = true) (h : Q .normal a w) : wpAnyC F n P md ops (noP Q) S t fuel listed a w :=
  wpAnyC_done hr h
/-! ### loops of N rounds, and marks that a function leaves behind -/
theorem wpIn_loop_n {F : Fence} {n : Nat} {P : Program} {C : Code} {Q : Exit → Act → World → Prop} {a : Act} {w : World} (N : Nat) (I : Nat → Act → World → Prop) (h0 : I 0 a w) (hs : ∀ r a w, r < N → I r a w → C.wpIn F n P (Exit.then (I (r + 1)) Q) a w) (he : ∀ a w, I N a w → C.wpIn F n P (Exit.then (fun _ _ => False) Q) a w) : (Code.loop C).wpIn F n P Q a w := by
  refine wpIn_loop_rounds (N + 1) ?_
  have key : ∀ k r, r + k = N → ∀ a w, I r a w → Code.roundsIn F n P C Q (k + 1) a w := by
    intro k
    induction k with
    | zero => intro r hr a w h; rw [Nat.add_zero] at hr; subst hr; exact Code.wpIn_mono (fun e a w q => by cases e <;> first | exact q.elim | exact q) (he a w h)
    | succ k ih => intro r hr a w h; exact Code.wpIn_mono (fun e a w q => by cases e <;> first | exact ih (r + 1) (by omega) _ _ q | exact q) (hs r a w (by omega) h)
  exact key N 0 (by omega) a w h0
def mkD (D : Nat) : Deferred := { target := .collected D, args := #[] }
def Marks (Ds : List Nat) (W : World) : Prop := ∀ D ∈ Ds, W.heap[D]? = some (.deferred (some []))
theorem leaves_marks {F : Fence} {n : Nat} {P : Program} {fn : Func} {tmps : Array Value} {R : Ending → World → Prop} : ∀ (Ds : List Nat) (W : World), Marks Ds W → Ds.Nodup →
    (∀ W', Ext Ds W W' → (∀ D ∈ Ds, W'.heap[D]? = some (.deferred none)) → ∃ v, (results fn tmps).run P W' = .ok v W' ∧ R (.returned v) W') → LeavesInM F n P fn tmps R (Ds.map mkD) .returning W
  | [], W, _, _, h => by
    obtain ⟨v, h1, h2⟩ := h W (Ext.refl _ _) (by simp)
    exact ⟨v, h1, h2⟩
  | D :: Ds, W, hM, hN, h => by
    have hD := hM D (by simp)
    refine ⟨by simp, .inl ⟨_, _, rfl, run_takeDeferred hD, leaves_marks Ds _ ?_ (List.nodup_cons.1 hN).2 ?_⟩⟩
    · intro D' h'
      refine (World.putObj_heap_other ?_).trans (hM D' (by simp [h']))
      rintro rfl
      exact (List.nodup_cons.1 hN).1 h'
    · intro W' hX hD'
      refine h W' ?_ ?_
      · exact (Ext.grown (S := D :: Ds) (grownBy_putObj' W D (.deferred none)) (by simp)).trans (hX.mono (by simp; intro a ha; exact .inr ha))
      · intro E hE
        rcases List.mem_cons.1 hE with rfl | q
        · exact hX.keep (World.putObj_heap_same (lt_of_heap hD)) (List.nodup_cons.1 hN).1
        · exact hD' E q
/-- What stays where blocks that are no cells are shut. -/
theorem own_marks {β : Type} {B : Nat} {J : β → World → Prop} (hJ : OwnFrom B J) {s : β} : ∀ (Ds : List Nat) (W W' : World), Marks Ds W → (∀ D ∈ Ds, B ≤ D) → Ext Ds W W' → Ds.Nodup → J s W → (∀ D ∈ Ds, W'.heap[D]? = some (.deferred none)) → J s W' := by
  intro Ds
  induction Ds with
  | nil => intro W W' _ _ x _ h _; exact hJ s W W' none h ⟨x.os, x.tape, x.output, x.size, fun k hk _ => x.block k hk (by simp)⟩ (fun _ e => by cases e)
  | cons D Ds ih =>
    intro W W' hM hB x hN h hD
    have h1 := hJ.putObj (.deferred none) h (hB D (by simp)) (hM D (by simp)) rfl
    have hDW := lt_of_heap (hM D (by simp))
    refine ih (W.putObj D (.deferred none)) W' (fun E hE => ?_) (fun E hE => hB E (by simp [hE])) ?_ (List.nodup_cons.1 hN).2 h1 (fun E hE => hD E (by simp [hE]))
    · refine (World.putObj_heap_other ?_).trans (hM E (by simp [hE]))
      rintro rfl
      exact (List.nodup_cons.1 hN).1 hE
    · have hg := grownBy_putObj' W D (.deferred none)
      refine ⟨x.os.trans hg.os.symm, x.tape.trans hg.tape.symm, x.output.trans hg.output.symm, ?_, fun k hk hkD => ?_⟩
      · have : (W.putObj D (.deferred none)).heap.size = W.heap.size := by simp [World.putObj]
        rw [this]; exact x.size
      · have hs : (W.putObj D (.deferred none)).heap.size = W.heap.size := by simp [World.putObj]
        rw [hs] at hk
        by_cases e : k = D
        · subst e
          rw [hD k (by simp), World.putObj_heap_same hDW]
        · rw [World.putObj_heap_other (fun q => e q), x.block k hk (by simp [e, hkD])]
theorem marks_own {β : Type} {Ds : List Nat} {B : Nat} (hB : ∀ D ∈ Ds, D < B) : OwnFrom B (fun (_ : β) W => Marks Ds W) := fun s X Y row h hg hr D hD => by
  refine (hg.block D (lt_of_heap (h D hD)) (fun e => ?_)).trans (h D hD)
  have := (hr D e.symm).1
  have := hB D hD
  omega
theorem Marks.keeps {Ds : List Nat} {B : Nat} {W W' : World} (h : Marks Ds W) (hB : ∀ D ∈ Ds, B ≤ D) (k : KeepsFrom B W W') : Marks Ds W' := fun D hD => k.same D _ (hB D hD) (h D hD) rfl
end Go.Proofs.YtkfagfdefkaenaaDoor

/-
  Which words are a table: the program's own checks; no statement is proved here.
-/
namespace Go.Proofs.YtkfagfdefkaenaaDoor
open Go.RowKit Go.Shelf
open Pr (Gp GpI sq pl)
attribute [local go_sem] Oper.semAt_some run_store_func

/-! ### control words -/
def scB (c : Nat) : Bool := decide ((fl c ||| (mt c 128 ||| mt c 254)) = 255) && (decide (mt c 128 = 0) || decide (mt c 254 = 0))
theorem soundControl_any (c : Nat) (hc : c < 18446744073709551616) (w : World) : Calls Tryd.prog 95 #[.int .u64 (c : Nat)] w fun e w' => e = .returned (.bool (scB c)) ∧ w' = w := by
  have K1 := fun u => full_any c hc u
  have K2 := fun u => open_any c hc u
  have K3 := fun u => empty_any c hc u
  have K4 := fun u => deleted_any c hc u
  have e := bits_or_u64_nat (fl c) (mt c 128 ||| mt c 254) (fl_lt c) (or_lt64 (mt_lt c 128) (mt_lt c 254))
  obtain ⟨r, hr⟩ : ∃ r, scB c = r := ⟨_, rfl⟩
  rw [hr]
  unfold scB at hr
  generalize (mt c 128 ||| mt c 254) = op at *
  generalize hfo : (fl c ||| op) = fo at *
  generalize mt c 128 = me at *
  generalize mt c 254 = md at *
  generalize fl c = f at *
  by_cases h1 : fo = 255
  · have h1' : ((fo : Int) != 255) = false := by simp [h1]
    simp only [h1, decide_true, Bool.true_and] at hr
    by_cases h2 : me = 0
    · have h2' : ((me : Int) == 0) = true := by simp [h2]
      simp only [h2, decide_true, Bool.true_or] at hr
      subst hr
      go_enter Tryd.func95, Tryd.ntmps95
      go_wp2_with (first | (go_at_call 98; refine met (K1 _) ?_) | (go_at_call 109; refine met (K2 _) ?_) | (go_at_call 107; refine met (K3 _) ?_) | (go_at_call 99; refine met (K4 _) ?_))
      go_ret
      exact ⟨rfl, rfl⟩
    · have h2' : ((me : Int) == 0) = false := by simpa using h2
      simp only [h2, decide_false, Bool.false_or] at hr
      by_cases h3 : md = 0
      · have h3' : ((md : Int) == 0) = true := by simp [h3]
        simp only [h3, decide_true] at hr
        subst hr
        go_enter Tryd.func95, Tryd.ntmps95
        go_wp2_with (first | (go_at_call 98; refine met (K1 _) ?_) | (go_at_call 109; refine met (K2 _) ?_) | (go_at_call 107; refine met (K3 _) ?_) | (go_at_call 99; refine met (K4 _) ?_))
        go_ret
        exact ⟨rfl, rfl⟩
      · have h3' : ((md : Int) == 0) = false := by simpa using h3
        simp only [h3, decide_false] at hr
        subst hr
        go_enter Tryd.func95, Tryd.ntmps95
        go_wp2_with (first | (go_at_call 98; refine met (K1 _) ?_) | (go_at_call 109; refine met (K2 _) ?_) | (go_at_call 107; refine met (K3 _) ?_) | (go_at_call 99; refine met (K4 _) ?_))
        go_ret
        exact ⟨rfl, rfl⟩
  · have h1' : ((fo : Int) != 255) = true := by simp; omega
    simp only [h1, decide_false, Bool.false_and] at hr
    subst hr
    go_enter Tryd.func95, Tryd.ntmps95
    go_wp2_with (first | (go_at_call 98; refine met (K1 _) ?_) | (go_at_call 109; refine met (K2 _) ?_) | (go_at_call 107; refine met (K3 _) ?_) | (go_at_call 99; refine met (K4 _) ?_))
    go_ret
    exact ⟨rfl, rfl⟩

/-! ### the slots of a group -/
def slB (T : List Nat) (g i : Nat) : Bool := if (fl (cw T g)).testBit i then decide (byt (cw T g) i = hsw T g i % 128) else decide (hsw T g i = 0) && decide (idw T g i = 0)
def ssB (T : List Nat) (g : Nat) : Bool := (List.range 8).all (slB T g)
theorem bit_int (f i : Nat) (hf : f < 18446744073709551616) : bits BinOp.and IntKind.u64 ((f : Int) / 2 ^ i) 1 = if f.testBit i then 1 else 0 := by
  have e1 : (f : Int) / 2 ^ i = ((f / 2 ^ i : Nat) : Int) := by norm_cast
  have h1 : f / 2 ^ i < 18446744073709551616 := Nat.lt_of_le_of_lt (Nat.div_le_self _ _) hf
  rw [e1, show (1 : Int) = ((1 : Nat) : Int) from rfl, bits_and_u64_nat _ 1 h1 (by omega), Nat.and_one_is_mod, Nat.testBit_eq_decide_div_mod_eq]
  by_cases q : f / 2 ^ i % 2 = 1
  · simp [q]
  · have : f / 2 ^ i % 2 = 0 := by omega
    simp [this]
set_option maxRecDepth 100000 in
set_option maxHeartbeats 1000000 in
theorem soundSlots_any (a : Option Addr) (c : Nat) (T : List Nat) (G g : Nat) (hS : Shp T G) (hg : g < G) (w : World) (hT : Wd w a T) :
    Calls Tryd.prog 96 #[.slice a (3 + 17 * G) c, .int .i64 (g : Nat)] w (SayPost w (.bool (ssB T g))) := by
  have hG := hS.gp.le
  have hlen := hS.len
  obtain ⟨b, o, rfl, hc⟩ := hT.at_ (by rintro rfl; simp at hlen; omega)
  have K1 := fun u => controlAt_any g (by omega) u
  have cC := hc (3 + 17 * g) (by omega)
  rw [show T.getD (3 + 17 * g) 0 = cw T g from rfl] at cC
  have hcw := hS.cw_lt g
  have K2 := fun u => full_any (cw T g) hcw u
  have KH := fun i (hi : i < 8) u => hashAt_any g i (by omega) (by omega) u
  have KI := fun i (hi : i < 8) u => idAt_any g i (by omega) (by omega) u
  have KS := fun i u => split_any (hsw T g i) (hS.hs_lt g i) u
  have KG := fun i (hi : i < 8) u => get_ok (cw T g) i hi u
  have hfl := fl_lt (cw T g)
  have HC := hid hT
  have hne : T ≠ [] := by rintro rfl; simp at hlen; omega
  have HL := hid hlen
  have hss : Hid (ssB T g = (List.range 8).all (slB T g)) := rfl
  have hsl : Hid (∀ i, slB T g i = if (fl (cw T g)).testBit i then decide (byt (cw T g) i = hsw T g i % 128) else decide (hsw T g i = 0) && decide (idw T g i = 0)) := fun _ => rfl
  have HBy := hid (byt_lt (cw T g))
  have HAll : Hid (∀ k, k < 8 → slB T g k = false → ssB T g = false) := fun k hk h => by
    show ssB T g = false
    unfold ssB
    rw [List.all_eq_false]
    exact ⟨k, by simpa using hk, by simp [h]⟩
  have HAllT : Hid ((∀ k, k < 8 → slB T g k = true) → ssB T g = true) := fun h => by
    show ssB T g = true
    unfold ssB
    rw [List.all_eq_true]
    intro k hk
    exact h k (by simpa using hk)
  clear hS hT hlen hc hss
  generalize hcx : cw T g = cx at *
  clear hcx
  go_enter Tryd.func96, Tryd.ntmps96
  go_wp2_with (first | (go_at_call 65; refine met (K1 _) ?_) | (go_at_call 98; refine met (K2 _) ?_))
  clear K1 K2 cC
  go_loopw [21] (fun q wr => ∃ k : Nat, q = .int .i64 k ∧ k ≤ 8 ∧ (∀ j, j < k → slB T g j = true) ∧ Ext [] w wr) (fun q _ => (8 - (intOf q)).toNat)
  case atStart => exact ⟨0, rfl, Nat.zero_le _, fun j hj => absurd hj (by omega), Ext.refl _ _⟩
  case round =>
    obtain ⟨i, rfl, hi8, hall, hE⟩ := hrel
    by_cases hi : i < 8
    · have hii : (i : Int) < 8 := by omega
      obtain ⟨_, _, heq, hc⟩ := (HC.out.keep0 hE).at_ hne
      cases heq
      have cH := hc (3 + 17 * g + 1 + 2 * i) (by rw [HL.out]; omega)
      have cI := hc (3 + 17 * g + 2 + 2 * i) (by rw [HL.out]; omega)
      rw [show T.getD (3 + 17 * g + 1 + 2 * i) 0 = hsw T g i from rfl] at cH
      rw [show T.getD (3 + 17 * g + 2 + 2 * i) 0 = idw T g i from rfl] at cI
      have hbit := bit_int (fl cx) i hfl
      have hb256 := HBy.out i
      have Hsl := hid (hsl.out i)
      have Hall := hid hall
      have HE := hid hE
      have KH' := KH i hi
      have KI' := KI i hi
      have KS' := KS i
      have KG' := KG i hi
      clear hall hE hc KH KI KS KG
      generalize hsw T g i = hv at *
      generalize idw T g i = dv at *
      generalize byt cx i = bv at *
      generalize fl cx = f at *
      cases hf : f.testBit i with
      | false =>
        rw [hf] at hbit
        replace Hsl := hid (show slB T g i = (decide (hv = 0) && decide (dv = 0)) by have := Hsl.out; rw [hf] at this; simpa using this)
        simp only [Bool.false_eq_true, if_false] at hbit
        by_cases h0 : hv = 0
        · have h0' : ((hv : Int) != 0) = false := by simp [h0]
          by_cases d0 : dv = 0
          · have d0' : ((dv : Int) != 0) = false := by simp [d0]
            have HN : Hid (∀ j, j < i + 1 → slB T g j = true) := fun j hj => by
              by_cases e : j = i
              · subst e; rw [Hsl.out, h0, d0]; rfl
              · exact Hall.out j (by omega)
            clear Hsl
            go_wp2_with fail
            go_quiet (first | (go_at_call 106; refine Calls.quiet_of_same (KH' _)) | (go_at_call 70; refine Calls.quiet_of_same (KI' _)))
            go_wp2_with fail
            go_roundw
            case rel => exact ⟨i + 1, by go_num, by omega, HN.out, HE.out.trans (Ext.drewN [] _ _)⟩
            case measure => simp [intOf]; omega
          · have d0' : ((dv : Int) != 0) = true := by simpa using d0
            have HR := hid (HAll.out i hi (by rw [Hsl.out]; simp [d0]))
            clear Hsl
            go_wp2_with fail
            go_quiet (first | (go_at_call 106; refine Calls.quiet_of_same (KH' _)) | (go_at_call 70; refine Calls.quiet_of_same (KI' _)))
            go_wp2
            go_ret
            exact ⟨by rw [HR.out]; rfl, HE.out.trans (Ext.drewN [] _ _)⟩
        · have h0' : ((hv : Int) != 0) = true := by simpa using h0
          have HR := hid (HAll.out i hi (by rw [Hsl.out]; simp [h0]))
          clear Hsl
          go_wp2_with fail
          go_quiet (first | (go_at_call 106; refine Calls.quiet_of_same (KH' _)) | (go_at_call 70; refine Calls.quiet_of_same (KI' _)))
          go_wp2
          go_ret
          exact ⟨by rw [HR.out]; rfl, HE.out.trans (Ext.drewN [] _ _)⟩
      | true =>
        rw [hf] at hbit
        replace Hsl := hid (show slB T g i = decide (bv = hv % 128) by have := Hsl.out; rw [hf] at this; simpa using this)
        simp only [if_true] at hbit
        have hm128 : hv % 128 < 128 := Nat.mod_lt _ (by omega)
        generalize hv % 128 = h2 at *
        by_cases hbh : bv = h2
        · have hbh' : ((bv : Int) != (h2 : Int)) = false := by simp [hbh]
          have HN : Hid (∀ j, j < i + 1 → slB T g j = true) := fun j hj => by
            by_cases e : j = i
            · subst e; rw [Hsl.out, hbh]; simp
            · exact Hall.out j (by omega)
          clear Hsl
          go_wp2_with fail
          go_quiet (first | (go_at_call 106; refine Calls.quiet_of_same (KH' _)) | (go_at_call 70; refine Calls.quiet_of_same (KI' _)))
          go_wp2_with (first | (go_at_call 102; refine met (KS' _) ?_) | (go_at_call 119; refine met (KG' _) ?_))
          go_roundw
          case rel => exact ⟨i + 1, by go_num, by omega, HN.out, HE.out.trans (Ext.drewN [] _ _)⟩
          case measure => simp [intOf]; omega
        · have hbh' : ((bv : Int) != (h2 : Int)) = true := by simp; omega
          have HR := hid (HAll.out i hi (by rw [Hsl.out]; simp [hbh]))
          clear Hsl
          go_wp2_with fail
          go_quiet (first | (go_at_call 106; refine Calls.quiet_of_same (KH' _)) | (go_at_call 70; refine Calls.quiet_of_same (KI' _)))
          go_wp2_with (first | (go_at_call 102; refine met (KS' _) ?_) | (go_at_call 119; refine met (KG' _) ?_))
          go_ret
          exact ⟨by rw [HR.out]; rfl, HE.out.trans (Ext.drewN [] _ _)⟩
    · obtain rfl : i = 8 := by omega
      have HR := hid (HAllT.out hall)
      have HE := hid hE
      clear hall hE
      go_wp2
      go_ret
      exact ⟨by rw [HR.out]; rfl, HE.out⟩
end Go.Proofs.YtkfagfdefkaenaaDoor

/-
  allFound: each entry is found; no statement is proved here.
-/
namespace Go.Proofs.YtkfagfdefkaenaaDoor
open Go.RowKit Go.Shelf
open Pr (Gp GpI sq pl)
attribute [local go_sem] Oper.semAt_some run_store_func

theorem bit_intF (f i : Nat) (hf : f < 18446744073709551616) : bits BinOp.and IntKind.u64 ((f : Int) / 2 ^ i) 1 = if f.testBit i then 1 else 0 := by
  have e1 : (f : Int) / 2 ^ i = ((f / 2 ^ i : Nat) : Int) := by norm_cast
  have h1 : f / 2 ^ i < 18446744073709551616 := Nat.lt_of_le_of_lt (Nat.div_le_self _ _) hf
  rw [e1, show (1 : Int) = ((1 : Nat) : Int) from rfl, bits_and_u64_nat _ 1 h1 (by omega), Nat.and_one_is_mod, Nat.testBit_eq_decide_div_mod_eq]
  by_cases q : f / 2 ^ i % 2 = 1
  · simp [q]
  · have : f / 2 ^ i % 2 = 0 := by omega
    simp [this]
/-- Each entry is found. -/
def Fnd (T : List Nat) (G : Nat) : Prop := ∀ own, own < G → ∀ i, i < 8 → (fl (cw T own)).testBit i = true → ∃ k, k < G ∧ pl (hsw T own i / 128) G k = own ∧ ∀ n, n < k → hasE T (pl (hsw T own i / 128) G n) = false
def bls (T : List Nat) (G k : Nat) : List Value := (List.range G).map fun g => .bool (decide (g < k) && hasE T g)
theorem bls_at (T : List Nat) {G k j : Nat} (h : j < G) : (bls T G k)[j]? = some (.bool (decide (j < k) && hasE T j)) := by simp [bls, h]
/-- The row of truths at g0. -/
def Bw (w : World) (g0 : Nat) (T : List Nat) (G k : Nat) : Prop := w.heap[g0]? = some (.cells (bls T G k).toArray 4 (0, 0))
theorem bls_set (T : List Nat) {G k : Nat} (hk : k < G) : (bls T G k).set k (.bool (hasE T k)) = bls T G (k + 1) := by
  apply List.ext_getElem?
  intro j
  rw [List.getElem?_set]
  by_cases hj : j < G
  · rw [bls_at T hj, bls_at T hj]
    by_cases e : k = j
    · subst e; simp [bls, hk]
    · rw [if_neg e]
      have : decide (j < k) = decide (j < k + 1) := by rw [decide_eq_decide]; omega
      rw [this]
  · have e1 : (bls T G k)[j]? = none := by simp [bls]; omega
    have e2 : (bls T G (k + 1))[j]? = none := by simp [bls]; omega
    rw [e1, e2, if_neg (by omega)]

set_option maxRecDepth 100000 in
set_option maxHeartbeats 2000000 in
theorem allFound_true (a : Option Addr) (c : Nat) (T : List Nat) (G : Nat) (hS : Shp T G) (hF : Fnd T G) (w : World) (hT : Wd w a T) :
    Calls Tryd.prog 100 #[.slice a (3 + 17 * G) c] w (SayPost w (.bool true)) := by
  have hG := hS.gp.le
  have hG0 := hS.gp.pos
  have hlen := hS.len
  have K1 := fun u (hu : Ext [] w u) => groupsOf_any a (3 + 17 * G) c T u (hT.keep0 hu) hlen (by omega) (by rw [hS.g0]; exact hG)
  rw [hS.g0] at K1
  have hmk := run_make_row' (P := Tryd.prog) 44 4 (.bool false) 1 Tryd.underlying44 info4 rfl .i64 .i64 G (by omega) (by omega) w
  have hB0 : Bw (w.alloc (.cells (madeCells #[.bool false] G) 4)) w.heap.size T G 0 := by
    have e : madeCells #[.bool false] G = (bls T G 0).toArray := by
      apply Array.toList_inj.1
      rw [toList_madeCells_one]
      apply List.ext_getElem?
      intro j
      by_cases hj : j < G
      · rw [List.getElem?_replicate, if_pos hj, bls_at T hj]; simp
      · rw [List.getElem?_replicate, if_neg hj]; simp only [bls]; rw [List.getElem?_map, List.getElem?_eq_none (by simp; omega)]; rfl
    unfold Bw
    rw [← e]
    exact heap_alloc_new w _
  have hE0 := Ext.alloc [] w (.cells (madeCells #[.bool false] G) 4)
  obtain ⟨g0, hg0⟩ : ∃ g0, w.heap.size = g0 := ⟨_, rfl⟩
  rw [hg0] at hmk hB0
  obtain ⟨W0, hW0⟩ : ∃ W0, w.alloc (.cells (madeCells #[.bool false] G) 4) = W0 := ⟨_, rfl⟩
  rw [hW0] at hmk hB0 hE0
  have HB0 := hid hB0
  have HE0 := hid hE0
  have HT := hid hT
  have HL := hid hlen
  have HS := hid hS
  have HF := hid hF
  have hne : T ≠ [] := by rintro rfl; simp at hlen; omega
  obtain ⟨b, o, rfl, hcc⟩ := hT.at_ hne
  clear hcc
  have K1w := K1 w (Ext.refl _ _)
  clear hB0 hE0 hT hlen hS hF hW0 K1
  go_enter Tryd.func100, Tryd.ntmps100
  go_wp2_with (first | (go_at_call 94; refine met K1w ?_))
  clear hmk K1w
  go_loopw [19] (fun q wr => ∃ k : Nat, q = .int .i64 k ∧ k ≤ G ∧ Bw wr g0 T G k ∧ Ext [] w wr) (fun q _ => (G - (intOf q)).toNat)
  case atStart => exact ⟨0, rfl, Nat.zero_le _, HB0.out, HE0.out⟩
  case round =>
    clear HB0 HE0
    obtain ⟨k, rfl, hk, hB, hE⟩ := hrel
    by_cases hkG : k < G
    · have hki : (k : Int) < G := by omega
      obtain ⟨_, _, heq, hc⟩ := (HT.out.keep0 hE).at_ hne
      cases heq
      have cC := hc (3 + 17 * k) (by rw [HL.out]; omega)
      rw [show T.getD (3 + 17 * k) 0 = cw T k from rfl] at cC
      have hcw := HS.out.cw_lt k
      have KC := fun u => controlAt_any k (by omega) u
      have KE := fun u => empty_any (cw T k) hcw u
      have cB : wr.cell? ⟨g0, k, none⟩ = some (.bool (decide (k < k) && hasE T k)) := by rw [cell_of_row _ _ _ _ _ _ hB]; rw [List.getElem?_toArray, bls_at T hkG]
      have fB := frozen_of_row wr g0 k _ 4 hB
      have hbe : ((mt (cw T k) 128 : Int) != 0) = hasE T k := by
        unfold hasE
        by_cases q : mt (cw T k) 128 = 0
        · simp [q]
        · have : ((mt (cw T k) 128 : Int) != 0) = true := by simpa using q
          rw [this]; simp [q]
      have HB' : Hid (Bw (wr.setCell ⟨g0, k, none⟩ (.bool (hasE T k))) g0 T G (k + 1)) := by
        show _ = _
        rw [heap_setCell_same wr g0 k _ 4 _ hB]
        rw [← bls_set T hkG]
        simp
      have HE' := hid (hE.on (Ext.setCell [g0] wr ⟨g0, k, none⟩ (.bool (hasE T k)) (by simp)) (by simp; omega))
      generalize (decide (k < k) && hasE T k) = ob at *
      generalize mt (cw T k) 128 = me at *
      generalize cw T k = cx at *
      generalize hasE T k = he at *
      clear hB hE hc
      go_wp2_with (first | (go_at_call 65; refine met (KC _) ?_) | (go_at_call 107; refine met (KE _) ?_))
      go_roundw
      case rel => exact ⟨k + 1, by go_num, by omega, HB'.out, HE'.out⟩
      case measure => simp [intOf]; omega
    · obtain rfl : k = G := by omega
      have HB := hid hB
      have HE := hid hE
      clear hB hE
      go_wp2_with fail
      obtain ⟨V, hV⟩ : ∃ V, V = wr := ⟨_, rfl⟩
      rw [← hV] at HB HE ⊢
      clear hV
      go_loopw [34] (fun q wr => ∃ m : Nat, q = .int .i64 m ∧ m ≤ k ∧ Ext [] V wr) (fun q _ => (k - (intOf q)).toNat)
      case atStart => exact ⟨0, rfl, Nat.zero_le _, Ext.refl _ _⟩
      case round =>
        obtain ⟨m, rfl, hm, hX⟩ := hrel
        by_cases hmk2 : m < k
        · have hmi : (m : Int) < k := by omega
          obtain ⟨_, _, heq, hc⟩ := (HT.out.keep0 (HE.out.trans hX)).at_ hne
          cases heq
          have cC := hc (3 + 17 * m) (by rw [HL.out]; omega)
          rw [show T.getD (3 + 17 * m) 0 = cw T m from rfl] at cC
          have hcw := HS.out.cw_lt m
          have KC := fun u => controlAt_any m (by omega) u
          have KF := fun u => full_any (cw T m) hcw u
          have HFm := hid (HF.out m hmk2)
          have hfl := fl_lt (cw T m)
          generalize fl (cw T m) = f at *
          generalize cw T m = cx at *
          have HX := hid hX
          clear hX hc
          go_wp2_with fail
          go_step3
          go_wp2_with (first | (go_at_call 65; refine met (KC _) ?_) | (go_at_call 98; refine met (KF _) ?_))
          go_step3
          go_wp2_with fail
          clear cC KC KF
          obtain ⟨V2, hV2⟩ : ∃ V2, V2 = wr := ⟨_, rfl⟩
          rw [← hV2] at HX ⊢
          clear hV2
          go_loopw [43] (fun q wr => ∃ i : Nat, q = .int .i64 i ∧ i ≤ 8 ∧ Ext [] V2 wr) (fun q _ => (8 - (intOf q)).toNat)
          case atStart => exact ⟨0, rfl, Nat.zero_le _, Ext.refl _ _⟩
          case round =>
            obtain ⟨i, rfl, hi8, hX2⟩ := hrel
            by_cases hi : i < 8
            · have hii : (i : Int) < 8 := by omega
              have hbit := bit_intF f i hfl
              have HX2 := hid hX2
              cases hf : f.testBit i with
              | false =>
                rw [hf] at hbit
                simp only [Bool.false_eq_true, if_false] at hbit
                clear hX2
                go_wp2_with fail
                go_roundw
                case rel => exact ⟨i + 1, by go_num, by omega, HX2.out⟩
                case measure => simp [intOf]; omega
              | true =>
                rw [hf] at hbit
                simp only [if_true] at hbit
                obtain ⟨n, hn, hpl, hno⟩ := HFm.out i hi hf
                obtain ⟨_, _, heq, hc⟩ := (HT.out.keep0 (HE.out.trans (HX.out.trans hX2))).at_ hne
                cases heq
                have cH := hc (3 + 17 * m + 1 + 2 * i) (by rw [HL.out]; omega)
                rw [show T.getD (3 + 17 * m + 1 + 2 * i) 0 = hsw T m i from rfl] at cH
                have hhs := HS.out.hs_lt m i
                have KH := fun u => hashAt_any m i (by omega) (by omega) u
                have KS := fun u => split_any (hsw T m i) hhs u
                have hgp := HS.out.gp
                have KA := fun j (hj : j < k) u => Pr.at_ok (hsw T m i / 128) k j hgp hj u
                have HPl := hid hpl
                have HNo := hid hno
                have HInj := hid (fun j (hj : j < k) e => Pr.pl_inj (h := hsw T m i / 128) (i := j) (j := n) hgp hj hn e)
                have HLt := hid (fun j => Pr.pl_lt (hsw T m i / 128) hgp.pos j)
                have hm128 : hsw T m i % 128 < 128 := Nat.mod_lt _ (by omega)
                clear hX2 hc hpl hno hgp
                generalize hsw T m i / 128 = h1 at *
                generalize hsw T m i % 128 = h2 at *
                generalize hsw T m i = hv at *
                go_wp2_with (first | (go_at_call 106; refine met (KH _) ?_) | (go_at_call 102; refine met (KS _) ?_))
                clear cH KH KS
                obtain ⟨V3, hV3⟩ : ∃ V3, V3 = wr := ⟨_, rfl⟩
                rw [← hV3] at HX2 ⊢
                clear hV3
                go_loopw [62] (fun q wr => ∃ j : Nat, q = .int .i64 j ∧ j ≤ n ∧ Ext [] V3 wr) (fun q _ => (k - (intOf q)).toNat)
                case atStart => exact ⟨0, rfl, Nat.zero_le _, Ext.refl _ _⟩
                case round =>
                  obtain ⟨j, rfl, hj, hX3⟩ := hrel
                  have hjk : j < k := by omega
                  have hji : (j : Int) < k := by omega
                  have KA' := KA j hjk
                  have hplt := HLt.out j
                  have HX3 := hid hX3
                  by_cases hjn : j = n
                  · subst hjn
                    rw [HPl.out] at KA' hplt
                    clear KA hX3
                    go_wp2_with (first | (go_at_call 92; refine met (KA' _) ?_))
                    go_roundw
                    case rel => exact ⟨i + 1, by go_num, by omega, HX2.out.trans HX3.out⟩
                    case measure => simp [intOf]; omega
                  · have hne2 : pl h1 k j ≠ m := fun e => hjn (HInj.out j hjk (by rw [HPl.out]; exact e))
                    have hno := HNo.out j (by omega)
                    have hB3 : Bw wr g0 T k k := (HX.out.trans (HX2.out.trans hX3)).keep HB.out (by simp)
                    have cB : wr.cell? ⟨g0, pl h1 k j, none⟩ = some (.bool false) := by
                      rw [cell_of_row _ _ _ _ _ _ hB3, List.getElem?_toArray, bls_at T hplt, hno]
                      simp
                    have hneb : ((pl h1 k j : Int) == (m : Int)) = false := by simp; omega
                    clear KA hX3 hno hB3
                    generalize pl h1 k j = p at *
                    go_wp2_with (first | (go_at_call 92; refine met (KA' _) ?_))
                    go_roundw
                    case rel => exact ⟨j + 1, by go_num, by omega, HX3.out⟩
                    case measure => simp [intOf]; omega
            · obtain rfl : i = 8 := by omega
              have HX2 := hid hX2
              clear hX2
              go_wp2_with fail
              apply_assumption
              go_wp2_with fail
              go_roundw
              case rel => exact ⟨m + 1, by go_num, by omega, HX.out.trans HX2.out⟩
              case measure => simp [intOf]; omega
        · obtain rfl : m = k := by omega
          have HX := hid hX
          clear hX
          go_wp2
          go_ret
          exact ⟨rfl, HE.out.trans HX.out⟩
end Go.Proofs.YtkfagfdefkaenaaDoor

/-
  sound: words that are a table are told so; no statement is proved here.
-/
namespace Go.Proofs.YtkfagfdefkaenaaDoor
open Go.RowKit Go.Shelf
open Pr (Gp GpI sq pl)
attribute [local go_sem] Oper.semAt_some run_store_func

def nfl (T : List Nat) : Nat → Nat
  | 0 => 0
  | k + 1 => nfl T k + pc (fl (cw T k))
def nus (T : List Nat) : Nat → Nat
  | 0 => 0
  | k + 1 => nus T k + pc (fl (cw T k) ||| mt (cw T k) 254)
theorem pc_le (x : Nat) : pc x ≤ 8 := by
  have := List.length_filter_le (fun i => x.testBit i) (List.range 8)
  simpa [pc] using this
theorem nfl_le (T : List Nat) : ∀ k, nfl T k ≤ 8 * k
  | 0 => by simp [nfl]
  | k + 1 => by have := nfl_le T k; have := pc_le (fl (cw T k)); rw [nfl]; omega
theorem nus_le (T : List Nat) : ∀ k, nus T k ≤ 8 * k
  | 0 => by simp [nus]
  | k + 1 => by have := nus_le T k; have := pc_le (fl (cw T k) ||| mt (cw T k) 254); rw [nus]; omega
/-- The words are a sound table of G groups. -/
structure Sd (T : List Nat) (G : Nat) : Prop where
  shp : Shp T G
  ctl : ∀ g, g < G → scB (cw T g) = true
  slt : ∀ g, g < G → ssB T g = true
  cnt : T.getD 1 0 = nfl T G
  use : T.getD 2 0 + nus T G = 7 * G
  fnd : Fnd T G

theorem shaped_true (a : Option Addr) (c : Nat) (T : List Nat) (G : Nat) (hS : Shp T G) (w : World) (hT : Wd w a T) :
    Calls Tryd.prog 93 #[.slice a (3 + 17 * G) c] w fun e w' => e = .returned (.bool true) ∧ w' = w := by
  have hG := hS.gp.le
  have hlen := hS.len
  have K1 := groupsOf_any a (3 + 17 * G) c T w hT hlen (by omega) (by rw [hS.g0]; exact hG)
  have K2 := fun u => tallowed_yes G hS.gp u
  have K3 := fun u => wordsOf_any G hG u
  rw [hS.g0] at K1
  obtain ⟨b, o, rfl, hc⟩ := hT.at_ (by rintro rfl; simp at hlen; omega)
  have c0 := hc 0 (by omega)
  rw [Nat.add_zero, hS.g0] at c0
  clear hT hc hlen hS
  go_enter Tryd.func93, Tryd.ntmps93
  go_wp2_with (first | (go_at_call 94; refine met K1 ?_) | (go_at_call 62; refine met (K2 _) ?_) | (go_at_call 63; refine met (K3 _) ?_))
  go_ret
  exact ⟨rfl, rfl⟩

set_option maxRecDepth 100000 in
set_option maxHeartbeats 1000000 in
theorem sound_true (a : Option Addr) (c : Nat) (T : List Nat) (G : Nat) (hS : Sd T G) (w : World) (hT : Wd w a T) :
    Calls Tryd.prog 68 #[.slice a (3 + 17 * G) c] w (SayPost w (.bool true)) := by
  have hG := hS.shp.gp.le
  have hlen := hS.shp.len
  have K0 := shaped_true a c T G hS.shp w hT
  have K1 := fun u (hu : Ext [] w u) => groupsOf_any a (3 + 17 * G) c T u (hT.keep0 hu) hlen (by omega) (by rw [hS.shp.g0]; exact hG)
  rw [hS.shp.g0] at K1
  have K1w := K1 w (Ext.refl _ _)
  have KA := fun u (hu : Ext [] w u) => allFound_true a c T G hS.shp hS.fnd u (hT.keep0 hu)
  have KSS := fun g (hg : g < G) u (hu : Ext [] w u) => soundSlots_any a c T G g hS.shp hg u (hT.keep0 hu)
  have hne : T ≠ [] := by rintro rfl; simp at hlen; omega
  obtain ⟨b, o, rfl, hcc⟩ := hT.at_ hne
  clear hcc
  have HT := hid hT
  have HL := hid hlen
  have HS := hid hS
  have HKS := hid KSS
  have HKA := hid KA
  have HK1 := hid K1
  clear hT hlen hS KSS KA K1
  go_enter Tryd.func68, Tryd.ntmps68
  go_wp2_with (first | (go_at_call 93; refine met K0 ?_) | (go_at_call 94; refine met K1w ?_))
  clear K0 K1w
  go_loopw [3, 4, 13] (fun p q r wr => ∃ k : Nat, r = .int .i64 k ∧ k ≤ G ∧ p = .int .i64 (nfl T k : Nat) ∧ q = .int .i64 (nus T k : Nat) ∧ Ext [] w wr) (fun _ _ q _ => (G - (intOf q)).toNat)
  case atStart => exact ⟨0, rfl, Nat.zero_le _, rfl, rfl, Ext.refl _ _⟩
  case round =>
    obtain ⟨k, rfl, hk, rfl, rfl, hX⟩ := hrel
    have hnf := nfl_le T k
    have hnu := nus_le T k
    by_cases hkG : k < G
    · have hki : (k : Int) < G := by omega
      obtain ⟨_, _, heq, hc⟩ := (HT.out.keep0 hX).at_ hne
      cases heq
      have cC := hc (3 + 17 * k) (by rw [HL.out]; omega)
      rw [show T.getD (3 + 17 * k) 0 = cw T k from rfl] at cC
      have hcw := HS.out.shp.cw_lt k
      have KC := fun u => controlAt_any k (by omega) u
      have K63 := fun u => soundControl_any (cw T k) hcw u
      simp only [HS.out.ctl k hkG] at K63
      have K64 := HKS.out k hkG wr hX
      rw [HS.out.slt k hkG] at K64
      have K66 := fun u => full_any (cw T k) hcw u
      have K67 := fun u => deleted_any (cw T k) hcw u
      have K65a := fun u => ones_any (fl (cw T k)) (fl_lt256 _) u
      have hor := Nat.or_lt_two_pow (n := 8) (fl_lt256 (cw T k)) (mt_lt256 (cw T k) 254)
      have K65b := fun u => ones_any (fl (cw T k) ||| mt (cw T k) 254) hor u
      have eor := bits_or_u64_nat (fl (cw T k)) (mt (cw T k) 254) (fl_lt _) (mt_lt _ _)
      have hp1 := pc_le (fl (cw T k))
      have hp2 := pc_le (fl (cw T k) ||| mt (cw T k) 254)
      have HN1 := hid (show nfl T (k + 1) = nfl T k + pc (fl (cw T k)) from rfl)
      have HN2 := hid (show nus T (k + 1) = nus T k + pc (fl (cw T k) ||| mt (cw T k) 254) from rfl)
      have HX := hid hX
      clear hX hc
      generalize nfl T k = nf at *
      generalize nus T k = nu at *
      generalize pc (fl (cw T k)) = p1 at *
      generalize pc (fl (cw T k) ||| mt (cw T k) 254) = p2 at *
      generalize (fl (cw T k) ||| mt (cw T k) 254) = fo at *
      generalize mt (cw T k) 254 = md at *
      generalize fl (cw T k) = f at *
      generalize cw T k = cx at *
      go_wp2_with (first | (go_at_call 65; refine met (KC _) ?_) | (go_at_call 95; refine met (K63 _) ?_))
      go_at_call 96
      refine K64.mono ?_
      rintro _ w2 ⟨rfl, hX2⟩
      have HX2 := hid (HX.out.trans hX2)
      clear hX2 K64 HX cC
      go_wp2_with (first | (go_at_call 98; refine met (K66 _) ?_) | (go_at_call 99; refine met (K67 _) ?_))
      go_at_call 97
      refine met (K65a _) ?_
      go_wp2_with (first | (go_at_call 98; refine met (K66 _) ?_) | (go_at_call 99; refine met (K67 _) ?_))
      go_at_call 97
      refine met (K65b _) ?_
      go_wp2_with fail
      go_roundw
      case rel => exact ⟨k + 1, by go_num, by omega, by rw [HN1.out]; simp, by rw [HN2.out]; simp, HX2.out⟩
      case measure => simp [intOf]; omega
    · obtain rfl : k = G := by omega
      obtain ⟨_, _, heq, hc⟩ := (HT.out.keep0 hX).at_ hne
      cases heq
      have c1 := hc 1 (by rw [HL.out]; omega)
      have c2 := hc 2 (by rw [HL.out]; omega)
      have K1w := HK1.out wr hX
      have huse := HS.out.use
      rw [HS.out.cnt] at c1
      have hle : nus T k ≤ 7 * k := by omega
      obtain ⟨lf, hlf⟩ : ∃ lf, T.getD 2 0 = lf := ⟨_, rfl⟩
      rw [hlf] at c2 huse
      have hlfi : 7 * (k : Int) - (nus T k : Int) = (lf : Int) := by omega
      have KAw := HKA.out wr hX
      have HX := hid hX
      clear hX hc hlf
      generalize nfl T k = nf at *
      generalize nus T k = nu at *
      go_wp2_with (first | (go_at_call 94; refine met K1w ?_))
      refine KAw.mono ?_
      clear KAw
      rintro _ w2 ⟨rfl, hX2⟩
      have HX2 := hid (HX.out.trans hX2)
      clear hX2
      go_wp2
      go_ret
      exact ⟨rfl, HX2.out⟩
theorem len_true (a : Option Addr) (c : Nat) (T : List Nat) (G : Nat) (hS : Sd T G) (w : World) (hT : Wd w a T) :
    Calls Tryd.prog 50 #[.slice a (3 + 17 * G) c] w (SayPost w (.tuple #[.int .i64 (T.getD 1 0 : Nat), .int .i64 0])) := by
  have hlen := hS.shp.len
  have hG := hS.shp.gp.le
  have hn := nfl_le T G
  rw [← hS.cnt] at hn
  have K := sound_true a c T G hS w hT
  have hne : T ≠ [] := by rintro rfl; simp at hlen; omega
  obtain ⟨b, o, rfl, hcc⟩ := hT.at_ hne
  have HT := hid hT
  have HL := hid hlen
  clear hcc hT hlen hS
  go_enter Tryd.func50, Tryd.ntmps50
  go_wp2_with fail
  refine K.mono ?_
  clear K
  rintro _ w1 ⟨rfl, hX⟩
  obtain ⟨_, _, heq, hc⟩ := (HT.out.keep0 hX).at_ hne
  cases heq
  have c1 := hc 1 (by rw [HL.out]; omega)
  have HX := hid hX
  clear hc hX
  generalize T.getD 1 0 = en at *
  go_wp2
  go_ret2
  exact ⟨rfl, HX.out⟩
end Go.Proofs.YtkfagfdefkaenaaDoor
