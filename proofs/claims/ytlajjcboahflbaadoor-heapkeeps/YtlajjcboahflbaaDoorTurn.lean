/-
  A heap in memory whose slots, spans and runs have turned; no statement is proved here.
-/
import Derived.Test.YtlajjcboahflbaaDoorWords
namespace Go.Proofs.YtlajjcboahflbaaDoor
open Go.RowKit

theorem ty_ne {w : World} {a b : Nat} {cs cs' : Array Value} {t t' : TypeId} (ha : w.heap[a]? = some (.cells cs t (0, 0))) (hb : w.heap[b]? = some (.cells cs' t' (0, 0))) (h : t ≠ t') : a ≠ b := by
  rintro rfl
  have := ha.symm.trans hb
  simp only [Option.some.injEq, Obj.cells.injEq] at this
  exact h this.2.1

section
variable {w w' : World} {p ox : Nat} {T : TypeId} {cs : Array Value} {F : Nat → Prop} {H : Hs} {ag og : Nat} {V : Value} {sb : Nat → Nat × Nat} {O : List (Option Nat)}

theorem Hm.vown (h : Hm w p ox T cs F H ag og V sb O) {k : Nat} {cs' : Array Value} {t : TypeId} (hk : w.heap[k]? = some (.cells cs' t (0, 0))) (ht : t ≠ 38) : k ∉ V.ownBlock.toList := by
  intro hm
  rw [Option.mem_toList] at hm
  exact own_ne h.runs hk ht hm

theorem Hm.slotted (h : Hm w p ox T cs F H ag og V sb O) {k : Nat} {x : Spn} (hx : H.sp[k]? = some x) {S' : List Slot} (e : Ext [(sb x.st).1, (sb x.st).2] w w') (hs : Sp w' (sb x.st).1 (sb x.st).2 x.st x.n x.rm (us S') S') (ho : ({ x with S := S' } : Spn).Ok) :
    Hm w' p ox T cs F { H with sp := H.sp.set k { x with S := S' } } ag og V sb O := by
  have hxm := List.mem_of_getElem? hx
  have hX := h.spans x hxm
  have hps := ty_ne h.box.at_ hX.box h.ty.2.2.1
  have hpg := ty_ne h.box.at_ hX.row h.ty.2.2.2
  have has := ty_ne h.bytes hX.box (by decide)
  have hag := ty_ne h.bytes hX.row (by decide)
  have hos := ty_ne h.owners hX.box (by decide)
  have hog := ty_ne h.owners hX.row (by decide)
  have hvs := h.vown hX.box (by decide)
  have hvg := h.vown hX.row (by decide)
  have hrun := map_run_set (x' := { x with S := S' }) hx rfl rfl
  refine ⟨h.box.keep e (by simp [hps, hpg]), h.ty, h.ca, h.co, e.keep h.bytes (by simp [has, hag]), h.runs.keep e (by
      simp only [List.mem_cons, List.not_mem_nil, or_false]
      rintro b (rfl | rfl) hb
      · exact hvs (by rw [hb]; simp)
      · exact hvg (by rw [hb]; simp)), e.keep h.owners (by simp [hos, hog]), h.olen, fun i hi => ?_, fun y hy => ?_, ?_, h.fa, h.fo, h.fv, ?_, h.np, h.ok.set (x' := { x with S := S' }) hx rfl rfl ho rfl h.ok.bt⟩
  · rw [h.own i hi]; exact (spanAt_same hrun sb i).symm
  · obtain ⟨l, hl⟩ := List.getElem?_of_mem hy
    rw [List.getElem?_set] at hl
    split at hl
    · split at hl
      · cases hl; exact hs
      · cases hl
    · rename_i hkl
      have hym := List.mem_of_getElem? hl
      have hne : y.st ≠ x.st := fun q => hkl (by
        have hn1 := (h.ok.ok x hxm).n1
        have hn2 := (h.ok.ok _ hym).n1
        exact h.ok.same hx hl (i := x.st) ⟨Nat.le_refl _, by omega⟩ ⟨by omega, by omega⟩)
      have hY := h.spans _ hym
      obtain ⟨n1, n2⟩ := h.inj _ hym x hxm hne
      exact hY.keep e (by simp [n1, ty_ne hY.box hX.row (by decide)]) (by simp [n2, ty_ne hY.row hX.box (by decide)])
  · have key : ∀ y ∈ H.sp.set k { x with S := S' }, ∃ z ∈ H.sp, z.st = y.st := fun y hy => by
      rcases List.mem_or_eq_of_mem_set hy with q | rfl
      · exact ⟨y, q, rfl⟩
      · exact ⟨x, hxm, rfl⟩
    intro a ha b hb hab
    obtain ⟨a', ha', e1⟩ := key a ha
    obtain ⟨b', hb', e2⟩ := key b hb
    rw [← e1, ← e2]
    exact h.inj a' ha' b' hb' (by omega)
  · intro y hy
    rcases List.mem_or_eq_of_mem_set hy with q | rfl
    · exact h.fs y q
    · exact h.fs x hxm

/-- A span more. -/
def sbUp (sb : Nat → Nat × Nat) (st s g : Nat) : Nat → Nat × Nat := fun k => if k = st then (s, g) else sb k

theorem Hm.grown (h : Hm w p ox T cs F H ag og V sb O) {i n rm s g : Nat} {V' : Value} {S' : List Slot} (e : Ext (p :: og :: V.ownBlock.toList) w w') (hi : i < H.R.length) (hu : (rnAt H.R i).u = false) (h1 : 1 ≤ n) (hn : n ≤ (rnAt H.R i).n)
    (hR : Rs T ox cs w' p V' (takeL H.R i n)) (hON : OldNew w V V') (hO : w'.heap[og]? = some (.cells (ocells (ownL O (rnAt H.R i).s (some s) n)).toArray 85 (0, 0)))
    (hs : Sp w' s g (rnAt H.R i).s n rm (us S') S') (hsw : w.heap.size ≤ s) (hgw : w.heap.size ≤ g) (ho : (⟨(rnAt H.R i).s, n, rm, S'⟩ : Spn).Ok) :
    Hm w' p ox T cs (fun k => F k ∨ w.heap.size ≤ k) ⟨H.P, takeL H.R i n, insS H.sp (insK H.R i) ⟨(rnAt H.R i).s, n, rm, S'⟩, H.B⟩ ag og V' (sbUp sb (rnAt H.R i).s s g) (ownL O (rnAt H.R i).s (some s) n) := by
  have hv' := h.ok.ins hi hu h1 hn (x := ⟨(rnAt H.R i).s, n, rm, S'⟩) rfl rfl ho rfl h.ok.bt
  generalize hst : (rnAt H.R i).s = st at *
  have hap := ty_ne h.bytes h.box.at_ (Ne.symm h.ty.1)
  have hao := ty_ne h.bytes h.owners (by decide)
  have hav := h.vown h.bytes (by decide)
  have hold : ∀ y ∈ H.sp, y.st ≠ st := fun y hy q => by
    have m1 : y ∈ insS H.sp (insK H.R i) ⟨st, n, rm, S'⟩ := mem_insS.2 (.inr hy)
    have m2 : (⟨st, n, rm, S'⟩ : Spn) ∈ insS H.sp (insK H.R i) ⟨st, n, rm, S'⟩ := mem_insS.2 (.inl rfl)
    -- the run i is free, the span's run is used
    obtain ⟨j, hj, a1, a2, a3, a4⟩ := h.ok.run_at hy
    have := a4 i hi (by rw [hst, q])
    subst this
    rw [hu] at a1; cases a1
  have hup : ∀ y ∈ H.sp, sbUp sb st s g y.st = sb y.st := fun y hy => if_neg (hold y hy)
  have hun : sbUp sb st s g st = (s, g) := if_pos rfl
  have hlt : ∀ y ∈ H.sp, (sb y.st).1 < w.heap.size ∧ (sb y.st).2 < w.heap.size := fun y hy => ⟨lt_of_heap (h.spans y hy).box, lt_of_heap (h.spans y hy).row⟩
  refine ⟨hR.box, h.ty, h.ca, by rw [ownL_len]; exact h.co, e.keep h.bytes (by simp [hap, hao]; simpa using hav), hR.row, hO, by rw [ownL_len]; exact h.olen, fun l hl => ?_, fun y hy => ?_, ?_, .inl h.fa, .inl h.fo, fun b hb => ?_, ?_, fun q => ?_, hv'⟩
  · rw [ownL_get _ _ _ _ _ (by rw [h.olen]; exact hl)]
    by_cases hc : st ≤ l ∧ l < st + n
    · rw [if_pos hc, hv'.spanAt (x := ⟨st, n, rm, S'⟩) (mem_insS.2 (.inl rfl)) hc.1 hc.2]
      simp [hun]
    · rw [if_neg hc, h.own l hl]
      cases hq : spanAt H.sp l with
      | none =>
        have : spanAt (insS H.sp (insK H.R i) ⟨st, n, rm, S'⟩) l = none := by
          unfold spanAt
          rw [List.find?_eq_none]
          intro y hy
          rcases mem_insS.1 hy with rfl | hy
          · simp; omega
          · have := List.find?_eq_none.1 hq y hy
            exact this
        rw [this]; rfl
      | some y =>
        obtain ⟨hy, y1, y2⟩ := spanAt_some hq
        rw [hv'.spanAt (mem_insS.2 (.inr hy)) y1 y2]
        simp [hup y hy]
  · rcases mem_insS.1 hy with rfl | hy
    · simp only [hun]; exact hs
    · rw [hup y hy]
      have hY := h.spans y hy
      exact hY.keep e (by
        simp only [List.mem_cons, not_or]
        exact ⟨Ne.symm (ty_ne h.box.at_ hY.box h.ty.2.2.1), Ne.symm (ty_ne h.owners hY.box (by decide)), h.vown hY.box (by decide)⟩) (by
        simp only [List.mem_cons, not_or]
        exact ⟨Ne.symm (ty_ne h.box.at_ hY.row h.ty.2.2.2), Ne.symm (ty_ne h.owners hY.row (by decide)), h.vown hY.row (by decide)⟩)
  · intro a ha b hb hab
    rcases mem_insS.1 ha with rfl | ha
    · rcases mem_insS.1 hb with rfl | hb
      · exact absurd rfl hab
      · rw [hup b hb, hun]
        have := hlt b hb
        exact ⟨by simp only; omega, by simp only; omega⟩
    · rcases mem_insS.1 hb with rfl | hb
      · rw [hup a ha, hun]
        have := hlt a ha
        exact ⟨by simp only; omega, by simp only; omega⟩
      · rw [hup a ha, hup b hb]; exact h.inj a ha b hb hab
  · rcases hON with q | q
    · rw [q] at hb; exact .inl (h.fv b hb)
    · exact .inr (q b hb)
  · intro y hy
    rcases mem_insS.1 hy with rfl | hy
    · simp only [hun]; exact ⟨.inr hsw, .inr hgw⟩
    · rw [hup y hy]; exact ⟨.inl (h.fs y hy).1, .inl (h.fs y hy).2⟩
  · rcases q with q | q
    · exact h.np q
    · have := h.pt; omega

/-- Runs in another row. -/
theorem Hm.rerun (h : Hm w p ox T cs F H ag og V sb O) {V' : Value} (e : Ext (p :: V.ownBlock.toList) w w') (hR : Rs T ox cs w' p V' H.R) (hON : OldNew w V V') :
    Hm w' p ox T cs (fun k => F k ∨ w.heap.size ≤ k) H ag og V' sb O := by
  refine ⟨hR.box, h.ty, h.ca, h.co, e.keep h.bytes (by
      simp only [List.mem_cons, not_or]
      exact ⟨ty_ne h.bytes h.box.at_ (Ne.symm h.ty.1), h.vown h.bytes (by decide)⟩), hR.row, e.keep h.owners (by
      simp only [List.mem_cons, not_or]
      exact ⟨ty_ne h.owners h.box.at_ (Ne.symm h.ty.2.1), h.vown h.owners (by decide)⟩), h.olen, h.own, fun y hy => ?_, h.inj, .inl h.fa, .inl h.fo, fun b hb => ?_, fun y hy => ⟨.inl (h.fs y hy).1, .inl (h.fs y hy).2⟩, fun q => ?_, h.ok⟩
  · have hY := h.spans y hy
    exact hY.keep e (by
        simp only [List.mem_cons, not_or]
        exact ⟨Ne.symm (ty_ne h.box.at_ hY.box h.ty.2.2.1), h.vown hY.box (by decide)⟩) (by
        simp only [List.mem_cons, not_or]
        exact ⟨Ne.symm (ty_ne h.box.at_ hY.row h.ty.2.2.2), h.vown hY.row (by decide)⟩)
  · rcases hON with q | q
    · rw [q] at hb; exact .inl (h.fv b hb)
    · exact .inr (q b hb)
  · rcases q with q | q
    · exact h.np q
    · have := h.pt; omega

/-- A span less. -/
theorem Hm.shed (h : Hm w p ox T cs F H ag og V sb O) {k : Nat} {x : Spn} (hx : H.sp[k]? = some x) {V' : Value} (e : Ext ((sb x.st).1 :: (sb x.st).2 :: p :: og :: V.ownBlock.toList) w w')
    (hR : Rs T ox cs w' p V' (relL H.R (runK H.R x.st))) (hON : OldNew w V V') (hO : w'.heap[og]? = some (.cells (ocells (ownL O x.st none x.n)).toArray 85 (0, 0))) :
    Hm w' p ox T cs (fun k => F k ∨ w.heap.size ≤ k) ⟨H.P, relL H.R (runK H.R x.st), H.sp.eraseIdx k, H.B⟩ ag og V' sb (ownL O x.st none x.n) := by
  have hv' := h.ok.del hx
  have hxm := List.mem_of_getElem? hx
  have hX := h.spans x hxm
  have hmem := fun y => mem_del h.ok hx (y := y)
  refine ⟨hR.box, h.ty, h.ca, by rw [ownL_len]; exact h.co, e.keep h.bytes (by
      simp only [List.mem_cons, not_or]
      exact ⟨ty_ne h.bytes hX.box (by decide), ty_ne h.bytes hX.row (by decide), ty_ne h.bytes h.box.at_ (Ne.symm h.ty.1), ty_ne h.bytes h.owners (by decide), h.vown h.bytes (by decide)⟩), hR.row, hO, by rw [ownL_len]; exact h.olen, fun l hl => ?_, fun y hy => ?_, ?_, .inl h.fa, .inl h.fo, fun b hb => ?_, ?_, fun q => ?_, hv'⟩
  · rw [ownL_get _ _ _ _ _ (by rw [h.olen]; exact hl)]
    by_cases hc : x.st ≤ l ∧ l < x.st + x.n
    · rw [if_pos hc]
      have : spanAt (H.sp.eraseIdx k) l = none := by
        unfold spanAt
        rw [List.find?_eq_none]
        intro y hy
        obtain ⟨hym, hne⟩ := (hmem y).1 hy
        simp
        intro h1
        rcases Nat.lt_or_ge l (y.st + y.n) with q | q
        · obtain ⟨b, hb⟩ := List.getElem?_of_mem hym
          have := h.ok.same hx hb hc ⟨h1, q⟩
          subst this
          rw [hx] at hb; cases hb
          exact absurd rfl hne
        · exact q
      rw [this]; rfl
    · rw [if_neg hc, h.own l hl]
      cases hq : spanAt H.sp l with
      | none =>
        have : spanAt (H.sp.eraseIdx k) l = none := by
          unfold spanAt
          rw [List.find?_eq_none]
          intro y hy
          exact List.find?_eq_none.1 hq y ((hmem y).1 hy).1
        rw [this]
      | some y =>
        obtain ⟨hy, y1, y2⟩ := spanAt_some hq
        rw [hv'.spanAt ((hmem y).2 ⟨hy, fun q => hc (by
          obtain ⟨b, hb⟩ := List.getElem?_of_mem hy
          have hn1 := (h.ok.ok x hxm).n1
          have := h.ok.same hx hb (i := x.st) ⟨Nat.le_refl _, by omega⟩ ⟨by omega, by omega⟩
          subst this
          rw [hx] at hb; cases hb
          exact ⟨y1, y2⟩)⟩) y1 y2]
  · obtain ⟨hym, hne⟩ := (hmem y).1 hy
    have hY := h.spans y hym
    obtain ⟨n1, n2⟩ := h.inj y hym x hxm hne
    exact hY.keep e (by
        simp only [List.mem_cons, not_or]
        exact ⟨n1, ty_ne hY.box hX.row (by decide), Ne.symm (ty_ne h.box.at_ hY.box h.ty.2.2.1), Ne.symm (ty_ne h.owners hY.box (by decide)), h.vown hY.box (by decide)⟩) (by
        simp only [List.mem_cons, not_or]
        exact ⟨ty_ne hY.row hX.box (by decide), n2, Ne.symm (ty_ne h.box.at_ hY.row h.ty.2.2.2), Ne.symm (ty_ne h.owners hY.row (by decide)), h.vown hY.row (by decide)⟩)
  · intro a ha b hb hab
    exact h.inj a ((hmem a).1 ha).1 b ((hmem b).1 hb).1 hab
  · rcases hON with q | q
    · rw [q] at hb; exact .inl (h.fv b hb)
    · exact .inr (q b hb)
  · intro y hy
    have := h.fs y ((hmem y).1 hy).1
    exact ⟨.inl this.1, .inl this.2⟩
  · rcases q with q | q
    · exact h.np q
    · have := h.pt; omega

end

end Go.Proofs.YtlajjcboahflbaaDoor
