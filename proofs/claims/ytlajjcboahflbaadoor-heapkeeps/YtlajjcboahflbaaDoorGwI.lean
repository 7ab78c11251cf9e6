/-
  A heap on which a script runs, and what was given: what holds between two calls; no statement is proved here.
-/
import Derived.Test.YtlajjcboahflbaaDoorGiven
namespace Go.Proofs.YtlajjcboahflbaaDoor
open Go.RowKit

theorem step_append_own {P : Program} {ops : Array Oper} {o : Oper} {a : Act} {w : World} {R : Value → World → Prop} {K : Act → World → Prop} {Q : Exit → Act → World → Prop} {E : Prop} (hgd : o.guard = none) (d s : Operand) (t : TypeId)
    (ho : o.op = .call { callee := .builtin .append, args := #[d, s], argTypes := #[t, t] }) (vd vs : Value) (hd : a.eval d = vd) (hs : a.eval s = vs)
    (hr : ∃ v' w', (Builtin.append_ #[t, t] o.type #[vd, vs]).run P w = .ok v' w' ∧ R v' w') (h : ∀ v' w', R v' w' → K (a.put o.dst v') w') :
    if Region.wanted o (yielded ops a.tmps) = true then Oper.wp P o a w K Q else E := by
  obtain ⟨v', w', hr, hR⟩ := hr
  rw [if_pos (by simp [Region.wanted, hgd])]
  unfold Oper.wp execOp
  simp only [ho, resolve, invoke, builtin, Sem.run_bind, Sem.run_pure, Result.andThen_ok, List.map_toArray, List.map_cons, List.map_nil, hd, hs, hr]
  exact h _ _ hR

structure GwI (w wr : World) (p : Nat) (cs : Array Value) (H : Hs) (v : Value) (L : List Int) (F : Nat → Prop) : Prop where
  hw : Hw wr p 0 97 cs F H
  fn : ∀ b, F b → w.heap.size ≤ b ∧ b < wr.heap.size
  gv : Gv wr v L
  gok : Gok L
  vn : ∀ g, v.ownBlock = some g → w.heap.size ≤ g ∧ g ≠ p ∧ ¬ F g
  pn : w.heap.size ≤ p
  ext : Ext [] w wr

theorem Hw.there {w : World} {p ox : Nat} {T : TypeId} {cs : Array Value} {F : Nat → Prop} {H : Hs} (h : Hw w p ox T cs F H) : Hw w p ox T cs (fun k => F k ∧ k < w.heap.size) H := by
  obtain ⟨ag, og, V, sb, O, h⟩ := h
  exact ⟨ag, og, V, sb, O, h.there⟩

theorem GwI.ext0 {w wr w2 : World} {p : Nat} {cs : Array Value} {H : Hs} {v : Value} {L : List Int} {F : Nat → Prop} (h : GwI w wr p cs H v L F) (x : Ext [] wr w2) : GwI w w2 p cs H v L F :=
  ⟨h.hw.keep0 x, fun b hb => ⟨(h.fn b hb).1, by have := (h.fn b hb).2; have := x.size; omega⟩, h.gv.keep0 x, h.gok, h.vn, h.pn, h.ext.trans x⟩

/-- Behind a call that turned the heap alone. -/
theorem GwI.op {w wr w2 : World} {p : Nat} {cs : Array Value} {H H' : Hs} {v : Value} {L : List Int} {F : Nat → Prop} {r : Value} {e : Ending} (h : GwI w wr p cs H v L F) (hp : HPost wr p 0 97 cs F H' r e w2) : ∃ F', GwI w w2 p cs H' v L F' := by
  obtain ⟨_, F', hw, hx, hF⟩ := hp
  have hz := hx.size
  refine ⟨fun k => F' k ∧ k < w2.heap.size, hw.there, fun b hb => ⟨?_, hb.2⟩, h.gv.keepF hx (fun g hg q => ?_), h.gok, fun g hg => ?_, h.pn, ?_⟩
  · rcases hF b hb.1 with q | q
    · exact (h.fn b q).1
    · have := h.ext.size; omega
  · have := h.vn g hg
    rcases q with q | q
    · exact this.2.1 q
    · exact this.2.2 q
  · have h1 := h.vn g hg
    refine ⟨h1.1, h1.2.1, fun q => ?_⟩
    rcases hF g q.1 with r | r
    · exact h1.2.2 r
    · have := h.gv.lt g hg; omega
  · refine Fx.on h.ext hx (fun k hk => ?_)
    rcases hk with rfl | hk
    · exact h.pn
    · exact (h.fn k hk).1

/-- An address more is given. -/
theorem GwI.push {w wr : World} {p : Nat} {cs : Array Value} {H : Hs} {v : Value} {L : List Int} {F : Nat → Prop} (h : GwI w wr p cs H v L F) (ad : Addr) (x : Int) (hx : wr.cell? ad = some (.int .i64 x)) (hl : L.length ≤ 2000000000000) (hok : 0 ≤ x ∧ x ≤ 262400) (ty : TypeId) :
    ∃ v' w', (Builtin.append_ #[24, 24] ty #[v, .slice (some ad) 1 1]).run Tryd.prog wr = .ok v' w' ∧ GwI w w' p cs H v' (L ++ [x]) F := by
  obtain ⟨v', w', hr, hg, hE, hn⟩ := h.gv.push ad x hx hl ty
  have hz := hE.size
  refine ⟨v', w', hr, ?_⟩
  have hfx : Fx (fun b => v.ownBlock = some b) wr w' := Fx.of_ext hE (by simp only [Option.mem_toList]; exact fun x hx => .inl hx)
  refine ⟨h.hw.keep hfx (fun q => (h.vn p q).2.1 rfl) (fun k hk q => (h.vn k q).2.2 hk), fun b hb => ⟨(h.fn b hb).1, by have := (h.fn b hb).2; omega⟩, hg, ?_, ?_, h.pn, ?_⟩
  · intro y hy
    rcases List.mem_append.1 hy with hy | hy
    · exact h.gok y hy
    · simp only [List.mem_singleton] at hy
      subst hy; exact hok
  · intro g hg
    rcases hn with q | q
    · rw [q] at hg; exact h.vn g hg
    · rw [q] at hg
      cases hg
      have := h.ext.size
      have := h.hw.lt
      exact ⟨by omega, by omega, fun r => by have := (h.fn _ r).2; omega⟩
  · exact Fx.on h.ext hfx (fun k hk => (h.vn k hk).1)

/-- A slice with the elements vs, each of one cell, wherever it lies. -/
def Vs (w : World) (a : Option Addr) (vs : List Value) : Prop :=
  vs = [] ∨ ∃ b o, a = some ⟨b, o, none⟩ ∧ ∀ j, j < vs.length → w.cell? ⟨b, o + j, none⟩ = vs[j]?

theorem own_vs {w : World} {base : Nat} {e : TypeId} {a : Option Addr} {m n c : Nat} {xs : List Value} (h : w.ownsRow base e 1 (.slice a m c) n xs) : Vs w a xs := by
  have hl := h.1
  rcases h.2 with ⟨h1, h2⟩ | ⟨g, cap, cur, h0, h1, h2, h3, h4, h5, h6⟩
  · left
    exact List.length_eq_zero_iff.1 (by omega)
  · right
    cases h0
    refine ⟨g, 0, rfl, fun j hj => ?_⟩
    rw [Nat.zero_add, cell_of_row w g j _ _ _ h2]
    have : (cur.toList.take (m * 1))[j]? = cur[j]? := by
      rw [List.getElem?_take, if_pos (by omega)]; simp
    rw [← this, h6]
theorem run_append_none {P : Program} (w : World) (base : Nat) (t ty e : TypeId) (i : TypeInfo) (size : Nat) (ht : P.underlying t = some (.slice e)) (hi : P.info? e = some i)
    (v : Value) (n : Nat) (xs : List Value) (hown : w.ownsRow base e size v n xs) (c : Nat) : (Builtin.append_ #[t, t] ty #[v, .slice none 0 c]).run P w = .ok v w := by
  rcases hown.2 with ⟨rfl, rfl⟩ | ⟨g, cap, cur, rfl, _, _, hnc, _⟩
  · simp [Builtin.append_, run_underlying ht, sizeOf, typeInfo, hi, Builtin.lenOf, Builtin.firstCells]
  · simp [Builtin.append_, run_underlying ht, sizeOf, typeInfo, hi, Builtin.lenOf, Builtin.firstCells, hnc, storeCells]
theorem app_own (w0 w : World) (hE : Ext [] w0 w) (t ty e : TypeId) (z : Value) (B : Nat) (ht : Tryd.prog.underlying t = some (.slice e)) (hi : (Tryd.prog.info? e).map (fun i => (i.zero, i.size, i.bytes)) = some (some z, 1, B)) (hzs : z.cells.size = 1) (hB : 1 ≤ B)
    (v : Value) (n : Nat) (xs : List Value) (hown : w.ownsRow w0.heap.size e 1 v n xs) (a : Option Addr) (m c : Nat) (ys : List Value) (hm : ys.length = m) (hys : Vs w a ys) (h1 : ∀ u ∈ ys, u.oneCell' = true) (hb : (n + m) * B ≤ 140737488355328) :
    ∃ v' w', (Builtin.append_ #[t, t] ty #[v, .slice a m c]).run Tryd.prog w = .ok v' w' ∧ w'.ownsRow w0.heap.size e 1 v' (n + m) (xs ++ ys) ∧ Ext [] w0 w' ∧ Ext v.ownBlock.toList w w' := by
  obtain ⟨i, hi0, hz0, hz1, hz2⟩ := info_parts hi
  have hnm : n + m ≤ 140737488355328 := Nat.le_trans (Nat.le_mul_of_pos_right _ (by omega)) hb
  have hlt := own_lt hown
  have fin : ∀ w', w.grownBy w' v.ownBlock → Ext [] w0 w' ∧ Ext v.ownBlock.toList w w' := fun w' hg => by
    have h2 := Ext.grown (S := v.ownBlock.toList) hg (by intro k hk; simp [hk])
    exact ⟨hE.on h2 (fun x hx => (hlt x (by simpa using hx)).1), h2⟩
  rcases hys with rfl | ⟨b, o, rfl, hc⟩
  · simp only [List.length_nil] at hm
    subst hm
    cases a with
    | none =>
      refine ⟨v, w, run_append_none w w0.heap.size t ty e i 1 ht hi0 v n xs hown c, by simpa using hown, hE, Ext.refl _ _⟩
    | some ad =>
      obtain ⟨v', w', hr, ho, hg, _⟩ := run_append_own (P := Tryd.prog) w w0.heap.size t ty e i z 1 B ht hi0 hz0 hz1 hz2 hzs (by decide) v n xs hown ad 0 c [] (by simp) (by simp) (by simp) (by unfold maxLen; omega) hb hE.size
      exact ⟨v', w', hr, ho, fin w' hg⟩
  · obtain ⟨v', w', hr, ho, hg, _⟩ := run_append_own (P := Tryd.prog) w w0.heap.size t ty e i z 1 B ht hi0 hz0 hz1 hz2 hzs (by decide) v n xs hown ⟨b, o, none⟩ m c ys (by omega) (fun j u hu => by
        have hj : j < ys.length := (List.getElem?_eq_some_iff.1 hu).1
        rw [Addr.add_lit, hc j hj, hu]) h1 (by unfold maxLen; omega) hb hE.size
    exact ⟨v', w', hr, ho, fin w' hg⟩

/-- A copy of bytes. -/
def CpPost (u : World) (ys : List Int) (v' : Value) (w' : World) : Prop := ∃ a c, v' = .slice a ys.length c ∧ Sl w' a ys ∧ (∀ ad, a = some ad → u.heap.size ≤ ad.block) ∧ Ext [] u w'
theorem copy_bytes (u : World) (sa : Option Addr) (sc : Nat) (ys : List Int) (hs : Sl u sa ys) (hl : ys.length ≤ 140737488351232) (u2 : World) (hE : Ext [] (u.alloc (.cells #[] 5)) u2) (ty : TypeId) :
    ∃ v' w', (Builtin.append_ #[40, 40] ty #[.slice (some ⟨u.heap.size, 0, none⟩) 0 0, .slice sa ys.length sc]).run Tryd.prog u2 = .ok v' w' ∧ CpPost u ys v' w' := by
  have hown : u2.ownsRow u.heap.size 5 1 (.slice (some ⟨u.heap.size, 0, none⟩) 0 0) 0 [] := own_keep0 (World.ownsRow_made u #[] 0 (Nat.le_refl _) (Nat.zero_le _) rfl) hE
  have hE0 : Ext [] u u2 := (Ext.alloc [] _ _).trans hE
  have hs2 := hs.keep hE0 (by simp)
  have hvs : Vs u2 sa (ys.map (Value.int .u8)) := by
    rcases hs2.at_ with rfl | ⟨b, o, rfl, hc⟩
    · exact .inl rfl
    · refine .inr ⟨b, o, rfl, fun j hj => ?_⟩
      simp only [List.length_map] at hj
      rw [hc j hj]; simp [hj]
  obtain ⟨v', w', hr, ho, hx, _⟩ := app_own u u2 hE0 40 ty 5 _ 1 Tryd.underlying40 info5 rfl (by decide) _ 0 [] hown sa ys.length sc (ys.map (Value.int .u8)) (by simp) hvs (fun u hu => by obtain ⟨y, _, rfl⟩ := List.mem_map.1 hu; rfl) (by omega)
  rw [Nat.zero_add, List.nil_append] at ho
  obtain ⟨a, c, rfl, hc⟩ := own_slice ho
  refine ⟨_, w', hr, a, c, rfl, ⟨?_, hs.ok⟩, fun ad had => (own_lt ho ad.block (by rw [had]; rfl)).1, hx⟩
  rcases own_vs ho with h0 | ⟨b, o, rfl, hcs⟩
  · left; simpa using h0
  · right
    refine ⟨b, o, rfl, fun j hj => ?_⟩
    have := hcs j (by simpa using hj)
    rw [this]; simp [hj]

end Go.Proofs.YtlajjcboahflbaaDoor
