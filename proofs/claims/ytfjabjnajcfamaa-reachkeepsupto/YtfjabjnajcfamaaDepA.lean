/-
  What a search depth first keeps in memory from step to step; no statement is proved here.
-/
import Derived.Test.YtfjabjnajcfamaaEnter
import Derived.WalkSmall
namespace Go.Proofs.Ytfjabjnajcfamaa
open Go.RowKit

theorem Sm.keep0 {w0 : World} {a : Option Addr} {n c : Nat} {W W' : World} {C : List Bool} {O : List Nat} {P : List (List Nat)} (h : Sm w0 a n c W C O P) (x : Ext [] W W') : Sm w0 a n c W' C O P := by
  refine ⟨h.ext.trans x, Nat.le_trans h.size x.size, x.keep h.net (by simp), x.keep h.cb (by simp), x.keep h.cr (by simp), h.cl, ?_, ?_⟩
  · obtain ⟨v, h1, h2⟩ := h.ob
    exact ⟨v, x.keep h1 (by simp), own_keep0 h2 x⟩
  · obtain ⟨v, vs, h1, h2, h3⟩ := h.pb
    exact ⟨v, vs, x.keep h1 (by simp), own_keep0 h2 x, h3⟩

theorem St.last {w0 : World} {us : List Value} {P : List (List Nat)} {l : List Nat} (h : St w0 us (P ++ [l])) : ∃ vs fa fc, us = vs ++ [.slice fa l.length fc] ∧ St w0 vs P ∧ Is w0 fa (ci l) ∧ l.length ≤ fc := by
  obtain ⟨h1, h2⟩ := h
  simp only [List.length_append, List.length_singleton] at h1 h2
  obtain ⟨fa, fc, q1, q2, q3⟩ := h2 P.length (by omega)
  have hg : (P ++ [l]).getD P.length [] = l := by simp [List.getD]
  rw [hg] at q1 q2 q3
  have hus : us = us.take P.length ++ [.slice fa l.length fc] := by
    have h5 : us = us.take (P.length + 1) := by rw [List.take_of_length_le (by omega)]
    rw [List.take_add_one, q1] at h5
    exact h5
  refine ⟨us.take P.length, fa, fc, hus, ⟨by simp; omega, fun i hi => ?_⟩, q2, q3⟩
  obtain ⟨ga, gc, p1, p2⟩ := h2 i (by omega)
  have hgi : (P ++ [l]).getD i [] = P.getD i [] := by simp [List.getD, List.getElem?_append_left hi]
  rw [hgi] at p1 p2
  exact ⟨ga, gc, by rw [List.getElem?_take, if_pos hi]; exact p1, p2⟩

theorem Sm.last {w0 : World} {a : Option Addr} {n c : Nat} {W : World} {C : List Bool} {O : List Nat} {P : List (List Nat)} {l : List Nat} (h : Sm w0 a n c W C O (P ++ [l])) :
    ∃ g cap vs fa fc, Boxed W (w0.heap.size + 4) 22 (.slice (some ⟨g, 0, none⟩) (P.length + 1) cap) ∧ W.ownsRow (w0.heap.size + 5) 23 1 (.slice (some ⟨g, 0, none⟩) (P.length + 1) cap) (P.length + 1) (vs ++ [.slice fa l.length fc]) ∧ St w0 vs P ∧ Is w0 fa (ci l) ∧ l.length ≤ fc ∧ P.length + 1 ≤ cap := by
  obtain ⟨v, us, h1, h2, h3⟩ := h.pb
  obtain ⟨vs, fa, fc, rfl, q2, q3, q4⟩ := h3.last
  rw [List.length_append, List.length_singleton] at h2
  obtain ⟨g, cap, rfl, _⟩ := h2.form (by omega)
  obtain ⟨a', c', e, hc⟩ := own_slice h2
  cases e
  exact ⟨g, cap, vs, fa, fc, h1, h2, q2, q3, q4, hc⟩

/-- The last open list is another. -/
theorem Sm.recut {w0 : World} {a : Option Addr} {n c : Nat} {W : World} {C : List Bool} {O : List Nat} {P : List (List Nat)} {l l' : List Nat} (h : Sm w0 a n c W C O (P ++ [l])) {g cap : Nat} {vs : List Value} {fa fa' : Option Addr} {fc fc' : Nat}
    (hb : Boxed W (w0.heap.size + 4) 22 (.slice (some ⟨g, 0, none⟩) (P.length + 1) cap)) (ho : W.ownsRow (w0.heap.size + 5) 23 1 (.slice (some ⟨g, 0, none⟩) (P.length + 1) cap) (P.length + 1) (vs ++ [.slice fa l.length fc])) (hst : St w0 vs P) (h1 : Is w0 fa' (ci l')) (h2 : l'.length ≤ fc') :
    Sm w0 a n c (W.setCell ⟨g, P.length, none⟩ (.slice fa' l'.length fc')) C O (P ++ [l']) := by
  have hlt := own_lt ho g rfl
  have hE := Ext.setCell [g] W ⟨g, P.length, none⟩ (.slice fa' l'.length fc') (by simp)
  refine ⟨h.ext.on hE (by simp; omega), by simpa using h.size, hE.keep h.net (by simp; omega), hE.keep h.cb (by simp; omega), hE.keep h.cr (by simp; omega), h.cl, ?_, ?_⟩
  · obtain ⟨v, q1, q2⟩ := h.ob
    exact ⟨v, hE.keep q1 (by simp; omega), own_keep q2 hE (by simpa [Value.ownBlock] using own_apart q2 ho (by decide))⟩
  · refine ⟨_, vs ++ [.slice fa' l'.length fc'], hE.keep hb (by simp; omega), ?_, hst.push h1 h2⟩
    have := (ho.stored P.length (.slice fa' l'.length fc')).1
    rw [← hst.1, List.set_append_right _ _ (Nat.le_refl _)] at this
    simpa [hst.1] using this

/-- The last open list is gone. -/
theorem Sm.pop {w0 : World} {a : Option Addr} {n c : Nat} {W : World} {C : List Bool} {O : List Nat} {P : List (List Nat)} {l : List Nat} (h : Sm w0 a n c W C O (P ++ [l])) {g cap : Nat} {vs : List Value} {u : Value}
    (hb : Boxed W (w0.heap.size + 4) 22 (.slice (some ⟨g, 0, none⟩) (P.length + 1) cap)) (ho : W.ownsRow (w0.heap.size + 5) 23 1 (.slice (some ⟨g, 0, none⟩) (P.length + 1) cap) (P.length + 1) (vs ++ [u])) (hst : St w0 vs P) :
    Sm w0 a n c (W.setCell ⟨w0.heap.size + 4, 0, none⟩ (.slice (some ⟨g, 0, none⟩) P.length cap)) C O P := by
  have hlt := own_lt ho g rfl
  have hE := Ext.setCell [w0.heap.size + 4] W ⟨w0.heap.size + 4, 0, none⟩ (.slice (some ⟨g, 0, none⟩) P.length cap) (by simp)
  refine ⟨h.ext.on hE (by simp), by simpa using h.size, hE.keep h.net (by simp), hE.keep h.cb (by simp), hE.keep h.cr (by simp), h.cl, ?_, ?_⟩
  · obtain ⟨v, q1, q2⟩ := h.ob
    exact ⟨v, hE.keep q1 (by simp), own_keep q2 hE (by simp; intro q; have := own_lt q2 _ q; omega)⟩
  · refine ⟨_, vs, hb.set _, ?_, hst⟩
    have := ownsRow_pop (by have := hst.1; omega) ho
    exact own_keep this hE (by simp [Value.ownBlock]; omega)

/-- No list is too long. -/
def Slim (N : List (List Nat)) : Prop := ∀ x, (nxt N x).length ≤ 8192

/-- What goes on of a search. -/
structure Pu (N : List (List Nat)) (R : List Nat) (wo : Int) (rest : List Nat) (C : List Bool) (O : List Nat) (P : List (List Nat)) : Prop where
  cnt : O.length + C.count false ≤ N.length
  pl : P.length ≤ O.length
  pn : ∀ l ∈ P, Nodes N l
  pw : ∀ l ∈ P, l.length ≤ 8192
  run : ∀ C' O', Dfs N C O (P.reverse ++ [rest]) C' O' → Dfs N (came0 N.length wo) [] [R] C' O'

theorem count_came {C : List Bool} {x : Nat} (h : C[x]? = some false) : (C.set x true).count false + 1 = C.count false := by
  have hx : x < C.length := (List.getElem?_eq_some_iff.1 h).1
  have hg : C[x] = false := (List.getElem?_eq_some_iff.1 h).2
  have hpos : 0 < C.count false := List.count_pos_iff.2 (hg ▸ List.getElem_mem hx)
  rw [List.count_set hx, hg]
  simp
  omega

/-- A node is entered out of the rest of the roots. -/
theorem Pu.root {N : List (List Nat)} {R : List Nat} {wo : Int} {rest : List Nat} {C : List Bool} {O : List Nat} {x : Nat} (hN : Net N) (hW : Slim N) (h : Pu N R wo (x :: rest) C O []) (hx : C[x]? = some false) : Pu N R wo rest (C.set x true) (O ++ [x]) [nxt N x] := by
  refine ⟨?_, by simp, ?_, ?_, fun C' O' k => h.run C' O' ?_⟩
  · have := h.cnt
    have := count_came hx
    simp
    omega
  · simpa using hN.nxt x
  · simpa using hW x
  · exact .enter hx k
theorem Pu.rootSkip {N : List (List Nat)} {R : List Nat} {wo : Int} {rest : List Nat} {C : List Bool} {O : List Nat} {x : Nat} (h : Pu N R wo (x :: rest) C O []) (hx : C[x]? = some true) : Pu N R wo rest C O [] :=
  ⟨h.cnt, h.pl, h.pn, h.pw, fun C' O' k => h.run C' O' (.skip hx k)⟩
theorem Pu.pop {N : List (List Nat)} {R : List Nat} {wo : Int} {rest : List Nat} {C : List Bool} {O : List Nat} {P : List (List Nat)} {l : List Nat} (h : Pu N R wo rest C O (P ++ [l])) (hl : ∀ x ∈ l, C[x]? = some true) : Pu N R wo rest C O P := by
  refine ⟨h.cnt, by have := h.pl; simp at this; omega, fun m hm => h.pn m (by simp [hm]), fun m hm => h.pw m (by simp [hm]), fun C' O' k => h.run C' O' ?_⟩
  rw [List.reverse_append, List.reverse_singleton, List.singleton_append, List.cons_append]
  have := Dfs.skips (m := []) hl (.pop k)
  simpa using this
theorem Pu.go {N : List (List Nat)} {R : List Nat} {wo : Int} {rest : List Nat} {C : List Bool} {O : List Nat} {P : List (List Nat)} {pre post : List Nat} {x : Nat} (hN : Net N) (hW : Slim N) (h : Pu N R wo rest C O (P ++ [pre ++ x :: post])) (hl : ∀ y ∈ pre, C[y]? = some true) (hx : C[x]? = some false) : Pu N R wo rest (C.set x true) (O ++ [x]) (P ++ [post] ++ [nxt N x]) := by
  refine ⟨?_, ?_, ?_, ?_, fun C' O' k => h.run C' O' ?_⟩
  · have := h.cnt
    have := count_came hx
    simp
    omega
  · have := h.pl
    simp at this ⊢
    omega
  · intro m hm
    simp only [List.mem_append, List.mem_singleton] at hm
    rcases hm with (hm | rfl) | rfl
    · exact h.pn m (by simp [hm])
    · exact fun y hy => h.pn (pre ++ x :: m) (by simp) y (by simp [hy])
    · exact hN.nxt x
  · intro m hm
    simp only [List.mem_append, List.mem_singleton] at hm
    rcases hm with (hm | rfl) | rfl
    · exact h.pw m (by simp [hm])
    · have := h.pw (pre ++ x :: m) (by simp)
      simp at this
      omega
    · exact hW x
  · rw [List.reverse_append, List.reverse_singleton, List.singleton_append, List.cons_append]
    refine Dfs.skips hl (.enter hx ?_)
    simpa using k

end Go.Proofs.Ytfjabjnajcfamaa
