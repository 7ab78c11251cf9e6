/-
  What the reference's search depth first has in memory; no statement is proved here.
-/
import Derived.Test.YtfjabjnajcfamaaRfC
import Derived.Test.YtfjabjnajcfamaaOrd
namespace Go.Proofs.Ytfjabjnajcfamaa
open Go.RowKit

/-- No block is shared. -/
def Ap (v u : Value) : Prop := ∀ g, v.ownBlock = some g → u.ownBlock ≠ some g
theorem Ap.symm {v u : Value} (h : Ap v u) : Ap u v := fun g hg hv => h g hv hg

/-- A number put behind a list of one's own; where the list lies then. -/
theorem put_at {W : World} {v : Value} {n base : Nat} {xs : List Value} (ho : W.ownsRow base 3 1 v n xs) (hb : base ≤ W.heap.size) (x : Int) (hl : n ≤ 100000) :
    ∃ g cap W2, (Builtin.append_ #[23, 23] 23 #[v, .slice (some ⟨W.heap.size, 0, none⟩) 1 1]).run Try.prog (W.alloc (.cells #[.int .i64 x] 3)) = .ok (.slice (some ⟨g, 0, none⟩) (n + 1) cap) W2 ∧ W2.ownsRow base 3 1 (.slice (some ⟨g, 0, none⟩) (n + 1) cap) (n + 1) (xs ++ [.int .i64 x]) ∧ Ext v.ownBlock.toList W W2 ∧ (v.ownBlock = some g ∨ W.heap.size < g) := by
  obtain ⟨i3, hi3, hz3, hs3, hy3⟩ := info_parts info3
  have hEa := Ext.alloc v.ownBlock.toList W (.cells #[.int .i64 x] 3)
  have hna : ∀ (j : Nat) (u : Value), [Value.int .i64 x][j]? = some u → (W.alloc (.cells #[.int .i64 x] 3)).cell? (Addr.add ⟨W.heap.size, 0, none⟩ j) = some u := fun j u hu => by
    rw [Addr.add_lit, cell_of_row _ _ _ _ _ _ (heap_alloc_new W _), Nat.zero_add, ← hu]; simp
  obtain ⟨g, cap, W2, hr, ho2, hg2, hat, _⟩ := run_append_lies (P := Try.prog) (W.alloc (.cells #[.int .i64 x] 3)) 23 23 base 3 i3 _ 1 8 Try.underlying23 hi3 hz3 hs3 hy3 rfl (by decide) v n _ (own_keep0 ho (Ext.alloc [] _ _)) ⟨W.heap.size, 0, none⟩ 1 1 [.int .i64 x] rfl hna (by simp [Value.oneCell']) (by omega) (by unfold maxLen; omega) (by omega) (by simp; omega) _ rfl
  refine ⟨g, cap, W2, hr, ho2, hEa.trans (ext_grown hg2), ?_⟩
  rcases hat with h | h
  · exact .inl h
  · right
    simp at h
    omega

structure Fm (w : World) (a : Option Addr) (n c : Nat) (W : World) (C : List Bool) (O : List Nat) (vO vN vX : Value) (ND NX : List Nat) : Prop where
  ext : Ext [] w W
  size : w.heap.size + 2 ≤ W.heap.size
  cl : C.length = n
  cr : W.heap[w.heap.size]? = some (.cells (C.map Value.bool).toArray 4 (0, 0))
  box : W.heap[w.heap.size + 1]? = some (.cells #[.slice a n c, .slice (some ⟨w.heap.size, 0, none⟩) n n, vO] 61 (0, 0))
  lo : W.ownsRow (w.heap.size + 2) 3 1 vO O.length ((ci O).map (Value.int .i64))
  nd : W.ownsRow (w.heap.size + 2) 3 1 vN ND.length ((ci ND).map (Value.int .i64))
  nx : W.ownsRow (w.heap.size + 2) 3 1 vX NX.length ((ci NX).map (Value.int .i64))
  a1 : Ap vO vN
  a2 : Ap vO vX
  a3 : Ap vN vX

theorem Fm.cell {w : World} {a : Option Addr} {n c : Nat} {W : World} {C : List Bool} {O : List Nat} {vO vN vX : Value} {ND NX : List Nat} (h : Fm w a n c W C O vO vN vX ND NX) {x : Nat} (hx : x < n) : W.cell? ⟨w.heap.size, x, none⟩ = some (.bool (C.getD x false)) := by
  have := h.cl
  rw [cell_of_row _ _ _ _ _ _ h.cr]
  simp [show x < C.length by omega]
theorem Fm.b0 {w : World} {a : Option Addr} {n c : Nat} {W : World} {C : List Bool} {O : List Nat} {vO vN vX : Value} {ND NX : List Nat} (h : Fm w a n c W C O vO vN vX ND NX) : W.cell? ⟨w.heap.size + 1, 0, none⟩ = some (.slice a n c) ∧ W.cell? ⟨w.heap.size + 1, 1, none⟩ = some (.slice (some ⟨w.heap.size, 0, none⟩) n n) ∧ W.cell? ⟨w.heap.size + 1, 2, none⟩ = some vO ∧ ∀ i, W.frozen? ⟨w.heap.size + 1, i, none⟩ = false :=
  ⟨by rw [cell_of_row _ _ _ _ _ _ h.box]; rfl, by rw [cell_of_row _ _ _ _ _ _ h.box]; rfl, by rw [cell_of_row _ _ _ _ _ _ h.box]; rfl, fun i => frozen_of_row _ _ _ _ _ h.box⟩

theorem own_far {W : World} {base : Nat} {v : Value} {n : Nat} {xs : List Value} (ho : W.ownsRow base 3 1 v n xs) {k : Nat} (hk : k < base) : v.ownBlock ≠ some k := fun e => by
  have := own_lt ho k e
  omega

theorem Fm.come {w : World} {a : Option Addr} {n c : Nat} {W : World} {C : List Bool} {O : List Nat} {vO vN vX : Value} {ND NX : List Nat} (h : Fm w a n c W C O vO vN vX ND NX) (x : Nat) : Fm w a n c (W.setCell ⟨w.heap.size, x, none⟩ (.bool true)) (C.set x true) O vO vN vX ND NX := by
  have hE := Ext.setCell [w.heap.size] W ⟨w.heap.size, x, none⟩ (.bool true) (by simp)
  refine ⟨h.ext.on hE (by simp), by simpa using h.size, by simp [h.cl], ?_, hE.keep h.box (by simp), own_keep h.lo hE (by simpa using own_far h.lo (by omega)), own_keep h.nd hE (by simpa using own_far h.nd (by omega)), own_keep h.nx hE (by simpa using own_far h.nx (by omega)), h.a1, h.a2, h.a3⟩
  rw [set_row h.cr, List.map_set, List.setIfInBounds_toArray]

/-- A node is put behind the order. -/
theorem Fm.list {w : World} {a : Option Addr} {n c : Nat} {W : World} {C : List Bool} {O : List Nat} {vO vN vX : Value} {ND NX : List Nat} (h : Fm w a n c W C O vO vN vX ND NX) (x : Nat) (hl : O.length ≤ 100000) :
    ∃ g cap W2, (Builtin.append_ #[23, 23] 23 #[vO, .slice (some ⟨W.heap.size, 0, none⟩) 1 1]).run Try.prog (W.alloc (.cells #[.int .i64 x] 3)) = .ok (.slice (some ⟨g, 0, none⟩) (O.length + 1) cap) W2 ∧
      W2.frozen? ⟨w.heap.size + 1, 2, none⟩ = false ∧ W2.cell? ⟨w.heap.size + 1, 2, none⟩ = some vO ∧ Fm w a n c (W2.setCell ⟨w.heap.size + 1, 2, none⟩ (.slice (some ⟨g, 0, none⟩) (O.length + 1) cap)) C (O ++ [x]) (.slice (some ⟨g, 0, none⟩) (O.length + 1) cap) vN vX ND NX := by
  have hsz := h.size
  obtain ⟨g, cap, W2, hr, ho, hE, hat⟩ := put_at h.lo h.size (x : Int) hl
  have hno : ∀ k, k < w.heap.size + 2 → k ∉ vO.ownBlock.toList := fun k hk q => own_far h.lo hk (by simpa using q)
  have hb := hE.keep h.box (hno _ (by omega))
  have hE2 := Ext.setCell [w.heap.size + 1] W2 ⟨w.heap.size + 1, 2, none⟩ (.slice (some ⟨g, 0, none⟩) (O.length + 1) cap) (by simp)
  have hgb : w.heap.size + 2 ≤ g := (own_lt ho g rfl).1
  have kn := own_keep h.nd hE (fun b hb => h.a1 b (by simpa using hb))
  have kx := own_keep h.nx hE (fun b hb => h.a2 b (by simpa using hb))
  have hap : ∀ {u : Value} {m : Nat} {ys : List Value}, W.ownsRow (w.heap.size + 2) 3 1 u m ys → Ap vO u → Ap (.slice (some ⟨g, 0, none⟩) (O.length + 1) cap) u := fun hu ha k hk => by
    simp [Value.ownBlock] at hk
    subst hk
    rcases hat with q | q
    · exact ha _ q
    · intro e
      have := own_lt hu _ e
      omega
  refine ⟨g, cap, W2, hr, frozen_of_row _ _ _ _ _ hb, by rw [cell_of_row _ _ _ _ _ _ hb]; rfl, (h.ext.on hE (fun k hk => by have := own_lt h.lo k (by simpa using hk); omega)).on hE2 (by simp), by have := hE.size; simp; omega, h.cl, hE2.keep (hE.keep h.cr (hno _ (by omega))) (by simp), ?_, ?_, own_keep kn hE2 (by simpa using own_far kn (by omega)), own_keep kx hE2 (by simpa using own_far kx (by omega)), hap h.nd h.a1, hap h.nx h.a2, h.a3⟩
  · rw [set_row hb]; rfl
  · have := own_keep ho hE2 (by simp [Value.ownBlock]; omega)
    simpa [ci] using this

/-- A number is put behind the stack of nodes. -/
theorem Fm.pushN {w : World} {a : Option Addr} {n c : Nat} {W : World} {C : List Bool} {O : List Nat} {vO vN vX : Value} {ND NX : List Nat} (h : Fm w a n c W C O vO vN vX ND NX) (x : Nat) (hl : ND.length ≤ 100000) :
    ∃ g cap W2, (Builtin.append_ #[23, 23] 23 #[vN, .slice (some ⟨W.heap.size, 0, none⟩) 1 1]).run Try.prog (W.alloc (.cells #[.int .i64 x] 3)) = .ok (.slice (some ⟨g, 0, none⟩) (ND.length + 1) cap) W2 ∧ Fm w a n c W2 C O vO (.slice (some ⟨g, 0, none⟩) (ND.length + 1) cap) vX (ND ++ [x]) NX := by
  have hsz := h.size
  obtain ⟨g, cap, W2, hr, ho, hE, hat⟩ := put_at h.nd h.size (x : Int) hl
  have hno : ∀ k, k < w.heap.size + 2 → k ∉ vN.ownBlock.toList := fun k hk q => own_far h.nd hk (by simpa using q)
  have hap : ∀ {u : Value} {m : Nat} {ys : List Value}, W.ownsRow (w.heap.size + 2) 3 1 u m ys → Ap vN u → Ap (.slice (some ⟨g, 0, none⟩) (ND.length + 1) cap) u := fun hu ha k hk => by
    simp [Value.ownBlock] at hk
    subst hk
    rcases hat with q | q
    · exact ha _ q
    · intro e
      have := own_lt hu _ e
      omega
  refine ⟨g, cap, W2, hr, h.ext.on hE (fun k hk => by have := own_lt h.nd k (by simpa using hk); omega), by have := hE.size; omega, h.cl, hE.keep h.cr (hno _ (by omega)), hE.keep h.box (hno _ (by omega)), own_keep h.lo hE (fun b hb => h.a1.symm b (by simpa using hb)), by simpa [ci] using ho, own_keep h.nx hE (fun b hb => h.a3 b (by simpa using hb)), (hap h.lo h.a1.symm).symm, h.a2, hap h.nx h.a3⟩
/-- A number is put behind the stack of places. -/
theorem Fm.pushX {w : World} {a : Option Addr} {n c : Nat} {W : World} {C : List Bool} {O : List Nat} {vO vN vX : Value} {ND NX : List Nat} (h : Fm w a n c W C O vO vN vX ND NX) (x : Nat) (hl : NX.length ≤ 100000) :
    ∃ g cap W2, (Builtin.append_ #[23, 23] 23 #[vX, .slice (some ⟨W.heap.size, 0, none⟩) 1 1]).run Try.prog (W.alloc (.cells #[.int .i64 x] 3)) = .ok (.slice (some ⟨g, 0, none⟩) (NX.length + 1) cap) W2 ∧ Fm w a n c W2 C O vO vN (.slice (some ⟨g, 0, none⟩) (NX.length + 1) cap) ND (NX ++ [x]) := by
  have hsz := h.size
  obtain ⟨g, cap, W2, hr, ho, hE, hat⟩ := put_at h.nx h.size (x : Int) hl
  have hno : ∀ k, k < w.heap.size + 2 → k ∉ vX.ownBlock.toList := fun k hk q => own_far h.nx hk (by simpa using q)
  have hap : ∀ {u : Value} {m : Nat} {ys : List Value}, W.ownsRow (w.heap.size + 2) 3 1 u m ys → Ap vX u → Ap (.slice (some ⟨g, 0, none⟩) (NX.length + 1) cap) u := fun hu ha k hk => by
    simp [Value.ownBlock] at hk
    subst hk
    rcases hat with q | q
    · exact ha _ q
    · intro e
      have := own_lt hu _ e
      omega
  refine ⟨g, cap, W2, hr, h.ext.on hE (fun k hk => by have := own_lt h.nx k (by simpa using hk); omega), by have := hE.size; omega, h.cl, hE.keep h.cr (hno _ (by omega)), hE.keep h.box (hno _ (by omega)), own_keep h.lo hE (fun b hb => h.a2.symm b (by simpa using hb)), own_keep h.nd hE (fun b hb => h.a3.symm b (by simpa using hb)), by simpa [ci] using ho, h.a1, (hap h.lo h.a2.symm).symm, (hap h.nd h.a3.symm).symm⟩

/-- The last place is one more. -/
theorem Fm.bump {w : World} {a : Option Addr} {n c : Nat} {W : World} {C : List Bool} {O : List Nat} {vO vN : Value} {ND NX : List Nat} {gx cx k : Nat} (h : Fm w a n c W C O vO vN (.slice (some ⟨gx, 0, none⟩) (NX.length + 1) cx) ND (NX ++ [k])) (j : Nat) :
    Fm w a n c (W.setCell ⟨gx, NX.length, none⟩ (.int .i64 j)) C O vO vN (.slice (some ⟨gx, 0, none⟩) (NX.length + 1) cx) ND (NX ++ [j]) := by
  have hE := Ext.setCell [gx] W ⟨gx, NX.length, none⟩ (.int .i64 j) (by simp)
  have hgx := (own_lt h.nx gx rfl).1
  have hx := h.nx
  rw [List.length_append, List.length_singleton] at hx
  refine ⟨h.ext.on hE (by simp; omega), by simpa using h.size, h.cl, hE.keep h.cr (by simp; omega), hE.keep h.box (by simp; omega), own_keep h.lo hE (fun b hb => h.a2.symm b (by simp at hb; subst hb; rfl)), own_keep h.nd hE (fun b hb => h.a3.symm b (by simp at hb; subst hb; rfl)), ?_, h.a1, h.a2, h.a3⟩
  have := (hx.stored NX.length (.int .i64 j)).1
  rw [ci_app, List.map_append, List.set_append_right _ _ (by simp [ci])] at this
  simpa [ci] using this

/-- The last of both stacks is gone. -/
theorem Fm.pop {w : World} {a : Option Addr} {n c : Nat} {W : World} {C : List Bool} {O : List Nat} {vO : Value} {ND NX : List Nat} {gn cn' gx cx x k : Nat} (h : Fm w a n c W C O vO (.slice (some ⟨gn, 0, none⟩) (ND.length + 1) cn') (.slice (some ⟨gx, 0, none⟩) (NX.length + 1) cx) (ND ++ [x]) (NX ++ [k])) :
    Fm w a n c W C O vO (.slice (some ⟨gn, 0, none⟩) ND.length cn') (.slice (some ⟨gx, 0, none⟩) NX.length cx) ND NX := by
  have h1 := h.nd
  have h2 := h.nx
  rw [List.length_append, List.length_singleton, ci_app, List.map_append] at h1 h2
  exact ⟨h.ext, h.size, h.cl, h.cr, h.box, h.lo, ownsRow_pop (by simp [ci]) h1, ownsRow_pop (by simp [ci]) h2, h.a1, h.a2, h.a3⟩

/-! ### what is open -/

/-- What is left of each node's list. -/
def opn (N : List (List Nat)) : List Nat → List Nat → List (List Nat)
  | x :: ND, k :: NX => (nxt N x).drop k :: opn N ND NX
  | _, _ => []
theorem opn_snoc (N : List (List Nat)) : ∀ (ND NX : List Nat) (x k : Nat), ND.length = NX.length → opn N (ND ++ [x]) (NX ++ [k]) = opn N ND NX ++ [(nxt N x).drop k]
  | [], [], _, _, _ => rfl
  | [], _ :: _, _, _, h => by simp at h
  | _ :: _, [], _, _, h => by simp at h
  | y :: ND, j :: NX, x, k, h => by
    simp only [List.cons_append, opn]
    rw [opn_snoc N ND NX x k (by simpa using h)]
theorem opn_len (N : List (List Nat)) : ∀ (ND NX : List Nat), ND.length = NX.length → (opn N ND NX).length = ND.length
  | [], [], _ => rfl
  | [], _ :: _, h => by simp at h
  | _ :: _, [], h => by simp at h
  | _ :: ND, _ :: NX, h => by simp only [opn, List.length_cons]; rw [opn_len N ND NX (by simpa using h)]

def szP (P : List (List Nat)) : Nat := (P.map fun l => l.length + 1).sum
theorem szP_snoc (P : List (List Nat)) (l : List Nat) : szP (P ++ [l]) = szP P + (l.length + 1) := by simp [szP]

/-- A node that came is passed by. -/
theorem Pu.skip1 {N : List (List Nat)} {R : List Nat} {wo : Int} {rest : List Nat} {C : List Bool} {O : List Nat} {P : List (List Nat)} {l : List Nat} {x : Nat} (h : Pu N R wo rest C O (P ++ [x :: l])) (hx : C[x]? = some true) : Pu N R wo rest C O (P ++ [l]) := by
  refine ⟨h.cnt, by simpa using h.pl, fun m hm => ?_, fun m hm => ?_, fun C' O' k => h.run C' O' ?_⟩
  · simp only [List.mem_append, List.mem_singleton] at hm
    rcases hm with hm | rfl
    · exact h.pn m (by simp [hm])
    · exact fun y hy => h.pn (x :: m) (by simp) y (by simp [hy])
  · simp only [List.mem_append, List.mem_singleton] at hm
    rcases hm with hm | rfl
    · exact h.pw m (by simp [hm])
    · have := h.pw (x :: m) (by simp)
      simp at this
      omega
  · rw [List.reverse_append, List.reverse_singleton, List.singleton_append, List.cons_append] at k ⊢
    exact .skip hx k

end Go.Proofs.Ytfjabjnajcfamaa
