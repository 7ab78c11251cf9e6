/-
  The book that is asked at the end of ReachKeeps; no statement is proved here.
-/
import Derived.Test.YtfjabjnajcfamaaKeepB
namespace Go.Proofs.Ytfjabjnajcfamaa
open Go.RowKit

def BkPost (w0 w : World) (e : Ending) (w2 : World) : Prop := e = .returned (.bool true) ∧ Ext [] w0 w2 ∧ ∀ D : Nat, w.heap[D]? = some (Obj.deferred (some [])) → w2.heap[D]? = some (Obj.deferred (some []))

theorem Own1.no_mark {w : World} {e : TypeId} {b c : Nat} {xs : List Value} (h : Own1 w e b c xs) {o : Option (List Deferred)} : w.heap[b]? ≠ some (Obj.deferred o) := by
  obtain ⟨⟨cur, h1, _⟩, _⟩ := h
  rw [h1]
  simp

set_option maxRecDepth 100000 in
theorem book_any (w0 w : World) (va vb vc : Value) (na nb nc : Nat) (xa xb xc : List Value) (gr rn capr : Nat) (zr : List Value) (ai : Option Addr) (k ci i0 : Nat) (M : List (List Int)) (G : Nat → Nat × Nat) (s1 s2 s3 s4 : Nat)
    (hE0 : Ext [] w0 w) (hZ : Zn w0 w (.slice ai k ci) k i0 M G) (hk : k ≤ 1048576) (hM : ∀ j, j < k → (lsAt M j).length ≤ 1048576)
    (ha : w.ownsRow 0 3 1 va na xa) (hna : na ≤ 1048576) (hb : w.ownsRow 0 3 1 vb nb xb) (hnb : nb ≤ 1048576) (hc : w.ownsRow 0 3 1 vc nc xc) (hnc : nc ≤ 1048576)
    (hr : Own1 w 3 gr capr zr) (hzr : zr.length = rn) (hrn : rn ≤ 1048576)
    (q0 : w0.heap.size ≤ s1) (qG : ∀ j, j < k → (G j).1 < s1) (q1 : s1 ≤ gr) (q2 : gr < s2) (qa : ∀ b, va.ownBlock = some b → s2 ≤ b ∧ b < s3) (qb : ∀ b, vb.ownBlock = some b → s3 ≤ b ∧ b < s4) (qc : ∀ b, vc.ownBlock = some b → s4 ≤ b) (q3 : s2 ≤ s3) (q4 : s3 ≤ s4) :
    ∃ aT cT W', (Builtin.append_ #[22, 22] 22 #[.slice (some ⟨w.heap.size, 0, none⟩) 4 4, .slice ai k ci]).run Try.prog ((w.alloc (.cells #[va, vb, vc, .slice (some ⟨gr, 0, none⟩) rn capr] 23)).alloc (.cells #[.slice (some ⟨w.heap.size, 0, none⟩) 4 4, .slice none 0 0, .slice none 0 0, .slice none 0 0] 52)) = .ok (.slice aT (4 + k) cT) W' ∧
      W'.cell? ⟨w.heap.size + 1, 0, none⟩ = some (.slice (some ⟨w.heap.size, 0, none⟩) 4 4) ∧ W'.frozen? ⟨w.heap.size + 1, 0, none⟩ = false ∧
      Calls Try.prog 27 #[.pointer (some ⟨w.heap.size + 1, 0, none⟩)] (W'.setCell ⟨w.heap.size + 1, 0, none⟩ (.slice aT (4 + k) cT)) (BkPost w0 w) := by
  obtain ⟨Wb, hWb⟩ : ∃ Wb, Wb = (w.alloc (.cells #[va, vb, vc, .slice (some ⟨gr, 0, none⟩) rn capr] 23)).alloc (.cells #[.slice (some ⟨w.heap.size, 0, none⟩) 4 4, .slice none 0 0, .slice none 0 0, .slice none 0 0] 52) := ⟨_, rfl⟩
  have hEb : Ext [] w Wb := by rw [hWb]; exact (Ext.alloc [] _ _).trans (Ext.alloc [] _ _)
  have hbk : Wb.heap[w.heap.size + 1]? = some (.cells #[.slice (some ⟨w.heap.size, 0, none⟩) 4 4, .slice none 0 0, .slice none 0 0, .slice none 0 0] 52 (0, 0)) := by
    rw [hWb]
    have := heap_alloc_new (w.alloc (.cells #[va, vb, vc, .slice (some ⟨gr, 0, none⟩) rn capr] 23)) (.cells #[.slice (some ⟨w.heap.size, 0, none⟩) 4 4, .slice none 0 0, .slice none 0 0, .slice none 0 0] 52)
    rwa [World.size_alloc] at this
  have hown : Wb.ownsRow w.heap.size 23 1 (.slice (some ⟨w.heap.size, 0, none⟩) 4 4) 4 [va, vb, vc, .slice (some ⟨gr, 0, none⟩) rn capr] := by
    rw [hWb]
    exact ⟨rfl, .inr ⟨w.heap.size, 4, #[va, vb, vc, .slice (some ⟨gr, 0, none⟩) rn capr], rfl, Nat.le_refl _, (Ext.alloc [] _ _).keep (heap_alloc_new w _) (by simp), Nat.le_refl _, by unfold maxLen; omega, rfl, rfl⟩⟩
  obtain ⟨vT, W', hrun, hO, hEw, hX⟩ := app_own w Wb hEb 22 22 23 _ 24 Try.underlying22 info23 rfl (by omega) _ 4 _ hown ai k ci (rowsN M (gk G) k) (rowsN_len _ _ _) (own_vs (own_keep0 hZ.row hEb)) (fun u hu => by
    obtain ⟨j, hj, e⟩ := List.getElem_of_mem hu
    have h2 := rowsN_get M (gk G) k j (by rw [rowsN_len] at hj; exact hj)
    rw [List.getElem?_eq_getElem hj, e] at h2
    simp only [Option.some.injEq] at h2
    rw [h2]; rfl) (by omega)
  rw [← hWb]
  rcases hO.2 with ⟨_, h2⟩ | ⟨g, cap, cur, rfl, h1, h2, h3⟩
  · omega
  have hbk' := hX.keep hbk (by simp [Value.ownBlock])
  refine ⟨some ⟨g, 0, none⟩, cap, W', hrun, by rw [cell_of_row _ _ _ _ _ _ hbk']; rfl, frozen_of_row _ _ _ _ _ hbk', ?_⟩
  have hS := Ext.setCell [w.heap.size + 1] W' ⟨w.heap.size + 1, 0, none⟩ (.slice (some ⟨g, 0, none⟩) (4 + k) cap) (by simp)
  have hEs : Ext [] w (W'.setCell ⟨w.heap.size + 1, 0, none⟩ (.slice (some ⟨g, 0, none⟩) (4 + k) cap)) := hEw.on hS (by simp)
  have hOs := own_keep hO hS (fun b hb => by
    simp at hb
    subst hb
    exact own_ne hO hbk' (by decide))
  have hbs := heap_setCell_same W' (w.heap.size + 1) 0 _ _ (.slice (some ⟨g, 0, none⟩) (4 + k) cap) hbk'
  generalize W'.setCell ⟨w.heap.size + 1, 0, none⟩ (.slice (some ⟨g, 0, none⟩) (4 + k) cap) = W2 at *
  have hTl : ([va, vb, vc, .slice (some ⟨gr, 0, none⟩) rn capr] ++ rowsN M (gk G) k).length = 4 + k := by simp [rowsN_len]; omega
  have hcase : ∀ i, i < 4 + k → (i = 0 ∧ ([va, vb, vc, .slice (some ⟨gr, 0, none⟩) rn capr] ++ rowsN M (gk G) k).getD i undef = va) ∨ (i = 1 ∧ ([va, vb, vc, .slice (some ⟨gr, 0, none⟩) rn capr] ++ rowsN M (gk G) k).getD i undef = vb) ∨ (i = 2 ∧ ([va, vb, vc, .slice (some ⟨gr, 0, none⟩) rn capr] ++ rowsN M (gk G) k).getD i undef = vc) ∨ (i = 3 ∧ ([va, vb, vc, .slice (some ⟨gr, 0, none⟩) rn capr] ++ rowsN M (gk G) k).getD i undef = .slice (some ⟨gr, 0, none⟩) rn capr) ∨ ∃ j, j < k ∧ i = 4 + j ∧ ([va, vb, vc, .slice (some ⟨gr, 0, none⟩) rn capr] ++ rowsN M (gk G) k).getD i undef = .slice (some ⟨(G j).1, 0, none⟩) (lsAt M j).length (G j).2 := by
    intro i hi
    by_cases e0 : i = 0
    · subst e0; exact .inl ⟨rfl, rfl⟩
    by_cases e1 : i = 1
    · subst e1; exact .inr (.inl ⟨rfl, rfl⟩)
    by_cases e2 : i = 2
    · subst e2; exact .inr (.inr (.inl ⟨rfl, rfl⟩))
    by_cases e3 : i = 3
    · subst e3; exact .inr (.inr (.inr (.inl ⟨rfl, rfl⟩)))
    · obtain ⟨j, rfl⟩ : ∃ j, i = 4 + j := ⟨i - 4, by omega⟩
      refine .inr (.inr (.inr (.inr ⟨j, by omega, rfl, ?_⟩)))
      rw [List.getD_eq_getElem?_getD, List.getElem?_append_right (by simp), show 4 + j - [va, vb, vc, .slice (some ⟨gr, 0, none⟩) rn capr].length = j by simp, rowsN_get M (gk G) k j (by omega)]
      rfl
  generalize [va, vb, vc, .slice (some ⟨gr, 0, none⟩) rn capr] ++ rowsN M (gk G) k = T at *
  have hOT : W2.ownsRow w.heap.size 23 1 (.slice (some ⟨g, 0, none⟩) T.length cap) T.length T := by rw [hTl]; exact hOs
  have hItm : ∀ i, i < 4 + k → Itm w (T.getD i undef) := fun i hi => by
    rcases hcase i hi with ⟨_, e⟩ | ⟨_, e⟩ | ⟨_, e⟩ | ⟨_, e⟩ | ⟨j, hj, _, e⟩ <;> rw [e]
    · exact itm_own ha hna
    · exact itm_own hb hnb
    · exact itm_own hc hnc
    · exact itm_own1 hr hzr hrn
    · obtain ⟨ys, hy1, hy2⟩ := hZ.mine j hj
      exact itm_own1 hy2 hy1 (hM j hj)
  have hItm2 : ∀ i, i < 4 + k → Itm W2 (T.getD i undef) := fun i hi => ⟨(hItm i hi).1, fun b l c hv => by
    obtain ⟨⟨ys, hy1, hy2⟩, hl⟩ := (hItm i hi).2 b l c hv
    exact ⟨⟨ys, hy1, hy2.keep hEs (by simp)⟩, hl⟩⟩
  have hB := bk_of hOT (fun i hi => hItm2 i (by omega)) (fun i j b hi hj hij h1 h2 => by
    rcases hcase i (by omega) with ⟨e1, f1⟩ | ⟨e1, f1⟩ | ⟨e1, f1⟩ | ⟨e1, f1⟩ | ⟨j1, hj1, e1, f1⟩ <;> rcases hcase j (by omega) with ⟨e2, f2⟩ | ⟨e2, f2⟩ | ⟨e2, f2⟩ | ⟨e2, f2⟩ | ⟨j2, hj2, e2, f2⟩ <;> rw [f1] at h1 <;> rw [f2] at h2 <;>
      first
      | omega
      | (have := qa b h1; have := qb b h2; omega)
      | (have := qa b h2; have := qb b h1; omega)
      | (have := qa b h1; have := qc b h2; omega)
      | (have := qa b h2; have := qc b h1; omega)
      | (have := qb b h1; have := qc b h2; omega)
      | (have := qb b h2; have := qc b h1; omega)
      | (simp only [Value.ownBlock, Option.some.injEq] at h1; have := qa b h2; omega)
      | (simp only [Value.ownBlock, Option.some.injEq] at h2; have := qa b h1; omega)
      | (simp only [Value.ownBlock, Option.some.injEq] at h1; have := qb b h2; omega)
      | (simp only [Value.ownBlock, Option.some.injEq] at h2; have := qb b h1; omega)
      | (simp only [Value.ownBlock, Option.some.injEq] at h1; have := qc b h2; omega)
      | (simp only [Value.ownBlock, Option.some.injEq] at h2; have := qc b h1; omega)
      | (simp only [Value.ownBlock, Option.some.injEq] at h1 h2; have := qG j1 hj1; omega)
      | (simp only [Value.ownBlock, Option.some.injEq] at h1 h2; have := qG j2 hj2; omega)
      | (simp only [Value.ownBlock, Option.some.injEq] at h1; have := qG j1 hj1; have := qa b h2; omega)
      | (simp only [Value.ownBlock, Option.some.injEq] at h1; have := qG j1 hj1; have := qb b h2; omega)
      | (simp only [Value.ownBlock, Option.some.injEq] at h1; have := qG j1 hj1; have := qc b h2; omega)
      | (simp only [Value.ownBlock, Option.some.injEq] at h2; have := qG j2 hj2; have := qa b h1; omega)
      | (simp only [Value.ownBlock, Option.some.injEq] at h2; have := qG j2 hj2; have := qb b h1; omega)
      | (simp only [Value.ownBlock, Option.some.injEq] at h2; have := qG j2 hj2; have := qc b h1; omega)
      | (simp only [Value.ownBlock, Option.some.injEq] at h1 h2; exact hZ.apart j1 j2 hj1 hj2 (by omega) (h1.trans h2.symm)))
  have hmem : ∀ b, b ∈ blks T.length (fun i => toIt (T.getD i undef)) → (∃ ys c, Own1 w 3 b c ys) ∧ w0.heap.size ≤ b := fun b hb => by
    obtain ⟨i, l, c, hi, hit⟩ := mem_blks.1 hb
    obtain ⟨⟨ys, _, hy⟩, _⟩ := (hItm i (by omega)).2 b l c hit
    refine ⟨⟨ys, c, hy⟩, ?_⟩
    have hob := toIt_block hit
    rcases hcase i (by omega) with ⟨_, e⟩ | ⟨_, e⟩ | ⟨_, e⟩ | ⟨_, e⟩ | ⟨j, hj, _, e⟩ <;> rw [e] at hob
    · have := qa b hob; omega
    · have := qb b hob; omega
    · have := qc b hob; omega
    · simp only [Value.ownBlock, Option.some.injEq] at hob; omega
    · simp only [Value.ownBlock, Option.some.injEq] at hob
      have := hZ.new j hj
      omega
  rw [← hTl] at hbs
  refine (apart_any (w.heap.size + 1) (some ⟨g, 0, none⟩) g T.length cap _ W2 (by omega) (.inl rfl) hB (by rw [cell_of_row _ _ _ _ _ _ hbs]; rfl) (by rw [cell_of_row _ _ _ _ _ _ hbs]; rfl) (by rw [cell_of_row _ _ _ _ _ _ hbs]; rfl) (by rw [cell_of_row _ _ _ _ _ _ hbs]; rfl) (fun q => by
    obtain ⟨⟨ys, c, hy⟩, _⟩ := hmem _ q
    have := hy.lt
    omega)).mono ?_
  rintro e W3 ⟨rfl, hE3⟩
  refine ⟨rfl, (hE0.trans hEs).on hE3 (fun b hb => (hmem b hb).2), fun D hD => ?_⟩
  refine hE3.keep (hEs.keep hD (by simp)) (fun q => ?_)
  obtain ⟨⟨ys, c, hy⟩, _⟩ := hmem D q
  exact hy.no_mark hD

end Go.Proofs.Ytfjabjnajcfamaa
