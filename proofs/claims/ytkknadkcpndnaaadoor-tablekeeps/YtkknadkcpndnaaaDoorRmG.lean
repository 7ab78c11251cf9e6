/-
  Five lists of words that lie apart; no statement is proved here.
-/
import Derived.Test.YtkknadkcpndnaaaDoorRmE
namespace Go.Proofs.YtkknadkcpndnaaaDoor.Rm
open Go.RowKit Go.Shelf

def itO (a : Option Addr) (n c : Nat) : Option (Nat × Nat × Nat) := a.map fun ad => (ad.block, n, c)
section
variable {lo : Nat} {w w' : World} {a : Option Addr} {n c : Nat} {L : List Nat}
theorem Rr.iv (h : Rr lo w a n c L) : Ap.iv (itO a n c) = .slice a n c := by
  rcases h.2 with ⟨rfl, rfl, rfl⟩ | ⟨b, rfl, _, _⟩
  · rfl
  · rfl
theorem Rr.own (h : Rr lo w a n c L) {b l c' : Nat} (e : itO a n c = some (b, l, c')) : (∃ xs, xs.length = l ∧ Ap.Own1 w 23 b c' xs) ∧ l = n ∧ lo ≤ b ∧ b < w.heap.size ∧ ∃ cs, w.heap[b]? = some (.cells cs 23 (0, 0)) := by
  rcases h.2 with ⟨rfl, rfl, rfl⟩ | ⟨b', rfl, hT, hb⟩
  · cases e
  · simp only [itO, Option.map_some, Option.some.injEq, Prod.mk.injEq] at e
    obtain ⟨rfl, rfl, rfl⟩ := e
    obtain ⟨cs, h1, _⟩ := id hT
    exact ⟨⟨vw L, by rw [vw_len]; exact h.1, hT.own1⟩, rfl, hb, hT.lt, cs, h1⟩
end
def B5Post (wz : World) (g : Nat) (w2 : World) (e : Ending) (w' : World) : Prop := e = .returned (.bool true) ∧ ∃ S : List Nat, (∀ b ∈ S, g ≤ b ∧ b < wz.heap.size ∧ ∃ cs, wz.heap[b]? = some (.cells cs 23 (0, 0))) ∧ Ext S w2 w'
set_option maxHeartbeats 2000000 in
theorem book_five (wz : World) (l1 l2 l3 l4 : Nat) (a1 a2 a3 a4 : Option Addr) (n1 n2 n3 n4 c1 c2 c3 c4 g n5 c5 : Nat) (L1 L2 L3 L4 L5 : List Nat)
    (h1 : Rr l1 wz a1 n1 c1 L1) (h2 : Rr l2 wz a2 n2 c2 L2) (h3 : Rr l3 wz a3 n3 c3 L3) (h4 : Rr l4 wz a4 n4 c4 L4) (h5 : Tw c5 wz g L5) (hn5 : n5 ≤ L5.length) (hg : g < l1)
    (u1 : ∀ ad, a1 = some ad → ad.block < l2) (u2 : ∀ ad, a2 = some ad → ad.block < l3) (u3 : ∀ ad, a3 = some ad → ad.block < l4) (o12 : l1 ≤ l2) (o23 : l2 ≤ l3) (o34 : l3 ≤ l4)
    (q1 : n1 ≤ 1048576) (q2 : n2 ≤ 1048576) (q3 : n3 ≤ 1048576) (q4 : n4 ≤ 1048576) (q5 : n5 ≤ 1048576) :
    Calls Tryd.prog 34 #[.pointer (some ⟨wz.heap.size + 1, 0, none⟩)] ((wz.alloc (.cells #[.slice a1 n1 c1, .slice a2 n2 c2, .slice a3 n3 c3, .slice a4 n4 c4, .slice (some ⟨g, 0, none⟩) n5 c5] 22)).alloc (.cells #[.slice none 0 0, .slice (some ⟨wz.heap.size, 0, none⟩) 5 5, .slice none 0 0, .slice none 0 0] 74))
      (B5Post wz g ((wz.alloc (.cells #[.slice a1 n1 c1, .slice a2 n2 c2, .slice a3 n3 c3, .slice a4 n4 c4, .slice (some ⟨g, 0, none⟩) n5 c5] 22)).alloc (.cells #[.slice none 0 0, .slice (some ⟨wz.heap.size, 0, none⟩) 5 5, .slice none 0 0, .slice none 0 0] 74))) := by
  obtain ⟨W1, hW1⟩ : ∃ W1, wz.alloc (.cells #[.slice a1 n1 c1, .slice a2 n2 c2, .slice a3 n3 c3, .slice a4 n4 c4, .slice (some ⟨g, 0, none⟩) n5 c5] 22) = W1 := ⟨_, rfl⟩
  have hE1 : Ext [] wz W1 := by rw [← hW1]; exact Ext.alloc [] _ _
  have hr1 : W1.heap[wz.heap.size]? = some (.cells #[.slice a1 n1 c1, .slice a2 n2 c2, .slice a3 n3 c3, .slice a4 n4 c4, .slice (some ⟨g, 0, none⟩) n5 c5] 22 (0, 0)) := by rw [← hW1]; exact heap_alloc_new _ _
  have hs1 : W1.heap.size = wz.heap.size + 1 := by rw [← hW1]; simp
  rw [hW1]
  have hE2 := Ext.alloc [] W1 (.cells #[.slice none 0 0, .slice (some ⟨wz.heap.size, 0, none⟩) 5 5, .slice none 0 0, .slice none 0 0] 74)
  have hr2 := heap_alloc_new W1 (.cells #[.slice none 0 0, .slice (some ⟨wz.heap.size, 0, none⟩) 5 5, .slice none 0 0, .slice none 0 0] 74)
  rw [hs1] at hr2
  have hr1' := hE2.keep hr1 (by simp)
  obtain ⟨W2, hW2⟩ : ∃ W2, W1.alloc (.cells #[.slice none 0 0, .slice (some ⟨wz.heap.size, 0, none⟩) 5 5, .slice none 0 0, .slice none 0 0] 74) = W2 := ⟨_, rfl⟩
  rw [hW2] at hE2 hr2 hr1' ⊢
  have hX := hE1.trans hE2
  clear hW1 hW2 hr1 hE1 hE2 hs1
  obtain ⟨it, hit⟩ : ∃ it : Nat → Option (Nat × Nat × Nat), it = fun i => [itO a1 n1 c1, itO a2 n2 c2, itO a3 n3 c3, itO a4 n4 c4, some (g, n5, c5)].getD i none := ⟨_, rfl⟩
  have i0 : it 0 = itO a1 n1 c1 := by rw [hit]; rfl
  have i1 : it 1 = itO a2 n2 c2 := by rw [hit]; rfl
  have i2 : it 2 = itO a3 n3 c3 := by rw [hit]; rfl
  have i3 : it 3 = itO a4 n4 c4 := by rw [hit]; rfl
  have i4 : it 4 = some (g, n5, c5) := by rw [hit]; rfl
  have up : ∀ {a : Option Addr} {n c b l c' m : Nat}, (∀ ad, a = some ad → ad.block < m) → itO a n c = some (b, l, c') → b < m := fun {a n c b l c' m} hu e => by
    cases a with
    | none => cases e
    | some ad =>
      simp only [itO, Option.map_some, Option.some.injEq, Prod.mk.injEq] at e
      rw [← e.1]
      exact hu ad rfl
  have hgl := h5.lt
  obtain ⟨cs5, k5, _⟩ := id h5
  have hb : ∀ i b l c, i < 5 → it i = some (b, l, c) → ((i = 0 ∧ l1 ≤ b ∧ b < l2) ∨ (i = 1 ∧ l2 ≤ b ∧ b < l3) ∨ (i = 2 ∧ l3 ≤ b ∧ b < l4) ∨ (i = 3 ∧ l4 ≤ b) ∨ (i = 4 ∧ b = g)) ∧ (∃ xs, xs.length = l ∧ Ap.Own1 wz 23 b c xs) ∧ l ≤ 1048576 ∧ b < wz.heap.size ∧ ∃ cs, wz.heap[b]? = some (.cells cs 23 (0, 0)) := by
    intro i b l c hi e
    rcases i with _ | _ | _ | _ | _ | i
    · rw [i0] at e
      obtain ⟨x1, x2, x3, x4, x5⟩ := h1.own e
      exact ⟨.inl ⟨rfl, x3, up u1 e⟩, x1, by omega, x4, x5⟩
    · rw [i1] at e
      obtain ⟨x1, x2, x3, x4, x5⟩ := h2.own e
      exact ⟨.inr (.inl ⟨rfl, x3, up u2 e⟩), x1, by omega, x4, x5⟩
    · rw [i2] at e
      obtain ⟨x1, x2, x3, x4, x5⟩ := h3.own e
      exact ⟨.inr (.inr (.inl ⟨rfl, x3, up u3 e⟩)), x1, by omega, x4, x5⟩
    · rw [i3] at e
      obtain ⟨x1, x2, x3, x4, x5⟩ := h4.own e
      exact ⟨.inr (.inr (.inr (.inl ⟨rfl, x3⟩))), x1, by omega, x4, x5⟩
    · rw [i4] at e
      simp only [Option.some.injEq, Prod.mk.injEq] at e
      obtain ⟨rfl, rfl, rfl⟩ := e
      exact ⟨.inr (.inr (.inr (.inr ⟨rfl, rfl⟩))), ⟨_, by rw [List.length_take, vw_len]; omega, h5.own1.take n5⟩, q5, hgl, cs5, k5⟩
    · omega
  have hBk : Ap.Bk 23 W2 wz.heap.size 5 it := by
    refine ⟨fun i hi => ?_, fun i b l c hi e => ?_, fun i j b l c b' l' c' hi hj e e' hij => ?_⟩
    · rw [cell_of_row _ _ _ _ _ _ hr1']
      rcases i with _ | _ | _ | _ | _ | i
      · rw [i0, h1.iv]; rfl
      · rw [i1, h2.iv]; rfl
      · rw [i2, h3.iv]; rfl
      · rw [i3, h4.iv]; rfl
      · rw [i4]; rfl
      · omega
    · obtain ⟨_, ⟨xs, y1, y2⟩, y3, y4, _⟩ := hb i b l c hi e
      exact ⟨⟨xs, y1, y2.keep hX (by simp)⟩, by omega, y3⟩
    · obtain ⟨y1, _⟩ := hb i b l c hi e
      obtain ⟨y2, _⟩ := hb j b' l' c' hj e'
      omega
  have hnk : wz.heap.size + 1 ∉ Ap.blks 5 it := fun q => by
    obtain ⟨i, l, c, hi, e⟩ := Ap.mem_blks.1 q
    obtain ⟨_, _, _, y4, _⟩ := hb i _ l c hi e
    omega
  refine (Ap.apart_any (wz.heap.size + 1) (some ⟨wz.heap.size, 0, none⟩) wz.heap.size 5 5 it W2 (by omega) (.inl rfl) hBk (by rw [cell_of_row _ _ _ _ _ _ hr2]; rfl) (by rw [cell_of_row _ _ _ _ _ _ hr2]; rfl) (by rw [cell_of_row _ _ _ _ _ _ hr2]; rfl) (by rw [cell_of_row _ _ _ _ _ _ hr2]; rfl) hnk).mono ?_
  rintro e w' ⟨rfl, hE⟩
  refine ⟨rfl, _, fun b hbm => ?_, hE⟩
  obtain ⟨i, l, c, hi, e⟩ := Ap.mem_blks.1 hbm
  obtain ⟨y1, _, _, y4, y5⟩ := hb i _ l c hi e
  exact ⟨by omega, y4, y5⟩
end Go.Proofs.YtkknadkcpndnaaaDoor.Rm
