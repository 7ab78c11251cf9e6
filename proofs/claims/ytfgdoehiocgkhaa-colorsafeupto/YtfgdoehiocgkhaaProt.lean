/-
  What a cycle's script may not touch; no statement is proved here.
-/
import Derived.Test.YtfgdoehiocgkhaaMathG
import Derived.Test.YtfgdoehiocgkhaaMathS
namespace Go.Proofs.Ytfgdoehiocgkhaa
open Go.RowKit

theorem set_cases (H : Gs) (n j x : Int) : ((set H n j x).1 = H ∧ (set H n j x).2 ≠ 0) ∨ ∃ i q : Nat, lvN H i ∧ q < (ndAt H.ns i).s.length ∧ (x = -1 ∨ lvB H x = true) ∧ set H n j x = (setG H i q x, 0) := by
  unfold set
  split
  · exact .inl ⟨rfl, by simp⟩
  · rename_i h1
    split
    · exact .inl ⟨rfl, by simp⟩
    · rename_i h2
      split
      · exact .inl ⟨rfl, by simp⟩
      · rename_i h3
        simp only [Bool.not_eq_false] at h1
        refine .inr ⟨n.toNat, j.toNat, (lvB_iff.1 h1).2, by omega, ?_, rfl⟩
        by_cases q : x = -1
        · exact .inl q
        · right
          simp only [ne_eq, q, not_false_eq_true, true_and, Bool.not_eq_false] at h2
          exact h2
theorem sf_set {G H : Gs} {T : Nat → Prop} {A : List Int} (hI : Iv G) (hIH : Iv H) (h : Sf G T A H) (n j x : Int) : Sf G T A (set H n j x).1 ∧ ((set H n j x).2 = 0 → 0 ≤ x → Sf G T (A ++ [x]) (set H n j x).1) := by
  rcases set_cases H n j x with ⟨e1, e2⟩ | ⟨i, q, hi, hq, hx, e⟩
  · rw [e1]; exact ⟨h, fun q => absurd q e2⟩
  · rw [e]
    have h1 := sf_setG hI hIH h i q x hi hq
    refine ⟨h1, fun _ h0 => h1.more x ?_ (fun _ => setG_nw i q x hi hx)⟩
    rw [setG_lv i q x hi]
    rcases hx with r | r
    · omega
    · exact r
theorem sf_shade {G H : Gs} {T : Nat → Prop} {A : List Int} (hI : Iv G) (h : Sf G T A H) (n : Int) : Sf G T A (shade H n).1 ∧ ((shade H n).2 = 0 → Sf G T (A ++ [n]) (shade H n).1) := by
  unfold shade
  split
  · exact ⟨h, fun q => by simp at q⟩
  · rename_i h1
    simp only [Bool.not_eq_false] at h1
    have h2 := sf_sh hI h n
    refine ⟨h2, fun _ => h2.more n (by rw [sh_lvB]; exact h1) (fun _ => sh_c n (.inr (lvB_iff.1 h1).1))⟩
theorem sf_new {G H : Gs} {T : Nat → Prop} {A : List Int} (hI : Iv G) (hIH : Iv H) (h : Sf G T A H) (x : Int) : Sf G T A (node H x).1 ∧ ((node H x).2.2 = 0 → Sf G T (A ++ [(node H x).2.1]) (node H x).1) := by
  have h1 := sf_node hI hIH h x
  exact ⟨h1, fun q => h1.more _ (node_new hIH x q).1 (fun _ => (node_new hIH x q).2)⟩

/-- What is held beside the graph. -/
structure Pr (w0 wr : World) (a3 : Option Addr) (L3 : List Int) (sv : Value) (Bs : List Bool) (va : Value) (A : List Int) (C : Nat → Prop) : Prop where
  c : ∀ k, C k → w0.heap.size ≤ k ∧ k < wr.heap.size
  ext : Ext [] w0 wr
  l : Is wr a3 L3
  la : ∀ ad, a3 = some ad → ¬ C ad.block ∧ ad.block < wr.heap.size
  s : wr.ownsRow 0 4 1 sv Bs.length (Bs.map Value.bool)
  sa : ∀ g, sv.ownBlock = some g → ¬ C g
  a : wr.ownsRow w0.heap.size 3 1 va A.length (A.map (Value.int .i64))
  aa : ∀ g, va.ownBlock = some g → ¬ C g
  al : ∀ ad, a3 = some ad → va.ownBlock ≠ some ad.block

theorem Pr.keep0 {w0 wr w' : World} {a3 : Option Addr} {L3 : List Int} {sv : Value} {Bs : List Bool} {va : Value} {A : List Int} {C : Nat → Prop} (h : Pr w0 wr a3 L3 sv Bs va A C) (x : Ext [] wr w') : Pr w0 w' a3 L3 sv Bs va A C :=
  ⟨fun k hk => ⟨(h.c k hk).1, Nat.lt_of_lt_of_le (h.c k hk).2 x.size⟩, h.ext.trans x, h.l.keep0 x, fun ad had => ⟨(h.la ad had).1, Nat.lt_of_lt_of_le (h.la ad had).2 x.size⟩, own_keep0 h.s x, h.sa, own_keep0 h.a x, h.aa, h.al⟩
/-- Behind a call on the graph. -/
theorem Pr.op {w0 wr w' : World} {a3 : Option Addr} {L3 : List Int} {sv : Value} {Bs : List Bool} {va : Value} {A : List Int} {C D : Nat → Prop} (h : Pr w0 wr a3 L3 sv Bs va A C) (x : Fx C wr w') (hD : ∀ k, D k → Nw C wr k) : Pr w0 w' a3 L3 sv Bs va A (fun k => D k ∧ k < w'.heap.size) := by
  have nD : ∀ g, ¬ C g → g < wr.heap.size → ¬ (D g ∧ g < w'.heap.size) := fun g h1 h2 q => by
    rcases hD g q.1 with r | r
    · exact h1 r
    · omega
  refine ⟨fun k hk => ⟨?_, hk.2⟩, x.on h.ext (fun k hk => (h.c k hk).1), is_keepF h.l x (fun ad had => (h.la ad had).1), fun ad had => ⟨nD _ (h.la ad had).1 (h.la ad had).2, Nat.lt_of_lt_of_le (h.la ad had).2 x.size⟩, own_keepF h.s x h.sa, fun g hg => nD g (h.sa g hg) (own_lt h.s g hg).2, own_keepF h.a x h.aa, fun g hg => nD g (h.aa g hg) (own_lt h.a g hg).2, h.al⟩
  rcases hD k hk.1 with r | r
  · exact (h.c k r).1
  · exact Nat.le_trans h.ext.size r
/-- One number more in the list. -/
theorem Pr.app {w0 wr : World} {a3 : Option Addr} {L3 : List Int} {sv : Value} {Bs : List Bool} {va : Value} {A : List Int} {C : Nat → Prop} {p : Nat} {H : Gs} (h : Pr w0 wr a3 L3 sv Bs va A C) (hg : Gr wr p H C) (x : Int) (hA : A.length ≤ 100000000) :
    ∃ v' w', (Builtin.append_ #[23, 23] 23 #[va, .slice (some ⟨wr.heap.size, 0, none⟩) 1 1]).run Try.prog (wr.alloc (.cells #[.int .i64 x] 3)) = .ok v' w' ∧ Pr w0 w' a3 L3 sv Bs v' (A ++ [x]) C ∧ Gr w' p H C := by
  obtain ⟨i3, hi3, hz3, hs3, hy3⟩ := info_parts info3
  have hEa := Ext.alloc [] wr (.cells #[.int .i64 x] 3)
  have hk := h.keep0 hEa
  have hsz := h.ext.size
  obtain ⟨v', w2, hr, ho2, hg2, _, hat⟩ := run_append_own_at (P := Try.prog) (wr.alloc (.cells #[.int .i64 x] 3)) w0.heap.size 23 23 3 i3 _ 1 8 Try.underlying23 hi3 hz3 hs3 hy3 rfl (by decide) va A.length (A.map (Value.int .i64)) hk.a ⟨wr.heap.size, 0, none⟩ 1 1 [.int .i64 x] rfl (fun j u hu => by rw [Addr.add_lit, cell_of_row _ _ _ _ _ _ (heap_alloc_new wr _), Nat.zero_add, ← hu]; simp) (by simp [Value.oneCell']) (by unfold maxLen; omega) (by omega) (by simp; omega)
  have hX := ext_grown hg2
  have hF : Fx (fun k => va.ownBlock = some k) (wr.alloc (.cells #[.int .i64 x] 3)) w2 := Fx.of_ext hX (fun k q => .inl (by simpa using q))
  have hnew : ∀ g, v'.ownBlock = some g → va.ownBlock = some g ∨ wr.heap.size + 1 ≤ g := fun g hg => by
    rcases hat with q | q
    · left; rw [← q]; exact hg
    · right; rw [hg] at q; simp at q; omega
  refine ⟨v', w2, hr, ⟨fun k q => ⟨(hk.c k q).1, Nat.lt_of_lt_of_le (hk.c k q).2 hX.size⟩, hF.on hk.ext (fun k q => (own_lt hk.a k q).1), is_keepF hk.l hF (fun ad had q => h.al ad had q), fun ad had => ⟨(h.la ad had).1, Nat.lt_of_lt_of_le (hk.la ad had).2 hX.size⟩, own_keep hk.s hX (own_apart hk.s hk.a (by decide)), h.sa, by simpa using ho2, fun g hg => ?_, fun ad had q => ?_⟩, (hg.keep0 hEa).keep hF (fun k q r => h.aa k r q)⟩
  · rcases hnew g hg with r | r
    · exact h.aa g r
    · intro q; have := (h.c g q).2; omega
  · rcases hnew _ q with r | r
    · exact h.al ad had r
    · have := (h.la ad had).2; omega

end Go.Proofs.Ytfgdoehiocgkhaa
