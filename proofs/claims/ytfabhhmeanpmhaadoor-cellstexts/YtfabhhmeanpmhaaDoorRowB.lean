/-
  Lists of cells that are joined, their boxes shared; no statement is proved here.
-/
import Derived.Test.YtfabhhmeanpmhaaDoorRow
namespace Go.Proofs.YtfabhhmeanpmhaaDoor
open Go.RowKit

theorem src_row {d : Nat} {w : World} {b o : Nat} {l : List Cl} (h : Cs (d + 1) w (some ⟨b, o, none⟩) l) :
    ∃ H : Nat → Option Addr × Nat, ∀ i, i < l.length → ClAt w b (o + i * 4) (cAt l i) (H i).1 (H i).2 ∧ Cs d w (H i).1 (cAt l i).box := by
  by_cases h0 : 0 < l.length
  · obtain ⟨d1, b1, o1, hd, ha, hat⟩ := h.at_ h0
    obtain rfl : d1 = d := by omega
    simp only [Option.some.injEq, Addr.mk.injEq, and_true] at ha
    obtain ⟨rfl, rfl⟩ := ha
    have hat2 : ∀ i, ∃ g : Option Addr × Nat, i < l.length → ClAt w b (o + i * 4) (cAt l i) g.1 g.2 ∧ Cs d1 w g.1 (cAt l i).box := fun i => by
      by_cases hi : i < l.length
      · obtain ⟨ba, bc, h1, h2⟩ := hat i hi
        exact ⟨(ba, bc), fun _ => ⟨h1, h2⟩⟩
      · exact ⟨(none, 0), fun h => absurd h hi⟩
    exact ⟨fun i => Classical.choose (hat2 i), fun i => Classical.choose_spec (hat2 i)⟩
  · exact ⟨fun _ => (none, 0), fun i hi => by omega⟩

theorem crows_cong2 {l l' : List Cl} {G H : Nat → Option Addr × Nat} : ∀ k, (∀ i, i < k → cAt l i = cAt l' i ∧ G i = H i) → crows l G k = crows l' H k
  | 0, _ => rfl
  | k + 1, h => by rw [crows, crows, crows_cong2 k (fun i hi => h i (by omega)), (h k (by omega)).1, (h k (by omega)).2]
/-- Boxes of one list behind those of another. -/
def jn (n : Nat) (G H : Nat → Option Addr × Nat) : Nat → Option Addr × Nat := fun i => if i < n then G i else H (i - n)
theorem cAt_left {a b : List Cl} {i : Nat} (h : i < a.length) : cAt (a ++ b) i = cAt a i := by simp [cAt, List.getD_eq_getElem?_getD, List.getElem?_append_left h]
theorem cAt_right {a b : List Cl} {i : Nat} : cAt (a ++ b) (a.length + i) = cAt b i := by simp [cAt, List.getD_eq_getElem?_getD, List.getElem?_append_right]
theorem crows_app {L1 L2 : List Cl} {G1 G2 : Nat → Option Addr × Nat} : ∀ k, crows (L1 ++ L2) (jn L1.length G1 G2) (L1.length + k) = crows L1 G1 L1.length ++ crows L2 G2 k
  | 0 => by
    simp only [Nat.add_zero, crows, List.append_nil]
    exact crows_cong2 _ fun i hi => ⟨cAt_left hi, by simp [jn, hi]⟩
  | k + 1 => by
    rw [← Nat.add_assoc, crows, crows_app k, crows, cAt_right, ← List.append_assoc]
    simp [jn, Nat.not_lt.2 (Nat.le_add_right _ _)]

/-- Boxes that are where they were. -/
def Bsh (d : Nat) (w : World) (L : List Cl) (G : Nat → Option Addr × Nat) : Prop := ∀ i, i < L.length → (cAt L i).box.length ≤ (G i).2 ∧ Cs d w (G i).1 (cAt L i).box ∧ Rg (cAt L i)
theorem Bsh.app {d : Nat} {w : World} {L1 L2 : List Cl} {G1 G2 : Nat → Option Addr × Nat} (h1 : Bsh d w L1 G1) (h2 : Bsh d w L2 G2) : Bsh d w (L1 ++ L2) (jn L1.length G1 G2) := by
  intro i hi
  by_cases h : i < L1.length
  · rw [cAt_left h]; simp only [jn, h, if_true]; exact h1 i h
  · obtain ⟨k, rfl⟩ : ∃ k, i = L1.length + k := ⟨i - L1.length, by omega⟩
    rw [cAt_right]; simp only [jn, Nat.not_lt.2 (Nat.le_add_right _ _), if_false, Nat.add_sub_cancel_left]
    exact h2 k (by simp at hi; omega)

theorem sub_row {d : Nat} {w : World} {b o : Nat} {l : List Cl} {H : Nat → Option Addr × Nat} (h : ∀ i, i < l.length → ClAt w b (o + i * 4) (cAt l i) (H i).1 (H i).2 ∧ Cs d w (H i).1 (cAt l i).box) {p q : Nat} (hp : p ≤ q) (hq : q ≤ l.length) :
    Bsh d w ((l.take q).drop p) (fun i => H (p + i)) ∧ ∀ j u, (crows ((l.take q).drop p) (fun i => H (p + i)) (q - p))[j]? = some u → w.cell? ⟨b, o + p * 4 + j, none⟩ = some u := by
  refine ⟨fun i hi => ?_, fun j u hu => ?_⟩
  · have hi' : i < q - p := by simp at hi; omega
    rw [cAt_sub hi']
    obtain ⟨h1, h2⟩ := h (p + i) (by omega)
    exact ⟨h1.cap, h2, h1.rg⟩
  · have hj : j < (q - p) * 4 := by have := (List.getElem?_eq_some_iff.1 hu).1; rwa [length_crows] at this
    have e : j = j / 4 * 4 + j % 4 := by omega
    rw [e, crows_get _ _ _ (j / 4) (j % 4) (by omega) (by omega), cAt_sub (by omega)] at hu
    obtain ⟨h1, _⟩ := h (p + j / 4) (by omega)
    rcases (by omega : j % 4 = 0 ∨ j % 4 = 1 ∨ j % 4 = 2 ∨ j % 4 = 3) with h | h | h | h <;> rw [h] at hu <;> simp [clRow] at hu <;> subst hu
    · rw [show o + p * 4 + j = o + (p + j / 4) * 4 by omega]; exact h1.c0
    · rw [show o + p * 4 + j = o + (p + j / 4) * 4 + 1 by omega]; exact h1.c1
    · rw [show o + p * 4 + j = o + (p + j / 4) * 4 + 2 by omega]; exact h1.c2
    · rw [show o + p * 4 + j = o + (p + j / 4) * 4 + 3 by omega]; exact h1.c3

theorem crows_one (l : List Cl) (G : Nat → Option Addr × Nat) : ∀ k, ∀ u ∈ crows l G k, u.oneCell' = true
  | 0 => by simp [crows]
  | k + 1 => by
    intro u hu
    rw [crows, List.mem_append] at hu
    rcases hu with hu | hu
    · exact crows_one l G k u hu
    · simp [clRow] at hu; rcases hu with rfl | rfl | rfl | rfl <;> rfl

theorem cs_of_row {d : Nat} {w w' : World} {base : Nat} {a : Option Addr} {n c : Nat} {l : List Cl} {G : Nat → Option Addr × Nat} (h : w'.ownsRow base 49 4 (.slice a n c) n (crows l G n)) (hB : Bsh d w l G) (hE : Ext [] w w') (hn : l.length = n) (hl : n ≤ 2513169434843) : Cs (d + 1) w' a l := by
  subst hn
  refine ⟨hl, ?_⟩
  rcases h.2 with ⟨h1, h2⟩ | ⟨g, cap, cur, h0, h1, h2, h3, h4, h5, h6⟩
  · left; exact List.length_eq_zero_iff.1 h2
  · right
    cases h0
    refine ⟨g, 0, rfl, fun i hi => ⟨(G i).1, (G i).2, ?_, (hB i hi).2.1.keep0 hE⟩⟩
    have key : ∀ j v, j < 4 → (clRow (cAt l i) (G i))[j]? = some v → w'.cell? ⟨g, 0 + i * 4 + j, none⟩ = some v := fun j v hj hv => by
      rw [Nat.zero_add, cell_of_row w' g _ _ _ _ h2]
      have : (cur.toList.take (l.length * 4))[i * 4 + j]? = cur[i * 4 + j]? := by
        rw [List.getElem?_take, if_pos (by omega)]; simp
      rw [← this, h6, crows_get l G _ i j hi hj, hv]
    obtain ⟨r1, r2, r3⟩ := (hB i hi).2.2
    exact ⟨key 0 _ (by omega) rfl, key 1 _ (by omega) rfl, key 2 _ (by omega) rfl, key 3 _ (by omega) rfl, (hB i hi).1, r1, r2, r3⟩

/-- append of cells onto a list of one's own. -/
theorem app4 (w0 w : World) (hE : Ext [] w0 w) (v : Value) (n : Nat) (xs : List Value) (hown : w.ownsRow w0.heap.size 49 4 v n xs) (a : Option Addr) (m c : Nat) (ys : List Value) (hm : ys.length = m * 4)
    (hys : m = 0 ∨ ∃ b o, a = some ⟨b, o, none⟩ ∧ ∀ j u, ys[j]? = some u → w.cell? ⟨b, o + j, none⟩ = some u) (h1 : ∀ u ∈ ys, u.oneCell' = true) (hb : (n + m) * 56 ≤ 140737488355328) :
    ∃ v' w', (Builtin.append_ #[23, 23] 23 #[v, .slice a m c]).run Tryd.prog w = .ok v' w' ∧ w'.ownsRow w0.heap.size 49 4 v' (n + m) (xs ++ ys) ∧ Ext [] w0 w' := by
  obtain ⟨i, hi0, hz0, hz1, hz2⟩ := info_parts info49
  have hlt := own_lt hown
  have fin : ∀ w', w.grownBy w' v.ownBlock → Ext [] w0 w' := fun w' hg => by
    have h2 := Ext.grown (S := v.ownBlock.toList) hg (by intro k hk; simp [hk])
    exact hE.on h2 (fun x hx => (hlt x (by simpa using hx)).1)
  rcases hys with rfl | ⟨b, o, rfl, hc⟩
  · obtain rfl : ys = [] := List.length_eq_zero_iff.1 (by simpa using hm)
    cases a with
    | none => exact ⟨v, w, run_append_none w w0.heap.size 23 23 49 i 4 Tryd.underlying23 hi0 v n xs hown c, by simpa using hown, hE⟩
    | some ad =>
      obtain ⟨v', w', hr, ho, hg, _⟩ := run_append_own (P := Tryd.prog) w w0.heap.size 23 23 49 i _ 4 56 Tryd.underlying23 hi0 hz0 hz1 hz2 rfl (by decide) v n xs hown ad 0 c [] (by simp) (by simp) (by simp) (by unfold maxLen; omega) hb hE.size
      exact ⟨v', w', hr, ho, fin w' hg⟩
  · obtain ⟨v', w', hr, ho, hg, _⟩ := run_append_own (P := Tryd.prog) w w0.heap.size 23 23 49 i _ 4 56 Tryd.underlying23 hi0 hz0 hz1 hz2 rfl (by decide) v n xs hown ⟨b, o, none⟩ m c ys (by omega) (fun j u hu => by
        rw [Addr.add_lit, hc j u hu]) h1 (by unfold maxLen; omega) hb hE.size
    exact ⟨v', w', hr, ho, fin w' hg⟩

end Go.Proofs.YtfabhhmeanpmhaaDoor
