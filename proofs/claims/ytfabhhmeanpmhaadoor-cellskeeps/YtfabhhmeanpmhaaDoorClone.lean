/-
  The program's clone: a copy with boxes of its own; no statement is proved here.
-/
import Derived.Test.YtfabhhmeanpmhaaDoorTree
namespace Go.Proofs.YtfabhhmeanpmhaaDoor
open Go.RowKit

/-- The first k cells of a row of n. -/
def Rw (w : World) (g n : Nat) (l : List Cl) (G : Nat → Option Addr × Nat) (k : Nat) : Prop :=
  ∃ cs : Array Value, w.heap[g]? = some (.cells cs 49 (0, 0)) ∧ cs.size = n * 4 ∧ ∀ i, i < k → ∀ j, j < 4 → cs[i * 4 + j]? = (clRow (cAt l i) (G i))[j]?
theorem Rw.keep {S : List Nat} {w w' : World} {g n k : Nat} {l : List Cl} {G : Nat → Option Addr × Nat} (h : Rw w g n l G k) (e : Ext S w w') (hg : g ∉ S) : Rw w' g n l G k := by
  obtain ⟨cs, h1, h2, h3⟩ := h
  exact ⟨cs, e.keep h1 hg, h2, h3⟩
theorem Rw.cell {w : World} {g n k : Nat} {l : List Cl} {G : Nat → Option Addr × Nat} (h : Rw w g n l G k) {i : Nat} (hi : i < n * 4) : ∃ v, w.cell? ⟨g, i, none⟩ = some v := by
  obtain ⟨cs, h1, h2, h3⟩ := h
  exact ⟨cs[i]'(by omega), by rw [cell_of_row _ _ _ _ _ _ h1]; simp [h2, hi]⟩
theorem Rw.frz {w : World} {g n k : Nat} {l : List Cl} {G : Nat → Option Addr × Nat} (h : Rw w g n l G k) (i : Nat) : w.frozen? ⟨g, i, none⟩ = false := by
  obtain ⟨cs, h1, h2, h3⟩ := h
  exact frozen_of_row _ _ _ _ _ h1
theorem Rw.put {w : World} {g n k : Nat} {l : List Cl} {G : Nat → Option Addr × Nat} (h : Rw w g n l G k) (hk : k < n) (a1 : Option Addr) (c1 : Nat) :
    Rw ((((w.setCell ⟨g, k * 4, none⟩ (.int .u64 (cAt l k).n)).setCell ⟨g, k * 4 + 1, none⟩ (.string (cAt l k).s)).setCell ⟨g, k * 4 + 2, none⟩ (.int .i64 (cAt l k).t)).setCell ⟨g, k * 4 + 3, none⟩ (.slice a1 (cAt l k).box.length c1)) g n l (fun i => if i = k then (a1, c1) else G i) (k + 1) := by
  obtain ⟨cs, h1, h2, h3⟩ := h
  have e1 := heap_setCell_same w g (k * 4) _ _ (.int .u64 (cAt l k).n) h1
  have e2 := heap_setCell_same _ g (k * 4 + 1) _ _ (.string (cAt l k).s) e1
  have e3 := heap_setCell_same _ g (k * 4 + 2) _ _ (.int .i64 (cAt l k).t) e2
  have e4 := heap_setCell_same _ g (k * 4 + 3) _ _ (.slice a1 (cAt l k).box.length c1) e3
  refine ⟨_, e4, by simp [h2], fun i hi j hj => ?_⟩
  by_cases e : i = k
  · subst e
    rcases (by omega : j = 0 ∨ j = 1 ∨ j = 2 ∨ j = 3) with rfl | rfl | rfl | rfl <;> simp [Array.getElem?_setIfInBounds, clRow, h2] <;> omega
  · simp only [e, if_false]
    rw [← h3 i (by omega) j hj]
    simp only [Array.getElem?_setIfInBounds]
    rw [if_neg (by omega), if_neg (by omega), if_neg (by omega), if_neg (by omega)]

theorem co_of_rw {P : Nat → Prop} {d : Nat} {w : World} {g n : Nat} {l : List Cl} {G : Nat → Option Addr × Nat} (h : Rw w g n l G n) (hB : Bx P d w l G n) (hn : l.length = n) (hl : n ≤ 2513169434843)
    (hr : ∀ i, i < n → Rg (cAt l i)) (hP : P g) : Co P (d + 1) w (some ⟨g, 0, none⟩) l := by
  subst hn
  obtain ⟨cs, h1, h2, h3⟩ := h
  refine ⟨hl, .inr ⟨g, cs, rfl, hP, h1, fun i hi => ⟨(G i).1, (G i).2, ?_, (hB i hi).2⟩⟩⟩
  have key : ∀ j v, j < 4 → (clRow (cAt l i) (G i))[j]? = some v → w.cell? ⟨g, 0 + i * 4 + j, none⟩ = some v := fun j v hj hv => by
    rw [Nat.zero_add, cell_of_row w g _ _ _ _ h1, h3 i hi j hj, hv]
  obtain ⟨r1, r2, r3⟩ := hr i hi
  exact ⟨key 0 _ (by omega) rfl, key 1 _ (by omega) rfl, key 2 _ (by omega) rfl, key 3 _ (by omega) rfl, (hB i hi).1, r1, r2, r3⟩

/-- A row of cells is made. -/
theorem mk_cells (w : World) (n : Nat) (hl : n ≤ 2513169434843) : (Instr.makeSlice 23 (.int .i64 (n : Int)) (.int .i64 (n : Int))).run Tryd.prog w = .ok (.slice (some ⟨w.heap.size, 0, none⟩) n n) (w.alloc (.cells (madeCells #[.int .u64 0, .string ⟨#[]⟩, .int .i64 0, .slice none 0 0] (n * 4)) 49)) := by
  obtain ⟨i, hi, hz, hs, hb⟩ := info_parts info49
  have := run_make (P := Tryd.prog) w 23 49 i _ Tryd.underlying23 hi hz .i64 .i64 n n (by omega) (by omega) (by rw [hb]; omega) (by omega)
  rw [hs] at this
  simpa [Value.cells] using this

set_option maxRecDepth 100000 in
set_option maxHeartbeats 4000000 in
theorem clone_any : ∀ (d : Nat) (a : Option Addr) (l : List Cl) (n c : Nat) (w : World), Cs d w a l → l.length = n → Calls Tryd.prog 44 #[.slice a n c] w (CpPost w d l n) := by
  intro d
  induction d with
  | zero =>
    intro a l n c w hC hn
    obtain rfl : l = [] := hC
    obtain rfl : n = 0 := by simpa using hn.symm
    go_enter Tryd.func44, Tryd.ntmps44
    go_wp2_with fail
    go_ret
    exact ⟨none, 0, rfl, Nat.le_refl _, Co.nil _ _ _ _, Ext.refl _ _⟩
  | succ d ih =>
    intro a l n c w hC hn
    by_cases hn0 : n = 0
    · subst hn0
      obtain rfl : l = [] := List.length_eq_zero_iff.1 hn
      clear hC ih
      go_enter Tryd.func44, Tryd.ntmps44
      go_wp2_with fail
      go_ret
      exact ⟨none, 0, rfl, Nat.le_refl _, Co.nil _ _ _ _, Ext.refl _ _⟩
    have HC := hid hC
    have HN := hid hn
    have hl := hC.len
    rw [hn] at hl
    have HR : Hid (∀ i, i < n → Rg (cAt l i)) := fun i hi => hC.rg (by omega)
    have HIH := hid ih
    have hmk := mk_cells w n hl
    have hn1 : ((n : Int) == 0) = false := by simp; omega
    have hn2 : ¬ ((n : Int) = 0) := by omega
    clear hC ih hn0
    go_enter Tryd.func44, Tryd.ntmps44
    go_wp2_with fail
    go_loopw [14] (fun u wr => ∃ k : Nat, ∃ G, u = .int .i64 k ∧ k ≤ n ∧ Rw wr w.heap.size n l G k ∧ Bx (fun b => w.heap.size < b) d wr l G k ∧ Ext [] w wr) (fun u _ => (n - (intOf u)).toNat)
    case atStart => exact ⟨0, fun _ => (none, 0), rfl, Nat.zero_le _, ⟨_, heap_alloc_new _ _, size_madeCells _ _, fun i hi => by omega⟩, fun i hi => by omega, Ext.alloc _ _ _⟩
    case round =>
      obtain ⟨k, G, rfl, hkn, hO, hB, hE⟩ := hrel
      have HO := hid hO
      have HB := hid hB
      have HE := hid hE
      clear hO hB hE
      by_cases hlt : k < n
      · obtain ⟨d1, b, o, hd, rfl, hat⟩ := (HC.out.keep0 HE.out).at_ (by rw [HN.out]; omega)
        obtain rfl : d1 = d := by omega
        obtain ⟨ba, bc, hcl, hbx⟩ := hat k (by rw [HN.out]; omega)
        have x0 := hcl.c0
        have x1 := hcl.c1
        have x2 := hcl.c2
        have x3 := hcl.c3
        have hE1 := Ext.alloc [] wr (.cells #[.int .u64 (cAt l k).n, .string (cAt l k).s, .int .i64 (cAt l k).t, .slice ba (cAt l k).box.length bc] 49)
        have K := HIH.out ba (cAt l k).box _ bc _ (hbx.keep0 hE1) rfl
        have hb1 := heap_alloc_new wr (.cells #[.int .u64 (cAt l k).n, .string (cAt l k).s, .int .i64 (cAt l k).t, .slice ba (cAt l k).box.length bc] 49)
        have HB1 := hid hb1
        have hgl : w.heap.size < wr.heap.size := by obtain ⟨cs, h1, _⟩ := HO.out; exact lt_of_heap h1
        have hgB : ¬ (w.heap.size = wr.heap.size) := by omega
        have hkn2 : (k : Int) < n := by omega
        clear hat hcl hbx hE1 hd hb1
        generalize hg : w.heap.size = g at *
        go_wp2_with (first
          | (go_at_call 44
             refine K.mono ?_
             rintro e w2 ⟨a1, c1, rfl, hac, hCo, hE2⟩
             have hb2 := hE2.keep HB1.out (by simp)
             have hE12 := (Ext.alloc [] wr (.cells #[.int .u64 (cAt l k).n, .string (cAt l k).s, .int .i64 (cAt l k).t, .slice ba (cAt l k).box.length bc] 49)).trans hE2
             have hO2 := HO.out.keep hE12 (by simp)
             have HO2 := hid hO2
             have HE12 := hid hE12
             have HCo := hid hCo
             have HAC := hid hac
             have e0 : w2.cell? ⟨wr.heap.size, 0, none⟩ = some (.int .u64 (cAt l k).n) := by rw [cell_of_row _ _ _ _ _ _ hb2]; rfl
             have e1 : w2.cell? ⟨wr.heap.size, 1, none⟩ = some (.string (cAt l k).s) := by rw [cell_of_row _ _ _ _ _ _ hb2]; rfl
             have e2 : w2.cell? ⟨wr.heap.size, 2, none⟩ = some (.int .i64 (cAt l k).t) := by rw [cell_of_row _ _ _ _ _ _ hb2]; rfl
             have e3 : w2.cell? ⟨wr.heap.size, 3, none⟩ = some (.slice ba (cAt l k).box.length bc) := by rw [cell_of_row _ _ _ _ _ _ hb2]; rfl
             have ef : ∀ i, w2.frozen? ⟨wr.heap.size, i, none⟩ = false := fun i => frozen_of_row _ _ i _ _ hb2
             obtain ⟨z0, q0⟩ := hO2.cell (i := k * 4) (by omega)
             obtain ⟨z1, q1⟩ := hO2.cell (i := k * 4 + 1) (by omega)
             obtain ⟨z2, q2⟩ := hO2.cell (i := k * 4 + 2) (by omega)
             obtain ⟨z3, q3⟩ := hO2.cell (i := k * 4 + 3) (by omega)
             have gf : ∀ i, w2.frozen? ⟨g, i, none⟩ = false := fun i => hO2.frz i
             clear hCo hE2 hb2 hO2 hac hE12))
        have hX : Ext [wr.heap.size, g] w2 (((((w2.setCell ⟨wr.heap.size, 3, none⟩ (.slice a1 (cAt l k).box.length c1)).setCell ⟨g, k * 4, none⟩ (.int .u64 (cAt l k).n)).setCell ⟨g, k * 4 + 1, none⟩ (.string (cAt l k).s)).setCell ⟨g, k * 4 + 2, none⟩ (.int .i64 (cAt l k).t)).setCell ⟨g, k * 4 + 3, none⟩ (.slice a1 (cAt l k).box.length c1)) :=
          ((((Ext.setCell _ _ _ _ (by simp)).trans (Ext.setCell _ _ _ _ (by simp))).trans (Ext.setCell _ _ _ _ (by simp))).trans (Ext.setCell _ _ _ _ (by simp))).trans (Ext.setCell _ _ _ _ (by simp))
        refine ⟨⟨k + 1, fun i => if i = k then (a1, c1) else G i, by go_num, by omega, (HO2.out.keep (Ext.setCell [wr.heap.size] _ _ _ (by simp)) (by simpa using hgB)).put hlt a1 c1, fun i hi => ?_, (HE.out.trans HE12.out).on hX (by simp; omega)⟩, by simp [intOf]; omega⟩
        have hfin : ∀ (a : Option Addr) (b : List Cl), Co (fun b => g < b ∧ b ≠ wr.heap.size) d1 w2 a b → Co (fun b => g < b) d1 _ a b := fun a b hb => (hb.keep hX (by simp)).imp (fun b _ hp => hp.1)
        by_cases e : i = k
        · subst e
          simp only [if_true]
          refine ⟨HAC.out, hfin _ _ (HCo.out.imp fun b _ hp => ?_)⟩
          simp only [World.size_alloc] at hp
          exact ⟨by omega, by omega⟩
        · simp only [e, if_false]
          obtain ⟨h1, h2⟩ := HB.out i (by omega)
          refine ⟨h1, hfin _ _ ?_⟩
          exact (h2.imp (Q := fun b => g < b ∧ b ≠ wr.heap.size) (fun b hlt hp => ⟨hp, by omega⟩)).keep0 HE12.out
      · obtain rfl : k = n := by omega
        go_wp2_with fail
        go_ret
        exact ⟨some ⟨w.heap.size, 0, none⟩, k, rfl, Nat.le_refl _, co_of_rw (P := fun b => w.heap.size ≤ b) HO.out (fun i hi => ⟨(HB.out i hi).1, (HB.out i hi).2.imp fun b _ hp => by omega⟩) HN.out hl HR.out (Nat.le_refl _), HE.out⟩

end Go.Proofs.YtfabhhmeanpmhaaDoor
