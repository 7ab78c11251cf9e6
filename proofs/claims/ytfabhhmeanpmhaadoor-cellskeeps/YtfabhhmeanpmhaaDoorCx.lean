/-
  Copies whose rooms are just as long as they are: clone, Part and Put; no statement is proved here.
-/
import Derived.Test.YtfabhhmeanpmhaaDoorPrK
namespace Go.Proofs.YtfabhhmeanpmhaaDoor
open Go.RowKit

/-- A list of cells in a row of its own and of its own length, its boxes likewise, all of them in blocks with P. -/
def Cx (P : Nat → Prop) : Nat → World → Option Addr → List Cl → Prop
  | 0, _, _, l => l = []
  | d + 1, w, a, l => l.length ≤ 2513169434843 ∧ (l = [] ∨ ∃ b cs, a = some ⟨b, 0, none⟩ ∧ P b ∧ w.heap[b]? = some (.cells cs 49 (0, 0)) ∧ cs.size = l.length * 4 ∧ ∀ i, i < l.length → ∃ ba, ClAt w b (0 + i * 4) (cAt l i) ba (cAt l i).box.length ∧ Cx P d w ba (cAt l i).box)
theorem Cx.nil (P : Nat → Prop) (d : Nat) (w : World) (a : Option Addr) : Cx P d w a [] := by
  cases d with
  | zero => rfl
  | succ d => exact ⟨by simp, .inl rfl⟩
theorem Cx.co {P : Nat → Prop} : ∀ {d : Nat} {w : World} {a : Option Addr} {l : List Cl}, Cx P d w a l → Co P d w a l
  | 0, _, _, _, h => h
  | d + 1, w, a, l, h => by
    rcases h with ⟨hl, h | ⟨b, cs, rfl, h1, h2, _, h⟩⟩
    · exact ⟨hl, .inl h⟩
    · refine ⟨hl, .inr ⟨b, cs, rfl, h1, h2, fun i hi => ?_⟩⟩
      obtain ⟨ba, hc, hb⟩ := h i hi
      exact ⟨ba, _, hc, hb.co⟩
theorem Cx.keep {P : Nat → Prop} {S : List Nat} : ∀ {d : Nat} {w w' : World} {a : Option Addr} {l : List Cl}, Cx P d w a l → Ext S w w' → (∀ b ∈ S, ¬ P b) → Cx P d w' a l
  | 0, _, _, _, _, h, _, _ => h
  | d + 1, w, w', a, l, h, e, hs => by
    rcases h with ⟨hl, h | ⟨b, cs, rfl, hp, hr, hz, h⟩⟩
    · exact ⟨hl, .inl h⟩
    · have hb : b ∉ S := fun hm => hs b hm hp
      refine ⟨hl, .inr ⟨b, cs, rfl, hp, e.keep hr hb, hz, fun i hi => ?_⟩⟩
      obtain ⟨ba, hc, hx⟩ := h i hi
      exact ⟨ba, hc.keep e hb, hx.keep e hs⟩
theorem Cx.keep0 {P : Nat → Prop} {d : Nat} {w w' : World} {a : Option Addr} {l : List Cl} (h : Cx P d w a l) (e : Ext [] w w') : Cx P d w' a l := h.keep e (by simp)
theorem Cx.imp {P Q : Nat → Prop} : ∀ {d : Nat} {w : World} {a : Option Addr} {l : List Cl}, Cx P d w a l → (∀ b, b < w.heap.size → P b → Q b) → Cx Q d w a l
  | 0, _, _, _, h, _ => h
  | d + 1, w, a, l, h, hq => by
    rcases h with ⟨hl, h | ⟨b, cs, rfl, hp, hr, hz, h⟩⟩
    · exact ⟨hl, .inl h⟩
    · refine ⟨hl, .inr ⟨b, cs, rfl, hq b (lt_of_heap hr) hp, hr, hz, fun i hi => ?_⟩⟩
      obtain ⟨ba, hc, hx⟩ := h i hi
      exact ⟨ba, hc, hx.imp hq⟩
def Bxx (P : Nat → Prop) (d : Nat) (w : World) (l : List Cl) (G : Nat → Option Addr × Nat) (k : Nat) : Prop := ∀ i, i < k → (cAt l i).box.length = (G i).2 ∧ Cx P d w (G i).1 (cAt l i).box

theorem cx_of_rw {P : Nat → Prop} {d : Nat} {w : World} {g n : Nat} {l : List Cl} {G : Nat → Option Addr × Nat} (h : Rw w g n l G n) (hB : Bxx P d w l G n) (hn : l.length = n) (hl : n ≤ 2513169434843)
    (hr : ∀ i, i < n → Rg (cAt l i)) (hP : P g) : Cx P (d + 1) w (some ⟨g, 0, none⟩) l := by
  subst hn
  obtain ⟨cs, h1, h2, h3⟩ := h
  refine ⟨hl, .inr ⟨g, cs, rfl, hP, h1, h2, fun i hi => ⟨(G i).1, ?_, (hB i hi).2⟩⟩⟩
  have key : ∀ j v, j < 4 → (clRow (cAt l i) (G i))[j]? = some v → w.cell? ⟨g, 0 + i * 4 + j, none⟩ = some v := fun j v hj hv => by
    rw [Nat.zero_add, cell_of_row w g _ _ _ _ h1, h3 i hi j hj, hv]
  obtain ⟨r1, r2, r3⟩ := hr i hi
  exact ⟨key 0 _ (by omega) rfl, key 1 _ (by omega) rfl, key 2 _ (by omega) rfl, key 3 _ (by omega) (by rw [show (clRow (cAt l i) (G i))[3]? = some (.slice (G i).1 (cAt l i).box.length (G i).2) from rfl, ← (hB i hi).1]), Nat.le_refl _, r1, r2, r3⟩


def CpPostX (w : World) (d : Nat) (l : List Cl) (n : Nat) (e : Ending) (w' : World) : Prop :=
  ∃ a c, e = .returned (.slice a n c) ∧ n = c ∧ Cx (fun b => w.heap.size ≤ b) d w' a l ∧ Ext [] w w'

set_option maxRecDepth 100000 in
set_option maxHeartbeats 4000000 in
theorem clone_anyX : ∀ (d : Nat) (a : Option Addr) (l : List Cl) (n c : Nat) (w : World), Cs d w a l → l.length = n → Calls Tryd.prog 44 #[.slice a n c] w (CpPostX w d l n) := by
  intro d
  induction d with
  | zero =>
    intro a l n c w hC hn
    obtain rfl : l = [] := hC
    obtain rfl : n = 0 := by simpa using hn.symm
    go_enter Tryd.func44, Tryd.ntmps44
    go_wp2_with fail
    go_ret
    exact ⟨none, 0, rfl, rfl, Cx.nil _ _ _ _, Ext.refl _ _⟩
  | succ d ih =>
    intro a l n c w hC hn
    by_cases hn0 : n = 0
    · subst hn0
      obtain rfl : l = [] := List.length_eq_zero_iff.1 hn
      clear hC ih
      go_enter Tryd.func44, Tryd.ntmps44
      go_wp2_with fail
      go_ret
      exact ⟨none, 0, rfl, rfl, Cx.nil _ _ _ _, Ext.refl _ _⟩
    have HC := hid hC
    have HN := hid hn
    have hl := hC.len
    rw [hn] at hl
    have HR : Hid (∀ i, i < n → Rg (cAt l i)) := fun i hi => hC.rg (by omega)
    have HIH := hid ih
    have hmk := mk_cells w n hl
    have hn1 : ((n : Int) == 0) = false := by simp; omega
    have hn2 : ¬ ((n : Int) = 0) := by omega
    clear hC ih hn0
    go_enter Tryd.func44, Tryd.ntmps44
    go_wp2_with fail
    go_loopw [14] (fun u wr => ∃ k : Nat, ∃ G, u = .int .i64 k ∧ k ≤ n ∧ Rw wr w.heap.size n l G k ∧ Bxx (fun b => w.heap.size < b) d wr l G k ∧ Ext [] w wr) (fun u _ => (n - (intOf u)).toNat)
    case atStart => exact ⟨0, fun _ => (none, 0), rfl, Nat.zero_le _, ⟨_, heap_alloc_new _ _, size_madeCells _ _, fun i hi => by omega⟩, fun i hi => by omega, Ext.alloc _ _ _⟩
    case round =>
      obtain ⟨k, G, rfl, hkn, hO, hB, hE⟩ := hrel
      have HO := hid hO
      have HB := hid hB
      have HE := hid hE
      clear hO hB hE
      by_cases hlt : k < n
      · obtain ⟨d1, b, o, hd, rfl, hat⟩ := (HC.out.keep0 HE.out).at_ (by rw [HN.out]; omega)
        obtain rfl : d1 = d := by omega
        obtain ⟨ba, bc, hcl, hbx⟩ := hat k (by rw [HN.out]; omega)
        have x0 := hcl.c0
        have x1 := hcl.c1
        have x2 := hcl.c2
        have x3 := hcl.c3
        have hE1 := Ext.alloc [] wr (.cells #[.int .u64 (cAt l k).n, .string (cAt l k).s, .int .i64 (cAt l k).t, .slice ba (cAt l k).box.length bc] 49)
        have K := HIH.out ba (cAt l k).box _ bc _ (hbx.keep0 hE1) rfl
        have hb1 := heap_alloc_new wr (.cells #[.int .u64 (cAt l k).n, .string (cAt l k).s, .int .i64 (cAt l k).t, .slice ba (cAt l k).box.length bc] 49)
        have HB1 := hid hb1
        have hgl : w.heap.size < wr.heap.size := by obtain ⟨cs, h1, _⟩ := HO.out; exact lt_of_heap h1
        have hgB : ¬ (w.heap.size = wr.heap.size) := by omega
        have hkn2 : (k : Int) < n := by omega
        clear hat hcl hbx hE1 hd hb1
        generalize hg : w.heap.size = g at *
        go_wp2_with (first
          | (go_at_call 44
             refine K.mono ?_
             rintro e w2 ⟨a1, c1, rfl, hac, hCo, hE2⟩
             have hb2 := hE2.keep HB1.out (by simp)
             have hE12 := (Ext.alloc [] wr (.cells #[.int .u64 (cAt l k).n, .string (cAt l k).s, .int .i64 (cAt l k).t, .slice ba (cAt l k).box.length bc] 49)).trans hE2
             have hO2 := HO.out.keep hE12 (by simp)
             have HO2 := hid hO2
             have HE12 := hid hE12
             have HCo := hid hCo
             have HAC := hid hac
             have e0 : w2.cell? ⟨wr.heap.size, 0, none⟩ = some (.int .u64 (cAt l k).n) := by rw [cell_of_row _ _ _ _ _ _ hb2]; rfl
             have e1 : w2.cell? ⟨wr.heap.size, 1, none⟩ = some (.string (cAt l k).s) := by rw [cell_of_row _ _ _ _ _ _ hb2]; rfl
             have e2 : w2.cell? ⟨wr.heap.size, 2, none⟩ = some (.int .i64 (cAt l k).t) := by rw [cell_of_row _ _ _ _ _ _ hb2]; rfl
             have e3 : w2.cell? ⟨wr.heap.size, 3, none⟩ = some (.slice ba (cAt l k).box.length bc) := by rw [cell_of_row _ _ _ _ _ _ hb2]; rfl
             have ef : ∀ i, w2.frozen? ⟨wr.heap.size, i, none⟩ = false := fun i => frozen_of_row _ _ i _ _ hb2
             obtain ⟨z0, q0⟩ := hO2.cell (i := k * 4) (by omega)
             obtain ⟨z1, q1⟩ := hO2.cell (i := k * 4 + 1) (by omega)
             obtain ⟨z2, q2⟩ := hO2.cell (i := k * 4 + 2) (by omega)
             obtain ⟨z3, q3⟩ := hO2.cell (i := k * 4 + 3) (by omega)
             have gf : ∀ i, w2.frozen? ⟨g, i, none⟩ = false := fun i => hO2.frz i
             clear hCo hE2 hb2 hO2 hac hE12))
        have hX : Ext [wr.heap.size, g] w2 (((((w2.setCell ⟨wr.heap.size, 3, none⟩ (.slice a1 (cAt l k).box.length c1)).setCell ⟨g, k * 4, none⟩ (.int .u64 (cAt l k).n)).setCell ⟨g, k * 4 + 1, none⟩ (.string (cAt l k).s)).setCell ⟨g, k * 4 + 2, none⟩ (.int .i64 (cAt l k).t)).setCell ⟨g, k * 4 + 3, none⟩ (.slice a1 (cAt l k).box.length c1)) :=
          ((((Ext.setCell _ _ _ _ (by simp)).trans (Ext.setCell _ _ _ _ (by simp))).trans (Ext.setCell _ _ _ _ (by simp))).trans (Ext.setCell _ _ _ _ (by simp))).trans (Ext.setCell _ _ _ _ (by simp))
        refine ⟨⟨k + 1, fun i => if i = k then (a1, c1) else G i, by go_num, by omega, (HO2.out.keep (Ext.setCell [wr.heap.size] _ _ _ (by simp)) (by simpa using hgB)).put hlt a1 c1, fun i hi => ?_, (HE.out.trans HE12.out).on hX (by simp; omega)⟩, by simp [intOf]; omega⟩
        have hfin : ∀ (a : Option Addr) (b : List Cl), Cx (fun b => g < b ∧ b ≠ wr.heap.size) d1 w2 a b → Cx (fun b => g < b) d1 _ a b := fun a b hb => (hb.keep hX (by simp)).imp (fun b _ hp => hp.1)
        by_cases e : i = k
        · subst e
          simp only [if_true]
          refine ⟨HAC.out, hfin _ _ (HCo.out.imp fun b _ hp => ?_)⟩
          simp only [World.size_alloc] at hp
          exact ⟨by omega, by omega⟩
        · simp only [e, if_false]
          obtain ⟨h1, h2⟩ := HB.out i (by omega)
          refine ⟨h1, hfin _ _ ?_⟩
          exact (h2.imp (Q := fun b => g < b ∧ b ≠ wr.heap.size) (fun b hlt hp => ⟨hp, by omega⟩)).keep0 HE12.out
      · obtain rfl : k = n := by omega
        go_wp2_with fail
        go_ret
        exact ⟨some ⟨w.heap.size, 0, none⟩, k, rfl, rfl, cx_of_rw (P := fun b => w.heap.size ≤ b) HO.out (fun i hi => ⟨(HB.out i hi).1, (HB.out i hi).2.imp fun b _ hp => by omega⟩) HN.out hl HR.out (Nat.le_refl _), HE.out⟩

def RwPostX (w : World) (d : Nat) (l : List Cl) (n : Nat) (e : Ending) (w' : World) : Prop :=
  ∃ g G, e = .returned (.slice (some ⟨g, 0, none⟩) n n) ∧ Rw w' g n l G n ∧ Bxx (fun b => w.heap.size ≤ b ∧ b ≠ g) d w' l G n ∧ w.heap.size ≤ g ∧ Ext [] w w'

set_option maxRecDepth 100000 in
set_option maxHeartbeats 4000000 in
theorem clone_rowX (d : Nat) (a : Option Addr) (l : List Cl) (n c : Nat) (w : World) (hC : Cs (d + 1) w a l) (hn : l.length = n) (hn0 : n ≠ 0) : Calls Tryd.prog 44 #[.slice a n c] w (RwPostX w d l n) := by
    have HC := hid hC
    have HN := hid hn
    have hl := hC.len
    rw [hn] at hl
    have HIH := hid (clone_anyX d)
    have hmk := mk_cells w n hl
    have hn1 : ((n : Int) == 0) = false := by simp; omega
    have hn2 : ¬ ((n : Int) = 0) := by omega
    clear hC hn0
    go_enter Tryd.func44, Tryd.ntmps44
    go_wp2_with fail
    go_loopw [14] (fun u wr => ∃ k : Nat, ∃ G, u = .int .i64 k ∧ k ≤ n ∧ Rw wr w.heap.size n l G k ∧ Bxx (fun b => w.heap.size < b) d wr l G k ∧ Ext [] w wr) (fun u _ => (n - (intOf u)).toNat)
    case atStart => exact ⟨0, fun _ => (none, 0), rfl, Nat.zero_le _, ⟨_, heap_alloc_new _ _, size_madeCells _ _, fun i hi => by omega⟩, fun i hi => by omega, Ext.alloc _ _ _⟩
    case round =>
      obtain ⟨k, G, rfl, hkn, hO, hB, hE⟩ := hrel
      have HO := hid hO
      have HB := hid hB
      have HE := hid hE
      clear hO hB hE
      by_cases hlt : k < n
      · obtain ⟨d1, b, o, hd, rfl, hat⟩ := (HC.out.keep0 HE.out).at_ (by rw [HN.out]; omega)
        obtain rfl : d1 = d := by omega
        obtain ⟨ba, bc, hcl, hbx⟩ := hat k (by rw [HN.out]; omega)
        have x0 := hcl.c0
        have x1 := hcl.c1
        have x2 := hcl.c2
        have x3 := hcl.c3
        have hE1 := Ext.alloc [] wr (.cells #[.int .u64 (cAt l k).n, .string (cAt l k).s, .int .i64 (cAt l k).t, .slice ba (cAt l k).box.length bc] 49)
        have K := HIH.out ba (cAt l k).box _ bc _ (hbx.keep0 hE1) rfl
        have hb1 := heap_alloc_new wr (.cells #[.int .u64 (cAt l k).n, .string (cAt l k).s, .int .i64 (cAt l k).t, .slice ba (cAt l k).box.length bc] 49)
        have HB1 := hid hb1
        have hgl : w.heap.size < wr.heap.size := by obtain ⟨cs, h1, _⟩ := HO.out; exact lt_of_heap h1
        have hgB : ¬ (w.heap.size = wr.heap.size) := by omega
        have hkn2 : (k : Int) < n := by omega
        clear hat hcl hbx hE1 hd hb1
        generalize hg : w.heap.size = g at *
        go_wp2_with (first
          | (go_at_call 44
             refine K.mono ?_
             rintro e w2 ⟨a1, c1, rfl, hac, hCo, hE2⟩
             have hb2 := hE2.keep HB1.out (by simp)
             have hE12 := (Ext.alloc [] wr (.cells #[.int .u64 (cAt l k).n, .string (cAt l k).s, .int .i64 (cAt l k).t, .slice ba (cAt l k).box.length bc] 49)).trans hE2
             have hO2 := HO.out.keep hE12 (by simp)
             have HO2 := hid hO2
             have HE12 := hid hE12
             have HCo := hid hCo
             have HAC := hid hac
             have e0 : w2.cell? ⟨wr.heap.size, 0, none⟩ = some (.int .u64 (cAt l k).n) := by rw [cell_of_row _ _ _ _ _ _ hb2]; rfl
             have e1 : w2.cell? ⟨wr.heap.size, 1, none⟩ = some (.string (cAt l k).s) := by rw [cell_of_row _ _ _ _ _ _ hb2]; rfl
             have e2 : w2.cell? ⟨wr.heap.size, 2, none⟩ = some (.int .i64 (cAt l k).t) := by rw [cell_of_row _ _ _ _ _ _ hb2]; rfl
             have e3 : w2.cell? ⟨wr.heap.size, 3, none⟩ = some (.slice ba (cAt l k).box.length bc) := by rw [cell_of_row _ _ _ _ _ _ hb2]; rfl
             have ef : ∀ i, w2.frozen? ⟨wr.heap.size, i, none⟩ = false := fun i => frozen_of_row _ _ i _ _ hb2
             obtain ⟨z0, q0⟩ := hO2.cell (i := k * 4) (by omega)
             obtain ⟨z1, q1⟩ := hO2.cell (i := k * 4 + 1) (by omega)
             obtain ⟨z2, q2⟩ := hO2.cell (i := k * 4 + 2) (by omega)
             obtain ⟨z3, q3⟩ := hO2.cell (i := k * 4 + 3) (by omega)
             have gf : ∀ i, w2.frozen? ⟨g, i, none⟩ = false := fun i => hO2.frz i
             clear hCo hE2 hb2 hO2 hac hE12))
        have hX : Ext [wr.heap.size, g] w2 (((((w2.setCell ⟨wr.heap.size, 3, none⟩ (.slice a1 (cAt l k).box.length c1)).setCell ⟨g, k * 4, none⟩ (.int .u64 (cAt l k).n)).setCell ⟨g, k * 4 + 1, none⟩ (.string (cAt l k).s)).setCell ⟨g, k * 4 + 2, none⟩ (.int .i64 (cAt l k).t)).setCell ⟨g, k * 4 + 3, none⟩ (.slice a1 (cAt l k).box.length c1)) :=
          ((((Ext.setCell _ _ _ _ (by simp)).trans (Ext.setCell _ _ _ _ (by simp))).trans (Ext.setCell _ _ _ _ (by simp))).trans (Ext.setCell _ _ _ _ (by simp))).trans (Ext.setCell _ _ _ _ (by simp))
        refine ⟨⟨k + 1, fun i => if i = k then (a1, c1) else G i, by go_num, by omega, (HO2.out.keep (Ext.setCell [wr.heap.size] _ _ _ (by simp)) (by simpa using hgB)).put hlt a1 c1, fun i hi => ?_, (HE.out.trans HE12.out).on hX (by simp; omega)⟩, by simp [intOf]; omega⟩
        have hfin : ∀ (a : Option Addr) (b : List Cl), Cx (fun b => g < b ∧ b ≠ wr.heap.size) d1 w2 a b → Cx (fun b => g < b) d1 _ a b := fun a b hb => (hb.keep hX (by simp)).imp (fun b _ hp => hp.1)
        by_cases e : i = k
        · subst e
          simp only [if_true]
          refine ⟨HAC.out, hfin _ _ (HCo.out.imp fun b _ hp => ?_)⟩
          simp only [World.size_alloc] at hp
          exact ⟨by omega, by omega⟩
        · simp only [e, if_false]
          obtain ⟨h1, h2⟩ := HB.out i (by omega)
          refine ⟨h1, hfin _ _ ?_⟩
          exact (h2.imp (Q := fun b => g < b ∧ b ≠ wr.heap.size) (fun b hlt hp => ⟨hp, by omega⟩)).keep0 HE12.out
      · obtain rfl : k = n := by omega
        go_wp2_with fail
        go_ret
        exact ⟨w.heap.size, G, rfl, HO.out, fun i hi => ⟨(HB.out i hi).1, (HB.out i hi).2.imp fun b _ hp => ⟨by omega, by omega⟩⟩, Nat.le_refl _, HE.out⟩


def QPostX (w : World) (d : Nat) (l : List Cl) (err : Int) (e : Ending) (w' : World) : Prop :=
  ∃ a c, e = .returned (.tuple #[.slice a l.length c, .int .i64 err]) ∧ l.length = c ∧ Cx (fun b => w.heap.size ≤ b) d w' a l ∧ Ext [] w w'


set_option maxRecDepth 100000 in
set_option maxHeartbeats 400000 in
theorem part_badX (ts : List Ty) (ta : Option Addr) (tn tc : Nat) (htn : ts.length = tn) (hc : tn ≤ tc) (d : Nat) (t i : Int) (a : Option Addr) (l : List Cl) (n c : Nat) (w : World) (hC : Cs d w a l) (hn : l.length = n) (hT : TabC w ta ts) (hG : Gl w) (hb : fchk ts d t l i ≠ 0) :
    Calls Tryd.prog 21 #[.slice ta tn tc, .int .i64 t, .slice a n c, .int .i64 i] w (QPostX w d [] (fchk ts d t l i)) := by
  have K := find_bad ts ta tn tc htn hc d t i a l n c w hC hn hT hG hb
  have hb2 : (fchk ts d t l i != 0) = true := by simpa using hb
  generalize fchk ts d t l i = er at *
  clear hC hT hG
  go_enter Tryd.func21, Tryd.ntmps21
  go_wp2_with (go_at_call 43; refine K.mono ?_; rintro e w1 ⟨rfl, hE1⟩)
  go_ret2
  exact ⟨none, 0, rfl, rfl, Cx.nil _ _ _ _, hE1.trans (Ext.alloc _ _ _)⟩

set_option maxRecDepth 100000 in
set_option maxHeartbeats 400000 in
theorem part_okX (ts : List Ty) (ta : Option Addr) (tn tc : Nat) (htn : ts.length = tn) (hc : tn ≤ tc) (d q ii : Nat) (a : Option Addr) (l : List Cl) (n c : Nat) (w : World) (hC : Cs d w a l) (hn : l.length = n) (hnc : n ≤ c) (hT : TabC w ta ts) (hG : Gl w) (hv : vchk ts d q l = 0) (hi : ii < (parts (tyAt ts q)).length) :
    Calls Tryd.prog 21 #[.slice ta tn tc, .int .i64 q, .slice a n c, .int .i64 ii] w (QPostX w d (partL ts q l ii) 0) := by
  have K := find_ok ts ta tn tc htn hc d q ii a l n c w hC hn hT hG hv hi
  obtain ⟨o1, o2, o3, o4, o5, o6⟩ := offs_facts hv hi
  rw [o1, o2] at K
  obtain ⟨d', b, o, hd, rfl, _⟩ := hC.at_ o5
  have hsub := hC.sub (Nat.le_of_lt o3) o4
  have K2 := fun u (hu : Ext [] w u) => clone_anyX d (some ⟨b, o + pb ts q ii * 4, none⟩) (partL ts q l ii) (pb ts q (ii + 1) - pb ts q ii) (c - pb ts q ii) u (hsub.keep0 hu) o6
  have HO6 := hid o6
  generalize partL ts q l ii = pl at *
  generalize (parts (tyAt ts q)).getD ii 0 = kp at *
  generalize pb ts q ii = bg at *
  generalize pb ts q (ii + 1) = en at *
  have h1 : (bg : Int) ≤ en := by omega
  have h2 : (en : Int) ≤ c := by omega
  have h3 : bg < c := by omega
  have h4 : ¬ c = bg := by omega
  have h5 : ¬ c - bg = 0 := by omega
  clear hC hT hG hv hi hsub hd o1 o2 o6
  go_enter Tryd.func21, Tryd.ntmps21
  go_wp2_with (first | (go_at_call 43; refine K.mono ?_; rintro e w1 ⟨rfl, hE1⟩; have HE2 := hid (hE1.trans (Ext.alloc [] w1 (.cells #[.int .i64 kp, .int .i64 (bg : Int), .int .i64 (en : Int)] 72))); clear hE1) | (go_at_call 44; refine (K2 _ HE2.out).mono ?_; rintro e w2 ⟨a2, c2, rfl, hc2, hCo, hE3⟩; have HC2 := hid hc2; clear hc2))
  go_ret2
  rw [← HO6.out] at *
  exact ⟨a2, c2, rfl, HC2.out, hCo.imp fun x _ hx => Nat.le_trans HE2.out.size hx, HE2.out.trans hE3⟩

set_option maxRecDepth 100000 in
set_option maxHeartbeats 400000 in
theorem put_badX (ts : List Ty) (ta : Option Addr) (tn tc : Nat) (htn : ts.length = tn) (hc : tn ≤ tc) (d : Nat) (t i : Int) (a : Option Addr) (l : List Cl) (n c : Nat) (x : Value) (w : World) (hC : Cs d w a l) (hn : l.length = n) (hT : TabC w ta ts) (hG : Gl w) (hb : fchk ts d t l i ≠ 0) :
    Calls Tryd.prog 23 #[.slice ta tn tc, .int .i64 t, .slice a n c, .int .i64 i, x] w (QPostX w d [] (fchk ts d t l i)) := by
  have K := find_bad ts ta tn tc htn hc d t i a l n c w hC hn hT hG hb
  have hb2 : (fchk ts d t l i != 0) = true := by simpa using hb
  generalize fchk ts d t l i = er at *
  clear hC hT hG
  go_enter Tryd.func23, Tryd.ntmps23
  go_wp2_with (go_at_call 43; refine K.mono ?_; rintro e w1 ⟨rfl, hE1⟩)
  go_ret2
  exact ⟨none, 0, rfl, rfl, Cx.nil _ _ _ _, hE1.trans (Ext.alloc _ _ _)⟩

set_option maxRecDepth 100000 in
set_option maxHeartbeats 400000 in
theorem put_formX (ts : List Ty) (ta : Option Addr) (tn tc : Nat) (htn : ts.length = tn) (hc : tn ≤ tc) (d q ii : Nat) (a : Option Addr) (l : List Cl) (n c : Nat) (am : Option Addr) (m : List Cl) (mn mc : Nat) (w : World) (hC : Cs d w a l) (hn : l.length = n) (hM : Cs d w am m) (hmn : m.length = mn) (hT : TabC w ta ts) (hG : Gl w) (hv : vchk ts d q l = 0) (hi : ii < (parts (tyAt ts q)).length) (hb : ¬ OkV ts d (pk ts q ii) m) :
    Calls Tryd.prog 23 #[.slice ta tn tc, .int .i64 q, .slice a n c, .int .i64 ii, .slice am mn mc] w (QPostX w d [] 1) := by
  have K := find_ok ts ta tn tc htn hc d q ii a l n c w hC hn hT hG hv hi
  obtain ⟨o1, o2, o3, o4, o5, o6⟩ := offs_facts hv hi
  obtain ⟨p1, p2, p3⟩ := pk_facts hv hi
  obtain ⟨hS, h0, h1⟩ := bad_zero (vchk_zero hv).1
  rw [o1, o2, p1] at K
  have K2 := fun u (hu : Ext [] w u) => test_no (psound_any ts ta tn tc htn hS d (pk ts q ii) am m mn mc u (by omega) (hM.keep0 hu) hmn (hT.tab.keep0 hu)) hb
  generalize pk ts q ii = kp at *
  generalize pb ts q ii = bg at *
  generalize pb ts q (ii + 1) = en at *
  clear hC hT hG hv hi hM hb o1 o2 o3 o4 o5 o6 p1 p2 p3 hS h0 h1
  go_enter Tryd.func23, Tryd.ntmps23
  go_wp2_with (first | (go_at_call 43; refine K.mono ?_; rintro e w1 ⟨rfl, hE1⟩; have HE2 := hid (hE1.trans (Ext.alloc [] w1 (.cells #[.int .i64 kp, .int .i64 (bg : Int), .int .i64 (en : Int)] 72))); clear hE1) | (go_at_call 28; refine (K2 _ HE2.out).mono ?_; rintro e w2 ⟨rfl, hE3⟩))
  go_ret2
  exact ⟨none, 0, rfl, rfl, Cx.nil _ _ _ _, HE2.out.trans hE3⟩

theorem put_finX {w w5 w6 : World} {g1 n bg d : Nat} {l m : List Cl} {G1 G2 : Nat → Option Addr × Nat} {cs : List Value} (hn : l.length = n) (hb : bg + m.length ≤ n) (hE5 : Ext [] w w5) (hg1 : w.heap.size ≤ g1) (hg5 : g1 < w5.heap.size)
    (hB1 : Bxx (fun b => w.heap.size ≤ b ∧ b ≠ g1) d w5 l G1 n) (hE6 : Ext [] w5 w6) (hB2 : Bxx (fun b => w5.heap.size ≤ b) d w6 m G2 m.length)
    (hRw : Rw (w6.setRow g1 cs.toArray) g1 n (putIn l m bg) (fun i => if i < bg then G1 i else if i < bg + m.length then G2 (i - bg) else G1 i) n) (hl : n ≤ 2513169434843) (hrl : ∀ i, i < l.length → Rg (cAt l i)) (hrm : ∀ i, i < m.length → Rg (cAt m i)) :
    Cx (fun b => w.heap.size ≤ b) (d + 1) (w6.setRow g1 cs.toArray) (some ⟨g1, 0, none⟩) (putIn l m bg) ∧ Ext [] w (w6.setRow g1 cs.toArray) := by
  have hX : Ext [g1] w6 (w6.setRow g1 cs.toArray) := Ext.setRow _ _ _ _ (by simp)
  have hfin : ∀ (a : Option Addr) (b : List Cl), Cx (fun b => w.heap.size ≤ b ∧ b ≠ g1) d w6 a b → Cx (fun b => w.heap.size ≤ b) d (w6.setRow g1 cs.toArray) a b := fun a b h => (h.keep hX (by simp)).imp fun b _ hp => hp.1
  have h5 := hE5.size
  refine ⟨cx_of_rw hRw (fun i hi => ?_) (by rw [putIn_len (by omega), hn]) hl (fun i hi => ?_) hg1, (hE5.trans hE6).on hX (by simpa using hg1)⟩
  · skip
    by_cases e1 : i < bg
    · rw [putIn_lo (by omega) e1, if_pos e1]
      exact ⟨(hB1 i hi).1, hfin _ _ ((hB1 i hi).2.keep0 hE6)⟩
    · rw [if_neg e1]
      by_cases e2 : i < bg + m.length
      · rw [putIn_mid (by omega) (by omega) e2, if_pos e2]
        exact ⟨(hB2 (i - bg) (by omega)).1, hfin _ _ ((hB2 (i - bg) (by omega)).2.imp fun b _ hp => ⟨by omega, by omega⟩)⟩
      · rw [putIn_hi (by omega) (by omega), if_neg e2]
        exact ⟨(hB1 i hi).1, hfin _ _ ((hB1 i hi).2.keep0 hE6)⟩
  · by_cases e1 : i < bg
    · rw [putIn_lo (by omega) e1]; exact hrl i (by omega)
    · by_cases e2 : i < bg + m.length
      · rw [putIn_mid (by omega) (by omega) e2]; exact hrm _ (by omega)
      · rw [putIn_hi (by omega) (by omega)]; exact hrl i (by omega)

set_option maxRecDepth 100000 in
set_option maxHeartbeats 4000000 in
theorem put_restX (ts : List Ty) (ta : Option Addr) (tn tc : Nat) (htn : ts.length = tn) (hc : tn ≤ tc) (d q ii : Nat) (a : Option Addr) (l : List Cl) (n c : Nat) (am : Option Addr) (m : List Cl) (mn mc : Nat) (w : World) (hC : Cs d w a l) (hn : l.length = n) (hnc : n ≤ c) (hM : Cs d w am m) (hmn : m.length = mn) (hT : TabC w ta ts) (hG : Gl w) (hv : vchk ts d q l = 0) (hi : ii < (parts (tyAt ts q)).length) (hb : OkV ts d (pk ts q ii) m) :
    Calls Tryd.prog 23 #[.slice ta tn tc, .int .i64 q, .slice a n c, .int .i64 ii, .slice am mn mc] w (fun e w' => (siz (putL ts q l ii m) ≤ 256 → QPostX w d (putL ts q l ii m) 0 e w') ∧ (¬ siz (putL ts q l ii m) ≤ 256 → QPostX w d [] 6 e w')) := by
  have K := find_ok ts ta tn tc htn hc d q ii a l n c w hC hn hT hG hv hi
  obtain ⟨o1, o2, o3, o4, o5, o6⟩ := offs_facts hv hi
  obtain ⟨p1, p2, p3⟩ := pk_facts hv hi
  obtain ⟨hS, h0, h1⟩ := bad_zero (vchk_zero hv).1
  have hlm := okv_len hb.2
  have hsl := (vchk_zero hv).2.1
  have hsm := hb.1
  have htot := putIn_tot (l := l) (m := m) (b := pb ts q ii) (e := pb ts q (ii + 1)) (by omega)
  rw [o1, o2, p1] at K
  have K2 := fun u (hu : Ext [] w u) => test_yes (psound_any ts ta tn tc htn hS d (pk ts q ii) am m mn mc u (by omega) (hM.keep0 hu) hmn (hT.tab.keep0 hu)) hb
  obtain ⟨d', b, o, rfl, rfl, _⟩ := hC.at_ o5
  have hsub := hC.sub (Nat.le_of_lt o3) o4
  have KV := fun u (hu : Ext [] w u) => psize_any (d' + 1) (some ⟨b, o, none⟩) l n c u (hC.keep0 hu) hn
  have KP := fun u (hu : Ext [] w u) => psize_any (d' + 1) (some ⟨b, o + pb ts q ii * 4, none⟩) (partL ts q l ii) (pb ts q (ii + 1) - pb ts q ii) (c - pb ts q ii) u (hsub.keep0 hu) o6
  have KM := fun u (hu : Ext [] w u) => psize_any (d' + 1) am m mn mc u (hM.keep0 hu) hmn
  have KCv := fun u (hu : Ext [] w u) => clone_rowX d' (some ⟨b, o, none⟩) l n c u (hC.keep0 hu) hn (by omega)
  have KCm := fun u (hu : Ext [] w u) => clone_rowX d' am m mn mc u (hM.keep0 hu) hmn (by omega)
  have hzz : (siz l : Int) - siz (partL ts q l ii) + siz m = totL (putL ts q l ii m) := by
    have e1 : siz l = totL l := by unfold siz at *; omega
    have e2 : siz m = totL m := by unfold siz at *; omega
    have e3 : totL (partL ts q l ii) ≤ totL l := by
      have : totL (l.take (pb ts q (ii + 1))) ≤ totL l := totL_take_le _ _
      have h2 := (totL_drop (l.take (pb ts q (ii + 1))) (pb ts q ii)).1
      unfold partL; omega
    have e4 : siz (partL ts q l ii) = totL (partL ts q l ii) := by unfold siz at *; omega
    have e5 : totL (putL ts q l ii m) = totL (putIn l m (pb ts q ii)) := rfl
    have e6 : totL (partL ts q l ii) = totL ((l.take (pb ts q (ii + 1))).drop (pb ts q ii)) := rfl
    omega
  have hsz : siz (putL ts q l ii m) = min (totL (putL ts q l ii m)) 257 := rfl
  have hmm : siz m ≤ 256 := hsm
  have hpp : siz (partL ts q l ii) ≤ 257 := by unfold siz; omega
  have hll : siz l ≤ 256 := hsl
  have HRl : Hid (∀ i, i < l.length → Rg (cAt l i)) := fun i hi => hC.rg hi
  have HRm : Hid (∀ i, i < m.length → Rg (cAt m i)) := fun i hi => hM.rg hi
  have HNL : Hid (n ≤ 2513169434843) := by show n ≤ _; rw [← hn]; exact hC.len
  have HPL : Hid (putL ts q l ii m = putIn l m (pb ts q ii)) := rfl
  have HPn : Hid (pb ts q (ii + 1) = pb ts q ii + m.length) := by show _ = _; omega
  have HN := hid hn
  have HMN := hid hmn
  have hpos : 0 < m.length := by omega
  generalize totL (putL ts q l ii m) = tp at *
  generalize siz (putL ts q l ii m) = sp at *
  generalize putL ts q l ii m = PL at *
  generalize partL ts q l ii = pl at *
  generalize siz l = sl at *
  generalize siz m = sm at *
  generalize siz pl = spl at *
  generalize pk ts q ii = kp at *
  generalize pb ts q ii = bg at *
  generalize pb ts q (ii + 1) = en at *
  have h1' : (bg : Int) ≤ en := by omega
  have h2' : (en : Int) ≤ c := by omega
  have h3' : bg < c := by omega
  have h4' : ¬ c = bg := by omega
  have h5' : ¬ c - bg = 0 := by omega
  have hw1 : IntKind.i64.wrap ((sl : Int) - spl) = (sl : Int) - spl := by rw [IntKind.wrap_i64]; omega
  have hw2 : IntKind.i64.wrap ((sl : Int) - spl + sm) = tp := by rw [IntKind.wrap_i64]; omega
  have HLT : Hid (bg < en) := by show bg < en; omega
  have HLE : Hid (en ≤ n) := by show en ≤ n; omega
  have HSZ : Hid (sp = min tp 257) := hsz
  clear hC hT hG hv hi hM hb hsub o1 o2 o3 o4 o5 o6 p1 p2 p3 hS h0 hlm hsl hsm htot hzz hmm hpp hll hsz hn hmn hpos
  go_enter Tryd.func23, Tryd.ntmps23
  go_wp2_with (first | (go_at_call 43; refine K.mono ?_; rintro e w1 ⟨rfl, hE1⟩; have HE2 := hid (hE1.trans (Ext.alloc [] w1 (.cells #[.int .i64 kp, .int .i64 (bg : Int), .int .i64 (en : Int)] 72))); have HP2 : Hid (P3 (w1.alloc (.cells #[.int .i64 kp, .int .i64 (bg : Int), .int .i64 (en : Int)] 72)) w1.heap.size kp bg en) := heap_alloc_new _ _; clear hE1) | (go_at_call 28; refine (K2 _ HE2.out).mono ?_; rintro e w2 ⟨rfl, hE3⟩))
  have hE2 := HE2.out.trans hE3
  have hP2 := HP2.out.keep hE3 (by simp)
  generalize w1.heap.size = pblk at *
  have p0 := hP2.c1
  have p1 := hP2.c2
  clear hE3 HE2 HP2 K K2
  go_region_held3 (fun w' => w'.cell? ⟨pblk, 1, none⟩ = some (.int .i64 (bg : Int)) ∧ w'.cell? ⟨pblk, 2, none⟩ = some (.int .i64 (en : Int)))
    (first | exact ⟨Ext.cell (by (repeat (first | (with_reducible exact Ext.refl [] _) | (with_reducible exact Ext.drew [] _) | (with_reducible assumption) | (with_reducible refine Ext.trans ?_ (Ext.drew [] _)) | (with_reducible refine Ext.trans ?_ (by assumption)) | fail "no chain"))) p0 (by simp), Ext.cell (by (repeat (first | (with_reducible exact Ext.refl [] _) | (with_reducible exact Ext.drew [] _) | (with_reducible assumption) | (with_reducible refine Ext.trans ?_ (Ext.drew [] _)) | (with_reducible refine Ext.trans ?_ (by assumption)) | fail "no chain"))) p1 (by simp)⟩ | go_keep)
    (first | (go_at_call 18; (with_reducible refine Calls.mono (KV _ ?_) ?_); (repeat (first | (with_reducible exact Ext.refl [] _) | (with_reducible exact Ext.drew [] _) | (with_reducible assumption) | (with_reducible refine Ext.trans ?_ (Ext.drew [] _)) | (with_reducible refine Ext.trans ?_ (by assumption)) | fail "no chain")); rintro e wv ⟨rfl, hEv⟩) | (go_at_call 18; (with_reducible refine Calls.mono (KM _ ?_) ?_); (repeat (first | (with_reducible exact Ext.refl [] _) | (with_reducible exact Ext.drew [] _) | (with_reducible assumption) | (with_reducible refine Ext.trans ?_ (Ext.drew [] _)) | (with_reducible refine Ext.trans ?_ (by assumption)) | fail "no chain")); rintro e wm ⟨rfl, hEm⟩) | (go_at_call 18; (with_reducible refine Calls.mono (KP _ ?_) ?_); (repeat (first | (with_reducible exact Ext.refl [] _) | (with_reducible exact Ext.drew [] _) | (with_reducible assumption) | (with_reducible refine Ext.trans ?_ (Ext.drew [] _)) | (with_reducible refine Ext.trans ?_ (by assumption)) | fail "no chain")); rintro e wp ⟨rfl, hEp⟩))
  rename_i hHeld
  obtain ⟨c0, c1⟩ := hHeld
  have HE3 := hid (((hE2.trans (Ext.drew [] w2)).trans hEv).trans (hEp.trans hEm))
  clear hE2 hEv hEp hEm p0 p1 hP2 KV KP KM
  by_cases hbig : (256 : Int) < tp
  · have hd : decide ((256 : Int) < tp) = true := by simpa using hbig
    rw [hd]
    clear KCv KCm c0 c1
    go_wp2_with fail
    go_ret2
    exact ⟨fun h => absurd h (by rw [HSZ.out]; omega), fun _ => ⟨none, 0, rfl, rfl, Cx.nil _ _ _ _, HE3.out⟩⟩
  have hd : decide ((256 : Int) < tp) = false := by simpa using hbig
  rw [hd]
  have n2 : (en : Int) ≤ n := by have := HLE.out; omega
  have n3 : bg < n := by have := HLE.out; have := HLT.out; omega
  have n4 : ¬ n = bg := by omega
  have n5 : ¬ n - bg = 0 := by omega
  have K1 := KCv _ HE3.out
  clear KCv
  go_upto_region 9 with (go_at_call 44; refine K1.mono ?_; clear K1; rintro e w5 ⟨g1, G1, rfl, hR1, hB1, hg1, hE5⟩; have hE5' := HE3.out.trans hE5; have r0 := hE5.cell c0 (by simp); have r1 := hE5.cell c1 (by simp); have s0 := (Ext.drew [] w5).cell r0 (by simp); have s1 := (Ext.drew [] w5).cell r1 (by simp); have K2 := KCm _ (hE5'.trans (Ext.drew [] w5)); have HE5 := hid hE5'; have HR1 := hid hR1; have HB1 := hid hB1; have HG1 := hid hg1; clear hE5 hE5' hR1 hB1 hg1 c0 c1 r0 r1)
  have hnm : en - bg = mn := by have := HPn.out; have := HMN.out; omega
  go_region_law (first
    | (refine step_copy_run rfl _ _ 23 23 rfl (.slice (some ⟨g1, bg * 4, none⟩) mn (n - bg)) (.slice (some ⟨g2, 0, none⟩) mn mn) _ (by rfl) (by rfl) (hcp _ _ _) ?_)
    | (go_simp; go_wp2_with (first | (go_at_call 44; refine K2.mono ?_; clear K2; rintro e w6 ⟨g2, G2, rfl, hR2, hB2, hg2, hE6⟩; have t0 := hE6.cell s0 (by simp); have t1 := hE6.cell s1 (by simp); obtain ⟨cs, hcp, hRw⟩ := put_row (b := bg) ((HR1.out.keep (Ext.drew [] _) (by simp)).keep hE6 (by simp)) (by rw [HMN.out]; exact hR2) HN.out (by have := HPn.out; have := HLE.out; omega); rw [HMN.out] at hcp; have HRw := hid hRw; have HB2 := hid hB2; have HG2 := hid hg2; have HE6 := hid hE6; clear hRw hB2 hg2 hE6 hR2))))
  all_goals
    go_wp2_with fail
    go_ret2
    have hg5 : g1 < w5.heap.size := by obtain ⟨c1, h1, _⟩ := HR1.out; exact lt_of_heap h1
    obtain ⟨f1, f2⟩ := put_finX HN.out (by have := HPn.out; have := HLE.out; omega) (HE5.out.trans (Ext.drew [] _)) (Nat.le_trans HE3.out.size HG1.out) (by simpa using hg5)
      (fun i hi => ⟨(HB1.out i hi).1, ((HB1.out i hi).2.imp fun b _ hp => ⟨Nat.le_trans HE3.out.size hp.1, hp.2⟩).keep0 (Ext.drew [] _)⟩) HE6.out (fun i hi => ⟨(HB2.out i (by rw [← HMN.out]; exact hi)).1, (HB2.out i (by rw [← HMN.out]; exact hi)).2.imp fun b _ hp => hp.1⟩) HRw.out HNL.out HRl.out HRm.out
    refine ⟨fun _ => ⟨some ⟨g1, 0, none⟩, n, ?_, ?_, ?_, f2⟩, fun h => absurd (by rw [HSZ.out]; omega) h⟩
    · rw [HPL.out, putIn_len (by have := HPn.out; have := HLE.out; have := HN.out; omega), HN.out]; rfl
    · rw [HPL.out, putIn_len (by have := HPn.out; have := HLE.out; have := HN.out; omega), HN.out]
    · rw [HPL.out]; exact f1

theorem part_anyX (ts : List Ty) (ta : Option Addr) (tn tc : Nat) (htn : ts.length = tn) (hc : tn ≤ tc) (d : Nat) (t i : Int) (a : Option Addr) (l : List Cl) (n c : Nat) (w : World) (hC : Cs d w a l) (hn : l.length = n) (hnc : n ≤ c) (hT : TabC w ta ts) (hG : Gl w) :
    Calls Tryd.prog 21 #[.slice ta tn tc, .int .i64 t, .slice a n c, .int .i64 i] w (QPostX w d (partV ts d t l i) (fchk ts d t l i)) := by
  by_cases h : fchk ts d t l i = 0
  · obtain ⟨hv, q, ii, rfl, rfl, hi⟩ := fchk_zero h
    rw [partV, if_pos h, h]
    exact part_okX ts ta tn tc htn hc d q ii a l n c w hC hn hnc hT hG hv hi
  · rw [partV, if_neg h]
    exact part_badX ts ta tn tc htn hc d t i a l n c w hC hn hT hG h

theorem put_anyX (ts : List Ty) (ta : Option Addr) (tn tc : Nat) (htn : ts.length = tn) (hc : tn ≤ tc) (d : Nat) (t i : Int) (a : Option Addr) (l : List Cl) (n c : Nat) (am : Option Addr) (m : List Cl) (mn mc : Nat) (w : World) (hC : Cs d w a l) (hn : l.length = n) (hnc : n ≤ c) (hM : Cs d w am m) (hmn : m.length = mn) (hT : TabC w ta ts) (hG : Gl w) :
    Calls Tryd.prog 23 #[.slice ta tn tc, .int .i64 t, .slice a n c, .int .i64 i, .slice am mn mc] w (QPostX w d (putV ts d t l i m) (putE ts d t l i m)) := by
  by_cases h : fchk ts d t l i = 0
  · obtain ⟨hv, q, ii, rfl, rfl, hi⟩ := fchk_zero h
    by_cases ho : OkV ts d (pk ts q ii) m
    · by_cases hs : siz (putL ts q l ii m) ≤ 256
      · have he : putE ts d q l ii m = 0 := by unfold putE; rw [Int.toNat_natCast, if_neg (by simpa using h), if_neg (by simpa using ho), if_pos hs]
        rw [putV, if_pos he, he]
        exact (put_restX ts ta tn tc htn hc d q ii a l n c am m mn mc w hC hn hnc hM hmn hT hG hv hi ho).mono fun e w' h => h.1 hs
      · have he : putE ts d q l ii m = 6 := by unfold putE; rw [Int.toNat_natCast, if_neg (by simpa using h), if_neg (by simpa using ho), if_neg hs]
        rw [putV, if_neg (by omega), he]
        exact (put_restX ts ta tn tc htn hc d q ii a l n c am m mn mc w hC hn hnc hM hmn hT hG hv hi ho).mono fun e w' h => h.2 hs
    · have he : putE ts d q l ii m = 1 := by unfold putE; rw [Int.toNat_natCast, if_neg (by simpa using h), if_pos ho]
      rw [putV, if_neg (by omega), he]
      exact put_formX ts ta tn tc htn hc d q ii a l n c am m mn mc w hC hn hM hmn hT hG hv hi ho
  · have he : putE ts d t l i m = fchk ts d t l i := by unfold putE; rw [if_pos h]
    rw [putV, if_neg (by rw [he]; exact h), he]
    exact put_badX ts ta tn tc htn hc d t i a l n c _ w hC hn hT hG h

end Go.Proofs.YtfabhhmeanpmhaaDoor
