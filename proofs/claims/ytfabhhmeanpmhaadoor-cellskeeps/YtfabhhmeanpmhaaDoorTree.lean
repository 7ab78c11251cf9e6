/-
  Trees of cells of one's own, and the reference's Copy; no statement is proved here.
-/
import Derived.Test.YtfabhhmeanpmhaaDoorCell
import Derived.Maps.AppendAt
namespace Go.Proofs.YtfabhhmeanpmhaaDoor
open Go.RowKit

theorem info49 : (Tryd.prog.info? 49).map (fun i => (i.zero, i.size, i.bytes)) = some (some (.agg #[.int .u64 0, .string ⟨#[]⟩, .int .i64 0, .slice none 0 0]), 4, 56) := by kernel_rfl

theorem ClAt.keep {S : List Nat} {w w' : World} {b o : Nat} {c : Cl} {ba : Option Addr} {bc : Nat} (h : ClAt w b o c ba bc) (e : Ext S w w') (hb : b ∉ S) : ClAt w' b o c ba bc :=
  ⟨e.cell h.c0 hb, e.cell h.c1 hb, e.cell h.c2 hb, e.cell h.c3 hb, h.cap, h.n0, h.t0, h.s0⟩

/-- A list of cells in a row of its own, its boxes likewise, all of them in blocks with P. -/
def Co (P : Nat → Prop) : Nat → World → Option Addr → List Cl → Prop
  | 0, _, _, l => l = []
  | d + 1, w, a, l => l.length ≤ 2513169434843 ∧ (l = [] ∨ ∃ b cs, a = some ⟨b, 0, none⟩ ∧ P b ∧ w.heap[b]? = some (.cells cs 49 (0, 0)) ∧ ∀ i, i < l.length → ∃ ba bc, ClAt w b (0 + i * 4) (cAt l i) ba bc ∧ Co P d w ba (cAt l i).box)

theorem Co.nil (P : Nat → Prop) (d : Nat) (w : World) (a : Option Addr) : Co P d w a [] := by
  cases d with
  | zero => rfl
  | succ d => exact ⟨by simp, .inl rfl⟩
theorem Co.cs {P : Nat → Prop} : ∀ {d : Nat} {w : World} {a : Option Addr} {l : List Cl}, Co P d w a l → Cs d w a l
  | 0, _, _, _, h => h
  | d + 1, w, a, l, h => by
    rcases h with ⟨hl, h | ⟨b, cs, rfl, _, _, h⟩⟩
    · exact ⟨hl, .inl h⟩
    · refine ⟨hl, .inr ⟨b, 0, rfl, fun i hi => ?_⟩⟩
      obtain ⟨ba, bc, hc, hb⟩ := h i hi
      exact ⟨ba, bc, hc, hb.cs⟩
theorem Co.keep {P : Nat → Prop} {S : List Nat} : ∀ {d : Nat} {w w' : World} {a : Option Addr} {l : List Cl}, Co P d w a l → Ext S w w' → (∀ b ∈ S, ¬ P b) → Co P d w' a l
  | 0, _, _, _, _, h, _, _ => h
  | d + 1, w, w', a, l, h, e, hs => by
    rcases h with ⟨hl, h | ⟨b, cs, rfl, hp, hr, h⟩⟩
    · exact ⟨hl, .inl h⟩
    · have hb : b ∉ S := fun hm => hs b hm hp
      refine ⟨hl, .inr ⟨b, cs, rfl, hp, e.keep hr hb, fun i hi => ?_⟩⟩
      obtain ⟨ba, bc, hc, hx⟩ := h i hi
      exact ⟨ba, bc, hc.keep e hb, hx.keep e hs⟩
theorem Co.keep0 {P : Nat → Prop} {d : Nat} {w w' : World} {a : Option Addr} {l : List Cl} (h : Co P d w a l) (e : Ext [] w w') : Co P d w' a l := h.keep e (by simp)
theorem Co.imp {P Q : Nat → Prop} : ∀ {d : Nat} {w : World} {a : Option Addr} {l : List Cl}, Co P d w a l → (∀ b, b < w.heap.size → P b → Q b) → Co Q d w a l
  | 0, _, _, _, h, _ => h
  | d + 1, w, a, l, h, hq => by
    rcases h with ⟨hl, h | ⟨b, cs, rfl, hp, hr, h⟩⟩
    · exact ⟨hl, .inl h⟩
    · refine ⟨hl, .inr ⟨b, cs, rfl, hq b (lt_of_heap hr) hp, hr, fun i hi => ?_⟩⟩
      obtain ⟨ba, bc, hc, hx⟩ := h i hi
      exact ⟨ba, bc, hc, hx.imp hq⟩

/-- A cell's values. -/
def clRow (c : Cl) (g : Option Addr × Nat) : List Value := [.int .u64 c.n, .string c.s, .int .i64 c.t, .slice g.1 c.box.length g.2]
def crows (l : List Cl) (G : Nat → Option Addr × Nat) : Nat → List Value
  | 0 => []
  | k + 1 => crows l G k ++ clRow (cAt l k) (G k)
theorem length_crows (l : List Cl) (G : Nat → Option Addr × Nat) : ∀ k, (crows l G k).length = k * 4
  | 0 => rfl
  | k + 1 => by rw [crows, List.length_append, length_crows l G k]; simp [clRow]; omega
theorem crows_cong {l : List Cl} {G H : Nat → Option Addr × Nat} : ∀ k, (∀ i, i < k → G i = H i) → crows l G k = crows l H k
  | 0, _ => rfl
  | k + 1, h => by rw [crows, crows, crows_cong k (fun i hi => h i (by omega)), h k (by omega)]
theorem crows_get (l : List Cl) (G : Nat → Option Addr × Nat) : ∀ (n i j : Nat), i < n → j < 4 → (crows l G n)[i * 4 + j]? = (clRow (cAt l i) (G i))[j]?
  | 0, _, _, h, _ => by omega
  | n + 1, i, j, h, hj => by
    rw [crows]
    by_cases e : i = n
    · subst e
      rw [List.getElem?_append_right (by rw [length_crows]; omega), length_crows]
      congr 1; omega
    · rw [List.getElem?_append_left (by rw [length_crows]; omega)]
      exact crows_get l G n i j (by omega) hj

/-- What a cell's numbers and texts are. -/
def Rg (c : Cl) : Prop := (0 ≤ c.n ∧ c.n < 18446744073709551616) ∧ (-9223372036854775808 ≤ c.t ∧ c.t < 9223372036854775808) ∧ c.s.size ≤ 140737488351232
theorem ClAt.rg {w : World} {b o : Nat} {c : Cl} {ba : Option Addr} {bc : Nat} (h : ClAt w b o c ba bc) : Rg c := ⟨h.n0, h.t0, h.s0⟩
theorem Cs.rg {d : Nat} {w : World} {a : Option Addr} {l : List Cl} (h : Cs d w a l) {i : Nat} (hi : i < l.length) : Rg (cAt l i) := by
  obtain ⟨d', b, o, _, rfl, hat⟩ := h.at_ (by omega)
  obtain ⟨ba, bc, hc, _⟩ := hat i hi
  exact hc.rg

/-- The first k boxes. -/
def Bx (P : Nat → Prop) (d : Nat) (w : World) (l : List Cl) (G : Nat → Option Addr × Nat) (k : Nat) : Prop := ∀ i, i < k → (cAt l i).box.length ≤ (G i).2 ∧ Co P d w (G i).1 (cAt l i).box

theorem co_of_row {P : Nat → Prop} {d : Nat} {w : World} {base : Nat} {a : Option Addr} {n c : Nat} {l : List Cl} {G : Nat → Option Addr × Nat} (h : w.ownsRow base 49 4 (.slice a n c) n (crows l G n)) (hB : Bx P d w l G n) (hn : l.length = n) (hl : n ≤ 2513169434843)
    (hr : ∀ i, i < n → Rg (cAt l i)) (hP : ∀ g, Value.ownBlock (.slice a n c) = some g → P g) : Co P (d + 1) w a l := by
  subst hn
  refine ⟨hl, ?_⟩
  rcases h.2 with ⟨h1, h2⟩ | ⟨g, cap, cur, h0, h1, h2, h3, h4, h5, h6⟩
  · left; exact List.length_eq_zero_iff.1 h2
  · right
    cases h0
    refine ⟨g, cur, rfl, hP g rfl, h2, fun i hi => ⟨(G i).1, (G i).2, ?_, (hB i hi).2⟩⟩
    have key : ∀ j v, j < 4 → (clRow (cAt l i) (G i))[j]? = some v → w.cell? ⟨g, 0 + i * 4 + j, none⟩ = some v := fun j v hj hv => by
      rw [Nat.zero_add, cell_of_row w g _ _ _ _ h2]
      have : (cur.toList.take (l.length * 4))[i * 4 + j]? = cur[i * 4 + j]? := by
        rw [List.getElem?_take, if_pos (by omega)]; simp
      rw [← this, h6, crows_get l G _ i j hi hj, hv]
    obtain ⟨r1, r2, r3⟩ := hr i hi
    exact ⟨key 0 _ (by omega) rfl, key 1 _ (by omega) rfl, key 2 _ (by omega) rfl, key 3 _ (by omega) rfl, (hB i hi).1, r1, r2, r3⟩

def CpPost (w : World) (d : Nat) (l : List Cl) (n : Nat) (e : Ending) (w' : World) : Prop :=
  ∃ a c, e = .returned (.slice a n c) ∧ n ≤ c ∧ Co (fun b => w.heap.size ≤ b) d w' a l ∧ Ext [] w w'

set_option maxHeartbeats 1000000 in
/-- One more cell, with a box of its own. -/
theorem cstep (w wr w2 : World) (lv : Value) (k n d : Nat) (l : List Cl) (G : Nat → Option Addr × Nat) (ba a1 : Option Addr) (bc c1 : Nat) (hk : k < n) (hl : n ≤ 2513169434843) (hE : Ext [] w wr)
    (hO : wr.ownsRow w.heap.size 49 4 lv k (crows l G k)) (hB : Bx (fun b => w.heap.size ≤ b ∧ lv.ownBlock ≠ some b) d wr l G k)
    (hE2 : Ext [] (wr.alloc (.cells #[.int .u64 (cAt l k).n, .string (cAt l k).s, .int .i64 (cAt l k).t, .slice ba (cAt l k).box.length bc] 49)) w2)
    (hac : (cAt l k).box.length ≤ c1) (hC : Co (fun b => (wr.alloc (.cells #[.int .u64 (cAt l k).n, .string (cAt l k).s, .int .i64 (cAt l k).t, .slice ba (cAt l k).box.length bc] 49)).heap.size ≤ b) d w2 a1 (cAt l k).box) :
    ∃ v2 w4, (Builtin.append_ #[23, 23] 23 #[lv, .slice (some ⟨w2.heap.size, 0, none⟩) 1 1]).run Tryd.prog ((w2.setCell ⟨wr.heap.size, 3, none⟩ (.slice a1 (cAt l k).box.length c1)).alloc (.cells #[.int .u64 (cAt l k).n, .string (cAt l k).s, .int .i64 (cAt l k).t, .slice a1 (cAt l k).box.length c1] 49)) = .ok v2 w4 ∧
      w4.ownsRow w.heap.size 49 4 v2 (k + 1) (crows l (fun i => if i = k then (a1, c1) else G i) (k + 1)) ∧ Bx (fun b => w.heap.size ≤ b ∧ v2.ownBlock ≠ some b) d w4 l (fun i => if i = k then (a1, c1) else G i) (k + 1) ∧ Ext [] w w4 := by
  have hE1 := Ext.alloc [] wr (.cells #[.int .u64 (cAt l k).n, .string (cAt l k).s, .int .i64 (cAt l k).t, .slice ba (cAt l k).box.length bc] 49)
  have hsz1 : wr.heap.size < w2.heap.size := by have := hE2.size; simp at this; omega
  have hE3 := (Ext.setCell [wr.heap.size] w2 ⟨wr.heap.size, 3, none⟩ (.slice a1 (cAt l k).box.length c1) (by simp)).trans (Ext.alloc [wr.heap.size] _ (.cells #[.int .u64 (cAt l k).n, .string (cAt l k).s, .int .i64 (cAt l k).t, .slice a1 (cAt l k).box.length c1] 49))
  have hE12 := hE1.trans hE2
  have hEw := (hE.trans hE12).on hE3 (by simp; exact hE.size)
  have holt := own_lt hO
  have hOw := own_keep (own_keep0 hO hE12) hE3 (by simp; exact fun h => by have := holt _ h; omega)
  obtain ⟨v2, w4, hr2, hO2, hg2, _, hnew⟩ := run_append_own_at (P := Tryd.prog) _ w.heap.size 23 23 49 _ _ 4 56 Tryd.underlying23 (info_parts info49).choose_spec.1 (info_parts info49).choose_spec.2.1 (info_parts info49).choose_spec.2.2.1 (info_parts info49).choose_spec.2.2.2 rfl (by decide) _ k _ hOw ⟨w2.heap.size, 0, none⟩ 1 1 (clRow (cAt l k) (a1, c1)) rfl (fun j u hu => by
    rw [Addr.add_lit, cell_of_row _ _ _ _ _ _ (show (World.alloc _ _).heap[w2.heap.size]? = _ from by have := heap_alloc_new (w2.setCell ⟨wr.heap.size, 3, none⟩ (.slice a1 (cAt l k).box.length c1)) (.cells #[.int .u64 (cAt l k).n, .string (cAt l k).s, .int .i64 (cAt l k).t, .slice a1 (cAt l k).box.length c1] 49); simpa using this)]
    rw [Nat.zero_add, ← hu]; simp [clRow]) (by simp [clRow, Value.oneCell']) (by unfold maxLen; omega) (by omega) hEw.size
  have hX2 : Ext lv.ownBlock.toList _ w4 := Ext.grown hg2 (by intro q hq; simp [hq])
  have hsz3 : w2.heap.size < ((w2.setCell ⟨wr.heap.size, 3, none⟩ (.slice a1 (cAt l k).box.length c1)).alloc (.cells #[.int .u64 (cAt l k).n, .string (cAt l k).s, .int .i64 (cAt l k).t, .slice a1 (cAt l k).box.length c1] 49)).heap.size := by simp
  have hRW : crows l G k ++ clRow (cAt l k) (a1, c1) = crows l (fun i => if i = k then (a1, c1) else G i) (k + 1) := by
    rw [crows, crows_cong k (H := fun i => if i = k then (a1, c1) else G i) (fun i hi => by simp [Nat.ne_of_lt hi])]
    simp
  refine ⟨v2, w4, hr2, by rw [← hRW]; exact hO2, fun i hi => ?_, hEw.on hX2 (fun x hx => (holt x (by simpa using hx)).1)⟩
  -- a block with P ahead of the append is no block of the list's
  have hfin : ∀ (a : Option Addr) (b : List Cl), Co (fun b => w.heap.size ≤ b ∧ lv.ownBlock ≠ some b ∧ b ≠ wr.heap.size) d w2 a b → Co (fun b => w.heap.size ≤ b ∧ v2.ownBlock ≠ some b) d w4 a b := fun a b hb => by
    have h3 := hb.keep hE3 (by simp)
    have h4 := h3.imp (Q := fun b => w.heap.size ≤ b ∧ lv.ownBlock ≠ some b ∧ v2.ownBlock ≠ some b) (fun b hlt hp => ⟨hp.1, hp.2.1, fun e => by
      rcases hnew with h | h
      · rw [h] at e; exact hp.2.1 e
      · rw [h] at e; simp only [Option.some.injEq] at e; omega⟩)
    exact (h4.keep hX2 (fun x hx hp => hp.2.1 (by simpa using hx))).imp (fun b _ hp => ⟨hp.1, hp.2.2⟩)
  by_cases e : i = k
  · subst e
    simp only [if_true]
    refine ⟨hac, hfin _ _ (hC.imp fun b _ hp => ?_)⟩
    simp only [World.size_alloc] at hp
    exact ⟨by have := hE.size; omega, fun h => by have := holt _ h; omega, by omega⟩
  · simp only [e, if_false]
    obtain ⟨h1, h2⟩ := hB i (by omega)
    refine ⟨h1, hfin _ _ ?_⟩
    have h3 := h2.imp (Q := fun b => w.heap.size ≤ b ∧ lv.ownBlock ≠ some b ∧ b ≠ wr.heap.size) (fun b hlt hp => ⟨hp.1, hp.2, by omega⟩)
    exact h3.keep0 hE12

set_option maxRecDepth 100000 in
set_option maxHeartbeats 4000000 in
theorem rcopy_any : ∀ (d : Nat) (a : Option Addr) (l : List Cl) (n c : Nat) (w : World), Cs d w a l → l.length = n → Calls Tryd.prog 11 #[.slice a n c] w (CpPost w d l n) := by
  intro d
  induction d with
  | zero =>
    intro a l n c w hC hn
    obtain rfl : l = [] := hC
    obtain rfl : n = 0 := by simpa using hn.symm
    go_enter Tryd.func11, Tryd.ntmps11
    go_wp2_with fail
    go_loopw [3, 4] (fun lv u wr => lv = .slice none 0 0 ∧ u = .int .i64 0 ∧ wr = w) (fun _ _ _ => 0)
    case atStart => exact ⟨rfl, rfl, rfl⟩
    case round =>
      obtain ⟨rfl, rfl, rfl⟩ := hrel
      go_wp2_with fail
      go_ret
      exact ⟨none, 0, rfl, Nat.le_refl _, Co.nil _ _ _ _, Ext.refl _ _⟩
  | succ d ih =>
    intro a l n c w hC hn
    have HC := hid hC
    have HN := hid hn
    have hl := hC.len
    rw [hn] at hl
    have HR : Hid (∀ i, i < n → Rg (cAt l i)) := fun i hi => hC.rg (by omega)
    have HIH := hid ih
    clear hC ih
    go_enter Tryd.func11, Tryd.ntmps11
    go_wp2_with fail
    go_loopw [3, 4] (fun lv u wr => ∃ k : Nat, ∃ G, u = .int .i64 k ∧ k ≤ n ∧ wr.ownsRow w.heap.size 49 4 lv k (crows l G k) ∧ Bx (fun b => w.heap.size ≤ b ∧ lv.ownBlock ≠ some b) d wr l G k ∧ Ext [] w wr) (fun _ u _ => (n - (intOf u)).toNat)
    case atStart => exact ⟨0, fun _ => (none, 0), rfl, Nat.zero_le _, own_nil _ _ _ _, fun i hi => by omega, Ext.refl _ _⟩
    case round =>
      obtain ⟨k, G, rfl, hkn, hO, hB, hE⟩ := hrel
      have HO := hid hO
      have HB := hid hB
      have HE := hid hE
      clear hO hB hE
      by_cases hlt : k < n
      · obtain ⟨d1, b, o, hd, rfl, hat⟩ := (HC.out.keep0 HE.out).at_ (by rw [HN.out]; omega)
        obtain rfl : d1 = d := by omega
        obtain ⟨ba, bc, hcl, hbx⟩ := hat k (by rw [HN.out]; omega)
        have x0 := hcl.c0
        have x1 := hcl.c1
        have x2 := hcl.c2
        have x3 := hcl.c3
        have hE1 := Ext.alloc [] wr (.cells #[.int .u64 (cAt l k).n, .string (cAt l k).s, .int .i64 (cAt l k).t, .slice ba (cAt l k).box.length bc] 49)
        have K := HIH.out ba (cAt l k).box _ bc _ (hbx.keep0 hE1) rfl
        have hb1 := heap_alloc_new wr (.cells #[.int .u64 (cAt l k).n, .string (cAt l k).s, .int .i64 (cAt l k).t, .slice ba (cAt l k).box.length bc] 49)
        have HB1 := hid hb1
        clear hat hcl hbx hE1 hd hb1
        go_wp2_with (first
          | (go_at_call 11
             refine K.mono ?_
             rintro e w2 ⟨a1, c1, rfl, hac, hCo, hE2⟩
             obtain ⟨v2, w4, hr2, hO2, hB2, hE4⟩ := cstep w wr w2 u3 k n d1 l G ba a1 bc c1 hlt hl HE.out HO.out HB.out hE2 hac hCo
             have hb2 := hE2.keep HB1.out (by simp)
             have e0 : w2.cell? ⟨wr.heap.size, 0, none⟩ = some (.int .u64 (cAt l k).n) := by rw [cell_of_row _ _ _ _ _ _ hb2]; rfl
             have e1 : w2.cell? ⟨wr.heap.size, 1, none⟩ = some (.string (cAt l k).s) := by rw [cell_of_row _ _ _ _ _ _ hb2]; rfl
             have e2 : w2.cell? ⟨wr.heap.size, 2, none⟩ = some (.int .i64 (cAt l k).t) := by rw [cell_of_row _ _ _ _ _ _ hb2]; rfl
             have e3 : w2.cell? ⟨wr.heap.size, 3, none⟩ = some (.slice ba (cAt l k).box.length bc) := by rw [cell_of_row _ _ _ _ _ _ hb2]; rfl
             have ef : ∀ i, w2.frozen? ⟨wr.heap.size, i, none⟩ = false := fun i => frozen_of_row _ _ i _ _ hb2
             have HO2 := hid hO2
             have HB2 := hid hB2
             have HE4 := hid hE4
             clear hCo hE2 hb2 hO2 hB2 hE4 hac)
          | (at_builtin; refine wpList_append_run rfl _ _ 23 rfl _ _ _ rfl rfl hr2 ?_))
        go_roundw
        case rel => exact ⟨k + 1, fun i => if i = k then (a1, c1) else G i, by go_num, by omega, HO2.out, HB2.out, HE4.out⟩
        case measure => simp [intOf]; omega
      · obtain rfl : k = n := by omega
        obtain ⟨a', c', rfl, hac⟩ := own_slice HO.out
        have hol := own_lt HO.out
        go_wp2_with fail
        go_ret
        exact ⟨a', c', rfl, hac, co_of_row (P := fun b => w.heap.size ≤ b) HO.out (fun i hi => ⟨(HB.out i hi).1, (HB.out i hi).2.imp fun b _ hp => hp.1⟩) HN.out hl HR.out (fun g hg => (hol g hg).1), HE.out⟩

end Go.Proofs.YtfabhhmeanpmhaaDoor
