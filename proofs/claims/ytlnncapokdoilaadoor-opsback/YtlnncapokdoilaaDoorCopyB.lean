/-
  The program's copied, walked through; no statement is proved here.
-/
import Derived.Test.YtlnncapokdoilaaDoorCopied
namespace Go.Proofs.YtlnncapokdoilaaDoor
open Go.RowKit

set_option maxRecDepth 100000 in
set_option maxHeartbeats 8000000 in
theorem copied_any : ∀ (d : Nat) (a : Option Addr) (l : List Cl) (n c : Nat) (w : World), Cs d w a l → Zb d l → l.length = n → Calls Tryd.prog 21 #[.slice a n c] w (CpPost w d l n) := by
  intro d
  induction d with
  | zero =>
    intro a l n c w hC _ hn
    obtain rfl : l = [] := hC
    obtain rfl : n = 0 := by simpa using hn.symm
    have hmk : (Instr.makeSlice 23 (.int .i64 0) (.int .i64 0)).run Tryd.prog w = .ok (.slice (some ⟨w.heap.size, 0, none⟩) 0 0) (w.alloc (.cells (madeCells #[.int .u64 0, .string ⟨#[]⟩, .int .i64 0, .slice none 0 0] (0 * 4)) 28)) := mk_cells w 0 (by omega)
    go_enter Tryd.func21, Tryd.ntmps21
    go_wp2_with fail
    go_loopw [11] (fun u wr => u = .int .i64 0 ∧ Ext [] w wr) (fun _ _ => 0)
    case atStart => exact ⟨rfl, Ext.alloc _ _ _⟩
    case round =>
      obtain ⟨rfl, hE⟩ := hrel
      have HE := hid hE
      clear hE
      go_wp2_with fail
      go_ret
      exact ⟨_, _, rfl, Nat.le_refl _, Co.nil _ _ _ _, HE.out⟩
  | succ d ih =>
    intro a l n c w hC hZ hn
    have HC := hid hC
    have HZ := hid hZ
    have HN := hid hn
    have hl := hC.len
    rw [hn] at hl
    have HR : Hid (∀ i, i < n → Rg (cAt l i)) := fun i hi => hC.rg (by omega)
    have HIH := hid ih
    have hmk := mk_cells w n hl
    clear hC ih hZ
    go_enter Tryd.func21, Tryd.ntmps21
    go_wp2_with fail
    go_loopw [11] (fun u wr => ∃ k : Nat, ∃ G, u = .int .i64 k ∧ k ≤ n ∧ Rw wr w.heap.size n l G k ∧ Bx (fun b => w.heap.size < b) d wr l G k ∧ Ext [] w wr) (fun u _ => (n - (intOf u)).toNat)
    case atStart => exact ⟨0, fun _ => (none, 0), rfl, Nat.zero_le _, ⟨_, heap_alloc_new _ _, size_madeCells _ _, fun i hi => by omega⟩, fun i hi => by omega, Ext.alloc _ _ _⟩
    case round =>
      obtain ⟨k, G, rfl, hkn, hO, hB, hE⟩ := hrel
      have HO := hid hO
      have HB := hid hB
      have HE := hid hE
      clear hO hB hE
      by_cases hlt : k < n
      · obtain ⟨d1, b, o, hd, rfl, hat⟩ := HC.out.at_ (by rw [HN.out]; omega)
        obtain rfl : d1 = d := by omega
        obtain ⟨ba, bc, hcl0, hbx0⟩ := hat k (by rw [HN.out]; omega)
        have hcl := hcl0.keep0 HE.out
        obtain ⟨hz0, hz1⟩ := HZ.out k (by rw [HN.out]; omega)
        have x0 := hcl.c0
        have x1 := hcl.c1
        have x2 := hcl.c2
        have x3 := hcl.c3
        have HBX : Hid (∀ u, Ext [] w u → Cs d1 u ba (cAt l k).box) := fun u hu => hbx0.keep0 hu
        have hbox := hcl.cap
        have hgl : w.heap.size < wr.heap.size := by obtain ⟨cs, h1, _⟩ := HO.out; exact lt_of_heap h1
        have hgB : ¬ (w.heap.size = wr.heap.size) := by omega
        have hgB2 : ¬ (wr.heap.size = w.heap.size) := by omega
        have hkn2 : (k : Int) < n := by omega
        have HZ0 := hid hz0
        have HZ1 := hid hz1
        have hb1 := heap_alloc_new wr (.cells #[.int .u64 (cAt l k).n, .string (cAt l k).s, .int .i64 (cAt l k).t, .slice ba (cAt l k).box.length bc] 28)
        have hE1 := Ext.alloc [] wr (.cells #[.int .u64 (cAt l k).n, .string (cAt l k).s, .int .i64 (cAt l k).t, .slice ba (cAt l k).box.length bc] 28)
        clear hat hcl hcl0 hbx0 hd hz0 hz1
        generalize hg : w.heap.size = g at *
        go_upto_region 5 with fail
        clear x0 x1 x2 x3
        have HB1 := hid hb1
        have HE1 := hid hE1
        have e0 : (wr.alloc (.cells #[.int .u64 (cAt l k).n, .string (cAt l k).s, .int .i64 (cAt l k).t, .slice ba (cAt l k).box.length bc] 28)).cell? ⟨wr.heap.size, 0, none⟩ = some (.int .u64 (cAt l k).n) := by rw [cell_of_row _ _ _ _ _ _ hb1]; rfl
        have e1 : (wr.alloc (.cells #[.int .u64 (cAt l k).n, .string (cAt l k).s, .int .i64 (cAt l k).t, .slice ba (cAt l k).box.length bc] 28)).cell? ⟨wr.heap.size, 1, none⟩ = some (.string (cAt l k).s) := by rw [cell_of_row _ _ _ _ _ _ hb1]; rfl
        have e2 : (wr.alloc (.cells #[.int .u64 (cAt l k).n, .string (cAt l k).s, .int .i64 (cAt l k).t, .slice ba (cAt l k).box.length bc] 28)).cell? ⟨wr.heap.size, 2, none⟩ = some (.int .i64 (cAt l k).t) := by rw [cell_of_row _ _ _ _ _ _ hb1]; rfl
        have e3 : (wr.alloc (.cells #[.int .u64 (cAt l k).n, .string (cAt l k).s, .int .i64 (cAt l k).t, .slice ba (cAt l k).box.length bc] 28)).cell? ⟨wr.heap.size, 3, none⟩ = some (.slice ba (cAt l k).box.length bc) := by rw [cell_of_row _ _ _ _ _ _ hb1]; rfl
        have hlt1 : wr.heap.size < (wr.alloc (.cells #[.int .u64 (cAt l k).n, .string (cAt l k).s, .int .i64 (cAt l k).t, .slice ba (cAt l k).box.length bc] 28)).heap.size := by simp
        clear hb1 hE1
        have KO := fun u => ownText_any (cAt l k).s u
        generalize hW : wr.alloc (.cells #[.int .u64 (cAt l k).n, .string (cAt l k).s, .int .i64 (cAt l k).t, .slice ba (cAt l k).box.length bc] 28) = w1 at *
        generalize hcb : wr.heap.size = cb at *
        have hO1 := HO.out.keep HE1.out (by simp)
        replace HO := hid hO1
        replace HE := hid (HE.out.trans HE1.out)
        have HBb : Hid (Bx (fun b => g < b ∧ b ≠ cb) d1 w1 l G k) := fun i hi => ⟨(HB.out i hi).1, ((HB.out i hi).2.imp (Q := fun b => g < b ∧ b ≠ cb) (fun b hb hp => ⟨hp, by omega⟩)).keep0 HE1.out⟩
        clear hO1 HB HE1
        go_region_held3 (fun u => u.cell? ⟨cb, 0, none⟩ = some (.int .u64 (cAt l k).n) ∧ u.cell? ⟨cb, 1, none⟩ = some (.string (cAt l k).s) ∧ u.cell? ⟨cb, 2, none⟩ = some (.int .i64 (cAt l k).t) ∧ u.cell? ⟨cb, 3, none⟩ = some (.slice ba (cAt l k).box.length bc))
          (first | exact ⟨hE2.cell ((Ext.drew [] _).cell e0 (by simp)) (by simp), hE2.cell ((Ext.drew [] _).cell e1 (by simp)) (by simp), hE2.cell ((Ext.drew [] _).cell e2 (by simp)) (by simp), hE2.cell ((Ext.drew [] _).cell e3 (by simp)) (by simp)⟩ | go_keep)
          (first | (go_at_call 36; refine (KO _).mono ?_; rintro e w2 ⟨rfl, hE2⟩; have hO2 := HO.out.keep ((Ext.drew [] _).trans hE2) (by simp); obtain ⟨z0, q0⟩ := hO2.cell (i := k * 4) (by omega); obtain ⟨z1, q1⟩ := hO2.cell (i := k * 4 + 1) (by omega); obtain ⟨z2, q2⟩ := hO2.cell (i := k * 4 + 2) (by omega); obtain ⟨z3, q3⟩ := hO2.cell (i := k * 4 + 3) (by omega); have gf : ∀ i, w2.frozen? ⟨g, i, none⟩ = false := fun i => hO2.frz i) | fail "no arm")
        rename_i hHeld
        obtain ⟨f0, f1, f2, f3⟩ := hHeld
        have hE3 : Ext [] w1 w2 := (Ext.drew [] _).trans hE2
        have hX4 : Ext [g] w2 ((((w2.setCell ⟨g, k * 4, none⟩ (.int .u64 (cAt l k).n)).setCell ⟨g, k * 4 + 1, none⟩ (.string (cAt l k).s)).setCell ⟨g, k * 4 + 2, none⟩ (.int .i64 (cAt l k).t)).setCell ⟨g, k * 4 + 3, none⟩ (.slice none 0 0)) := (((Ext.setCell _ _ _ _ (by simp)).trans (Ext.setCell _ _ _ _ (by simp))).trans (Ext.setCell _ _ _ _ (by simp))).trans (Ext.setCell _ _ _ _ (by simp))
        have hEw : Ext [] w ((((w2.setCell ⟨g, k * 4, none⟩ (.int .u64 (cAt l k).n)).setCell ⟨g, k * 4 + 1, none⟩ (.string (cAt l k).s)).setCell ⟨g, k * 4 + 2, none⟩ (.int .i64 (cAt l k).t)).setCell ⟨g, k * 4 + 3, none⟩ (.slice none 0 0)) := (HE.out.trans hE3).on hX4 (by simp; omega)
        have HBc : Hid (Bx (fun b => g < b) d1 ((((w2.setCell ⟨g, k * 4, none⟩ (.int .u64 (cAt l k).n)).setCell ⟨g, k * 4 + 1, none⟩ (.string (cAt l k).s)).setCell ⟨g, k * 4 + 2, none⟩ (.int .i64 (cAt l k).t)).setCell ⟨g, k * 4 + 3, none⟩ (.slice none 0 0)) l G k) := fun i hi => ⟨(HBb.out i hi).1, (((HBb.out i hi).2.keep0 hE3).keep hX4 (by simp)).imp (fun b _ hp => hp.1)⟩
        have hO4 := hO2.set4 hlt (.int .u64 (cAt l k).n) (.string (cAt l k).s) (.int .i64 (cAt l k).t) (.slice none 0 0)
        by_cases ht : (cAt l k).t = 0
        · have hb0 : (cAt l k).box = [] := HZ0.out ht
          have R := hO2.put hlt none 0
          rw [hb0] at R
          simp only [List.length_nil] at R
          have HRr := hid R
          have HEw := hid hEw
          have ht1 : ((cAt l k).t == 0) = true := by simpa using ht
          have ht2 : ((cAt l k).t != 0) = false := by simpa using ht
          clear f0 f1 f3 hE3 hX4 hEw hO4 R hE2 hO2 q0 q1 q2 q3 gf e0 e1 e2 e3 KO ht
          generalize ((((w2.setCell ⟨g, k * 4, none⟩ (.int .u64 (cAt l k).n)).setCell ⟨g, k * 4 + 1, none⟩ (.string (cAt l k).s)).setCell ⟨g, k * 4 + 2, none⟩ (.int .i64 (cAt l k).t)).setCell ⟨g, k * 4 + 3, none⟩ (.slice none 0 0)) = w4 at *
          go_wp2_with fail
          go_roundw
          case rel =>
            refine ⟨k + 1, fun i => if i = k then (none, 0) else G i, by go_num, by omega, HRr.out, fun i hi => ?_, HEw.out⟩
            by_cases e : i = k
            · subst e
              simp only [if_true, hb0]
              exact ⟨by simp, Co.nil _ _ _ _⟩
            · simp only [e, if_false]
              exact HBc.out i (by omega)
          case measure => simp [intOf]; omega
        · have ht1 : ((cAt l k).t == 0) = false := by simpa using ht
          have ht2 : ((cAt l k).t != 0) = true := by simpa using ht
          have HP3 := hid (fun (a1 : Option Addr) (c1 : Nat) (u : World) (hu : Ext [] ((((w2.setCell ⟨g, k * 4, none⟩ (.int .u64 (cAt l k).n)).setCell ⟨g, k * 4 + 1, none⟩ (.string (cAt l k).s)).setCell ⟨g, k * 4 + 2, none⟩ (.int .i64 (cAt l k).t)).setCell ⟨g, k * 4 + 3, none⟩ (.slice none 0 0)) u) => hO2.put3 hlt a1 c1 hu)
          have HEw := hid hEw
          have HO4 := hid hO4
          have K := HIH.out ba (cAt l k).box _ bc _ (HBX.out _ hEw) HZ1.out rfl
          have hgs : g < ((((w2.setCell ⟨g, k * 4, none⟩ (.int .u64 (cAt l k).n)).setCell ⟨g, k * 4 + 1, none⟩ (.string (cAt l k).s)).setCell ⟨g, k * 4 + 2, none⟩ (.int .i64 (cAt l k).t)).setCell ⟨g, k * 4 + 3, none⟩ (.slice none 0 0)).heap.size := by obtain ⟨cs, h1, _⟩ := hO4; exact lt_of_heap h1
          clear f0 f1 hE3 hX4 hEw hO4 hE2 hO2 q0 q1 q2 q3 gf e0 e1 e2 e3 KO ht
          generalize ((((w2.setCell ⟨g, k * 4, none⟩ (.int .u64 (cAt l k).n)).setCell ⟨g, k * 4 + 1, none⟩ (.string (cAt l k).s)).setCell ⟨g, k * 4 + 2, none⟩ (.int .i64 (cAt l k).t)).setCell ⟨g, k * 4 + 3, none⟩ (.slice none 0 0)) = w4 at *
          go_wp2_with (first | (go_at_call 21; refine K.mono ?_; clear K; rintro e w5 ⟨a1, c1, rfl, hac, hCo, hE5⟩; have hO5 := HO4.out.keep hE5 (by simp); obtain ⟨z4, q4⟩ := hO5.cell (i := k * 4 + 3) (by omega); have gf : ∀ i, w5.frozen? ⟨g, i, none⟩ = false := fun i => hO5.frz i; replace hCo := hid hCo; replace hE5 := hid hE5; replace hac := hid hac; clear hO5) | fail "no arm")
          go_roundw
          case rel =>
            refine ⟨k + 1, fun i => if i = k then (a1, c1) else G i, by go_num, by omega, HP3.out a1 c1 w5 hE5.out, fun i hi => ?_, (HEw.out.trans hE5.out).on (Ext.setCell [g] _ _ _ (by simp)) (by simp; omega)⟩
            by_cases e : i = k
            · subst e
              simp only [if_true]
              exact ⟨hac.out, (hCo.out.keep (Ext.setCell [g] _ _ _ (by simp)) (by simp; omega)).imp (fun b _ hp => by omega)⟩
            · simp only [e, if_false]
              obtain ⟨h1, h2⟩ := HBc.out i (by omega)
              exact ⟨h1, (h2.keep0 hE5.out).keep (Ext.setCell [g] _ _ _ (by simp)) (by simp)⟩
          case measure => simp [intOf]; omega
      · obtain rfl : k = n := by omega
        go_wp2_with fail
        go_ret
        exact ⟨some ⟨w.heap.size, 0, none⟩, k, rfl, Nat.le_refl _, co_of_rw (P := fun b => w.heap.size ≤ b) HO.out (fun i hi => ⟨(HB.out i hi).1, (HB.out i hi).2.imp fun b _ hp => by omega⟩) HN.out hl HR.out (Nat.le_refl _), HE.out⟩

end Go.Proofs.YtlnncapokdoilaaDoor
