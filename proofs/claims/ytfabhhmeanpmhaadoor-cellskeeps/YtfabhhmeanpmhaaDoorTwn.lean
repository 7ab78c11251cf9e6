/-
  The program's Same of a list and itself; no statement is proved here.
-/
import Derived.Test.YtfabhhmeanpmhaaDoorPrK
import Derived.Maps.OwnOps
namespace Go.Proofs.YtfabhhmeanpmhaaDoor
open Go.RowKit

theorem key3 (em : Bool) (m : Nat) (w : World) (n : Int) : (Instr.checkKey em (m + 1) 3 (.int .i64 n)).run Tryd.prog w = .ok () w := by
  have h : Tryd.prog.underlying 3 = some (.int .i64) := by kernel_rfl
  simp [Instr.checkKey, run_underlying h, Result.andThen]
theorem key67 (em : Bool) (m : Nat) (w : World) (q : Option Addr) : (Instr.checkKey em (m + 1) 67 (.pointer q)).run Tryd.prog w = .ok () w := by
  have h := Tryd.underlying67
  simp [Instr.checkKey, run_underlying h, Result.andThen]
theorem part67 (w : World) (q : Option Addr) (n : Int) : (part 67 #[.pointer q, .int .i64 n] 0).run Tryd.prog w = .ok (.pointer q) w := by
  have h := Tryd.underlying67
  simp [part, isAgg, run_underlying h, Result.andThen]
theorem part3 (w : World) (q : Option Addr) (n : Int) : (part 3 #[.pointer q, .int .i64 n] 1).run Tryd.prog w = .ok (.int .i64 n) w := by
  have h : Tryd.prog.underlying 3 = some (.int .i64) := by kernel_rfl
  simp [part, isAgg, run_underlying h, Result.andThen]
theorem key69 (em : Bool) (m : Nat) (w : World) (q : Option Addr) (n : Int) : (Instr.checkKey em (m + 2) 69 (.agg #[.pointer q, .int .i64 n])).run Tryd.prog w = .ok () w := by
  unfold Instr.checkKey
  simp [run_underlying Tryd.underlying69, Result.andThen, part67, part3, key67, key3]
theorem look0 (w : World) (r : Nat) (q : Option Addr) (n : Int) (hr : w.heap[r]? = some (.map #[] 0)) :
    (Instr.lookup 65 (.map (some r)) (.agg #[.pointer q, .int .i64 n]) true).run Tryd.prog w = .ok (.tuple #[.agg #[.pointer none, .int .i64 0], .bool false]) w := by
  have hk := fun em => key69 em 9998 w q n
  unfold Instr.lookup
  simp [run_underlying Tryd.underlying65, MapKept.run_getObj_map hr, hk, run_underlying Tryd.underlying69, Instr.findKey, Instr.findNow, Result.andThen]

theorem wpList_look0 {w : World} {ops : Array Oper} {rest : List Oper} {o : Oper} {a : Act} {Q : Exit → Act → World → Prop} (hg : o.guard = none) (m x : Operand) (hop : o.op = Op.lookup 65 m x true)
    (r : Nat) (q : Option Addr) (n : Int) (hm : a.eval m = .map (some r)) (hr : w.heap[r]? = some (.map #[] 0)) (hx : a.eval x = .agg #[.pointer q, .int .i64 n])
    (hK : wpList Tryd.prog ops Q rest (a.put o.dst (.tuple #[.agg #[.pointer none, .int .i64 0], .bool false])) w) : wpList Tryd.prog ops Q (o :: rest) a w := by
  refine wpList_plain hg fun K' hK' => ?_
  have hrun := look0 w r q n hr
  unfold Oper.wp
  simp [execOp, hop, hm, hx, hrun, Result.andThen]
  exact hK' _ _ hK

theorem size69 : (Tryd.prog.info? 69).map (·.size) = some 2 := by kernel_rfl

set_option maxRecDepth 100000 in
theorem plc_any (w : World) (b o n c : Nat) (hn : 0 < n) :
    Calls Tryd.prog 42 #[.slice (some ⟨b, o, none⟩) n c] w (fun e w' => e = .returned (.agg #[.pointer (some ⟨b, o, none⟩), .int .i64 n]) ∧ Ext [] w w') := by
  have h1 : (0 : Int) < n := by omega
  go_enter Tryd.func42, Tryd.ntmps42
  go_wp2_with fail
  refine bodyPost_ret (results_cell_row rfl _ _ w.heap.size 69 _ (0, 0) _ rfl (heap_alloc_new _ _) Tryd.underlying69 rfl size69) rfl ?_
  exact ⟨rfl, Ext.alloc _ _ _⟩

set_option maxRecDepth 100000 in
theorem last_any (w : World) (r : Nat) (q : Option Addr) (n : Int) (hr : w.heap[r]? = some (.map #[] 0)) :
    Calls Tryd.prog 66 #[.map (some r), .agg #[.pointer q, .int .i64 n]] w (fun e w' => e = .returned (.agg #[.pointer q, .int .i64 n]) ∧ Ext [] w w') := by
  have hr2 : ∀ x y z, (((w.alloc x).alloc y).alloc z).heap[r]? = some (.map #[] 0) := fun x y z => (((Ext.alloc [] w x).trans (Ext.alloc [] _ y)).trans (Ext.alloc [] _ z)).keep hr (by simp)
  have hr1 : ∀ x y, ((w.alloc x).alloc y).heap[r]? = some (.map #[] 0) := fun x y => ((Ext.alloc [] w x).trans (Ext.alloc [] _ y)).keep hr (by simp)
  go_enter Tryd.func66, Tryd.ntmps66
  go_wp2_with fail
  go_loopw [9] (fun _ wr => wr = (w.alloc (.cells #[.pointer q, .int .i64 n] 69)).alloc (.cells #[.pointer none, .int .i64 0] 69)) (fun _ _ => 0)
  case atStart => rfl
  case round =>
    obtain rfl := hrel
    go_wp2_with (at_lookup; refine wpList_look0 rfl _ _ rfl r q n rfl (by first | exact hr1 _ _ | exact hr2 _ _ _) rfl ?_)
    refine bodyPost_ret (results_cell_row rfl _ _ (w.heap.size + 1) 69 #[.pointer q, .int .i64 n] (0, 0) _ rfl (by rw [Below.heap_alloc _ _ _ (by simp)]; have := heap_alloc_new (w.alloc (.cells #[.pointer q, .int .i64 n] 69)) (.cells #[.pointer q, .int .i64 n] 69); simpa using this) Tryd.underlying69 rfl size69) rfl ?_
    exact ⟨rfl, ((Ext.alloc _ _ _).trans (Ext.alloc _ _ _)).trans (Ext.alloc _ _ _)⟩

theorem eq67 (m : Nat) (u : World) (q : Option Addr) : (Op.equalIn (m + 1) 67 (.pointer q) (.pointer q)).run Tryd.prog u = .ok true u := by
  cases q <;> simp [Op.equalIn, run_underlying Tryd.underlying67, Result.andThen, sameAddr]

def Two (w : World) (b : Nat) (q : Option Addr) (n : Int) : Prop := w.heap[b]? = some (.cells #[.pointer q, .int .i64 n] 69 (0, 0))
theorem Two.facts {w : World} {b : Nat} {q : Option Addr} {n : Int} (h : Two w b q n) : w.cell? ⟨b, 0, none⟩ = some (.pointer q) ∧ w.cell? ⟨b, 1, none⟩ = some (.int .i64 n) ∧ w.frozen? ⟨b, 0, none⟩ = false ∧ w.frozen? ⟨b, 1, none⟩ = false :=
  ⟨by rw [cell_of_row _ _ _ _ _ _ h]; rfl, by rw [cell_of_row _ _ _ _ _ _ h]; rfl, frozen_of_row _ _ _ _ _ h, frozen_of_row _ _ _ _ _ h⟩

set_option maxRecDepth 100000 in
theorem merge_same (w : World) (r : Nat) (q : Option Addr) (n : Int) (hr : w.heap[r]? = some (.map #[] 0)) :
    Calls Tryd.prog 41 #[.map (some r), .agg #[.pointer q, .int .i64 n], .agg #[.pointer q, .int .i64 n]] w (fun e w' => e = .returned (.bool true) ∧ Ext [] w w') := by
  have hA : Ext [] w ((w.alloc (.cells #[.pointer q, .int .i64 n] 69)).alloc (.cells #[.pointer q, .int .i64 n] 69)) := (Ext.alloc _ _ _).trans (Ext.alloc _ _ _)
  have hB1 : Two ((w.alloc (.cells #[.pointer q, .int .i64 n] 69)).alloc (.cells #[.pointer q, .int .i64 n] 69)) w.heap.size q n := heap_alloc2_old _ _ _
  have hB2 : Two ((w.alloc (.cells #[.pointer q, .int .i64 n] 69)).alloc (.cells #[.pointer q, .int .i64 n] 69)) (w.heap.size + 1) q n := heap_alloc2_new _ _ _
  go_enter Tryd.func41, Tryd.ntmps41
  go_upto_region 1 with fail
  generalize (w.alloc (.cells #[.pointer q, .int .i64 n] 69)).alloc (.cells #[.pointer q, .int .i64 n] 69) = W at *
  have HB1 := fun u (hu : Ext [] W u) => Two.facts (hu.keep hB1 (by simp))
  have HB2 := fun u (hu : Ext [] W u) => Two.facts (hu.keep hB2 (by simp))
  have KL := fun u (hu : Ext [] W u) => last_any u r q n ((hA.trans hu).keep hr (by simp))
  have HA := hid hA
  have he := fun u => eq67 9998 u q
  have hs : Hid (w.heap.size ≤ w.heap.size) := Nat.le_refl _
  clear hA hB1 hB2 hr
  generalize hs0 : w.heap.size = s0 at *
  have HS : Hid (w.heap.size = s0) := hs0
  clear hs hs0
  obtain ⟨x0, x1, x2, x3⟩ := HB1 W.drew (Ext.drew _ _)
  obtain ⟨y0, y1, y2, y3⟩ := HB2 W.drew (Ext.drew _ _)
  go_region_law (go_simp; go_wp2_with (first | (go_at_call 66; refine (KL _ (by (repeat (first | (with_reducible exact Ext.refl [] _) | (with_reducible exact Ext.drew [] _) | (with_reducible assumption) | (with_reducible refine Ext.trans ?_ (Ext.drew [] _)) | (with_reducible refine Ext.trans ?_ (by assumption)) | fail "no chain")))).mono ?_; rintro e w2 ⟨rfl, hE2⟩; have z1 := HB1 w2 (by (repeat (first | (with_reducible exact Ext.refl [] _) | (with_reducible exact Ext.drew [] _) | (with_reducible assumption) | (with_reducible refine Ext.trans ?_ (Ext.drew [] _)) | (with_reducible refine Ext.trans ?_ (by assumption)) | fail "no chain"))); have z2 := HB2 w2 (by (repeat (first | (with_reducible exact Ext.refl [] _) | (with_reducible exact Ext.drew [] _) | (with_reducible assumption) | (with_reducible refine Ext.trans ?_ (Ext.drew [] _)) | (with_reducible refine Ext.trans ?_ (by assumption)) | fail "no chain"))); obtain ⟨z10, z11, z12, z13⟩ := z1; obtain ⟨z20, z21, z22, z23⟩ := z2)))
  all_goals
    go_wp2_with fail
    go_ret
    refine ⟨rfl, ?_⟩
    have e1 := HS.out
    have e2 : Ext [] w w2 := HA.out.trans (by (repeat (first | (with_reducible exact Ext.refl [] _) | (with_reducible exact Ext.drew [] _) | (with_reducible assumption) | (with_reducible refine Ext.trans ?_ (Ext.drew [] _)) | (with_reducible refine Ext.trans ?_ (by assumption)) | fail "no chain")))
    refine e2.on (S := [s0, s0 + 1]) ?_ (by simp; omega)
    exact (((Ext.setCell _ _ _ _ (by simp)).trans (Ext.setCell _ _ _ _ (by simp))).trans (Ext.setCell _ _ _ _ (by simp))).trans (Ext.setCell _ _ _ _ (by simp))

set_option maxRecDepth 100000 in
theorem twin_any (w : World) (a : Option Addr) (n c kb sb r : Nat) (ha : n = 0 ∨ ∃ b o, a = some ⟨b, o, none⟩) (hk : w.cell? ⟨kb, 0, none⟩ = some (.map (some r))) (hr : w.heap[r]? = some (.map #[] 0)) :
    Calls Tryd.prog 40 #[.slice a n c, .slice a n c, .pointer (some ⟨kb, 0, none⟩), .pointer (some ⟨sb, 0, none⟩)] w (fun e w' => e = .returned (.bool true) ∧ Ext [] w w') := by
  by_cases hn : n = 0
  · have hn1 : ((n : Int) == 0) = true := by simp; omega
    have hn2 : (n : Int) = 0 := by omega
    have hn3 : decide ((n : Int) = 0) = true := by simp; omega
    clear hn ha
    go_enter Tryd.func40, Tryd.ntmps40
    go_upto_region 3 with fail
    go_quiet (fail)
    go_wp2_with fail
    go_ret
    exact ⟨rfl, Ext.drewN _ _ _⟩
  · obtain ⟨b, o, rfl⟩ := ha.resolve_left hn
    have KP := fun u => plc_any u b o n c (by omega)
    have KM := fun u (hu : Ext [] w u) => merge_same u r (some ⟨b, o, none⟩) n (hu.keep hr (by simp))
    have hn1 : ((n : Int) == 0) = false := by simp; omega
    have hn2 : ¬ ((n : Int) = 0) := by omega
    clear hr ha
    go_enter Tryd.func40, Tryd.ntmps40
    go_upto_region 3 with fail
    have hk1 := (Ext.drew [] w).cell hk (by simp)
    go_region_held3 (fun w' => w'.cell? ⟨kb, 0, none⟩ = some (.map (some r)))
      (first | exact Ext.cell (by (repeat (first | (with_reducible exact Ext.refl [] _) | (with_reducible exact Ext.drew [] _) | (with_reducible assumption) | (with_reducible refine Ext.trans ?_ (Ext.drew [] _)) | (with_reducible refine Ext.trans ?_ (by assumption)) | fail "no chain"))) hk (by simp) | go_keep)
      (first | (go_at_call 42; refine (KP _).mono ?_; rintro e w2 ⟨rfl, hE2⟩) | (go_at_call 41; refine (KM _ (by (repeat (first | (with_reducible exact Ext.refl [] _) | (with_reducible exact Ext.drew [] _) | (with_reducible assumption) | (with_reducible refine Ext.trans ?_ (Ext.drew [] _)) | (with_reducible refine Ext.trans ?_ (by assumption)) | fail "no chain")))).mono ?_; rintro e w3 ⟨rfl, hE3⟩))
    go_wp2_with fail
    go_ret
    exact ⟨rfl, by (repeat (first | (with_reducible exact Ext.refl [] _) | (with_reducible exact Ext.drew [] _) | (with_reducible assumption) | (with_reducible refine Ext.trans ?_ (Ext.drew [] _)) | (with_reducible refine Ext.trans ?_ (by assumption)) | fail "no chain"))⟩

set_option maxRecDepth 100000 in
theorem same_twin (w : World) (a : Option Addr) (n c : Nat) (ha : n = 0 ∨ ∃ b o, a = some ⟨b, o, none⟩) :
    Calls Tryd.prog 20 #[.slice a n c, .slice a n c] w (fun e w' => e = .returned (.bool true) ∧ Ext [] w w') := by
  have hmk := run_makeMap (P := Tryd.prog) 65 w
  have hm : ∀ x y, (((w.alloc (.map #[] 0)).alloc x).alloc y).heap[w.heap.size]? = some (.map #[] 0) := fun x y => ((Ext.alloc [] _ x).trans (Ext.alloc [] _ y)).keep (heap_alloc_new _ _) (by simp)
  have hc : ∀ y, (((w.alloc (.map #[] 0)).alloc (.cells #[.map (some w.heap.size)] 65)).alloc y).cell? ⟨w.heap.size + 1, 0, none⟩ = some (.map (some w.heap.size)) := fun y => by
    refine (Ext.alloc [] _ y).cell ?_ (by simp)
    have h1 := heap_alloc_new (w.alloc (.map #[] 0)) (.cells #[.map (some w.heap.size)] 65)
    have h2 : (w.alloc (.map #[] 0)).heap.size = w.heap.size + 1 := by simp
    rw [h2] at h1
    rw [cell_of_row _ _ _ _ _ _ h1]; rfl
  have K := fun y => twin_any (((w.alloc (.map #[] 0)).alloc (.cells #[.map (some w.heap.size)] 65)).alloc y) a n c (w.heap.size + 1) (w.heap.size + 1 + 1) w.heap.size ha (hc y) (hm _ y)
  have hE : ∀ y, Ext [] w (((w.alloc (.map #[] 0)).alloc (.cells #[.map (some w.heap.size)] 65)).alloc y) := fun y => ((Ext.alloc [] _ _).trans (Ext.alloc [] _ _)).trans (Ext.alloc [] _ _)
  clear hm hc
  go_enter Tryd.func20, Tryd.ntmps20
  go_wp2_with (go_at_call 40; refine (K _).mono ?_; rintro e w2 ⟨rfl, hE2⟩)
  go_ret
  exact ⟨rfl, (hE _).trans hE2⟩
end Go.Proofs.YtfabhhmeanpmhaaDoor
