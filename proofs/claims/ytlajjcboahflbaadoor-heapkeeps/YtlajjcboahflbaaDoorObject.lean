/-
  object: an object told; no statement is proved here.
-/
import Derived.Test.YtlajjcboahflbaaDoorNew
namespace Go.Proofs.YtlajjcboahflbaaDoor
open Go.RowKit

theorem info34 : (Tryd.prog.info? 34).map (fun i => (i.zero, i.size, i.bytes)) = some (some (.agg #[.int .i64 0, .int .i64 0, .int .i64 0, .slice none 0 0]), 4, 48) := by kernel_rfl

/-- An object's value. -/
def obV (a s t : Int) : Value := .agg #[.int .i64 a, .int .i64 s, .int .i64 t, .slice none 0 0]
theorem load34 {w : World} {g : Nat} {a s t : Int} {v : Value} (h : w.heap[g]? = some (.cells #[.int .i64 a, .int .i64 s, .int .i64 t, v] 34 (0, 0))) : (loadVar 34 ⟨g, 0, none⟩).run Tryd.prog w = .ok (.agg #[.int .i64 a, .int .i64 s, .int .i64 t, v]) w := by
  have c0 : w.cell? ⟨g, 0, none⟩ = some (.int .i64 a) := by rw [cell_of_row _ _ _ _ _ _ h]; rfl
  have c1 : w.cell? ⟨g, 1, none⟩ = some (.int .i64 s) := by rw [cell_of_row _ _ _ _ _ _ h]; rfl
  have c2 : w.cell? ⟨g, 2, none⟩ = some (.int .i64 t) := by rw [cell_of_row _ _ _ _ _ _ h]; rfl
  have c3 : w.cell? ⟨g, 3, none⟩ = some v := by rw [cell_of_row _ _ _ _ _ _ h]; rfl
  simp [go_sem, c0, c1, c2, c3]
theorem results_cell_tmp2 {P : Program} {fn : Func} {p q : Tmp} {ty : TypeId} (h : fn.results = #[.cell p ty, .tmp q]) (tmps : Array Value) (w : World) (a : Addr) (v : Value)
    (hp : tmps.getD p undef = .pointer (some a)) (h1 : (loadVar ty a).run P w = .ok v w) : (results fn tmps).run P w = .ok (.tuple #[v, tmps.getD q undef]) w := by
  have hp' : tmps[p]?.getD undef = .pointer (some a) := by simpa using hp
  simp [results, h, hp', asAddr, h1]

set_option maxRecDepth 100000 in
set_option maxHeartbeats 4000000 in
theorem object_any (s g : Nat) (start pages room used : Int) (i : Nat) (S : List Slot) (w : World) (hS : Sp w s g start pages room used S) (h1 : 0 ≤ start ∧ start ≤ 1024) (h2 : 0 ≤ room ∧ room ≤ 65536) (h3 : i < S.length) (h4 : S.length ≤ 65536) :
    Calls Tryd.prog 34 #[.pointer (some ⟨s, 0, none⟩), .int .i64 i] w (SayPost w (obV ((start + 1) * 256 + i * room) (S.getD i (0, 0)).1 (S.getD i (0, 0)).2)) := by
  obtain ⟨wa, hwa⟩ : ∃ wa, wa = w.alloc (.cells #[.int .i64 0, .int .i64 0, .int .i64 0, .slice none 0 0] 34) := ⟨_, rfl⟩
  have hE0 : Ext [] w wa := by rw [hwa]; exact Ext.alloc _ _ _
  have hS0 := hS.keep hE0 (by simp) (by simp)
  have hb0 : wa.heap[w.heap.size]? = some (.cells #[.int .i64 0, .int .i64 0, .int .i64 0, .slice none 0 0] 34 (0, 0)) := by rw [hwa]; exact heap_alloc_new _ _
  have KA := fun n => addr_dr s g start pages room used i S (wa.drewN n) (hS0.keep (Ext.drewN [] wa n) (by simp) (by simp)) h1 h2 (by omega)
  have c4 := hS0.c4
  obtain ⟨a0, a1⟩ := hS0.at_ h3
  have hil : (i : Int) < (S.length : Nat) := by omega
  obtain ⟨ad, had⟩ : ∃ ad : Int, ad = (start + 1) * 256 + i * room := ⟨_, rfl⟩
  rw [← had] at KA ⊢
  have fz0 := frozen_of_row wa w.heap.size 0 _ _ hb0
  have fz1 := frozen_of_row wa w.heap.size 1 _ _ hb0
  have fz2 := frozen_of_row wa w.heap.size 2 _ _ hb0
  have fz3 := frozen_of_row wa w.heap.size 3 _ _ hb0
  have d0 : wa.cell? ⟨w.heap.size, 0, none⟩ = some (.int .i64 0) := by rw [cell_of_row _ _ _ _ _ _ hb0]; rfl
  have d1 : wa.cell? ⟨w.heap.size, 1, none⟩ = some (.int .i64 0) := by rw [cell_of_row _ _ _ _ _ _ hb0]; rfl
  have d2 : wa.cell? ⟨w.heap.size, 2, none⟩ = some (.int .i64 0) := by rw [cell_of_row _ _ _ _ _ _ hb0]; rfl
  have d3 : wa.cell? ⟨w.heap.size, 3, none⟩ = some (.slice none 0 0) := by rw [cell_of_row _ _ _ _ _ _ hb0]; rfl
  have HFin : Hid (∀ m, (loadVar 34 ⟨w.heap.size, 0, none⟩).run Tryd.prog (((((wa.drewN (1 + m)).setCell ⟨w.heap.size, 0, none⟩ (.int .i64 ad)).setCell ⟨w.heap.size, 1, none⟩ (.int .i64 (S.getD i (0, 0)).1)).setCell ⟨w.heap.size, 2, none⟩ (.int .i64 (S.getD i (0, 0)).2)).setCell ⟨w.heap.size, 3, none⟩ (.slice none 0 0)) = .ok (obV ad (S.getD i (0, 0)).1 (S.getD i (0, 0)).2) (((((wa.drewN (1 + m)).setCell ⟨w.heap.size, 0, none⟩ (.int .i64 ad)).setCell ⟨w.heap.size, 1, none⟩ (.int .i64 (S.getD i (0, 0)).1)).setCell ⟨w.heap.size, 2, none⟩ (.int .i64 (S.getD i (0, 0)).2)).setCell ⟨w.heap.size, 3, none⟩ (.slice none 0 0)) ∧
      Ext [] w (((((wa.drewN (1 + m)).setCell ⟨w.heap.size, 0, none⟩ (.int .i64 ad)).setCell ⟨w.heap.size, 1, none⟩ (.int .i64 (S.getD i (0, 0)).1)).setCell ⟨w.heap.size, 2, none⟩ (.int .i64 (S.getD i (0, 0)).2)).setCell ⟨w.heap.size, 3, none⟩ (.slice none 0 0))) := by
    intro m
    have hb1 := (Ext.drewN [] wa (1 + m)).keep hb0 (by simp)
    refine ⟨?_, ?_⟩
    · have := heap_setCell_same _ _ 3 _ _ (.slice none 0 0) (heap_setCell_same _ _ 2 _ _ (.int .i64 (S.getD i (0, 0)).2) (heap_setCell_same _ _ 1 _ _ (.int .i64 (S.getD i (0, 0)).1) (heap_setCell_same _ _ 0 _ _ (.int .i64 ad) hb1)))
      exact load34 this
    · refine Ext.on (hE0.trans (Ext.drewN [] wa (1 + m))) (S := [w.heap.size]) ?_ (by simp)
      exact (((Ext.setCell _ _ _ _ (by simp)).trans (Ext.setCell _ _ _ _ (by simp))).trans (Ext.setCell _ _ _ _ (by simp))).trans (Ext.setCell _ _ _ _ (by simp))
  clear hS hS0 had h1 h2 h3 h4 hb0 hE0
  generalize (S.getD i (0, 0)).1 = x0 at *
  generalize (S.getD i (0, 0)).2 = x1 at *
  generalize S.length = len at *
  go_enter Tryd.func34, Tryd.ntmps34
  go_upto_region 1 with fail
  rw [← hwa]
  clear hwa
  have KA1 := KA 1
  go_region_law (go_simp; go_wp2_with (first | (go_at_call 33; refine KA1.mono ?_; clear KA1; rintro e w2 ⟨rfl, m, rfl⟩) | fail "no arm"))
  all_goals
    go_wp2_with fail
    refine bodyPost_ret (results_cell1 rfl _ _ ⟨w.heap.size, 0, none⟩ _ rfl (HFin.out _).1) rfl ⟨rfl, (HFin.out _).2⟩

end Go.Proofs.YtlajjcboahflbaaDoor
