/-
  What the program answers of a table and of a type of it; no statement is proved here.
-/
import Derived.Test.YtfabhhmeanpmhaaDoorSurv
namespace Go.Proofs.YtfabhhmeanpmhaaDoor
open Go.RowKit

theorem Arr.put {w : World} {b : Nat} {F0 F : List Me} (h : Arr w b F0) (hl : F.length = 64) : (flat F).length = 192 ∧ (storeCells ⟨b, 0, none⟩ (flat F)).run Tryd.prog w = .ok () (w.setCells b 0 (flat F)) ∧ Arr (w.setCells b 0 (flat F)) b F := by
  have hlen : (flat F).length = 192 := by rw [length_flat, hl]
  refine ⟨hlen, ?_, ⟨World.rangeAt_setCells_same w b 0 (flat F) (by rw [hlen]; exact h.t), World.there_setCells h.t _ _ _, hl⟩⟩
  have := run_storeCells_cells (P := Tryd.prog) b 0 (flat F) 0 w (fun j hj => by simpa using (h.t j (by omega)).1) (fun j hj => by simpa using (h.t j (by omega)).2) (flat_one F)
  simpa using this

open Classical in
/-- The error of a table. -/
noncomputable def chk (ts : List Ty) : Int := if Sound ts then 0 else 1
open Classical in
/-- The error of a table and a type. -/
noncomputable def bad (ts : List Ty) (t : Int) : Int := if Sound ts then (if 0 ≤ t ∧ t < ts.length then 0 else 2) else 1

theorem chk_yes {ts : List Ty} (h : Sound ts) : chk ts = 0 := by unfold chk; rw [if_pos h]
theorem chk_no {ts : List Ty} (h : ¬ Sound ts) : chk ts = 1 := by unfold chk; rw [if_neg h]

theorem bad_form {ts : List Ty} {t : Int} (h : ¬ Sound ts) : bad ts t = 1 := by unfold bad; rw [if_neg h]
theorem bad_arg {ts : List Ty} {t : Int} (h : Sound ts) (h2 : ¬ (0 ≤ t ∧ t < ts.length)) : bad ts t = 2 := by unfold bad; rw [if_pos h, if_neg h2]
theorem bad_ok {ts : List Ty} {t : Int} (h : Sound ts) (h2 : 0 ≤ t ∧ t < ts.length) : bad ts t = 0 := by unfold bad; rw [if_pos h, if_pos h2]

open Classical in
/-- The measure of a type of a table, or none. -/
noncomputable def mo (ts : List Ty) (t : Int) : Me := if bad ts t = 0 then M ts t else zeroMe
theorem mo_ok {ts : List Ty} {t : Int} (h : bad ts t = 0) : mo ts t = M ts t := by unfold mo; rw [if_pos h]
theorem mo_no {ts : List Ty} {t : Int} (h : bad ts t ≠ 0) : mo ts t = zeroMe := by unfold mo; rw [if_neg h]

def MoPost (w : World) (m : Me) (x : Int) (e : Ending) (w' : World) : Prop := e = .returned (.tuple #[.agg #[.int .i64 m.width, .int .i64 m.words, .bool m.cmp], .int .i64 x]) ∧ Ext [] w w'

set_option maxRecDepth 100000 in
set_option maxHeartbeats 1000000 in
theorem measureOf_any (a : Option Addr) (ts : List Ty) (n c : Nat) (t : Int) (w : World) (hT : Tab w a ts) (hn : ts.length = n) (hc : n ≤ c) (hG : Gl w) :
    Calls Tryd.prog 47 #[.slice a n c, .int .i64 t] w (MoPost w (mo ts t) (bad ts t)) := by
  obtain ⟨hz, _⟩ := zero_of_info info99
  obtain ⟨Z, hZ⟩ : ∃ Z, Z = (flat (List.replicate 64 zeroMe)).toArray := ⟨_, rfl⟩
  have hA0 := fun w => Arr.new w
  rw [← hZ] at hz hA0
  generalize List.replicate 64 zeroMe = F0 at *
  have HA0 := hid hA0
  have HN := hid hn
  have hE0 := Ext.alloc [] w (.cells #[.int .i64 0, .int .i64 0, .bool false] 79)
  have K := survey_any a ts n c _ (hT.keep0 hE0) hn hc (hG.keep0 hE0)
  have hb0 := heap_alloc_new w (.cells #[.int .i64 0, .int .i64 0, .bool false] 79)
  have HB0 := hid hb0
  have HE0 := hid hE0
  clear hZ hA0 hT hn hG hb0 hE0
  go_enter Tryd.func47, Tryd.ntmps47
  go_wp2_with fail
  refine K.mono ?_
  clear K
  rintro e w1 ⟨F, r, rfl, hl, hE, hr, hF⟩
  obtain ⟨g1, g2, hA⟩ := (HA0.out w1).put hl
  have HR := hid hr
  have HFF := hid hF
  have hE2 := Ext.alloc [] w1 (.cells Z 99)
  have hb2 := (hE2.keep (hE.keep HB0.out (by simp)) (by simp))
  have hlt : w.heap.size < w1.heap.size := by have := hE.size; simp at this; omega
  have hb3 := (Ext.setCells w1.heap.size (flat F) 0 (w1.alloc (.cells Z 99))).keep hb2 (by simp; omega)
  have HE3 := hid ((HE0.out.trans (hE.trans hE2)).on (Ext.setCells w1.heap.size (flat F) 0 (w1.alloc (.cells Z 99))) (by simp; omega))
  clear hr hF hE hl hb2 hE2
  have r0 : ((w1.alloc (.cells Z 99)).setCells w1.heap.size 0 (flat F)).cell? ⟨w.heap.size, 0, none⟩ = some (.int .i64 0) := by rw [cell_of_row _ _ _ _ _ _ hb3]; rfl
  have r1 : ((w1.alloc (.cells Z 99)).setCells w1.heap.size 0 (flat F)).cell? ⟨w.heap.size, 1, none⟩ = some (.int .i64 0) := by rw [cell_of_row _ _ _ _ _ _ hb3]; rfl
  have r2 : ((w1.alloc (.cells Z 99)).setCells w1.heap.size 0 (flat F)).cell? ⟨w.heap.size, 2, none⟩ = some (.bool false) := by rw [cell_of_row _ _ _ _ _ _ hb3]; rfl
  have rf : ∀ i, ((w1.alloc (.cells Z 99)).setCells w1.heap.size 0 (flat F)).frozen? ⟨w.heap.size, i, none⟩ = false := fun i => frozen_of_row _ _ i _ _ hb3
  clear hb3
  cases r
  · have HX : Hid (bad ts t = 1) := bad_form fun h => by have := HR.out.2 h; cases this
    clear HR HFF
    go_wp2_with fail
    have hx2 : mo ts t = zeroMe := mo_no (by rw [HX.out]; omega)
    refine bodyPost_ret (v := .tuple #[.agg #[.int .i64 0, .int .i64 0, .bool false], .int .i64 1]) (by rw [results_cell_tmp rfl]; simp [go_sem, r0, r1, r2]) rfl ⟨by rw [HX.out, hx2]; rfl, ?_⟩
    exact HE3.out.on (((Ext.setCell [w.heap.size] _ _ _ (by simp)).trans (Ext.setCell _ _ _ _ (by simp))).trans (Ext.setCell _ _ _ _ (by simp))) (by simp)
  · have HSo := hid (HR.out.1 rfl)
    have HFF2 := hid (HFF.out rfl)
    clear HR HFF
    by_cases ht : 0 ≤ t ∧ t < n
    · have HX : Hid (bad ts t = 0) := bad_ok HSo.out (by rw [HN.out]; exact ht)
      have K2 := inside_yes a n c t ((w1.alloc (.cells Z 99)).setCells w1.heap.size 0 (flat F)) ht
      obtain ⟨j, rfl⟩ : ∃ j : Nat, t = j := ⟨t.toNat, by omega⟩
      have hj : (j : Int) < 64 := by have := HSo.out.1; have := HN.out; omega
      obtain ⟨s0, s1, s2, _, _, _⟩ := hA.spots j hj
      rw [HFF2.out j (by have := HN.out; omega)] at s0 s1 s2
      have HM := hid (mo_ok HX.out)
      obtain ⟨ht0, ht1⟩ := ht
      generalize M ts j = m at *
      clear hA
      go_wp2_with (go_at_call 68; refine met K2 ?_)
      refine bodyPost_ret (v := .tuple #[.agg #[.int .i64 m.width, .int .i64 m.words, .bool m.cmp], .int .i64 0]) (by rw [results_cell_tmp rfl]; simp [go_sem, r0, r1, r2]) rfl ⟨by rw [HX.out, HM.out], ?_⟩
      exact HE3.out.on (((Ext.setCell [w.heap.size] _ _ _ (by simp)).trans (Ext.setCell _ _ _ _ (by simp))).trans (Ext.setCell _ _ _ _ (by simp))) (by simp)
    · have HX : Hid (bad ts t = 2) := bad_arg HSo.out (by rw [HN.out]; exact ht)
      have K2 := inside_no a n c t ((w1.alloc (.cells Z 99)).setCells w1.heap.size 0 (flat F)) ht
      clear ht hA
      go_wp2_with (go_at_call 68; refine met K2 ?_)
      have hx2 : mo ts t = zeroMe := mo_no (by rw [HX.out]; omega)
      refine bodyPost_ret (v := .tuple #[.agg #[.int .i64 0, .int .i64 0, .bool false], .int .i64 2]) (by rw [results_cell_tmp rfl]; simp [go_sem, r0, r1, r2]) rfl ⟨by rw [HX.out, hx2]; rfl, ?_⟩
      exact HE3.out.on (((Ext.setCell [w.heap.size] _ _ _ (by simp)).trans (Ext.setCell _ _ _ _ (by simp))).trans (Ext.setCell _ _ _ _ (by simp))) (by simp)

theorem width_any (a : Option Addr) (ts : List Ty) (n c : Nat) (t : Int) (w : World) (hT : Tab w a ts) (hn : ts.length = n) (hc : n ≤ c) (hG : Gl w) :
    Calls Tryd.prog 27 #[.slice a n c, .int .i64 t] w (SayPost w (.tuple #[.int .i64 (mo ts t).width, .int .i64 (bad ts t)])) := by
  have K := measureOf_any a ts n c t w hT hn hc hG
  clear hT hn hG
  generalize mo ts t = m at *
  generalize bad ts t = x at *
  go_enter Tryd.func27, Tryd.ntmps27
  go_wp2_with fail
  refine K.mono ?_
  rintro e w1 ⟨rfl, hE⟩
  have HE := hid hE
  clear hE K
  go_wp2_with fail
  go_ret2
  exact ⟨rfl, HE.out.trans (Ext.alloc _ _ _)⟩

end Go.Proofs.YtfabhhmeanpmhaaDoor
