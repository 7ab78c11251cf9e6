/-
  The other kinds of a step of ColorPlays; no statement is proved here.
-/
import Derived.Test.YtbjplfbplkjibaaStep
namespace Go.Proofs.Ytbjplfbplkjibaa
open Go.RowKit

set_option maxRecDepth 100000 in
set_option maxHeartbeats 4000000 in
theorem step_shade (w0 : World) (p q : Nat) (G : Gs) (o : Oq) (ra : Option Addr) (rn rc : Nat) (w : World) (h : PlE w0 w p q G) (hI : Iv G) (hk : o.kd = 6) :
    Calls Try.prog 6 #[.pointer (some ⟨p, 0, none⟩), .pointer (some ⟨q, 0, none⟩), oqv o ra rn rc] w (SpPost w0 p q (opG G o)) := by
  obtain ⟨C, D, hP⟩ := h
  rw [(oq_eq G o).2.2.2.1 hk]
  have HK := hid (fun W (hE : Ext [] w W) => two_calls hP (Nat.le_refl _) hE 24 25 #[.pointer (some ⟨p, 0, none⟩), .int .i64 o.a] #[.pointer (some ⟨q, 0, none⟩), .int .i64 o.a] _ _ (fun W' C' hg => shadeC_any p G C' o.a W' hg hI) (fun W' D' hg => rshadeC_any q G D' o.a W' hg hI))
  have b1 : (o.kd == 1) = false := by simp [hk]
  have b2 : (o.kd == 2) = false := by simp [hk]
  have b3 : (o.kd == 3) = false := by simp [hk]
  have b4 : (o.kd == 4) = false := by simp [hk]
  have b5 : (o.kd == 5) = false := by simp [hk]
  have b6 : (o.kd == 6) = true := by simp [hk]
  have hEa : Ext [] w ((w.alloc (.cells #[.int .i64 o.kd, .int .i64 o.a, .int .i64 o.b, .int .i64 o.c, .slice ra rn rc] 33)).drew) := (Ext.alloc [] w _).trans (Ext.drew [] _)
  have K := HK.out _ hEa
  unfold oqv
  clear hP hI HK hEa hk
  generalize shade G o.a = res at *
  go_enter Try.func6, Try.ntmps6
  go_wp2_with fail
  go_region_held3 (fun w' => w'.cell? ⟨w.heap.size, 1, none⟩ = some (.int .i64 o.a))
    (first
      | go_keep
      | exact ca2 _ _ (ca1 _ _ (by simp))
      | exact ca1 _ _ (by simp))
    (first
      | (go_at_call 24; refine K.mono ?_; rintro e w1 ⟨rfl, ca1, KB⟩)
      | (go_at_call 25; refine KB.mono ?_; rintro e w2 ⟨rfl, ca2, hP2⟩)
      | fail "no arm")
  have HP2 := hid hP2
  clear hP2 KB ca1 ca2 K
  have hbe : (res.2 == res.2) = true := by simp
  go_wp2_with fail
  go_ret
  exact ⟨rfl, HP2.out⟩

set_option maxRecDepth 100000 in
set_option maxHeartbeats 4000000 in
theorem step_node (w0 : World) (p q : Nat) (G : Gs) (o : Oq) (ra : Option Addr) (rn rc : Nat) (w : World) (h : PlE w0 w p q G) (hI : Iv G) (h1 : o.kd ≠ 1) (h2 : o.kd ≠ 2) (h3 : o.kd ≠ 3) (h4 : o.kd ≠ 4) (h5 : o.kd ≠ 5) (h6 : o.kd ≠ 6) :
    Calls Try.prog 6 #[.pointer (some ⟨p, 0, none⟩), .pointer (some ⟨q, 0, none⟩), oqv o ra rn rc] w (SpPost w0 p q (opG G o)) := by
  obtain ⟨C, D, hP⟩ := h
  rw [(oq_eq G o).2.2.2.2.2 h1 h2 h3 h4 h5 h6]
  have HK := hid (fun W (hE : Ext [] w W) => two_calls hP (Nat.le_refl _) hE 12 26 #[.pointer (some ⟨p, 0, none⟩), .int .i64 (min o.a 64)] #[.pointer (some ⟨q, 0, none⟩), .int .i64 (min o.a 64)] _ _ (fun W' C' hg => node_any p G C' (min o.a 64) W' hg hI) (fun W' D' hg => rnode_any q G D' (min o.a 64) W' hg hI))
  have b1 : (o.kd == 1) = false := by simp [h1]
  have b2 : (o.kd == 2) = false := by simp [h2]
  have b3 : (o.kd == 3) = false := by simp [h3]
  have b4 : (o.kd == 4) = false := by simp [h4]
  have b5 : (o.kd == 5) = false := by simp [h5]
  have b6 : (o.kd == 6) = false := by simp [h6]
  have hEa : Ext [] w (w.alloc (.cells #[.int .i64 o.kd, .int .i64 o.a, .int .i64 o.b, .int .i64 o.c, .slice ra rn rc] 33)) := Ext.alloc [] w _
  have K := HK.out _ hEa
  have d1 : (w.alloc (.cells #[.int .i64 o.kd, .int .i64 o.a, .int .i64 o.b, .int .i64 o.c, .slice ra rn rc] 33)).cell? ⟨w.heap.size, 1, none⟩ = some (.int .i64 o.a) := by rw [cell_of_row _ _ _ _ _ _ (heap_alloc_new w _)]; rfl
  unfold oqv
  clear hP hI HK hEa h1 h2 h3 h4 h5 h6
  have hmin : (o.a ≤ 64 ∧ min o.a 64 = o.a) ∨ (64 ≤ o.a ∧ ¬ o.a ≤ 64 ∧ min o.a 64 = 64) := by omega
  generalize node G (min o.a 64) = res at *
  generalize min o.a 64 = mm at *
  have hbe : (res.2.1 == res.2.1) = true := by simp
  have hbf : (res.2.2 == res.2.2) = true := by simp
  rcases hmin with ⟨m1, rfl⟩ | ⟨m1, m2, rfl⟩
  · go_enter Try.func6, Try.ntmps6
    go_wp2_with fail
    all_goals
      refine K.mono ?_
      rintro e w1 ⟨rfl, ca1, KB⟩
      have d2 := ca1 _ _ d1
      go_wp2_with fail
      all_goals
        refine KB.mono ?_
        rintro e w2 ⟨rfl, ca2, hP2⟩
        have HP2 := hid hP2
        clear hP2 ca1 ca2
        go_wp2_with fail
        go_ret
        exact ⟨rfl, HP2.out⟩
  · go_enter Try.func6, Try.ntmps6
    go_wp2_with fail
    all_goals
      refine K.mono ?_
      rintro e w1 ⟨rfl, ca1, KB⟩
      have d2 := ca1 _ _ d1
      go_wp2_with fail
      all_goals
        refine KB.mono ?_
        rintro e w2 ⟨rfl, ca2, hP2⟩
        have HP2 := hid hP2
        clear hP2 ca1 ca2
        go_wp2_with fail
        go_ret
        exact ⟨rfl, HP2.out⟩

end Go.Proofs.Ytbjplfbplkjibaa
