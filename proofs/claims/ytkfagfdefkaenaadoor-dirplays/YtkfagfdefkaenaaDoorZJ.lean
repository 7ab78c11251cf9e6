/-
  DCln, DSlo: joined by program; no statement is proved here.
-/
import Derived.Test.YtkfagfdefkaenaaDoorZG
import Derived.Test.YtkfagfdefkaenaaDoorZI
/-
  A copy of a directory; no statement is proved here.
-/
namespace Go.Proofs.YtkfagfdefkaenaaDoor
open Go.RowKit Go.Shelf
open Pr (Gp GpI sq pl)
attribute [local go_sem] Oper.semAt_some run_store_func

/-- A directory of its own. -/
def DPost (w : World) (dp n : Nat) (L : List Tq) (e : Ending) (w' : World) : Prop := ∃ bt ct bs cs, e = .returned (dv dp bt n ct bs 0 (2 ^ dp) cs) ∧ Tc w' bt ct L ∧ Ns w' bs 0 (slo dp L 0) ∧ w.heap.size ≤ bt ∧ w.heap.size ≤ bs ∧ 2 ^ dp ≤ cs ∧ bt ≠ bs ∧ Ext [] w w'
theorem size27 : (Tryd.prog.info? 27).map (·.size) = some 3 := by kernel_rfl
theorem split_at {α : Type} {L : List α} {k : Nat} {t : α} (h : L[k]? = some t) : L = L.take k ++ t :: L.drop (k + 1) := by
  obtain ⟨hk, rfl⟩ := List.getElem?_eq_some_iff.1 h
  rw [List.getElem_cons_drop, List.take_append_drop]
set_option maxRecDepth 100000 in
set_option maxHeartbeats 4000000 in
theorem dclone_any (dp bt ct bs os cs n : Nat) (L : List Tq) (hD : Dq dp L) (hn : L.length = n) (h0 : 0 < n) (w : World) (hR : Dr w bt bs os dp L) :
    Calls Tryd.prog 39 #[dv dp bt n ct bs os (2 ^ dp) cs] w (DPost w dp n L) := by
  have hdp := hD.le
  have hl := hD.len
  have h64 := pow64 hdp
  have hsl := slo_len dp L 0
  rw [hD.all] at hsl
  rw [hn] at hl
  have HD := hid hD
  have HR := hid hR
  have HN := hid hn
  have hm0 : 0 < 2 ^ dp := Nat.pow_pos (by omega)
  obtain ⟨m, hm⟩ : ∃ m, 2 ^ dp = m := ⟨_, rfl⟩
  rw [hm] at h64 hsl hm0
  obtain ⟨z, hz⟩ : ∃ z, w.heap.size = z := ⟨_, rfl⟩
  obtain ⟨W0, hW0⟩ : ∃ W0, (w.alloc (.cells #[.int .i64 (dp : Nat), .slice (some ⟨bt, 0, none⟩) n ct, .slice (some ⟨bs, os, none⟩) m cs] 27)).alloc (.cells #[.int .i64 0, .slice none 0 0, .slice none 0 0] 27) = W0 := ⟨_, rfl⟩
  have hE0 : Ext [] w W0 := by rw [← hW0]; exact (Ext.alloc [] _ _).trans (Ext.alloc [] _ _)
  have b0 : W0.heap[z]? = some (.cells #[.int .i64 (dp : Nat), .slice (some ⟨bt, 0, none⟩) n ct, .slice (some ⟨bs, os, none⟩) m cs] 27) := by
    rw [← hW0, ← hz]; exact (Below.heap_alloc _ _ _ (by simp)).trans (heap_alloc_new w _)
  have b1 : W0.heap[z + 1]? = some (.cells #[.int .i64 0, .slice none 0 0, .slice none 0 0] 27) := by
    have := heap_alloc_new (w.alloc (.cells #[.int .i64 (dp : Nat), .slice (some ⟨bt, 0, none⟩) n ct, .slice (some ⟨bs, os, none⟩) m cs] 27)) (.cells #[.int .i64 0, .slice none 0 0, .slice none 0 0] 27)
    rw [hW0, World.size_alloc, hz] at this; exact this
  obtain ⟨xs, hx1, hx2, hx3, hx4⟩ := (hR.keep0 hE0).ts.vals
  rw [hn] at hx1
  have hEd := Ext.drew [] W0
  have HE0 := hid (hE0.trans hEd)
  have B0 := hid (hEd.keep b0 (by simp))
  have B1 := hid (hEd.keep b1 (by simp))
  have a1 : W0.drew.cell? ⟨z, 1, none⟩ = some (.slice (some ⟨bt, 0, none⟩) n ct) := by rw [cell_of_row _ _ _ _ _ _ B0.out]; rfl
  have a2 : W0.drew.cell? ⟨z, 2, none⟩ = some (.slice (some ⟨bs, os, none⟩) m cs) := by rw [cell_of_row _ _ _ _ _ _ B0.out]; rfl
  have K1 := tclone_any bt n ct xs W0.drew (fun j u hj => hEd.cell (hx3 j u hj) (by simp)) hx1 hx2 h0 (by omega)
  have K2 := fun u (hu : Ext [] W0.drew u) => iclone_any bs os m cs (slo dp L 0) u (((hR.keep0 hE0).keep0 hEd).keep0 hu).ns hsl hm0 (by omega)
  have HX4 := hid hx4
  have HX3 := hid hx3
  unfold dv
  rw [hm]
  clear hD hn hR hE0 b0 b1 hx1 hx2 hx3 hx4 hEd
  go_enter Tryd.func39, Tryd.ntmps39
  go_wp2_with fail
  try rw [hW0]
  try simp only [hz]
  clear hW0
  go_region_law (go_simp; go_wp2_with (first
    | (go_at_call 73; refine K1.mono ?_; clear K1; rintro _ w1 ⟨g1, c1, rfl, ho1, hE1⟩; have e2 := hE1.cell a2 (by simp); have K3 := K2 _ hE1; have HO1 := hid ho1; have HE1 := hid hE1; clear ho1 hE1)
    | (go_at_call 74; refine K3.mono ?_; clear K3 e2; rintro _ w2 ⟨g2, c2, rfl, hn2, hg2, hc2, ⟨cur2, hr2⟩, hE2⟩; have B2 := hid (hE2.keep (HE1.out.keep B0.out (by simp)) (by simp)); have s1 : w2.cell? ⟨z, 1, none⟩ = some (.slice (some ⟨bt, 0, none⟩) n ct) := (by rw [cell_of_row _ _ _ _ _ _ B2.out]; rfl); have s2 : w2.cell? ⟨z, 2, none⟩ = some (.slice (some ⟨bs, os, none⟩) m cs) := (by rw [cell_of_row _ _ _ _ _ _ B2.out]; rfl); have f1 : w2.frozen? ⟨z, 1, none⟩ = false := frozen_of_row _ _ _ _ _ B2.out; have B3 := hid (heap_setCell_same w2 z 1 _ 27 (.slice (some ⟨g1, 0, none⟩) n c1) B2.out); have f2 : (w2.setCell ⟨z, 1, none⟩ (.slice (some ⟨g1, 0, none⟩) n c1)).frozen? ⟨z, 2, none⟩ = false := frozen_of_row _ _ _ _ _ B3.out; have s3 : (w2.setCell ⟨z, 1, none⟩ (.slice (some ⟨g1, 0, none⟩) n c1)).cell? ⟨z, 2, none⟩ = some (.slice (some ⟨bs, os, none⟩) m cs) := (by rw [cell_of_row _ _ _ _ _ _ B3.out]; rfl); have HN2 := hid hn2; have HR2 := hid hr2; have HE2 := hid hE2; clear hn2 hr2 hE2)))
  all_goals
    obtain ⟨W5, hW5⟩ : ∃ W5, (w2.setCell ⟨z, 1, none⟩ (.slice (some ⟨g1, 0, none⟩) n c1)).setCell ⟨z, 2, none⟩ (.slice (some ⟨g2, 0, none⟩) m c2) = W5 := ⟨_, rfl⟩
    have hEz : Ext [z] w2 W5 := by rw [← hW5]; exact (Ext.setCell [z] _ _ _ (by simp)).trans (Ext.setCell [z] _ _ _ (by simp))
    have hbz : W5.heap[z]? = some (.cells #[.int .i64 (dp : Nat), .slice (some ⟨g1, 0, none⟩) n c1, .slice (some ⟨g2, 0, none⟩) m c2] 27) := by
      rw [← hW5]; exact heap_setCell_same _ z 2 _ 27 _ B3.out
    have hnz : ∀ T, ¬ Tw w2 z T := by
      rintro T ⟨cs, h1, _⟩
      rw [B2.out] at h1; cases h1
    have h12 := HE1.out.trans HE2.out
    have hsz : z + 1 < w2.heap.size := lt_of_heap (h12.keep B1.out (by simp))
    obtain ⟨hg1, hTc2⟩ := tc_of_own (L := L) (own_keep0 HO1.out HE2.out) HN.out (fun k t hk => by
      obtain ⟨q, c, k1, k2, k3⟩ := HX4.out k t hk
      exact ⟨q, c, k1, k2, (k3.keep0 (Ext.drew [] _)).keep0 h12⟩)
    have hzW : z < W0.drew.heap.size := lt_of_heap B0.out
    have hzW1 : z + 1 < W0.drew.heap.size := lt_of_heap B1.out
    have hg2' : W0.drew.heap.size ≤ g2 := Nat.le_trans HE1.out.size hg2
    have hTc5 := hTc2.keep hEz (by simp; omega) (by simpa using hnz)
    have hNs5 := HN2.out.keep hEz (by simp; omega)
    have hb1 : W5.heap[z + 1]? = _ := hEz.keep (h12.keep B1.out (by simp)) (by simp)
    have hEw : Ext [] w W5 := (HE0.out.trans h12).on hEz (by simp; omega)
    have hg12 : g1 ≠ g2 := by
      rintro rfl
      obtain ⟨cs, h1, _⟩ := hTc2.1
      rw [HR2.out] at h1; cases h1
    rw [hW5]
    clear hW5 a1 a2 s1 s2 s3 f1 f2 B2 B3 HO1 HN2 HR2 HE1 HE2 K2 B0 B1 HX4 HX3 hTc2 hnz hEz h12
    have l1 : W5.cell? ⟨z, 1, none⟩ = some (.slice (some ⟨g1, 0, none⟩) n c1) := by rw [cell_of_row _ _ _ _ _ _ hbz]; rfl
    have HTc := hid hTc5
    have HNs := hid hNs5
    have HBz := hid hbz
    have HB1 := hid hb1
    have HEw := hid hEw
    clear hTc5 hNs5 hbz hb1 hEw
    go_wp2_with fail
    go_loopw [15] (fun q wr => ∃ k : Nat, q = .int .i64 k ∧ k ≤ n ∧ Tc wr g1 c1 L ∧ Ext [g1] W5 wr) (fun q _ => (n - (intOf q)).toNat)
    case atStart => exact ⟨0, rfl, Nat.zero_le _, HTc.out, Ext.refl _ _⟩
    case round =>
      obtain ⟨k, rfl, hk, hTr, hXr⟩ := hrel
      have hrz : wr.heap[z]? = _ := hXr.keep HBz.out (by simp; omega)
      by_cases hkn : k < n
      · have hki : (k : Int) < n := by omega
        have j1 : wr.drew.cell? ⟨z, 1, none⟩ = some (.slice (some ⟨g1, 0, none⟩) n c1) := by rw [cell_of_row _ _ _ _ _ _ ((Ext.drew [] wr).keep hrz (by simp))]; rfl
        have hnk := HN.out
        obtain ⟨t, ht⟩ : ∃ t, L[k]? = some t := ⟨_, List.getElem?_eq_getElem (by omega)⟩
        obtain ⟨q, c, e1, e2, hTw⟩ := (hTr.1.keep0 (Ext.drew [] wr)).cells ht
        have hsd := (HD.out.nth (n := k) (by omega)).elim fun t' h => h.elim fun p h => (show Sd t.T t.G from by
          have := h.at_; rw [ht] at this; cases this; exact h.ot.sd)
        have K4 := clone_any q 0 (3 + 17 * t.G) c t.T wr.drew hTw.wd hsd.shp.len (by omega) (by have := hsd.shp.gp.le; omega)
        have HTr := hid (hTr.keep0 (Ext.drew [] wr))
        have HXr := hid (hXr.trans (Ext.drew [g1] wr))
        have Ht := hid ht
        clear hTr hXr hrz hTw ht hsd hnk
        go_wp2_with fail
        go_region_law (go_simp; go_wp2_with (first
          | (go_at_call 71; refine K4.mono ?_; clear K4; rintro _ w3 ⟨g3, c3, rfl, hT3, hg3, hE3⟩; have j2 := hE3.cell j1 (by simp); have e3 := hE3.cell e2 (by simp); have hTr3 := HTr.out.keep0 hE3; have f3 : w3.frozen? ⟨g1, k * 2 + 1, none⟩ = false := hTr3.1.frozen _; have HT3 := hid hT3; have HE3 := hid hE3; have HTr3 := hid hTr3; clear hT3 hE3 hTr3)))
        all_goals
          have hst := Ext.setCell [g1] w3 ⟨g1, k * 2 + 1, none⟩ (.slice (some ⟨g3, 0, none⟩) (3 + 17 * t.G) c3) (by simp)
          have hTn : Tc (w3.setCell ⟨g1, k * 2 + 1, none⟩ (.slice (some ⟨g3, 0, none⟩) (3 + 17 * t.G) c3)) g1 c1 L := by
            have hL := split_at Ht.out
            have hln : (L.take k).length = k := by rw [List.length_take]; have := HN.out; omega
            have h3 := HTr3.out
            rw [hL] at h3 ⊢
            have := h3.set (t' := t) rfl (g := g3) (c := c3) HT3.out
            rw [hln] at this
            exact this
          have HTn := hid hTn
          have HXn := hid ((HXr.out.trans (HE3.out.mono (by simp))).trans hst)
          clear hst hTn j1 j2 e1 e2 e3 f3
          go_wp2_with fail
          go_roundw
          case rel => exact ⟨k + 1, by go_num, by omega, HTn.out, HXn.out⟩
          case measure => simp [intOf]; omega
      · obtain rfl : k = n := by omega
        have r0 : wr.cell? ⟨z, 0, none⟩ = some (.int .i64 (dp : Nat)) := by rw [cell_of_row _ _ _ _ _ _ hrz]; rfl
        have r1 : wr.cell? ⟨z, 1, none⟩ = some (.slice (some ⟨g1, 0, none⟩) k c1) := by rw [cell_of_row _ _ _ _ _ _ hrz]; rfl
        have r2 : wr.cell? ⟨z, 2, none⟩ = some (.slice (some ⟨g2, 0, none⟩) m c2) := by rw [cell_of_row _ _ _ _ _ _ hrz]; rfl
        have hb1 : wr.heap[z + 1]? = _ := hXr.keep HB1.out (by simp; omega)
        have HTr := hid hTr
        have HXr := hid hXr
        have Hb1 := hid hb1
        have y0 : wr.cell? ⟨z + 1, 0, none⟩ = some (.int .i64 0) := by rw [cell_of_row _ _ _ _ _ _ hb1]; rfl
        have y1 : wr.cell? ⟨z + 1, 1, none⟩ = some (.slice none 0 0) := by rw [cell_of_row _ _ _ _ _ _ hb1]; rfl
        have y2 : wr.cell? ⟨z + 1, 2, none⟩ = some (.slice none 0 0) := by rw [cell_of_row _ _ _ _ _ _ hb1]; rfl
        have f0 : wr.frozen? ⟨z + 1, 0, none⟩ = false := frozen_of_row _ _ _ _ _ hb1
        have h2 := heap_setCell_same wr (z + 1) 0 _ 27 (.int .i64 (dp : Nat)) hb1
        have f1 : (wr.setCell ⟨z + 1, 0, none⟩ (.int .i64 (dp : Nat))).frozen? ⟨z + 1, 1, none⟩ = false := frozen_of_row _ _ _ _ _ h2
        have h3 := heap_setCell_same _ (z + 1) 1 _ 27 (.slice (some ⟨g1, 0, none⟩) k c1) h2
        have f2 : ((wr.setCell ⟨z + 1, 0, none⟩ (.int .i64 (dp : Nat))).setCell ⟨z + 1, 1, none⟩ (.slice (some ⟨g1, 0, none⟩) k c1)).frozen? ⟨z + 1, 2, none⟩ = false := frozen_of_row _ _ _ _ _ h3
        have h4 := heap_setCell_same _ (z + 1) 2 _ 27 (.slice (some ⟨g2, 0, none⟩) m c2) h3
        have H4 := hid h4
        clear hTr hXr hrz hb1 h2 h3 h4
        go_wp2_with fail
        have hst : Ext [z + 1] wr (((wr.setCell ⟨z + 1, 0, none⟩ (.int .i64 (dp : Nat))).setCell ⟨z + 1, 1, none⟩ (.slice (some ⟨g1, 0, none⟩) k c1)).setCell ⟨z + 1, 2, none⟩ (.slice (some ⟨g2, 0, none⟩) m c2)) :=
          ((Ext.setCell [z + 1] _ _ _ (by simp)).trans (Ext.setCell [z + 1] _ _ _ (by simp))).trans (Ext.setCell [z + 1] _ _ _ (by simp))
        have hnt : ∀ T, ¬ Tw wr (z + 1) T := by
          rintro T ⟨cs, h1, _⟩
          rw [Hb1.out] at h1; cases h1
        refine bodyPost_ret (results_cell_row rfl _ _ (z + 1) 27 _ (0, 0) _ rfl H4.out Tryd.underlying27 rfl size27) rfl ?_
        refine ⟨g1, c1, g2, c2, ?_, HTr.out.keep hst (by simp; omega) (by simpa using hnt), (HNs.out.keep HXr.out (by simp; omega)).keep hst (by simp; omega), by omega, by omega, by omega, hg12, ?_⟩
        · unfold dv; rw [hm]; rfl
        · have hs5 := HEw.out.size
          exact (HEw.out.on HXr.out (by simp; omega)).on hst (by simp; omega)
end Go.Proofs.YtkfagfdefkaenaaDoor

/-
  The slots that the depths of the tables ask for; no statement is proved here.
-/
namespace Go.Proofs.YtkfagfdefkaenaaDoor
open Go.RowKit Go.Shelf
open Pr (Gp GpI sq pl)
attribute [local go_sem] Oper.semAt_some run_store_func

theorem take_snoc {L : List Tq} {k : Nat} {t : Tq} (h : L[k]? = some t) : L.take (k + 1) = L.take k ++ [t] := by
  rw [List.take_add_one, h]; rfl
theorem slo_step (dp : Nat) {L : List Tq} {k : Nat} {t : Tq} (h : L[k]? = some t) : slo dp (L.take (k + 1)) 0 = slo dp (L.take k) 0 ++ List.replicate (wdt dp t) k := by
  have hk : k < L.length := (List.getElem?_eq_some_iff.1 h).1
  rw [take_snoc h, slo_app, slo, slo, Nat.zero_add, List.append_nil, List.length_take, Nat.min_eq_left (by omega)]
theorem pre_take_le (dp : Nat) (L : List Tq) (k : Nat) : pre dp (L.take k) ≤ pre dp L := by
  have : pre dp (L.take k ++ L.drop k) = pre dp (L.take k) + pre dp (L.drop k) := pre_app _ _ _
  rw [List.take_append_drop] at this
  omega
/-- The slots so far, beside the directory. -/
def SoI (z : Nat) (w : World) (dp bt n ct : Nat) (sa : Option Addr) (sn sc : Nat) (S : List Nat) (v : Value) (wr : World) : Prop :=
  wr.ownsRow w.heap.size 3 1 v S.length (vi S) ∧ Ext [] w wr ∧ wr.heap[z]? = some (.cells #[.int .i64 (dp : Nat), .slice (some ⟨bt, 0, none⟩) n ct, .slice sa sn sc] 27)
theorem SoI.keep {z : Nat} {w : World} {dp bt n ct : Nat} {sa : Option Addr} {sn sc : Nat} {S : List Nat} {v : Value} {wr wv : World} (h : SoI z w dp bt n ct sa sn sc S v wr) (e : Ext [] wr wv) : SoI z w dp bt n ct sa sn sc S v wv :=
  ⟨own_keep0 h.1 e, h.2.1.trans e, e.keep h.2.2 (by simp)⟩
theorem soI_push {z : Nat} {w : World} {dp bt n ct : Nat} {sa : Option Addr} {sn sc : Nat} {S : List Nat} {v : Value} {wr : World} {x : Nat} (h : SoI z w dp bt n ct sa sn sc S v wr) (hb : S.length < 1000) :
    ∃ v' w', (Builtin.append_ #[25, 25] 25 #[v, .slice (some ⟨wr.heap.size, 0, none⟩) 1 1]).run Tryd.prog (wr.alloc (.cells #[.int .i64 (x : Nat)] 3)) = .ok v' w' ∧ SoI z w dp bt n ct sa sn sc (S ++ [x]) v' w' := by
  have hE := Ext.alloc [] wr (.cells #[.int .i64 (x : Nat)] 3)
  obtain ⟨h1, h2, h3⟩ := h.keep hE
  obtain ⟨v', w', hr, ho, hX, hXo⟩ := app_own w _ h2 25 25 3 _ 8 Tryd.underlying25 info3' rfl (by omega) v S.length (vi S) h1 (some ⟨wr.heap.size, 0, none⟩) 1 1 [.int .i64 (x : Nat)] rfl (vs_new wr 3 [.int .i64 (x : Nat)]) (by simp [Value.oneCell']) (by omega)
  refine ⟨v', w', hr, by rw [vi_append, List.length_append]; exact ho, hX, hXo.keep h3 ?_⟩
  rw [Option.mem_toList]
  exact own_ne h1 h3 (by decide)
set_option maxRecDepth 100000 in
set_option maxHeartbeats 4000000 in
theorem slotsOf_any (dp bt ct n : Nat) (sv : Value) (sa : Option Addr) (sn sc : Nat) (hsv : sv = .slice sa sn sc) (L : List Tq) (hdp : dp ≤ 6) (hd : ∀ (k : Nat) (t : Tq), L[k]? = some t → t.d ≤ dp) (hpre : pre dp L = 2 ^ dp) (hn : L.length = n) (w : World) (hR : Ts w bt L) :
    Calls Tryd.prog 113 #[.agg #[.int .i64 (dp : Nat), .slice (some ⟨bt, 0, none⟩) n ct, sv]] w (SlPost w (2 ^ dp) (slo dp L 0)) := by
  subst hsv
  have h64 := pow64 hdp
  have hnl : n ≤ 64 := by have := len_pre dp L; rw [hpre] at this; omega
  have hmw : wrap64 (2 ^ dp) = ((2 ^ dp : Nat) : Int) := wrap_pow hdp
  have HR := hid hR
  have HN := hid hn
  have Hd := hid hd
  have HP := hid hpre
  obtain ⟨m, hm⟩ : ∃ m, 2 ^ dp = m := ⟨_, rfl⟩
  have hm0 : 0 < m := by rw [← hm]; exact Nat.pow_pos (by omega)
  rw [hm] at h64 hmw ⊢
  have HM := hid hm
  obtain ⟨j0, hi0, hz0, hz1, hz2⟩ := info_parts info3'
  have hE0 := Ext.alloc [] w (.cells #[.int .i64 (dp : Nat), .slice (some ⟨bt, 0, none⟩) n ct, .slice sa sn sc] 27)
  have hb0 := heap_alloc_new w (.cells #[.int .i64 (dp : Nat), .slice (some ⟨bt, 0, none⟩) n ct, .slice sa sn sc] 27)
  obtain ⟨W1, hmk, hown, hgr⟩ := run_make_own (P := Tryd.prog) (w.alloc (.cells #[.int .i64 (dp : Nat), .slice (some ⟨bt, 0, none⟩) n ct, .slice sa sn sc] 27)) w.heap.size 25 3 j0 _ 1 Tryd.underlying25 hi0 hz0 hz1 .i64 .i64 m (by rw [hz2]; omega) (by unfold maxLen; omega) (by simp)
  have hE1 := Ext.grown (S := []) hgr (by simp)
  have hbz : W1.heap[w.heap.size]? = some (.cells #[.int .i64 (dp : Nat), .slice (some ⟨bt, 0, none⟩) n ct, .slice sa sn sc] 27) := hE1.keep hb0 (by simp)
  have hE := hE0.trans hE1
  obtain ⟨z, hz⟩ : ∃ z, w.heap.size = z := ⟨_, rfl⟩
  rw [hz] at hbz
  have c1 : W1.cell? ⟨z, 1, none⟩ = some (.slice (some ⟨bt, 0, none⟩) n ct) := by rw [cell_of_row _ _ _ _ _ _ hbz]; rfl
  simp only [World.size_alloc, hz] at hmk hown
  have HOwn := hid hown
  have HE := hid hE
  have HBz := hid hbz
  have HZ := hid hz
  clear hR hn hd hpre hm hE0 hb0 hgr hE1 hE hown hbz hi0 hz0 hz1 hz2
  go_enter Tryd.func113, Tryd.ntmps113
  go_wp2_with fail
  simp only [hmw]
  clear hmw
  go_loopw [3, 13] (fun p q wr => ∃ k : Nat, q = .int .i64 k ∧ k ≤ n ∧ SoI z w dp bt n ct sa sn sc (slo dp (L.take k) 0) p wr) (fun _ q _ => (n - (intOf q)).toNat)
  case atStart => exact ⟨0, rfl, Nat.zero_le _, by rw [HZ.out]; exact HOwn.out, HE.out, HBz.out⟩
  case round =>
    obtain ⟨k, rfl, hk, hI⟩ := hrel
    have hlen : (slo dp (L.take k) 0).length ≤ m := by rw [slo_len, ← HM.out, ← HP.out]; exact pre_take_le dp L k
    obtain ⟨va, vc, rfl, _⟩ := own_slice hI.1
    by_cases hkn : k < n
    · have hki : (k : Int) < n := by omega
      obtain ⟨t, ht⟩ : ∃ t, L[k]? = some t := ⟨_, List.getElem?_eq_getElem (by rw [HN.out]; exact hkn)⟩
      obtain ⟨g, c, e1, e2, hTw⟩ := (HR.out.keep0 hI.2.1).cells ht
      have htd := Hd.out k t ht
      have hww : wrap64 (2 ^ (dp - t.d)) = ((wdt dp t : Nat) : Int) := wrap_pow (by omega)
      have hst := slo_step dp ht
      have hle2 : (slo dp (L.take (k + 1)) 0).length ≤ m := by rw [slo_len, ← HM.out, ← HP.out]; exact pre_take_le dp L (k + 1)
      rw [hst, List.length_append, List.length_replicate] at hle2
      obtain ⟨wd, hwd⟩ : ∃ wd, wdt dp t = wd := ⟨_, rfl⟩
      rw [hwd] at hww hst hle2
      have d0 : wr.cell? ⟨z, 0, none⟩ = some (.int .i64 (dp : Nat)) := by rw [cell_of_row _ _ _ _ _ _ hI.2.2]; rfl
      have hEA := Ext.alloc [] wr (.cells #[.int .i64 (t.d : Nat), .slice (some ⟨g, 0, none⟩) (3 + 17 * t.G) c] 66)
      have d0' := hEA.cell d0 (by simp)
      have HI := hid (hI.keep hEA)
      have HSt := hid hst
      clear hTw hst hI d0 hEA
      go_wp2_with fail
      simp only [hww]
      clear hww
      obtain ⟨U, hU⟩ : ∃ U, wr.alloc (.cells #[.int .i64 (t.d : Nat), .slice (some ⟨g, 0, none⟩) (3 + 17 * t.G) c] 66) = U := ⟨_, rfl⟩
      rw [hU] at HI ⊢
      clear hU d0' e1 e2
      go_loopw [3, 24] (fun p q wv => ∃ j : Nat, q = .int .i64 j ∧ j ≤ wd ∧ SoI z w dp bt n ct sa sn sc (slo dp (L.take k) 0 ++ List.replicate j k) p wv) (fun _ q _ => (wd - (intOf q)).toNat)
      case atStart => exact ⟨0, rfl, Nat.zero_le _, by simpa using HI.out⟩
      case round =>
        obtain ⟨j, rfl, hj, hJ⟩ := hrel
        obtain ⟨ja, jc, rfl, _⟩ := own_slice hJ.1
        by_cases hjw : j < wd
        · have hji : (j : Int) < wd := by omega
          have hlj : (slo dp (L.take k) 0 ++ List.replicate j k).length < 1000 := by rw [List.length_append, List.length_replicate]; omega
          obtain ⟨v', W', hr, hJ'⟩ := soI_push (x := k) hJ hlj
          rw [List.append_assoc, ← List.replicate_succ'] at hJ'
          obtain ⟨ka, kc, rfl, _⟩ := own_slice hJ'.1
          have HJ' := hid hJ'
          clear hJ hJ'
          go_wp2_with (at_builtin; refine wpList_append_run rfl _ _ 25 rfl _ _ _ rfl rfl hr ?_)
          go_roundw
          case rel => exact ⟨j + 1, by go_num, by omega, by have h := HJ'.out; rw [List.length_append, List.length_replicate] at h; exact h⟩
          case measure => simp [intOf]; omega
        · obtain rfl : j = wd := by omega
          rw [← HSt.out] at hJ
          have HJ := hid hJ
          clear hJ
          go_wp2_with fail
          go_roundw
          case rel =>
            refine ⟨k + 1, by go_num, by omega, ?_⟩
            rw [HSt.out]
            have := HJ.out
            rw [HSt.out] at this
            exact this
          case measure => simp [intOf]; omega
    · obtain rfl : k = n := by omega
      have htk : L.take k = L := by rw [← HN.out]; exact List.take_length
      rw [htk] at hI
      have hl : (slo dp L 0).length = m := by rw [slo_len, HP.out, HM.out]
      obtain ⟨ho, hE, _⟩ := hI
      rw [hl] at ho
      obtain ⟨g, hg, h1, h2, h3, h4⟩ := ns_of_own ho hl hm0
      subst hg
      have HF : Hid (SlPost w m (slo dp L 0) (.returned (.slice (some ⟨g, 0, none⟩) m vc)) wr) := ⟨g, vc, rfl, h4, h1, h2, h3, hE⟩
      clear ho hE h1 h2 h3 h4
      rw [htk, hl]
      go_wp2_with fail
      go_ret
      exact HF.out
end Go.Proofs.YtkfagfdefkaenaaDoor
