/-
  RgE, RgF: joined by program; no statement is proved here.
-/
import Derived.Test.YtkfagfdefkaenaaDoorZN
import Derived.Test.YtkfagfdefkaenaaDoorZPH
import Derived.Test.YtkfagfdefkaenaaDoorZPJ
/-
  One more entry in a directory, with what is made determined; no statement is proved here.
-/
namespace Go.Proofs.YtkfagfdefkaenaaDoor.Rf
open Go.RowKit Go.Shelf
open Pr (Gp GpI sq pl)
attribute [local go_sem] Oper.semAt_some run_store_func wide_fn wide_depth

/-- A directory that was answered. -/
def DansD (w w' : World) (v : Value) (dp' : Nat) (L' : List Tq) : Prop := ∃ n' bt' ct' bs' cs', v = dv dp' bt' n' ct' bs' 0 (2 ^ dp') cs' ∧ Dq dp' L' ∧ L'.length = n' ∧ 2 ^ dp' ≤ cs' ∧ Dr w' bt' bs' 0 dp' L' ∧ w.heap.size ≤ bt' ∧ w.heap.size ≤ bs'
def DiPost (dp : Nat) (L : List Tq) (h d : Nat) (w : World) (e : Ending) (w' : World) : Prop := Ext [] w w' ∧
  ((∃ v dp' L', e = .returned (.tuple #[v, .int .i64 0]) ∧ DansD w w' v dp' L' ∧ InsD h d dp L (some (dp', L'))) ∨ (e = .returned (.tuple #[nodir, .int .i64 7]) ∧ InsD h d dp L none))
/-- The directory in the variable, round by round. -/
structure InI (w : World) (z zm h d lo r dp0 : Nat) (L : List Tq) (W : World) : Prop where
  ex : ∃ dp n bt ct bs cs L', Dq dp L' ∧ Dx W zm lo dp n bt ct bs cs L' ∧ RmE h d dp0 L dp L' ∧ ∀ A t B, TabOf dp L' A t B h → mu t ≤ r
  res : W.heap[z + 1]? = some (.cells #[.int .i64 0, .slice none 0 0, .slice none 0 0] 27)
  ext : Ext [] w W
  tb : Tb W
set_option maxRecDepth 100000 in
set_option maxHeartbeats 4000000 in
theorem dinsert_any (dp bt ct bs os cs n h d : Nat) (L : List Tq) (hD : Dq dp L) (hcs : 2 ^ dp ≤ cs) (hn : L.length = n) (hh : h < 18446744073709551616) (hd : d < 18446744073709551616) (w : World) (hR : Dr w bt bs os dp L) (hTb : Tb w) :
    Calls Tryd.prog 17 #[dv dp bt n ct bs os (2 ^ dp) cs, .int .u64 (h : Nat), .int .u64 (d : Nat)] w (DiPost dp L h d w) := by
  obtain ⟨m, hm⟩ : ∃ m, 2 ^ dp = m := ⟨_, rfl⟩
  obtain ⟨W0, hW0⟩ : ∃ W0, (w.alloc (.cells #[.int .i64 (dp : Nat), .slice (some ⟨bt, 0, none⟩) n ct, .slice (some ⟨bs, os, none⟩) m cs] 27)).alloc (.cells #[.int .i64 0, .slice none 0 0, .slice none 0 0] 27) = W0 := ⟨_, rfl⟩
  have hE0 : Ext [] w W0 := by rw [← hW0]; exact (Ext.alloc [] _ _).trans (Ext.alloc [] _ _)
  have h0n : 0 < n := by
    rcases Nat.eq_zero_or_pos n with e | e
    · obtain rfl : L = [] := List.length_eq_zero_iff.1 (by omega)
      have := hD.all
      have := Nat.pow_pos (n := dp) (show 0 < 2 by omega)
      simp [pre] at *
      omega
    · exact e
  obtain ⟨z, hz⟩ : ∃ z, w.heap.size = z := ⟨_, rfl⟩
  have b0 : W0.heap[z]? = some (.cells #[.int .i64 (dp : Nat), .slice (some ⟨bt, 0, none⟩) n ct, .slice (some ⟨bs, os, none⟩) m cs] 27) := by
    rw [← hW0, ← hz]; exact (Below.heap_alloc _ _ _ (by simp)).trans (heap_alloc_new w _)
  have b1 : W0.heap[z + 1]? = some (.cells #[.int .i64 0, .slice none 0 0, .slice none 0 0] 27) := by
    have := heap_alloc_new (w.alloc (.cells #[.int .i64 (dp : Nat), .slice (some ⟨bt, 0, none⟩) n ct, .slice (some ⟨bs, os, none⟩) m cs] 27)) (.cells #[.int .i64 0, .slice none 0 0, .slice none 0 0] 27)
    rw [hW0, World.size_alloc, hz] at this; exact this
  have a0 : W0.cell? ⟨z, 0, none⟩ = some (.int .i64 (dp : Nat)) := by rw [cell_of_row _ _ _ _ _ _ b0]; rfl
  have a1 : W0.cell? ⟨z, 1, none⟩ = some (.slice (some ⟨bt, 0, none⟩) n ct) := by rw [cell_of_row _ _ _ _ _ _ b0]; rfl
  have a2 : W0.cell? ⟨z, 2, none⟩ = some (.slice (some ⟨bs, os, none⟩) m cs) := by rw [cell_of_row _ _ _ _ _ _ b0]; rfl
  have KS := sound_yes dp bt ct bs os cs n L hD hcs hn W0 (hR.keep0 hE0) (hTb.keep0 hE0)
  have KC := fun u (hu : Ext [] W0 u) => dclone_any dp bt ct bs os cs n L hD hn h0n u ((hR.keep0 hE0).keep0 hu)
  unfold dv at KS KC
  rw [hm] at KS KC
  have HD := hid hD
  have HTb := hid (hTb.keep0 hE0)
  have HN := hid hn
  have HE0 := hid hE0
  have B0 := hid b0
  have B1 := hid b1
  clear hD hR hTb hn hE0 b0 b1
  unfold dv
  rw [hm]
  go_enter Tryd.func17, Tryd.ntmps17
  go_wp2_with fail
  try rw [hW0]
  try simp only [hz]
  clear hW0
  refine KS.mono ?_
  clear KS
  rintro _ w1 ⟨rfl, hE1⟩
  have c0 := hE1.cell a0 (by simp)
  have c1 := hE1.cell a1 (by simp)
  have c2 := hE1.cell a2 (by simp)
  have K2 := KC w1 hE1
  have HE1 := hid hE1
  clear a0 a1 a2 KC hE1
  go_wp2_with fail
  refine K2.mono ?_
  clear K2 c0 c1 c2
  rintro _ w2 ⟨bt2, ct2, bs2, cs2, rfl, hTc2, hNs2, hbt2, hbs2, hcs2, hne2, hE2⟩
  unfold dv
  rw [hm]
  have HTc2 := hid hTc2
  have HNs2 := hid hNs2
  have HE2 := hid hE2
  clear hTc2 hNs2 hE2
  go_wp2_with fail
  obtain ⟨zm, hzm⟩ : ∃ zm, w2.heap.size = zm := ⟨_, rfl⟩
  have hEa := Ext.alloc [] w2 (.cells #[.int .i64 (dp : Nat), .slice (some ⟨bt2, 0, none⟩) n ct2, .slice (some ⟨bs2, 0, none⟩) m cs2] 27)
  have hbm := heap_alloc_new w2 (.cells #[.int .i64 (dp : Nat), .slice (some ⟨bt2, 0, none⟩) n ct2, .slice (some ⟨bs2, 0, none⟩) m cs2] 27)
  obtain ⟨W3, hW3⟩ : ∃ W3, w2.alloc (.cells #[.int .i64 (dp : Nat), .slice (some ⟨bt2, 0, none⟩) n ct2, .slice (some ⟨bs2, 0, none⟩) m cs2] 27) = W3 := ⟨_, rfl⟩
  rw [hW3] at hEa hbm ⊢
  rw [hzm] at hbm ⊢
  have hE02 := HE1.out.trans HE2.out
  have hs0 := HE0.out.size
  have hs1 := HE1.out.size
  have hzm1 : z + 1 < zm := by rw [← hzm]; exact lt_of_heap (hE02.keep B1.out (by simp))
  obtain ⟨lo, hlo0⟩ : ∃ lo, w1.heap.size = lo := ⟨_, rfl⟩
  have hzlo : z + 1 < lo := by rw [← hlo0]; exact lt_of_heap (HE1.out.keep B1.out (by simp))
  have hwlo : w.heap.size ≤ lo := by omega
  rw [hlo0] at hbt2 hbs2
  have HI : Hid (∃ r, InI w z zm h d lo r dp L W3) := by
    obtain ⟨A, t, B, hTo⟩ := tab_of HD.out hh
    refine ⟨13, ⟨dp, n, bt2, ct2, bs2, cs2, L, HD.out, ⟨by rw [hm]; exact hbm, HTc2.out.keep0 hEa, HNs2.out.keep hEa (by simp), hcs2, HN.out, by omega, by omega, hne2⟩, RmE.refl h d dp L, fun A t B _ => ?_⟩, (hE02.trans hEa).keep B1.out (by simp), (HE0.out.trans hE02).trans hEa, HTb.out.keep0 (hE02.trans hEa)⟩
    unfold mu
    split <;> omega
  clear hEa hbm hW3 hE02 HTc2 HNs2 HE2
  obtain ⟨r0, hI0⟩ := HI.out
  refine wp_loop_down (fun r a W => InI w z zm h d lo r dp L W ∧ ∃ u9 u10 u11 u18 u19 u20 u21 u22 u23 u24 u25 u26 u27 u28 u29 u30 u31 u32 u33 u34 u35 u36 u37 u38 u39 u40 u41 u42 u43 u44 : Value, a = { tmps := #[.agg #[.int .i64 (dp : Nat), .slice (some ⟨bt, 0, none⟩) n ct, .slice (some ⟨bs, os, none⟩) m cs], .int .u64 (h : Nat), .int .u64 (d : Nat), .pointer (some ⟨z, 0, none⟩), undef, undef, .pointer (some ⟨z + 1, 0, none⟩), .int .i64 0, .pointer (some ⟨zm, 0, none⟩), u9, u10, u11, .agg #[.int .i64 (dp : Nat), .slice (some ⟨bt, 0, none⟩) n ct, .slice (some ⟨bs, os, none⟩) m cs], .bool true, .bool false, undef, .agg #[.int .i64 (dp : Nat), .slice (some ⟨bt, 0, none⟩) n ct, .slice (some ⟨bs, os, none⟩) m cs], .agg #[.int .i64 (dp : Nat), .slice (some ⟨bt2, 0, none⟩) n ct2, .slice (some ⟨bs2, 0, none⟩) m cs2], u18, u19, u20, u21, u22, u23, u24, u25, u26, u27, u28, u29, u30, u31, u32, u33, u34, u35, u36, u37, u38, u39, u40, u41, u42, u43, u44], defers := [] }) r0 ⟨hI0, _, _, _, _, _, _, _, _, _, _, _, _, _, _, _, _, _, _, _, _, _, _, _, _, _, _, _, _, _, _, rfl⟩ ?_
  rintro r a W ⟨hI, u9, u10, u11, u18, u19, u20, u21, u22, u23, u24, u25, u26, u27, u28, u29, u30, u31, u32, u33, u34, u35, u36, u37, u38, u39, u40, u41, u42, u43, u44, rfl⟩
  clear hI0 HI
  obtain ⟨⟨dp', n', bt', ct', bs', cs', L', hD', hX', hPm, hmu⟩, hres, hext, htb⟩ := hI
  obtain ⟨A, t, B, hTo⟩ := tab_of hD' hh
  obtain rfl := hTo.eq
  have hlen' := hX'.len
  rw [List.length_append, List.length_cons] at hlen'
  have hn64 := hD'.len
  rw [hX'.len] at hn64
  obtain ⟨i, hi⟩ : ∃ i, A.length = i := ⟨_, rfl⟩
  obtain ⟨m', hm'⟩ : ∃ m', 2 ^ dp' = m' := ⟨_, rfl⟩
  have hbx := hX'.box
  rw [hm'] at hbx
  have q0 : W.drew.cell? ⟨zm, 0, none⟩ = some (.int .i64 (dp' : Nat)) := by rw [cell_of_row _ _ _ _ _ _ ((Ext.drew [] W).keep hbx (by simp))]; rfl
  have q1 : W.drew.cell? ⟨zm, 1, none⟩ = some (.slice (some ⟨bt', 0, none⟩) n' ct') := by rw [cell_of_row _ _ _ _ _ _ ((Ext.drew [] W).keep hbx (by simp))]; rfl
  have q2 : W.drew.cell? ⟨zm, 2, none⟩ = some (.slice (some ⟨bs', 0, none⟩) m' cs') := by rw [cell_of_row _ _ _ _ _ _ ((Ext.drew [] W).keep hbx (by simp))]; rfl
  have KT := fun u (hu : Ext [] W u) => tabOf_any dp' bt' n' ct' bs' 0 cs' h A.length (slo dp' (A ++ t :: B) 0) hD'.le hh u (hX'.ns.keep hu (by simp)) hTo.slot
  unfold dv at KT
  rw [hm', hi] at KT
  have KT' := KT W.drew (Ext.drew [] W)
  have hin : (i : Int) < n' := by omega
  have hbtz : zm ≠ bt' := by
    rintro rfl
    obtain ⟨cs'', e, _⟩ := hX'.tc.1
    rw [hX'.box] at e; cases e
  have HX := hid hX'
  have HD' := hid hD'
  have HTo := hid hTo
  have HPm := hid hPm
  have HMu := hid hmu
  have HRes := hid hres
  have HExt := hid hext
  have HTb' := hid htb
  have HBx := hid hbx
  clear hX' hD' hTo hPm hmu hres hext htb hbx KT hlen'
  go_wp2_with fail
  go_region_held3 (fun w' => w'.cell? ⟨zm, 0, none⟩ = some (.int .i64 (dp' : Nat)) ∧ w'.cell? ⟨zm, 1, none⟩ = some (.slice (some ⟨bt', 0, none⟩) n' ct') ∧ w'.cell? ⟨zm, 2, none⟩ = some (.slice (some ⟨bs', 0, none⟩) m' cs'))
    (first | go_keep | exact ⟨hE5.cell q0 (by simp), hE5.cell q1 (by simp), hE5.cell q2 (by simp)⟩)
    (first
      | (go_at_call 37; refine KT'.mono ?_; rintro _ w5 ⟨rfl, hE5⟩)
      | fail "no arm")
  have hE5' := (Ext.drew [] W).trans hE5
  obtain ⟨g, c, e1, e2, hTw⟩ := (HX.out.tc.1.keep0 hE5').cells (n := i) (t := t) (by rw [← hi]; simp)
  have hsd := HTo.out.ot.sd
  have KI := tinsert_any (some ⟨g, 0, none⟩) c t.T t.G h d hsd hh hd w5 hTw.wd (HTb'.out.keep0 hE5')
  have HE5 := hid hE5'
  have HTw := hid hTw
  clear hE5 hE5' hTw KT' q0 q1 q2
  go_wp2_with fail
  refine KI.mono ?_
  clear KI
  rintro _ w6 ⟨hE6, (⟨T', g6, c6, hI6, rfl, hT6, hg6⟩ | ⟨hno, rfl⟩)⟩
  · have f2 := hE6.cell e2 (by simp)
    have hE56 := HE5.out.trans hE6
    have hTc6 := HX.out.tc.keep0 hE56
    have fr : w6.frozen? ⟨bt', i * 2 + 1, none⟩ = false := hTc6.1.frozen _
    have hst := Ext.setCell [bt'] w6 ⟨bt', i * 2 + 1, none⟩ (.slice (some ⟨g6, 0, none⟩) (3 + 17 * t.G) c6) (by simp)
    have hb7 := hst.keep (hE56.keep HBx.out (by simp)) (by simpa using hbtz)
    obtain ⟨hS', hperm⟩ := ins_perm hsd hh hd hI6
    have hDone : InsD h d dp L (some (dp', A ++ ⟨t.d, t.G, T'⟩ :: B)) := ⟨dp', A ++ t :: B, HPm.out, A, t, B, T', HTo.out, HD'.out.le, hI6, rfl, rfl⟩
    have hnz1 : z + 1 ≠ bt' := by
      rintro rfl
      obtain ⟨cs'', e, _⟩ := HX.out.tc.1
      rw [HRes.out] at e; cases e
    have hzz : zm ≠ z + 1 := by omega
    have hr7 := hst.keep (hE56.keep HRes.out (by simp)) (by simpa using hnz1)
    have hTc7 := hTc6.set (t' := ⟨t.d, t.G, T'⟩) rfl (g := g6) (c := c6) hT6
    rw [hi] at hTc7
    have hNs7 : Ns (w6.setCell ⟨bt', i * 2 + 1, none⟩ (.slice (some ⟨g6, 0, none⟩) (3 + 17 * t.G) c6)) bs' 0 (slo dp' (A ++ ⟨t.d, t.G, T'⟩ :: B) 0) := by
      rw [slo_rep dp' (t := t) (t' := ⟨t.d, t.G, T'⟩) rfl 0]
      exact (HX.out.ns.keep hE56 (by simp)).keep hst (by simpa using fun e => HX.out.ne e.symm)
    obtain ⟨w7, hw7⟩ : ∃ w7, w6.setCell ⟨bt', i * 2 + 1, none⟩ (.slice (some ⟨g6, 0, none⟩) (3 + 17 * t.G) c6) = w7 := ⟨_, rfl⟩
    rw [hw7] at hst hb7 hr7 hTc7 hNs7
    obtain ⟨v0, v1, v2⟩ := cells3 hb7
    obtain ⟨y0, y1, y2⟩ := cells3 hr7
    obtain ⟨hs3, x0, x1, x2⟩ := s3_of hr7 (.int .i64 (dp' : Nat)) (.slice (some ⟨bt', 0, none⟩) n' ct') (.slice (some ⟨bs', 0, none⟩) m' cs')
    have hsW := HExt.out.size
    have HF : Hid (DiPost dp L h d w (.returned (.tuple #[.agg #[.int .i64 (dp' : Nat), .slice (some ⟨bt', 0, none⟩) n' ct', .slice (some ⟨bs', 0, none⟩) m' cs'], .int .i64 0])) (((w7.setCell ⟨z + 1, 0, none⟩ (.int .i64 (dp' : Nat))).setCell ⟨z + 1, 1, none⟩ (.slice (some ⟨bt', 0, none⟩) n' ct')).setCell ⟨z + 1, 2, none⟩ (.slice (some ⟨bs', 0, none⟩) m' cs'))) := by
      have hlo := HX.out.lot
      have hls := HX.out.los
      have hnt : ∀ T, ¬ Tw w7 (z + 1) T := by
        rintro T ⟨c', e, _⟩
        rw [hr7] at e; cases e
      have hbs1 : bs' ≠ z + 1 := by omega
      refine ⟨(((HExt.out.trans hE56).on hst (by simp; omega)).on hs3.ext (by simp; omega)), .inl ⟨_, dp', A ++ ⟨t.d, t.G, T'⟩ :: B, rfl, ⟨n', bt', ct', bs', cs', by unfold dv; rw [hm'], ?_, ?_, by rw [hm']; exact hm' ▸ HX.out.cap, ⟨hTc7.1.keep hs3.ext (by simpa using fun e => hnz1 e.symm) (by simpa using hnt), hNs7.keep hs3.ext (by simpa using hbs1)⟩, by omega, by omega⟩, hDone⟩⟩
      · refine dq_rep HD'.out rfl hS' (fun e he => ?_)
        rcases List.mem_cons.1 (hperm.mem_iff.1 he) with q | q
        · subst q; exact HTo.out.lead
        · exact HTo.out.ot.lead e q
      · have := HX.out.len
        rw [List.length_append, List.length_cons] at this ⊢
        exact this
    have HS3 := hid hs3.row
    clear hst hb7 hr7 hTc7 hNs7 hTc6 hE56 hE6 hT6 hI6 hperm hS' hs3 e1 e2 hDone
    go_wp2_with fail
    refine bodyPost_ret (results_row_tmp rfl _ _ (z + 1) 27 _ (0, 0) _ (.int .i64 0) rfl rfl HS3.out Tryd.underlying27 rfl size27) rfl HF.out
  · have hE56 := HE5.out.trans hE6
    have hz2 := ins_left hsd hno
    have hX6 : Dx w6 zm lo dp' n' bt' ct' bs' cs' (A ++ t :: B) := ⟨hE56.keep HX.out.box (by simp), HX.out.tc.keep0 hE56, HX.out.ns.keep hE56 (by simp), HX.out.cap, HX.out.len, HX.out.lot, HX.out.los, HX.out.ne⟩
    have hsW := HExt.out.size
    have hs6 := hE56.size
    have hloW : lo ≤ w6.heap.size := by have := HX.out.lot; have := hX6.tc.1.lt; omega
    have KR := room_any zm lo dp' n' bt' ct' bs' cs' h A t B HD'.out hh HTo.out w6 hX6 hloW (HTb'.out.keep0 hE56)
    have HE6 := hid hE56
    have HZ2 := hid hz2
    have HNo := hid hno
    have hnz1 : z + 1 ≠ bt' := by have := HX.out.lot; omega
    have hzz : zm ≠ z + 1 := by omega
    clear hE56 hz2 hX6 hE6 hno e1 e2
    go_wp2_with fail
    refine KR.mono ?_
    clear KR
    rintro _ w7 (⟨rfl, hE7, hG7, hl7, hg1, hd6⟩ | ⟨rfl, hE7, hcase⟩)
    · have hr7 := hE7.keep (HE6.out.keep HRes.out (by simp)) (by simp)
      obtain ⟨y0, y1, y2⟩ := cells3 hr7
      obtain ⟨hs3, x0, x1, x2⟩ := s3_of hr7 (.int .i64 0) (.slice none 0 0) (.slice none 0 0)
      have HF : Hid (DiPost dp L h d w (.returned (.tuple #[.agg #[.int .i64 0, .slice none 0 0, .slice none 0 0], .int .i64 7])) (((w7.setCell ⟨z + 1, 0, none⟩ (.int .i64 0)).setCell ⟨z + 1, 1, none⟩ (.slice none 0 0)).setCell ⟨z + 1, 2, none⟩ (.slice none 0 0))) := by
        refine ⟨((HExt.out.trans HE6.out).trans hE7).on hs3.ext (by simp; omega), .inr ⟨rfl, dp', A ++ t :: B, HPm.out, A, t, B, HTo.out, HD'.out.le, HNo.out, hG7, hl7, hg1, hd6⟩⟩
      have HS3 := hid hs3.row
      clear hr7 hE7 hs3 hG7 hl7 hg1 hd6
      go_wp2_with fail
      refine bodyPost_ret (results_row_tmp rfl _ _ (z + 1) 27 _ (0, 0) _ (.int .i64 7) rfl rfl HS3.out Tryd.underlying27 rfl size27) rfl HF.out
    · have hr7 := hE7.keep (HE6.out.keep HRes.out (by simp)) (by simp; omega)
      have hlot := HX.out.lot
      have hmt := HMu.out A t B HTo.out
      have hm1 : 1 ≤ mu t := by unfold mu; rw [if_pos HZ2.out]; omega
      have HF : Hid (∃ r', r' < r ∧ InI w z zm h d lo r' dp L w7) := by
        refine ⟨r - 1, by omega, ?_, hr7, (HExt.out.trans HE6.out).on hE7 (by simp; omega), fun j hj => hE7.cell ((HTb'.out.keep0 HE6.out) j hj) (by simp; omega)⟩
        rcases hcase with ⟨X0, X1, b1, b2, b3, b4, hc6, hH0, hH1, hDx⟩ | ⟨X, b2, b4, hcg, hH, hlt, hDx⟩
        · have h6 := hc6.2.2
          have hD2 := dq_max HD'.out h6 hH0.toHol hH1.toHol
          refine ⟨_, _, b1, b2, b3, b4, _, hD2, hDx, HPm.out.step ⟨A, t, B, HTo.out, HNo.out, HD'.out.le, .inl ⟨X0, X1, hc6, hH0, hH1, rfl, rfl⟩⟩, fun A' t' B' hT' => ?_⟩
          have := mu_split HD'.out HTo.out h6 hD2 HZ2.out hT'
          omega
        · have hle := HD'.out.le
          refine ⟨_, _, bt', b2, bs', b4, A ++ ⟨t.d, rmG t, X⟩ :: B, dq_rep (t' := ⟨t.d, rmG t, X⟩) HD'.out rfl hH.sd (fun e he => HTo.out.ot.lead e ((hol_perm hH.toHol).mem_iff.1 he)), hDx, HPm.out.step ⟨A, t, B, HTo.out, HNo.out, hle, .inr ⟨X, hcg, hH, rfl, rfl⟩⟩, fun A' t' B' hT' => ?_⟩
          have := mu_grow HTo.out hH.toHol hlt HZ2.out hle hT'
          omega
      clear hr7 hE7 hcase
      go_wp2_with fail
      obtain ⟨r', hr', hI'⟩ := HF.out
      exact ⟨r', hr', hI', _, _, _, _, _, _, _, _, _, _, _, _, _, _, _, _, _, _, _, _, _, _, _, _, _, _, _, _, _, _, rfl⟩
end Go.Proofs.YtkfagfdefkaenaaDoor.Rf

/-
  One entry less in a directory, with what is made determined; no statement is proved here.
-/
namespace Go.Proofs.YtkfagfdefkaenaaDoor.Rf
open Go.RowKit Go.Shelf
open Pr (Gp GpI sq pl)
attribute [local go_sem] Oper.semAt_some run_store_func

def DdPost (dp : Nat) (L : List Tq) (h d : Nat) (w : World) (e : Ending) (w' : World) : Prop := Ext [] w w' ∧
  ((∃ v L', e = .returned (.tuple #[v, .int .i64 0]) ∧ DansD w w' v dp L' ∧ DelD h d dp L (some L')) ∨ (e = .returned (.tuple #[nodir, .int .i64 4]) ∧ DelD h d dp L none))
set_option maxRecDepth 100000 in
set_option maxHeartbeats 4000000 in
theorem ddelete_any (dp bt ct bs os cs n h d : Nat) (L : List Tq) (hD : Dq dp L) (hcs : 2 ^ dp ≤ cs) (hn : L.length = n) (hh : h < 18446744073709551616) (_hd : d < 18446744073709551616) (w : World) (hR : Dr w bt bs os dp L) (hTb : Tb w) :
    Calls Tryd.prog 14 #[dv dp bt n ct bs os (2 ^ dp) cs, .int .u64 (h : Nat), .int .u64 (d : Nat)] w (DdPost dp L h d w) := by
  obtain ⟨m, hm⟩ : ∃ m, 2 ^ dp = m := ⟨_, rfl⟩
  obtain ⟨W0, hW0⟩ : ∃ W0, (w.alloc (.cells #[.int .i64 (dp : Nat), .slice (some ⟨bt, 0, none⟩) n ct, .slice (some ⟨bs, os, none⟩) m cs] 27)).alloc (.cells #[.int .i64 0, .slice none 0 0, .slice none 0 0] 27) = W0 := ⟨_, rfl⟩
  have hE0 : Ext [] w W0 := by rw [← hW0]; exact (Ext.alloc [] _ _).trans (Ext.alloc [] _ _)
  have h0n : 0 < n := by
    rcases Nat.eq_zero_or_pos n with e | e
    · obtain rfl : L = [] := List.length_eq_zero_iff.1 (by omega)
      have := hD.all
      have := Nat.pow_pos (n := dp) (show 0 < 2 by omega)
      simp [pre] at *
      omega
    · exact e
  obtain ⟨z, hz⟩ : ∃ z, w.heap.size = z := ⟨_, rfl⟩
  have b0 : W0.heap[z]? = some (.cells #[.int .i64 (dp : Nat), .slice (some ⟨bt, 0, none⟩) n ct, .slice (some ⟨bs, os, none⟩) m cs] 27) := by
    rw [← hW0, ← hz]; exact (Below.heap_alloc _ _ _ (by simp)).trans (heap_alloc_new w _)
  have b1 : W0.heap[z + 1]? = some (.cells #[.int .i64 0, .slice none 0 0, .slice none 0 0] 27) := by
    have := heap_alloc_new (w.alloc (.cells #[.int .i64 (dp : Nat), .slice (some ⟨bt, 0, none⟩) n ct, .slice (some ⟨bs, os, none⟩) m cs] 27)) (.cells #[.int .i64 0, .slice none 0 0, .slice none 0 0] 27)
    rw [hW0, World.size_alloc, hz] at this; exact this
  have a0 : W0.cell? ⟨z, 0, none⟩ = some (.int .i64 (dp : Nat)) := by rw [cell_of_row _ _ _ _ _ _ b0]; rfl
  have a1 : W0.cell? ⟨z, 1, none⟩ = some (.slice (some ⟨bt, 0, none⟩) n ct) := by rw [cell_of_row _ _ _ _ _ _ b0]; rfl
  have a2 : W0.cell? ⟨z, 2, none⟩ = some (.slice (some ⟨bs, os, none⟩) m cs) := by rw [cell_of_row _ _ _ _ _ _ b0]; rfl
  have KS := sound_yes dp bt ct bs os cs n L hD hcs hn W0 (hR.keep0 hE0) (hTb.keep0 hE0)
  have KC := fun u (hu : Ext [] W0 u) => dclone_any dp bt ct bs os cs n L hD hn h0n u ((hR.keep0 hE0).keep0 hu)
  unfold dv at KS KC
  rw [hm] at KS KC
  have HR0 := hid (hR.keep0 hE0)
  have HD := hid hD
  have HTb := hid (hTb.keep0 hE0)
  have HN := hid hn
  have HE0 := hid hE0
  have B0 := hid b0
  have B1 := hid b1
  clear hD hR hTb hn hE0 b0 b1
  unfold dv
  rw [hm]
  obtain ⟨A, t, B, hTo⟩ := tab_of HD.out hh
  obtain rfl := hTo.eq
  go_enter Tryd.func14, Tryd.ntmps14
  go_wp2_with fail
  try rw [hW0]
  try simp only [hz]
  clear hW0
  refine KS.mono ?_
  clear KS
  rintro _ w1 ⟨rfl, hE1⟩
  have c0 := hE1.cell a0 (by simp)
  have c1 := hE1.cell a1 (by simp)
  have c2 := hE1.cell a2 (by simp)
  have HE1 := hid hE1
  clear a0 a1 a2 hE1
  obtain ⟨i, hi⟩ : ∃ i, A.length = i := ⟨_, rfl⟩
  have hlen' := HN.out
  rw [List.length_append, List.length_cons] at hlen'
  have hin : (i : Int) < n := by omega
  have hn64 := HD.out.len
  rw [HN.out] at hn64
  have KT := tabOf_any dp bt n ct bs os cs h A.length (slo dp (A ++ t :: B) 0) HD.out.le hh w1 (HR0.out.ns.keep HE1.out (by simp)) hTo.slot
  unfold dv at KT
  rw [hm, hi] at KT
  have hsd := hTo.ot.sd
  have HTo := hid hTo
  clear hTo
  go_wp2_with fail
  refine KT.mono ?_
  clear KT
  rintro _ w2 ⟨rfl, hE2⟩
  have hE12 := HE1.out.trans hE2
  obtain ⟨d0, d1, d2⟩ := cells3 (hE12.keep B0.out (by simp))
  obtain ⟨g, c, e1, e2, hTw⟩ := (HR0.out.ts.keep0 hE12).cells (n := i) (t := t) (by rw [← hi]; simp)
  have KD := tdelete_any (some ⟨g, 0, none⟩) c t.T t.G h d hsd hh w2 hTw.wd (HTb.out.keep0 hE12)
  have HE12 := hid hE12
  clear c0 c1 c2 hE2 hE12 hTw
  go_wp2_with fail
  refine KD.mono ?_
  clear KD d0 d1 d2 e1 e2
  rintro _ w3 ⟨hE3, (⟨T', g3, c3, hD3, rfl, hT3, hg3⟩ | ⟨hno, rfl⟩)⟩
  · have hE13 := HE12.out.trans hE3
    obtain ⟨d0, d1, d2⟩ := cells3 (hE13.keep B0.out (by simp))
    have K4 := KC w3 hE13
    have HE13 := hid hE13
    have HT3 := hid hT3
    obtain ⟨hS', hperm⟩ := del_perm hsd hD3
    have HS' := hid hS'
    have HPerm := hid hperm
    have HDel : Hid (DelD h d dp (A ++ t :: B) (some (A ++ ⟨t.d, t.G, T'⟩ :: B))) := ⟨A, t, B, T', HTo.out, hD3, rfl⟩
    clear hE13 hE3 hT3 hS' hperm hD3 KC
    go_wp2_with fail
    refine K4.mono ?_
    clear K4 d0 d1 d2
    rintro _ w4 ⟨bt4, ct4, bs4, cs4, rfl, hTc4, hNs4, hbt4, hbs4, hcs4, hne4, hE4⟩
    unfold dv
    rw [hm]
    obtain ⟨zl, hzl⟩ : ∃ zl, w4.heap.size = zl := ⟨_, rfl⟩
    have hEa := Ext.alloc [] w4 (.cells #[.int .i64 (dp : Nat), .slice (some ⟨bt4, 0, none⟩) n ct4, .slice (some ⟨bs4, 0, none⟩) m cs4] 27)
    have hbl := heap_alloc_new w4 (.cells #[.int .i64 (dp : Nat), .slice (some ⟨bt4, 0, none⟩) n ct4, .slice (some ⟨bs4, 0, none⟩) m cs4] 27)
    obtain ⟨W5, hW5⟩ : ∃ W5, w4.alloc (.cells #[.int .i64 (dp : Nat), .slice (some ⟨bt4, 0, none⟩) n ct4, .slice (some ⟨bs4, 0, none⟩) m cs4] 27) = W5 := ⟨_, rfl⟩
    rw [hW5] at hEa hbl
    rw [hzl] at hbl
    have hTc5 := hTc4.keep0 hEa
    have hT5 := (HT3.out.keep0 hE4).keep0 hEa
    have hE35 := hE4.trans hEa
    have hr5 := (HE13.out.trans hE35).keep B1.out (by simp)
    obtain ⟨l0, l1, l2⟩ := cells3 hbl
    obtain ⟨g5, c5, k1, k2, _⟩ := hTc5.1.cells (n := i) (t := t) (by rw [← hi]; simp)
    have fr : W5.frozen? ⟨bt4, i * 2 + 1, none⟩ = false := hTc5.1.frozen _
    have hst := Ext.setCell [bt4] W5 ⟨bt4, i * 2 + 1, none⟩ (.slice (some ⟨g3, 0, none⟩) (3 + 17 * t.G) c3) (by simp)
    have hs3z : z + 1 < w3.heap.size := lt_of_heap (HE13.out.keep B1.out (by simp))
    have hbzl : bt4 ≠ zl := by have := hTc4.1.lt; omega
    have hb6 := hst.keep hbl (by simpa using fun e => hbzl e.symm)
    have hr6 := hst.keep hr5 (by simp; omega)
    have hTc6 := hTc5.set (t' := ⟨t.d, t.G, T'⟩) rfl (g := g3) (c := c3) hT5
    rw [hi] at hTc6
    have hNs6 : Ns (W5.setCell ⟨bt4, i * 2 + 1, none⟩ (.slice (some ⟨g3, 0, none⟩) (3 + 17 * t.G) c3)) bs4 0 (slo dp (A ++ ⟨t.d, t.G, T'⟩ :: B) 0) := by
      rw [slo_rep dp (t := t) (t' := ⟨t.d, t.G, T'⟩) rfl 0]
      exact (hNs4.keep hEa (by simp)).keep hst (by simpa using fun e => hne4 e.symm)
    obtain ⟨w6, hw6⟩ : ∃ w6, W5.setCell ⟨bt4, i * 2 + 1, none⟩ (.slice (some ⟨g3, 0, none⟩) (3 + 17 * t.G) c3) = w6 := ⟨_, rfl⟩
    rw [hw6] at hst hb6 hr6 hTc6 hNs6
    obtain ⟨v0, v1, v2⟩ := cells3 hb6
    obtain ⟨y0, y1, y2⟩ := cells3 hr6
    obtain ⟨hs3, x0, x1, x2⟩ := s3_of hr6 (.int .i64 (dp : Nat)) (.slice (some ⟨bt4, 0, none⟩) n ct4) (.slice (some ⟨bs4, 0, none⟩) m cs4)
    have HF : Hid (DdPost dp (A ++ t :: B) h d w (.returned (.tuple #[.agg #[.int .i64 (dp : Nat), .slice (some ⟨bt4, 0, none⟩) n ct4, .slice (some ⟨bs4, 0, none⟩) m cs4], .int .i64 0])) (((w6.setCell ⟨z + 1, 0, none⟩ (.int .i64 (dp : Nat))).setCell ⟨z + 1, 1, none⟩ (.slice (some ⟨bt4, 0, none⟩) n ct4)).setCell ⟨z + 1, 2, none⟩ (.slice (some ⟨bs4, 0, none⟩) m cs4))) := by
      have hnt : ∀ T, ¬ Tw w6 (z + 1) T := by
        rintro T ⟨c', e, _⟩
        rw [hr6] at e; cases e
      have hs0 := HE0.out.size
      have hs13 := HE13.out.size
      refine ⟨((((HE0.out.trans HE13.out).trans hE35).on hst (by simp; omega)).on hs3.ext (by simp; omega)), .inl ⟨_, A ++ ⟨t.d, t.G, T'⟩ :: B, rfl, ⟨n, bt4, ct4, bs4, cs4, by unfold dv; rw [hm], ?_, ?_, by omega, ⟨hTc6.1.keep hs3.ext (by simp; omega) (by simpa using hnt), hNs6.keep hs3.ext (by simp; omega)⟩, by omega, by omega⟩, HDel.out⟩⟩
      · refine dq_rep HD.out rfl HS'.out (fun e he => HTo.out.ot.lead e (HPerm.out.mem_iff.2 (List.mem_cons_of_mem _ he)))
      · have := HN.out
        rw [List.length_append, List.length_cons] at this ⊢
        exact this
    have HS3 := hid hs3.row
    clear hst hb6 hr6 hTc6 hNs6 hTc5 hTc4 hNs4 hT5 hE35 hE4 hEa hbl hr5 hs3
    go_wp2_with fail
    refine bodyPost_ret (results_row_tmp rfl _ _ (z + 1) 27 _ (0, 0) _ (.int .i64 0) rfl rfl HS3.out Tryd.underlying27 rfl size27) rfl HF.out
  · have hE13 := HE12.out.trans hE3
    have hr7 := hE13.keep B1.out (by simp)
    obtain ⟨y0, y1, y2⟩ := cells3 hr7
    obtain ⟨hs3, x0, x1, x2⟩ := s3_of hr7 (.int .i64 0) (.slice none 0 0) (.slice none 0 0)
    have HF : Hid (DdPost dp (A ++ t :: B) h d w (.returned (.tuple #[.agg #[.int .i64 0, .slice none 0 0, .slice none 0 0], .int .i64 4])) (((w3.setCell ⟨z + 1, 0, none⟩ (.int .i64 0)).setCell ⟨z + 1, 1, none⟩ (.slice none 0 0)).setCell ⟨z + 1, 2, none⟩ (.slice none 0 0))) := by
      refine ⟨(HE0.out.trans hE13).on hs3.ext (by simp; omega), .inr ⟨rfl, A, t, B, HTo.out, hno⟩⟩
    have HS3 := hid hs3.row
    clear hr7 hE13 hE3 hs3 hno KC
    go_wp2_with fail
    refine bodyPost_ret (results_row_tmp rfl _ _ (z + 1) 27 _ (0, 0) _ (.int .i64 4) rfl rfl HS3.out Tryd.underlying27 rfl size27) rfl HF.out
end Go.Proofs.YtkfagfdefkaenaaDoor.Rf
