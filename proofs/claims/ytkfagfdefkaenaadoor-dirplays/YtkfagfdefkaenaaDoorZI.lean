/-
  STb, DSnd: joined by program; no statement is proved here.
-/
import Derived.Test.YtkfagfdefkaenaaDoorZG
import Derived.Test.YtkfagfdefkaenaaDoorZH
/-
  A table of a directory is sound; no statement is proved here.
-/
namespace Go.Proofs.YtkfagfdefkaenaaDoor
open Go.RowKit Go.Shelf
open Pr (Gp GpI sq pl)
attribute [local go_sem] Oper.semAt_some run_store_func wide_fn wide_depth

def StI (d p : Nat) (W3 : World) (pre : List (Nat × Nat)) (W : World) : Prop := Ext [] W3 W ∧ ∀ x ∈ pre, ld x.1 d = p
def StX (d p z : Nat) (W3 : World) (cd : Code) (pre : List (Nat × Nat)) (W : World) : Prop := cd = .ret ∧ (∃ x ∈ pre, ld x.1 d ≠ p) ∧ Boxed W (z + 2) 4 (.bool false) ∧ Ext [z + 2] W3 W
set_option maxRecDepth 100000 in
set_option maxHeartbeats 4000000 in
theorem soundTab_true (t : Tq) (g c p : Nat) (hd : t.d ≤ 6) (hSd : Sd t.T t.G) (hlead : ∀ e ∈ ents t.T t.G, ld e.1 t.d = p) (_hp : p ≤ 64) (w : World) (hT : Tw w g t.T) (hTb : Tb w) :
    Calls Tryd.prog 59 #[.agg #[.int .i64 (t.d : Nat), .slice (some ⟨g, 0, none⟩) (3 + 17 * t.G) c], .int .i64 (p : Nat)] w (SayPost w (.bool true)) := by
  obtain ⟨d, G, T⟩ := t
  simp only at hd hSd hlead hT ⊢
  have hlen := hSd.shp.len
  have hG := hSd.shp.gp.le
  refine (callsIn_wide (n := 14)).1 ?_
  refine callsIn_of_wp_marks Tryd.func59 rfl trivial ?_ rfl
  simp only [Tryd.ntmps59, List.size_toArray, List.length_cons, List.length_nil, Nat.reduceAdd, Nat.reduceSub, Array.replicate_succ, Array.replicate_zero, List.push_toArray, List.append_toArray, List.nil_append, List.cons_append]
  obtain ⟨z, hz⟩ : ∃ z, w.heap.size = z := ⟨_, rfl⟩
  have h0z : 0 < z := by rw [← hz]; exact hTb.lt
  obtain ⟨W0, hW0⟩ : ∃ W0, (((w.alloc (.cells #[.int .i64 (d : Nat), .slice (some ⟨g, 0, none⟩) (3 + 17 * G) c] 66)).alloc (.cells #[.int .i64 (p : Nat)] 3)).alloc (.cells #[.bool false] 4)) = W0 := ⟨_, rfl⟩
  have hE0 : Ext [] w W0 := by rw [← hW0]; exact ((Ext.alloc [] _ _).trans (Ext.alloc [] _ _)).trans (Ext.alloc [] _ _)
  have b0 : W0.heap[z]? = some (.cells #[.int .i64 (d : Nat), .slice (some ⟨g, 0, none⟩) (3 + 17 * G) c] 66) := by
    rw [← hW0, ← hz]
    exact (Below.heap_alloc _ _ _ (by simp; omega)).trans ((Below.heap_alloc _ _ _ (by simp)).trans (heap_alloc_new w _))
  have b1 : Boxed W0 (z + 1) 3 (.int .i64 (p : Nat)) := by
    have := (Boxed.new (w.alloc (.cells #[.int .i64 (d : Nat), .slice (some ⟨g, 0, none⟩) (3 + 17 * G) c] 66)) 3 (.int .i64 (p : Nat))).alloc (.cells #[.bool false] 4)
    rw [hW0, World.size_alloc, hz] at this; exact this
  have b2 : Boxed W0 (z + 2) 4 (.bool false) := by
    have := Boxed.new ((w.alloc (.cells #[.int .i64 (d : Nat), .slice (some ⟨g, 0, none⟩) (3 + 17 * G) c] 66)).alloc (.cells #[.int .i64 (p : Nat)] 3)) 4 (.bool false)
    rw [hW0, World.size_alloc, World.size_alloc, hz] at this; exact this
  have cZ : W0.cell? ⟨z, 1, none⟩ = some (.slice (some ⟨g, 0, none⟩) (3 + 17 * G) c) := by rw [cell_of_row _ _ _ _ _ _ b0]; rfl
  have K0 := tall_any g 0 c T G hSd W0 (hT.keep0 hE0).wd
  have HE0 := hid hE0
  have Hb0 := hid b0
  have Hb1 := hid b1
  have Hb2 := hid b2
  have HTb0 := hid (hTb.keep0 hE0)
  have HSd := hid hSd
  have HZ := hid hz
  have HLd := hid hlead
  clear hE0 b0 b1 b2 hT hTb hSd hlen hlead
  gi_wp2_with fail
  try rw [hW0]
  try simp only [hz]
  simp only [show z + 1 + 1 = z + 2 from rfl]
  clear hW0 hz
  gi_at_call 89
  refine (callsIn_wide.2 K0).mono ?_
  clear K0 cZ
  rintro _ w2 ⟨Bn, gB, cB, rfl, hbn, hTB, hgB, hBn, hX2⟩
  have HX2 := hid (HE0.out.trans hX2)
  have HTb2 := hid (HTb0.out.keep0 hX2)
  have HTB := hid hTB
  have Hbn := hid hbn
  have Ht0 := hid (show w2.heap[z]? = _ from hX2.keep Hb0.out (by simp))
  have Ht1 := hid (show Boxed w2 (z + 1) 3 _ from hX2.keep Hb1.out (by simp))
  have Ht2 := hid (show Boxed w2 (z + 2) 4 _ from hX2.keep Hb2.out (by simp))
  have hW0s : z + 2 < W0.heap.size := Hb2.out.lt
  clear hX2 hbn hTB Hb0 Hb1 Hb2
  gi_wp2_with fail
  have hz2 : z + 2 < w2.heap.size := Ht2.out.lt
  have hO3 : ∀ k ∈ [0, Bn, gB], ¬ Olist [z + 2] w2 k := by
    intro k hk hO
    simp only [Olist, List.mem_cons, List.not_mem_nil, or_false] at hk hO
    omega
  obtain ⟨cs, hcs, hcs2⟩ := HTB.out
  have HEnt := hid (entries_gives 13 (by omega) Bn gB 0 cB G T _ HSd.out.shp (Olist [z + 2]) w2 Hbn.out hcs rfl (Tw.wd ⟨cs, hcs, hcs2⟩) HTb2.out hO3)
  clear hcs hcs2 hO3
  refine loop_givesS rfl (by omega) (gf := 126) (lb := #[.pointer (some ⟨Bn, 0, none⟩)]) rfl trivial (enters_of Tryd.func126 (by kernel_rfl) rfl)
    HEnt.out (fun _ => rfl)
    (StI d p w2) (StX d p z w2)
    (cal_list (OwnFrom.and (ext_own (Nat.le_refl _)) (ownFrom_pure _ _)) (fun s W hs k hk => by have := hs.1.size; simp at hk; omega))
    (fun cd => cal_list (fun s X Y row hs hg hr => by
      obtain ⟨e1, e2, q1, q5⟩ := hs
      exact ⟨e1, e2, boxed_own (z + 2) 4 (fun _ : Unit => .bool false) () X Y row q1 hg (fun r e => (hr r e).2), ext_own (β := Unit) (Nat.le_refl _) () X Y row q5 hg hr⟩)
      (fun s W hs k hk => by obtain ⟨e1, e2, q1, q5⟩ := hs; have := q5.size; simp at hk; omega))
    ⟨Ext.refl _ _, by simp⟩
    (fun x a' _ => a' = { tmps := #[.agg #[.int .i64 (d : Nat), .slice (some ⟨g, 0, none⟩) (3 + 17 * G) c], .int .i64 (p : Nat), .pointer (some ⟨z, 0, none⟩), .pointer (some ⟨z + 1, 0, none⟩), .pointer (some ⟨z + 2, 0, none⟩), .func (.func 126) #[] #[.pointer (some ⟨Bn, 0, none⟩)], .int .i64 0, .int .u64 (x.1 : Nat), .tuple #[.func (.func 126) #[] #[.pointer (some ⟨Bn, 0, none⟩)], .int .i64 0], .pointer (some ⟨z, 1, none⟩), .slice (some ⟨g, 0, none⟩) (3 + 17 * G) c, .tuple #[.func (.func 126) #[] #[.pointer (some ⟨Bn, 0, none⟩)], .int .i64 0], .func (.func 126) #[] #[.pointer (some ⟨Bn, 0, none⟩)], .int .i64 0, .int .i64 0, .bool false, .func (.func 126) #[] #[.pointer (some ⟨Bn, 0, none⟩)], .int .u64 (x.1 : Nat), .int .u64 (x.2 : Nat), undef, undef, undef, undef, undef, undef], defers := [] }) (fun x a' _ X Y row hs hg hr => hs)
    ?assign ?body ?done ?stop
  case assign =>
    rintro l pre x W K _ hI hK
    unfold eenc
    gi_wp2
    exact hK _ _ (KeepsFrom.refl _ _) (Kc.refl _ _) hI rfl
  case stop =>
    rintro D cd pre W hD hSp ⟨rfl, ⟨x, hx, hne⟩, q1, q5⟩ hK
    exact absurd (HLd.out x (hSp.subset hx)) hne
  case done =>
    rintro D zs W hD rfl ⟨hX, hno⟩ hK
    have hb2 : Boxed W (z + 2) 4 (.bool false) := hX.keep Ht2.out (by simp)
    have c2 := hb2.cell
    have f2 := hb2.frozen
    have HX := hid hX
    have HK := hid hK
    have HD := hid hD
    have Hb2 := hid hb2
    clear hX hno hK hD hb2
    gi_wp2_with fail
    have hx3 := Ext.setCell [z + 2] W ⟨z + 2, 0, none⟩ (.bool true) (by simp)
    have hK2 := (KeepsOthers.setCell W ⟨z + 2, 0, none⟩ (.bool true)).same _ _ HK.out rfl
    have hP := grownBy_putObj' (W.setCell ⟨z + 2, 0, none⟩ (.bool true)) D (.deferred none)
    have hx2 := Ext.grown (S := [D]) hP (by simp)
    have hDz := HD.out
    have hr2 : Boxed _ _ _ _ := hx2.keep (Hb2.out.set (.bool true)) (by simp; omega)
    have hw := HZ.out
    refine ⟨by simp, .inl ⟨_, _, rfl, run_takeDeferred hK2, _, results_cell1 rfl _ _ ⟨z + 2, 0, none⟩ _ rfl (load4 hr2), rfl, ?_⟩⟩
    exact ((HX2.out.trans HX.out).on hx3 (by simp; omega)).on hx2 (by simp; omega)
  case body =>
    rintro l pre x a' W hl ⟨r, hr⟩ ⟨hX, hno⟩ rfl hlt ⟨hxh, hxd⟩
    obtain ⟨xh, xd⟩ := x
    simp only at hxh hxd
    have hb0 : W.heap[z]? = some (.cells #[.int .i64 (d : Nat), .slice (some ⟨g, 0, none⟩) (3 + 17 * G) c] 66) := hX.keep Ht0.out (by simp)
    have hb1 : Boxed W (z + 1) 3 (.int .i64 (p : Nat)) := hX.keep Ht1.out (by simp)
    have hb2 : Boxed W (z + 2) 4 (.bool false) := hX.keep Ht2.out (by simp)
    have c0 : W.cell? ⟨z, 0, none⟩ = some (.int .i64 (d : Nat)) := by rw [cell_of_row _ _ _ _ _ _ hb0]; rfl
    have c1 := hb1.cell
    have KL := fun u => leading_any xh d hd hxh u
    obtain ⟨q, hq⟩ : ∃ q, ld xh d = q := ⟨_, rfl⟩
    have hqb : q ≤ 64 := by
      have := ld_lt (dp := d) hxh (by omega)
      have := pow64 hd
      omega
    rw [hq] at KL
    have HX := hid hX
    have HNo := hid hno
    have Hb2 := hid hb2
    have HQ := hid hq
    clear hX hno hr hb0 hb1 hb2 hq
    by_cases hdd : q = p
    · have hd1 : ((q : Int) == (p : Int)) = true := by simp [hdd]
      have hd2 : ((q : Int) != (p : Int)) = false := by simp [hdd]
      gi_wp2_with fail
      refine wpIn_region_quietR (by kernel_rfl) (by kernel_rfl) (by kernel_rfl) ?_
      repeat (gi_big_quiet_step (first | (gi_at_call 67; refine CallsIn.quiet_of_same ((callsIn_wide.2 (KL _)).inRound l))))
      refine wpQuietIn_nil ?_
      rintro _ ⟨nq, rfl⟩
      have HF : Hid (KeepsFrom w2.heap.size W (W.drewN nq) ∧ Kc (Olist [z + 2]) W (W.drewN nq) ∧ StI d p w2 (pre ++ [(xh, xd)]) (W.drewN nq)) := by
        refine ⟨⟨Nat.le_refl _, fun _ _ _ h _ => h⟩, kc_list (Ext.drewN _ W nq), HX.out.trans (Ext.drewN [] W nq), fun y hy => ?_⟩
        rcases List.mem_append.1 hy with q | q
        · exact HNo.out y q
        · simp only [List.mem_singleton] at q
          subst q
          show ld xh d = p
          rw [HQ.out, hdd]
      clear c0 c1
      gi_wp2_with fail
      exact HF.out
    · have hd1 : ((q : Int) == (p : Int)) = false := by simp; omega
      have hd2 : ((q : Int) != (p : Int)) = true := by simp; omega
      gi_wp2_with fail
      refine wpIn_region_quietR (by kernel_rfl) (by kernel_rfl) (by kernel_rfl) ?_
      repeat (gi_big_quiet_step (first | (gi_at_call 67; refine CallsIn.quiet_of_same ((callsIn_wide.2 (KL _)).inRound l))))
      refine wpQuietIn_nil ?_
      rintro _ ⟨nq, rfl⟩
      have hxd := Ext.drewN [] W nq
      obtain ⟨V, hV⟩ : ∃ V, W.drewN nq = V := ⟨_, rfl⟩
      rw [hV] at hxd ⊢
      clear c0 c1 hV
      have hb2 : Boxed V (z + 2) 4 (.bool false) := hxd.keep Hb2.out (by simp)
      have c2 := hb2.cell
      have f2 := hb2.frozen
      have hx3 := Ext.setCell [z + 2] V ⟨z + 2, 0, none⟩ (.bool false) (by simp)
      have hall : Ext [z + 2] W (V.setCell ⟨z + 2, 0, none⟩ (.bool false)) := (hxd.mono (by simp)).trans hx3
      have HF : Hid (KeepsFrom w2.heap.size W (V.setCell ⟨z + 2, 0, none⟩ (.bool false)) ∧ Kc (Olist [z + 2]) W (V.setCell ⟨z + 2, 0, none⟩ (.bool false)) ∧ StX d p z w2 .ret (pre ++ [(xh, xd)]) (V.setCell ⟨z + 2, 0, none⟩ (.bool false))) := by
        refine ⟨keeps_ext hall (by simp; omega), kc_list hall, rfl, ⟨(xh, xd), by simp, ?_⟩, hb2.set _, (HX.out.mono (by simp)).trans hall⟩
        show ld xh d ≠ p
        rw [HQ.out]
        exact hdd
      clear hxd hb2 hx3 hall
      gi_wp2_with fail
      exact HF.out
end Go.Proofs.YtkfagfdefkaenaaDoor

/-
  A directory is sound; no statement is proved here.
-/
namespace Go.Proofs.YtkfagfdefkaenaaDoor
open Go.RowKit Go.Shelf
open Pr (Gp GpI sq pl)
attribute [local go_sem] Oper.semAt_some run_store_func

theorem len_pre (dp : Nat) : ∀ L : List Tq, L.length ≤ pre dp L
  | [] => Nat.le_refl _
  | t :: L => by rw [List.length_cons, pre]; have := len_pre dp L; have := wdt_pos dp t; omega
theorem Dq.len {dp : Nat} {L : List Tq} (h : Dq dp L) : L.length ≤ 64 := by
  have := len_pre dp L
  rw [h.all] at this
  have := pow64 h.le
  omega
/-- The n-th table of a sound directory. -/
structure Nth (dp : Nat) (L : List Tq) (n : Nat) (t : Tq) (p : Nat) : Prop where
  at_ : L[n]? = some t
  pre : p = pre dp (L.take n)
  nxt : p + wdt dp t = Go.Proofs.YtkfagfdefkaenaaDoor.pre dp (L.take (n + 1))
  le : p + wdt dp t ≤ 2 ^ dp
  ot : Ot dp p t
  slots : ∀ j, j < wdt dp t → (slo dp L 0)[p + j]? = some n
theorem Dq.nth {dp : Nat} {L : List Tq} (h : Dq dp L) {n : Nat} (hn : n < L.length) : ∃ t p, Nth dp L n t p := by
  have hL : L = L.take n ++ L[n] :: L.drop (n + 1) := by rw [List.getElem_cons_drop, List.take_append_drop]
  have hl : (L.take n).length = n := by rw [List.length_take]; omega
  obtain ⟨t, ht⟩ : ∃ t, L[n] = t := ⟨_, rfl⟩
  rw [ht] at hL
  have hok := h.ok
  have hal := h.all
  have hsl : slo dp L 0 = slo dp (L.take n ++ t :: L.drop (n + 1)) 0 := by rw [← hL]
  rw [hL, ok_app, Ok, Nat.zero_add] at hok
  rw [hL, pre_app, pre] at hal
  refine ⟨t, pre dp (L.take n), by rw [List.getElem?_eq_getElem hn, ht], rfl, ?_, by omega, hok.2.1, fun j hj => ?_⟩
  · rw [List.take_add_one, List.getElem?_eq_getElem hn, ht, Option.toList, pre_app, pre, pre, Nat.add_zero]
  · rw [hsl, slo_app, slo, List.getElem?_append_right (by rw [slo_len]; omega), slo_len, List.getElem?_append_left (by rw [List.length_replicate]; omega), List.getElem?_replicate, if_pos (by omega), Nat.zero_add, hl]
theorem wrap_pow {k : Nat} (hk : k ≤ 6) : wrap64 (2 ^ k) = ((2 ^ k : Nat) : Int) := by
  have h := pow64 hk
  have : ((2 : Int) ^ k) = ((2 ^ k : Nat) : Int) := by push_cast; rfl
  rw [this]
  generalize (2 : Nat) ^ k = m at *
  unfold wrap64
  omega
set_option maxRecDepth 100000 in
set_option maxHeartbeats 4000000 in
theorem sound_yes (dp bt ct bs os cs n : Nat) (L : List Tq) (hD : Dq dp L) (hcs : 2 ^ dp ≤ cs) (hn : L.length = n) (w : World) (hR : Dr w bt bs os dp L) (hTb : Tb w) :
    Calls Tryd.prog 31 #[dv dp bt n ct bs os (2 ^ dp) cs] w (SayPost w (.bool true)) := by
  have hdp := hD.le
  have hl := hD.len
  have h64 := pow64 hdp
  rw [hn] at hl
  have HD := hid hD
  have HR := hid hR
  have HTb := hid hTb
  have HN := hid hn
  obtain ⟨m, hm⟩ : ∃ m, 2 ^ dp = m := ⟨_, rfl⟩
  have hmw : wrap64 (2 ^ dp) = (m : Int) := by
    rw [← hm]
    exact wrap_pow hdp
  have hm2 : ((m : Int) != (m : Int)) = false := by simp
  rw [hm] at h64 hcs
  unfold dv
  rw [hm]
  clear hD hR hTb hn
  go_enter Tryd.func31, Tryd.ntmps31
  go_wp2_with fail
  have g1 : decide ((dp : Int) < 0) = false := by simp
  have g2 : decide ((6 : Int) < dp) = false := by simp; omega
  go_quiet (fail)
  simp only [hmw]
  obtain ⟨W1, hW1⟩ : ∃ W1, (w.alloc (.cells #[.int .i64 (dp : Nat), .slice (some ⟨bt, 0, none⟩) n ct, .slice (some ⟨bs, os, none⟩) m cs] 27)).drewN nq = W1 := ⟨_, rfl⟩
  have hE1 : Ext [] w W1 := by rw [← hW1]; exact (Ext.alloc [] w _).trans (Ext.drewN [] _ nq)
  have hb : W1.heap[w.heap.size]? = some (.cells #[.int .i64 (dp : Nat), .slice (some ⟨bt, 0, none⟩) n ct, .slice (some ⟨bs, os, none⟩) m cs] 27) := by
    rw [← hW1]; exact heap_alloc_new w _
  rw [hW1]
  clear hW1
  obtain ⟨z, hz⟩ : ∃ z, w.heap.size = z := ⟨_, rfl⟩
  rw [hz] at hb ⊢
  have c0 : W1.cell? ⟨z, 0, none⟩ = some (.int .i64 (dp : Nat)) := by rw [cell_of_row _ _ _ _ _ _ hb]; rfl
  have c1 : W1.cell? ⟨z, 1, none⟩ = some (.slice (some ⟨bt, 0, none⟩) n ct) := by rw [cell_of_row _ _ _ _ _ _ hb]; rfl
  have HE1 := hid hE1
  have HB := hid hb
  clear hE1 hb hz hm2
  go_wp2_with fail
  go_loopw [3, 27] (fun p q wr => ∃ k : Nat, q = .int .i64 k ∧ k ≤ n ∧ p = .int .i64 (pre dp (L.take k) : Nat) ∧ Ext [] W1 wr) (fun _ q _ => (n - (intOf q)).toNat)
  case atStart => exact ⟨0, rfl, Nat.zero_le _, by simp [pre], Ext.refl _ _⟩
  case round =>
    obtain ⟨k, rfl, hk, rfl, hXr⟩ := hrel
    have hHB : wr.heap[z]? = some (.cells #[.int .i64 (dp : Nat), .slice (some ⟨bt, 0, none⟩) n ct, .slice (some ⟨bs, os, none⟩) m cs] 27) := hXr.keep HB.out (by simp)
    have d0 : wr.cell? ⟨z, 0, none⟩ = some (.int .i64 (dp : Nat)) := by rw [cell_of_row _ _ _ _ _ _ hHB]; rfl
    have d2 : wr.cell? ⟨z, 2, none⟩ = some (.slice (some ⟨bs, os, none⟩) m cs) := by rw [cell_of_row _ _ _ _ _ _ hHB]; rfl
    clear hHB
    by_cases hkn : k < n
    · have hki : (k : Int) < n := by omega
      obtain ⟨t, p, hN⟩ := HD.out.nth (by rw [HN.out]; exact hkn)
      rw [← hN.pre]
      have hRr := (HR.out.keep0 HE1.out).keep0 hXr
      obtain ⟨g, c, e1, e2, hTw⟩ := hRr.ts.cells hN.at_
      have hot := hN.ot
      have hle := hN.le
      rw [hm] at hle
      have hsl : ∀ j, j < wdt dp t → wr.cell? ⟨bs, os + p + j, none⟩ = some (.int .i64 (k : Nat)) := fun j hj => by
        rw [Nat.add_assoc]; exact hRr.ns _ _ (hN.slots j hj)
      have hw0 := wdt_pos dp t
      have hww : wrap64 (2 ^ (dp - t.d)) = ((wdt dp t : Nat) : Int) := wrap_pow (by omega)
      obtain ⟨q, hq⟩ : ∃ q, p / wdt dp t = q := ⟨_, rfl⟩
      have hqb : q ≤ 64 := by rw [← hq]; exact Nat.le_trans (Nat.div_le_self _ _) (by omega)
      have hlead := hot.lead
      rw [hq] at hlead
      have hdi : (p : Int) / (wdt dp t : Nat) = (q : Nat) := by rw [← hq]; push_cast; rfl
      have hmi : (p : Int) % (wdt dp t : Nat) = 0 := by have := hot.mul; omega
      have K1 := fun u (hu : Ext [] wr u) => named_true bs (os + p) (m - p) (cs - p) k (wdt dp t) u (by omega) (by omega) (by omega) (by omega) (by omega) (fun j hj => hu.cell (hsl j hj) (by simp))
      have K2 := fun u (hu : Ext [] wr u) => soundTab_true t g c q (by have := hot.le; omega) hot.sd hlead hqb u (hTw.keep0 hu) (((HTb.out.keep0 HE1.out).keep0 hXr).keep0 hu)
      have htd := hot.le
      have Hot := hid hot
      have HXr := hid hXr
      have HNt := hid hN
      clear hot hlead hsl hTw hRr hN hXr hq
      have hEA := Ext.alloc [] wr (.cells #[.int .i64 (t.d : Nat), .slice (some ⟨g, 0, none⟩) (3 + 17 * t.G) c] 66)
      have d0' := hEA.cell d0 (by simp)
      have d2' := hEA.cell d2 (by simp)
      have g3 : decide ((t.d : Int) < 0) = false := by simp
      have g4 : decide ((dp : Int) < t.d) = false := by simp; omega
      have HEA := hid hEA
      clear hEA
      obtain ⟨wd, hwd⟩ : ∃ wd, wdt dp t = wd := ⟨_, rfl⟩
      rw [hwd] at hle hw0 hww hdi hmi K1
      have hne0 : ((wd : Int) == 0) = false := by simp; omega
      have hmi' : (p : Int).tmod wd = 0 := by rw [Int.tmod_eq_emod_of_nonneg (by omega)]; exact hmi
      have hdi' : (p : Int).tdiv wd = q := by rw [Int.tdiv_eq_ediv_of_nonneg (by omega)]; exact hdi
      have hqw : IntKind.i64.wrap (q : Int) = q := by rw [IntKind.wrap_i64]; omega
      have hwn : ¬ wd = 0 := by omega
      have hcp : ¬ cs = p := by omega
      have hpm : (p : Int) ≤ m := by omega
      have HW := hid hwd
      clear hwd
      go_wp2_with fail
      simp only [hww]
      obtain ⟨U, hU⟩ : ∃ U, wr.alloc (.cells #[.int .i64 (t.d : Nat), .slice (some ⟨g, 0, none⟩) (3 + 17 * t.G) c] 66) = U := ⟨_, rfl⟩
      obtain ⟨zu, hzu⟩ : ∃ zu, wr.heap.size = zu := ⟨_, rfl⟩
      have u0 : U.cell? ⟨zu, 0, none⟩ = some (.int .i64 (t.d : Nat)) := by rw [← hU, ← hzu, cell_of_row _ _ _ _ _ _ (heap_alloc_new wr _)]; rfl
      have u1 : U.cell? ⟨zu, 1, none⟩ = some (.slice (some ⟨g, 0, none⟩) (3 + 17 * t.G) c) := by rw [← hU, ← hzu, cell_of_row _ _ _ _ _ _ (heap_alloc_new wr _)]; rfl
      have hXU : Ext [] wr U := by rw [← hU]; exact HEA.out
      rw [hU] at d0' d2'
      rw [hU, hzu]
      clear hU hzu
      go_region_held3 (fun w' => w'.cell? ⟨z, 2, none⟩ = some (.slice (some ⟨bs, os, none⟩) m cs) ∧ w'.cell? ⟨zu, 0, none⟩ = some (.int .i64 (t.d : Nat)) ∧ w'.cell? ⟨zu, 1, none⟩ = some (.slice (some ⟨g, 0, none⟩) (3 + 17 * t.G) c))
        (first | go_keep | exact ⟨hX5.cell d2' (by simp), hX5.cell u0 (by simp), hX5.cell u1 (by simp)⟩)
        (first
          | (go_at_call 58; refine met (K1 _ (hXU.trans (Ext.drew [] _))) ?_)
          | (go_at_call 59; (try rw [hqw]); refine (K2 _ (hXU.trans (Ext.drew [] _))).mono ?_; rintro _ w5 ⟨rfl, hX5⟩)
          | fail "no arm")
      have HX5 := hid (((HXr.out.trans hXU).trans (Ext.drew [] U)).trans hX5)
      clear hX5 hXU u0 u1 K1 K2 d0 d2 d0' d2'
      go_wp2_with fail
      go_roundw
      case rel =>
        refine ⟨k + 1, by go_num, by omega, ?_, HX5.out⟩
        rw [← HNt.out.nxt, HW.out]
        push_cast
        rfl
      case measure => simp [intOf]; omega
    · obtain rfl : k = n := by omega
      have hpn : pre dp (L.take k) = m := by rw [← HN.out, List.take_length, HD.out.all, hm]
      rw [hpn]
      have hmm : ((m : Int) == (m : Int)) = true := by simp
      have HXr := hid hXr
      clear hXr
      go_wp2_with fail
      go_ret
      exact ⟨rfl, HE1.out.trans HXr.out⟩
end Go.Proofs.YtkfagfdefkaenaaDoor
