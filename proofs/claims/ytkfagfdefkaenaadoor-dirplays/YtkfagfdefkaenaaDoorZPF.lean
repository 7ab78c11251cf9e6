/-
  RgA: joined by program; no statement is proved here.
-/
import Derived.Test.YtkfagfdefkaenaaDoorZK
import Derived.Test.YtkfagfdefkaenaaDoorZPE
/-
  Half of a table, with its words determined; no statement is proved here.
-/
namespace Go.Proofs.YtkfagfdefkaenaaDoor.Rf
open Go.RowKit Go.Shelf
open Pr (Gp GpI sq pl)
attribute [local go_sem] Oper.semAt_some run_store_func wide_fn wide_depth

def HfPost (w : World) (t : Tq) (bit : Nat) (e : Ending) (w' : World) : Prop := ∃ X g c, e = .returned (.agg #[.int .i64 (t.d + 1 : Nat), .slice (some ⟨g, 0, none⟩) (3 + 17 * t.G) c]) ∧ Fil X t.G (hf t.d bit (ents t.T t.G)) ∧ Tw w' g X ∧ w.heap.size ≤ g ∧ Ext [] w w'
def HfI (d bit G z4 lo : Nat) (W3 : World) (pre : List (Nat × Nat)) (W : World) : Prop := ∃ X g c, Fil X G (hf d bit pre) ∧ Boxed W z4 22 (.slice (some ⟨g, 0, none⟩) (3 + 17 * G) c) ∧ Tw W g X ∧ lo ≤ g ∧ Ext [z4] W3 W

set_option maxRecDepth 100000 in
set_option maxHeartbeats 4000000 in
theorem half_any (t : Tq) (g c bit : Nat) (hd : t.d < 6) (_hbit : bit ≤ 1) (hSd : Sd t.T t.G) (w : World) (hT : Tw w g t.T) (hTb : Tb w) :
    Calls Tryd.prog 111 #[.agg #[.int .i64 (t.d : Nat), .slice (some ⟨g, 0, none⟩) (3 + 17 * t.G) c], .int .i64 (bit : Nat)] w (HfPost w t bit) := by
  obtain ⟨d, G, T⟩ := t
  unfold HfPost
  simp only at hd hSd hT ⊢
  have hlen := hSd.shp.len
  have hG := hSd.shp.gp.le
  have hG0 := hSd.shp.gp.pos
  refine (callsIn_wide (n := 14)).1 ?_
  refine callsIn_of_wp_marks Tryd.func111 rfl trivial ?_ rfl
  simp only [Tryd.ntmps111, List.size_toArray, List.length_cons, List.length_nil, Nat.reduceAdd, Nat.reduceSub, Array.replicate_succ, Array.replicate_zero, List.push_toArray, List.append_toArray, List.nil_append, List.cons_append]
  obtain ⟨z, hz⟩ : ∃ z, w.heap.size = z := ⟨_, rfl⟩
  have h0z : 0 < z := by rw [← hz]; exact hTb.lt
  obtain ⟨W0, hW0⟩ : ∃ W0, (((w.alloc (.cells #[.int .i64 (d : Nat), .slice (some ⟨g, 0, none⟩) (3 + 17 * G) c] 66)).alloc (.cells #[.int .i64 (bit : Nat)] 3)).alloc (.cells #[.int .i64 0, .slice none 0 0] 66)).alloc (.cells #[.int .i64 ((d : Int) + 1)] 3) = W0 := ⟨_, rfl⟩
  have hE0 : Ext [] w W0 := by rw [← hW0]; exact (((Ext.alloc [] _ _).trans (Ext.alloc [] _ _)).trans (Ext.alloc [] _ _)).trans (Ext.alloc [] _ _)
  have b0 : W0.heap[z]? = some (.cells #[.int .i64 (d : Nat), .slice (some ⟨g, 0, none⟩) (3 + 17 * G) c] 66) := by
    rw [← hW0, ← hz]
    exact (Below.heap_alloc _ _ _ (by simp; omega)).trans ((Below.heap_alloc _ _ _ (by simp; omega)).trans ((Below.heap_alloc _ _ _ (by simp)).trans (heap_alloc_new w _)))
  have b1 : Boxed W0 (z + 1) 3 (.int .i64 (bit : Nat)) := by
    have := ((Boxed.new (w.alloc (.cells #[.int .i64 (d : Nat), .slice (some ⟨g, 0, none⟩) (3 + 17 * G) c] 66)) 3 (.int .i64 (bit : Nat))).alloc (.cells #[.int .i64 0, .slice none 0 0] 66)).alloc (.cells #[.int .i64 ((d : Int) + 1)] 3)
    rw [hW0, World.size_alloc, hz] at this; exact this
  have b2 : W0.heap[z + 2]? = some (.cells #[.int .i64 0, .slice none 0 0] 66) := by
    have := (Below.heap_alloc ((((w.alloc (.cells #[.int .i64 (d : Nat), .slice (some ⟨g, 0, none⟩) (3 + 17 * G) c] 66)).alloc (.cells #[.int .i64 (bit : Nat)] 3)).alloc (.cells #[.int .i64 0, .slice none 0 0] 66))) (.cells #[.int .i64 ((d : Int) + 1)] 3) _ (by simp)).trans (heap_alloc_new ((w.alloc (.cells #[.int .i64 (d : Nat), .slice (some ⟨g, 0, none⟩) (3 + 17 * G) c] 66)).alloc (.cells #[.int .i64 (bit : Nat)] 3)) (.cells #[.int .i64 0, .slice none 0 0] 66))
    rw [hW0, World.size_alloc, World.size_alloc, hz] at this; exact this
  have b3 : Boxed W0 (z + 3) 3 (.int .i64 ((d : Int) + 1)) := by
    have := Boxed.new (((w.alloc (.cells #[.int .i64 (d : Nat), .slice (some ⟨g, 0, none⟩) (3 + 17 * G) c] 66)).alloc (.cells #[.int .i64 (bit : Nat)] 3)).alloc (.cells #[.int .i64 0, .slice none 0 0] 66)) 3 (.int .i64 ((d : Int) + 1))
    rw [hW0, World.size_alloc, World.size_alloc, World.size_alloc, hz] at this; exact this
  have hcZ : W0.cell? ⟨z, 1, none⟩ = some (.slice (some ⟨g, 0, none⟩) (3 + 17 * G) c) := by rw [cell_of_row _ _ _ _ _ _ b0]; rfl
  have KG := dgroups_any g c G T W0 hSd.shp (hT.keep0 hE0)
  have KN := tnew_ok G hSd.shp.gp W0
  have HE0 := hid hE0
  have Hb0 := hid b0
  have Hb1 := hid b1
  have Hb2 := hid b2
  have Hb3 := hid b3
  have HSd := hid hSd
  have HT0 := hid (hT.keep0 hE0)
  have HTb0 := hid (hTb.keep0 hE0)
  have HZ := hid hz
  clear hE0 b0 b1 b2 b3 hT hTb hSd hlen
  gi_wp2_with (gi_at_call 79; (try rw [hW0]); refine (callsIn_wide.2 KG).mono ?_; rintro _ _ ⟨rfl, hw2⟩; obtain rfl := hw2.symm; clear hw2)
  try rw [hW0]
  try simp only [hz]
  simp only [show z + 1 + 1 = z + 2 from rfl, show z + 2 + 1 = z + 3 from rfl]
  clear hW0 hz KG hcZ
  gi_at_call 35
  refine (callsIn_wide.2 KN).mono ?_
  clear KN
  rintro _ w1 ⟨g1, c1, rfl, hT1, hg1, hX1⟩
  obtain ⟨z4, hz4⟩ : ∃ z4, w1.heap.size = z4 := ⟨_, rfl⟩
  have hEa := Ext.alloc [] w1 (.cells #[.slice (some ⟨g1, 0, none⟩) (3 + 17 * G) c1] 22)
  have b4 := Boxed.new w1 22 (.slice (some ⟨g1, 0, none⟩) (3 + 17 * G) c1)
  obtain ⟨W2, hW2⟩ : ∃ W2, w1.alloc (.cells #[.slice (some ⟨g1, 0, none⟩) (3 + 17 * G) c1] 22) = W2 := ⟨_, rfl⟩
  rw [hW2] at hEa b4
  rw [hz4] at b4
  have hX2 := hX1.trans hEa
  have c0 : W2.cell? ⟨z, 1, none⟩ = some (.slice (some ⟨g, 0, none⟩) (3 + 17 * G) c) := by rw [cell_of_row _ _ _ _ _ _ (hX2.keep Hb0.out (by simp))]; rfl
  have KA := tall_any g 0 c T G HSd.out W2 (HT0.out.keep0 hX2).wd
  have hg14 : g1 < z4 := by rw [← hz4]; exact hT1.lt
  have HT1 := hid (hT1.keep0 hEa)
  have HX2 := hid hX2
  have Hb4 := hid b4
  have hz3 : z + 3 < z4 := by rw [← hz4]; exact Boxed.lt (show Boxed w1 (z + 3) 3 _ from hX1.keep Hb3.out (by simp))
  have h4s : z4 < W2.heap.size := b4.lt
  clear hT1 hX1 hEa b4 hX2
  gi_wp2_with fail
  try rw [hW2]
  try simp only [hz4]
  clear hW2 hz4
  gi_at_call 89
  refine (callsIn_wide.2 KA).mono ?_
  clear KA c0
  rintro _ w3 ⟨Bn, gB, cB, rfl, hbn, hTB, hgB, hBn, hX3⟩
  have HX3 := hid (HX2.out.trans hX3)
  have Hbn := hid hbn
  have HTB := hid hTB
  have Ht1 := hid (show Boxed w3 (z + 1) 3 _ from HX3.out.keep Hb1.out (by simp))
  have Ht2 := hid (show w3.heap[z + 2]? = _ from HX3.out.keep Hb2.out (by simp))
  have Ht3 := hid (show Boxed w3 (z + 3) 3 _ from HX3.out.keep Hb3.out (by simp))
  have Ht4 := hid (show Boxed w3 z4 22 _ from hX3.keep Hb4.out (by simp))
  have HT3 := hid (HT1.out.keep0 hX3)
  have HTb3 := hid (HTb0.out.keep0 HX3.out)
  clear hX3 hbn hTB Hb0 Hb1 Hb2 Hb3 Hb4 HT1
  gi_wp2_with fail
  have hz4 : z4 < w3.heap.size := Ht4.out.lt
  have hO3 : ∀ k ∈ [0, Bn, gB], ¬ Olist [z4] w3 k := by
    intro k hk hO
    simp only [Olist, List.mem_cons, List.not_mem_nil, or_false] at hk hO
    omega
  obtain ⟨cs, hcs, hcs2⟩ := HTB.out
  have HEnt := hid (entries_gives 13 (by omega) Bn gB 0 cB G T _ HSd.out.shp (Olist [z4]) w3 Hbn.out hcs rfl (Tw.wd ⟨cs, hcs, hcs2⟩) HTb3.out hO3)
  clear hcs hcs2 hO3
  have hzg1 : z ≤ g1 := by have := HE0.out.size; have := HZ.out; omega
  refine loop_givesS rfl (by omega) (gf := 126) (lb := #[.pointer (some ⟨Bn, 0, none⟩)]) rfl trivial (enters_of Tryd.func126 (by kernel_rfl) rfl)
    HEnt.out (fun _ => rfl)
    (HfI d bit G z4 z w3) (fun _ _ _ => False)
    (cal_list (fun s X Y row hs hg hr => by
      obtain ⟨X', g', c', q1, q2, q3, q4, q5⟩ := hs
      exact ⟨X', g', c', q1, boxed_own z4 22 (fun _ : Unit => .slice (some ⟨g', 0, none⟩) (3 + 17 * G) c') () X Y row q2 hg (fun r e => (hr r e).2), tw_own (β := Unit) g' _ () X Y row q3 hg (fun r e => (hr r e).2), q4, ext_own (β := Unit) (Nat.le_refl _) () X Y row q5 hg hr⟩)
      (fun s W hs k hk => by obtain ⟨X', g', c', q1, q2, q3, q4, q5⟩ := hs; have := q5.size; simp at hk; omega))
    (fun _ => ⟨fun _ _ _ _ h _ _ => h, fun _ _ _ h => h.elim, fun _ _ _ _ _ h => h.elim⟩)
    ⟨newT G, g1, c1, fil_new HSd.out.shp.gp, Ht4.out, HT3.out, hzg1, Ext.refl _ _⟩
    (fun x a' _ => a' = { tmps := #[.agg #[.int .i64 (d : Nat), .slice (some ⟨g, 0, none⟩) (3 + 17 * G) c], .int .i64 (bit : Nat), .pointer (some ⟨z, 0, none⟩), .pointer (some ⟨z + 1, 0, none⟩), .pointer (some ⟨z + 2, 0, none⟩), .pointer (some ⟨z + 3, 0, none⟩), .pointer (some ⟨z4, 0, none⟩), .int .i64 0, .func (.func 126) #[] #[.pointer (some ⟨Bn, 0, none⟩)], .int .i64 0, .int .u64 (x.1 : Nat), .int .u64 (x.2 : Nat), .pointer (some ⟨z, 0, none⟩), .int .i64 (d : Nat), .int .i64 ((d : Int) + 1), .tuple #[.slice (some ⟨g1, 0, none⟩) (3 + 17 * G) c1, .int .i64 0], .pointer (some ⟨z, 1, none⟩), .slice (some ⟨g, 0, none⟩) (3 + 17 * G) c, .int .i64 (G : Nat), .tuple #[.slice (some ⟨g1, 0, none⟩) (3 + 17 * G) c1, .int .i64 0], .slice (some ⟨g1, 0, none⟩) (3 + 17 * G) c1, .int .i64 0, .tuple #[.func (.func 126) #[] #[.pointer (some ⟨Bn, 0, none⟩)], .int .i64 0], .pointer (some ⟨z, 1, none⟩), .slice (some ⟨g, 0, none⟩) (3 + 17 * G) c, .tuple #[.func (.func 126) #[] #[.pointer (some ⟨Bn, 0, none⟩)], .int .i64 0], .func (.func 126) #[] #[.pointer (some ⟨Bn, 0, none⟩)], .int .i64 0, .func (.func 126) #[] #[.pointer (some ⟨Bn, 0, none⟩)], .int .u64 (x.1 : Nat), .int .u64 (x.2 : Nat), undef, undef, undef, undef, undef, undef, undef, undef, undef, undef, undef, undef, undef, undef, undef, undef], defers := [] }) (fun x a' _ X Y row hs hg hr => hs)
    ?assign ?body ?done ?stop
  case assign =>
    rintro l pre x W K _ hI hK
    unfold eenc
    gi_wp2
    exact hK _ _ (KeepsFrom.refl _ _) (Kc.refl _ _) hI rfl
  case stop =>
    rintro D cd pre W _ _ h _
    exact h.elim
  case done =>
    rintro D zs W hD rfl ⟨X', g', c', q1, q2, q3, q4, q5⟩ hK
    have hb3 : Boxed W (z + 3) 3 (.int .i64 ((d : Int) + 1)) := q5.keep Ht3.out (by simp; omega)
    have hb2 : W.heap[z + 2]? = some (.cells #[.int .i64 0, .slice none 0 0] 66) := q5.keep Ht2.out (by simp; omega)
    have c3 := hb3.cell
    have c4 := q2.cell
    have y0 : W.cell? ⟨z + 2, 0, none⟩ = some (.int .i64 0) := by rw [cell_of_row _ _ _ _ _ _ hb2]; rfl
    have y1 : W.cell? ⟨z + 2, 1, none⟩ = some (.slice none 0 0) := by rw [cell_of_row _ _ _ _ _ _ hb2]; rfl
    have f0 : W.frozen? ⟨z + 2, 0, none⟩ = false := frozen_of_row _ _ _ _ _ hb2
    have h2 := heap_setCell_same W (z + 2) 0 _ 66 (.int .i64 ((d : Int) + 1)) hb2
    have f1 : (W.setCell ⟨z + 2, 0, none⟩ (.int .i64 ((d : Int) + 1))).frozen? ⟨z + 2, 1, none⟩ = false := frozen_of_row _ _ _ _ _ h2
    have h3 := heap_setCell_same _ (z + 2) 1 _ 66 (.slice (some ⟨g', 0, none⟩) (3 + 17 * G) c') h2
    have H3 := hid h3
    have Hq1 := hid q1
    have Hq3 := hid q3
    have Hq5 := hid q5
    have HK := hid hK
    have HD := hid hD
    have Hb2 := hid hb2
    clear hb3 hb2 h2 h3 q1 q2 q3 q5 hK hD
    gi_wp2_with fail
    have hst : Ext [z + 2] W ((W.setCell ⟨z + 2, 0, none⟩ (.int .i64 ((d : Int) + 1))).setCell ⟨z + 2, 1, none⟩ (.slice (some ⟨g', 0, none⟩) (3 + 17 * G) c')) :=
      (Ext.setCell [z + 2] _ _ _ (by simp)).trans (Ext.setCell [z + 2] _ _ _ (by simp))
    have hK2 := ((KeepsOthers.setCell W ⟨z + 2, 0, none⟩ (.int .i64 ((d : Int) + 1))).trans (KeepsOthers.setCell _ ⟨z + 2, 1, none⟩ (.slice (some ⟨g', 0, none⟩) (3 + 17 * G) c'))).same _ _ HK.out rfl
    have hP := grownBy_putObj' ((W.setCell ⟨z + 2, 0, none⟩ (.int .i64 ((d : Int) + 1))).setCell ⟨z + 2, 1, none⟩ (.slice (some ⟨g', 0, none⟩) (3 + 17 * G) c')) D (.deferred none)
    have hx2 := Ext.grown (S := [D]) hP (by simp)
    have hDz := HD.out
    have hw := HZ.out
    have hg2 : g' ≠ z + 2 := by
      rintro rfl
      obtain ⟨cs', h1, _⟩ := Hq3.out
      rw [Hb2.out] at h1; cases h1
    have hgD : g' ≠ D := by
      rintro rfl
      obtain ⟨cs', h1, _⟩ := Hq3.out
      rw [HK.out] at h1; cases h1
    refine ⟨by simp, .inl ⟨_, _, rfl, run_takeDeferred hK2, _, results_cell_row rfl _ _ (z + 2) 66 _ (0, 0) _ rfl (hx2.keep H3.out (by simp; omega)) Tryd.underlying66 rfl size66, X', g', c', rfl, Hq1.out, (Hq3.out.keep hst (by simp; exact hg2)).keep hx2 (by simp; exact hgD), by omega, ?_⟩⟩
    have hs3 := HX3.out.size
    have hs0 := HE0.out.size
    have hEw : Ext [] w w3 := HE0.out.trans HX3.out
    exact ((hEw.on Hq5.out (by simp; omega)).on hst (by simp; omega)).on hx2 (by simp; omega)
  case body =>
    rintro l pre x a' W hl ⟨r, hr⟩ ⟨X', g', c', q1, q2, q3, q4, q5⟩ rfl hlt ⟨hxh, hxd⟩
    obtain ⟨xh, xd⟩ := x
    simp only at hxh hxd
    have hb1 : Boxed W (z + 1) 3 (.int .i64 (bit : Nat)) := q5.keep Ht1.out (by simp; omega)
    have hb3 : Boxed W (z + 3) 3 (.int .i64 ((d : Int) + 1)) := q5.keep Ht3.out (by simp; omega)
    have c1' := hb1.cell
    have c3 := hb3.cell
    have KL := fun u => leading_any xh (d + 1) (by omega) hxh u
    simp only [show ((d + 1 : Nat) : Int) = (d : Int) + 1 from rfl] at KL
    obtain ⟨q, hq⟩ : ∃ q, ld xh (d + 1) = q := ⟨_, rfl⟩
    have hqb : q ≤ 64 := by
      have := ld_lt (dp := d + 1) hxh (by omega)
      have := pow64 (k := d + 1) (by omega)
      omega
    rw [hq] at KL
    have hand : bits BinOp.and IntKind.i64 (q : Int) 1 = ((q % 2 : Nat) : Int) := and1 hqb
    have hel := sd_len7 HSd.out
    have hfl : (hf d bit pre).length ≤ pre.length := List.length_filter_le _ _
    have KI := fun u (hu : Ext [] W u) => tinsert_any (some ⟨g', 0, none⟩) c' X' G xh xd q1.sd hxh hxd u (q3.keep0 hu).wd ((show Tb W from fun j hj => q5.cell (HTb3.out j hj) (by simp; omega)).keep0 hu)
    have HX := hid q5
    have Hq1 := hid q1
    have Hq2 := hid q2
    have Hq3 := hid q3
    have HQ := hid hq
    clear hr hb1 hb3 hq q1 q2 q3 q5
    by_cases hdd : q % 2 = bit
    · have hd1 : (((q % 2 : Nat) : Int) == (bit : Int)) = true := by simp [hdd]
      gi_wp2_with fail
      refine wpIn_region_quietR (by kernel_rfl) (by kernel_rfl) (by kernel_rfl) ?_
      repeat (gi_big_quiet_step (first | (gi_at_call 67; refine CallsIn.quiet_of_same ((callsIn_wide.2 (KL _)).inRound l))))
      refine wpQuietIn_nil ?_
      rintro _ ⟨nq, rfl⟩
      try simp only [hand, hd1]
      have hxd' := Ext.drewN [] W nq
      obtain ⟨V, hV⟩ : ∃ V, W.drewN nq = V := ⟨_, rfl⟩
      rw [hV] at hxd' ⊢
      clear c1' c3 hV
      have hb4 : Boxed V z4 22 _ := hxd'.keep Hq2.out (by simp)
      have c4 := hb4.cell
      have K3 := KI V hxd'
      have HXd := hid hxd'
      clear hxd' hb4 KI
      gi_wp2_with fail
      gi_at_call 42
      refine ((callsIn_wide.2 K3).inRound l).mono ?_
      clear K3 c4
      rintro _ V2 ⟨hX2, hres⟩
      rcases hres with ⟨X2, g2, c2, hI, rfl, hT2, hg2⟩ | ⟨hno, rfl⟩
      · have hXW : Ext [] W V2 := HXd.out.trans hX2
        have hb4 : Boxed V2 z4 22 _ := hXW.keep Hq2.out (by simp)
        have c4 := hb4.cell
        have f4 := hb4.frozen
        have hx1 := Ext.setCell [z4] V2 ⟨z4, 0, none⟩ (.slice (some ⟨g2, 0, none⟩) (3 + 17 * G) c2) (by simp)
        have hsW := HX.out.size
        have hsV := HXd.out.size
        have hall : Ext [z4] W (V2.setCell ⟨z4, 0, none⟩ (.slice (some ⟨g2, 0, none⟩) (3 + 17 * G) c2)) := (hXW.mono (by simp)).trans hx1
        have HF : Hid (KeepsFrom w3.heap.size W (V2.setCell ⟨z4, 0, none⟩ (.slice (some ⟨g2, 0, none⟩) (3 + 17 * G) c2)) ∧ Kc (Olist [z4]) W (V2.setCell ⟨z4, 0, none⟩ (.slice (some ⟨g2, 0, none⟩) (3 + 17 * G) c2)) ∧ HfI d bit G z4 z w3 (pre ++ [(xh, xd)]) (V2.setCell ⟨z4, 0, none⟩ (.slice (some ⟨g2, 0, none⟩) (3 + 17 * G) c2))) := by
          refine ⟨keeps_ext hall (by simp; omega), kc_list hall, X2, g2, c2, ?_, hb4.set _, hT2.keep hx1 (by simp; omega), by omega, HX.out.trans hall⟩
          have : hf d bit (pre ++ [(xh, xd)]) = hf d bit pre ++ [(xh, xd)] := by unfold hf; rw [List.filter_append]; simp [HQ.out, hdd]
          rw [this]; exact fil_ins Hq1.out hxh hxd hI
        clear hXW hb4 hx1 hall hT2 hX2
        gi_wp2_with fail
        exact HF.out
      · have := hol_full Hq1.out.toHol hno
        omega
    · have hd1 : (((q % 2 : Nat) : Int) == (bit : Int)) = false := by simp; omega
      gi_wp2_with fail
      refine wpIn_region_quietR (by kernel_rfl) (by kernel_rfl) (by kernel_rfl) ?_
      repeat (gi_big_quiet_step (first | (gi_at_call 67; refine CallsIn.quiet_of_same ((callsIn_wide.2 (KL _)).inRound l))))
      refine wpQuietIn_nil ?_
      rintro _ ⟨nq, rfl⟩
      try simp only [hand, hd1]
      have hxd' := Ext.drewN [z4] W nq
      have HF : Hid (KeepsFrom w3.heap.size W (W.drewN nq) ∧ Kc (Olist [z4]) W (W.drewN nq) ∧ HfI d bit G z4 z w3 (pre ++ [(xh, xd)]) (W.drewN nq)) := by
        refine ⟨⟨Nat.le_refl _, fun _ _ _ h _ => h⟩, kc_list hxd', X', g', c', ?_, (Ext.drewN [] W nq).keep Hq2.out (by simp), Hq3.out.keep0 (Ext.drewN [] W nq), q4, HX.out.trans hxd'⟩
        have : hf d bit (pre ++ [(xh, xd)]) = hf d bit pre := by unfold hf; rw [List.filter_append]; simp [HQ.out, hdd]
        rw [this]; exact Hq1.out
      clear c1' c3 hxd'
      gi_wp2_with fail
      exact HF.out
end Go.Proofs.YtkfagfdefkaenaaDoor.Rf
