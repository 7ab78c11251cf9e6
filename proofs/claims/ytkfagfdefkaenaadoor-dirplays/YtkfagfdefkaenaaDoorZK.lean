/-
  DHlf, Rep2: joined by program; no statement is proved here.
-/
import Derived.Test.YtkfagfdefkaenaaDoorZJ
import Derived.Test.YtkfagfdefkaenaaDoorZH
import Derived.Test.YtkfagfdefkaenaaDoorZG
import Derived.Lib.Overlaps
import Derived.Lib.AppendZerosOnto
import Derived.Deep.RegionLaw
/-
  The half of a table; no statement is proved here.
-/
namespace Go.Proofs.YtkfagfdefkaenaaDoor
open Go.RowKit Go.Shelf
open Pr (Gp GpI sq pl)
attribute [local go_sem] Oper.semAt_some run_store_func wide_fn wide_depth

/-- The entries whose next bit is this. -/
def hf (d bit : Nat) (E : List (Nat × Nat)) : List (Nat × Nat) := E.filter fun e => decide (ld e.1 (d + 1) % 2 = bit)
def HfPost (w : World) (t : Tq) (bit : Nat) (e : Ending) (w' : World) : Prop := ∃ X g c, e = .returned (.agg #[.int .i64 (t.d + 1 : Nat), .slice (some ⟨g, 0, none⟩) (3 + 17 * t.G) c]) ∧ Hol X t.G (hf t.d bit (ents t.T t.G)) ∧ Tw w' g X ∧ w.heap.size ≤ g ∧ Ext [] w w'
def HfI (d bit G z4 lo : Nat) (W3 : World) (pre : List (Nat × Nat)) (W : World) : Prop := ∃ X g c, Hol X G (hf d bit pre) ∧ Boxed W z4 22 (.slice (some ⟨g, 0, none⟩) (3 + 17 * G) c) ∧ Tw W g X ∧ lo ≤ g ∧ Ext [z4] W3 W

theorem size66 : (Tryd.prog.info? 66).map (·.size) = some 2 := by kernel_rfl
theorem and1 {q : Nat} (hq : q ≤ 64) : bits BinOp.and IntKind.i64 (q : Int) 1 = ((q % 2 : Nat) : Int) := by
  have : ∀ q, q ≤ 64 → bits BinOp.and IntKind.i64 ((q : Nat) : Int) 1 = ((q % 2 : Nat) : Int) := by decide +kernel
  exact this q hq
set_option maxRecDepth 100000 in
set_option maxHeartbeats 4000000 in
theorem half_any (t : Tq) (g c bit : Nat) (hd : t.d < 6) (_hbit : bit ≤ 1) (hSd : Sd t.T t.G) (w : World) (hT : Tw w g t.T) (hTb : Tb w) :
    Calls Tryd.prog 111 #[.agg #[.int .i64 (t.d : Nat), .slice (some ⟨g, 0, none⟩) (3 + 17 * t.G) c], .int .i64 (bit : Nat)] w (HfPost w t bit) := by
  obtain ⟨d, G, T⟩ := t
  unfold HfPost
  simp only at hd hSd hT ⊢
  have hlen := hSd.shp.len
  have hG := hSd.shp.gp.le
  have hG0 := hSd.shp.gp.pos
  refine (callsIn_wide (n := 14)).1 ?_
  refine callsIn_of_wp_marks Tryd.func111 rfl trivial ?_ rfl
  simp only [Tryd.ntmps111, List.size_toArray, List.length_cons, List.length_nil, Nat.reduceAdd, Nat.reduceSub, Array.replicate_succ, Array.replicate_zero, List.push_toArray, List.append_toArray, List.nil_append, List.cons_append]
  obtain ⟨z, hz⟩ : ∃ z, w.heap.size = z := ⟨_, rfl⟩
  have h0z : 0 < z := by rw [← hz]; exact hTb.lt
  obtain ⟨W0, hW0⟩ : ∃ W0, (((w.alloc (.cells #[.int .i64 (d : Nat), .slice (some ⟨g, 0, none⟩) (3 + 17 * G) c] 66)).alloc (.cells #[.int .i64 (bit : Nat)] 3)).alloc (.cells #[.int .i64 0, .slice none 0 0] 66)).alloc (.cells #[.int .i64 ((d : Int) + 1)] 3) = W0 := ⟨_, rfl⟩
  have hE0 : Ext [] w W0 := by rw [← hW0]; exact (((Ext.alloc [] _ _).trans (Ext.alloc [] _ _)).trans (Ext.alloc [] _ _)).trans (Ext.alloc [] _ _)
  have b0 : W0.heap[z]? = some (.cells #[.int .i64 (d : Nat), .slice (some ⟨g, 0, none⟩) (3 + 17 * G) c] 66) := by
    rw [← hW0, ← hz]
    exact (Below.heap_alloc _ _ _ (by simp; omega)).trans ((Below.heap_alloc _ _ _ (by simp; omega)).trans ((Below.heap_alloc _ _ _ (by simp)).trans (heap_alloc_new w _)))
  have b1 : Boxed W0 (z + 1) 3 (.int .i64 (bit : Nat)) := by
    have := ((Boxed.new (w.alloc (.cells #[.int .i64 (d : Nat), .slice (some ⟨g, 0, none⟩) (3 + 17 * G) c] 66)) 3 (.int .i64 (bit : Nat))).alloc (.cells #[.int .i64 0, .slice none 0 0] 66)).alloc (.cells #[.int .i64 ((d : Int) + 1)] 3)
    rw [hW0, World.size_alloc, hz] at this; exact this
  have b2 : W0.heap[z + 2]? = some (.cells #[.int .i64 0, .slice none 0 0] 66) := by
    have := (Below.heap_alloc ((((w.alloc (.cells #[.int .i64 (d : Nat), .slice (some ⟨g, 0, none⟩) (3 + 17 * G) c] 66)).alloc (.cells #[.int .i64 (bit : Nat)] 3)).alloc (.cells #[.int .i64 0, .slice none 0 0] 66))) (.cells #[.int .i64 ((d : Int) + 1)] 3) _ (by simp)).trans (heap_alloc_new ((w.alloc (.cells #[.int .i64 (d : Nat), .slice (some ⟨g, 0, none⟩) (3 + 17 * G) c] 66)).alloc (.cells #[.int .i64 (bit : Nat)] 3)) (.cells #[.int .i64 0, .slice none 0 0] 66))
    rw [hW0, World.size_alloc, World.size_alloc, hz] at this; exact this
  have b3 : Boxed W0 (z + 3) 3 (.int .i64 ((d : Int) + 1)) := by
    have := Boxed.new (((w.alloc (.cells #[.int .i64 (d : Nat), .slice (some ⟨g, 0, none⟩) (3 + 17 * G) c] 66)).alloc (.cells #[.int .i64 (bit : Nat)] 3)).alloc (.cells #[.int .i64 0, .slice none 0 0] 66)) 3 (.int .i64 ((d : Int) + 1))
    rw [hW0, World.size_alloc, World.size_alloc, World.size_alloc, hz] at this; exact this
  have hcZ : W0.cell? ⟨z, 1, none⟩ = some (.slice (some ⟨g, 0, none⟩) (3 + 17 * G) c) := by rw [cell_of_row _ _ _ _ _ _ b0]; rfl
  have KG := dgroups_any g c G T W0 hSd.shp (hT.keep0 hE0)
  have KN := tnew_ok G hSd.shp.gp W0
  have HE0 := hid hE0
  have Hb0 := hid b0
  have Hb1 := hid b1
  have Hb2 := hid b2
  have Hb3 := hid b3
  have HSd := hid hSd
  have HT0 := hid (hT.keep0 hE0)
  have HTb0 := hid (hTb.keep0 hE0)
  have HZ := hid hz
  clear hE0 b0 b1 b2 b3 hT hTb hSd hlen
  gi_wp2_with (gi_at_call 79; (try rw [hW0]); refine (callsIn_wide.2 KG).mono ?_; rintro _ _ ⟨rfl, hw2⟩; obtain rfl := hw2.symm; clear hw2)
  try rw [hW0]
  try simp only [hz]
  simp only [show z + 1 + 1 = z + 2 from rfl, show z + 2 + 1 = z + 3 from rfl]
  clear hW0 hz KG hcZ
  gi_at_call 35
  refine (callsIn_wide.2 KN).mono ?_
  clear KN
  rintro _ w1 ⟨g1, c1, rfl, hT1, hg1, hX1⟩
  obtain ⟨z4, hz4⟩ : ∃ z4, w1.heap.size = z4 := ⟨_, rfl⟩
  have hEa := Ext.alloc [] w1 (.cells #[.slice (some ⟨g1, 0, none⟩) (3 + 17 * G) c1] 22)
  have b4 := Boxed.new w1 22 (.slice (some ⟨g1, 0, none⟩) (3 + 17 * G) c1)
  obtain ⟨W2, hW2⟩ : ∃ W2, w1.alloc (.cells #[.slice (some ⟨g1, 0, none⟩) (3 + 17 * G) c1] 22) = W2 := ⟨_, rfl⟩
  rw [hW2] at hEa b4
  rw [hz4] at b4
  have hX2 := hX1.trans hEa
  have c0 : W2.cell? ⟨z, 1, none⟩ = some (.slice (some ⟨g, 0, none⟩) (3 + 17 * G) c) := by rw [cell_of_row _ _ _ _ _ _ (hX2.keep Hb0.out (by simp))]; rfl
  have KA := tall_any g 0 c T G HSd.out W2 (HT0.out.keep0 hX2).wd
  have hg14 : g1 < z4 := by rw [← hz4]; exact hT1.lt
  have HT1 := hid (hT1.keep0 hEa)
  have HX2 := hid hX2
  have Hb4 := hid b4
  have hz3 : z + 3 < z4 := by rw [← hz4]; exact Boxed.lt (show Boxed w1 (z + 3) 3 _ from hX1.keep Hb3.out (by simp))
  have h4s : z4 < W2.heap.size := b4.lt
  clear hT1 hX1 hEa b4 hX2
  gi_wp2_with fail
  try rw [hW2]
  try simp only [hz4]
  clear hW2 hz4
  gi_at_call 89
  refine (callsIn_wide.2 KA).mono ?_
  clear KA c0
  rintro _ w3 ⟨Bn, gB, cB, rfl, hbn, hTB, hgB, hBn, hX3⟩
  have HX3 := hid (HX2.out.trans hX3)
  have Hbn := hid hbn
  have HTB := hid hTB
  have Ht1 := hid (show Boxed w3 (z + 1) 3 _ from HX3.out.keep Hb1.out (by simp))
  have Ht2 := hid (show w3.heap[z + 2]? = _ from HX3.out.keep Hb2.out (by simp))
  have Ht3 := hid (show Boxed w3 (z + 3) 3 _ from HX3.out.keep Hb3.out (by simp))
  have Ht4 := hid (show Boxed w3 z4 22 _ from hX3.keep Hb4.out (by simp))
  have HT3 := hid (HT1.out.keep0 hX3)
  have HTb3 := hid (HTb0.out.keep0 HX3.out)
  clear hX3 hbn hTB Hb0 Hb1 Hb2 Hb3 Hb4 HT1
  gi_wp2_with fail
  have hz4 : z4 < w3.heap.size := Ht4.out.lt
  have hO3 : ∀ k ∈ [0, Bn, gB], ¬ Olist [z4] w3 k := by
    intro k hk hO
    simp only [Olist, List.mem_cons, List.not_mem_nil, or_false] at hk hO
    omega
  obtain ⟨cs, hcs, hcs2⟩ := HTB.out
  have HEnt := hid (entries_gives 13 (by omega) Bn gB 0 cB G T _ HSd.out.shp (Olist [z4]) w3 Hbn.out hcs rfl (Tw.wd ⟨cs, hcs, hcs2⟩) HTb3.out hO3)
  clear hcs hcs2 hO3
  have hzg1 : z ≤ g1 := by have := HE0.out.size; have := HZ.out; omega
  refine loop_givesS rfl (by omega) (gf := 126) (lb := #[.pointer (some ⟨Bn, 0, none⟩)]) rfl trivial (enters_of Tryd.func126 (by kernel_rfl) rfl)
    HEnt.out (fun _ => rfl)
    (HfI d bit G z4 z w3) (fun _ _ _ => False)
    (cal_list (fun s X Y row hs hg hr => by
      obtain ⟨X', g', c', q1, q2, q3, q4, q5⟩ := hs
      exact ⟨X', g', c', q1, boxed_own z4 22 (fun _ : Unit => .slice (some ⟨g', 0, none⟩) (3 + 17 * G) c') () X Y row q2 hg (fun r e => (hr r e).2), tw_own (β := Unit) g' _ () X Y row q3 hg (fun r e => (hr r e).2), q4, ext_own (β := Unit) (Nat.le_refl _) () X Y row q5 hg hr⟩)
      (fun s W hs k hk => by obtain ⟨X', g', c', q1, q2, q3, q4, q5⟩ := hs; have := q5.size; simp at hk; omega))
    (fun _ => ⟨fun _ _ _ _ h _ _ => h, fun _ _ _ h => h.elim, fun _ _ _ _ _ h => h.elim⟩)
    ⟨newT G, g1, c1, hol_new HSd.out.shp.gp, Ht4.out, HT3.out, hzg1, Ext.refl _ _⟩
    (fun x a' _ => a' = { tmps := #[.agg #[.int .i64 (d : Nat), .slice (some ⟨g, 0, none⟩) (3 + 17 * G) c], .int .i64 (bit : Nat), .pointer (some ⟨z, 0, none⟩), .pointer (some ⟨z + 1, 0, none⟩), .pointer (some ⟨z + 2, 0, none⟩), .pointer (some ⟨z + 3, 0, none⟩), .pointer (some ⟨z4, 0, none⟩), .int .i64 0, .func (.func 126) #[] #[.pointer (some ⟨Bn, 0, none⟩)], .int .i64 0, .int .u64 (x.1 : Nat), .int .u64 (x.2 : Nat), .pointer (some ⟨z, 0, none⟩), .int .i64 (d : Nat), .int .i64 ((d : Int) + 1), .tuple #[.slice (some ⟨g1, 0, none⟩) (3 + 17 * G) c1, .int .i64 0], .pointer (some ⟨z, 1, none⟩), .slice (some ⟨g, 0, none⟩) (3 + 17 * G) c, .int .i64 (G : Nat), .tuple #[.slice (some ⟨g1, 0, none⟩) (3 + 17 * G) c1, .int .i64 0], .slice (some ⟨g1, 0, none⟩) (3 + 17 * G) c1, .int .i64 0, .tuple #[.func (.func 126) #[] #[.pointer (some ⟨Bn, 0, none⟩)], .int .i64 0], .pointer (some ⟨z, 1, none⟩), .slice (some ⟨g, 0, none⟩) (3 + 17 * G) c, .tuple #[.func (.func 126) #[] #[.pointer (some ⟨Bn, 0, none⟩)], .int .i64 0], .func (.func 126) #[] #[.pointer (some ⟨Bn, 0, none⟩)], .int .i64 0, .func (.func 126) #[] #[.pointer (some ⟨Bn, 0, none⟩)], .int .u64 (x.1 : Nat), .int .u64 (x.2 : Nat), undef, undef, undef, undef, undef, undef, undef, undef, undef, undef, undef, undef, undef, undef, undef, undef], defers := [] }) (fun x a' _ X Y row hs hg hr => hs)
    ?assign ?body ?done ?stop
  case assign =>
    rintro l pre x W K _ hI hK
    unfold eenc
    gi_wp2
    exact hK _ _ (KeepsFrom.refl _ _) (Kc.refl _ _) hI rfl
  case stop =>
    rintro D cd pre W _ _ h _
    exact h.elim
  case done =>
    rintro D zs W hD rfl ⟨X', g', c', q1, q2, q3, q4, q5⟩ hK
    have hb3 : Boxed W (z + 3) 3 (.int .i64 ((d : Int) + 1)) := q5.keep Ht3.out (by simp; omega)
    have hb2 : W.heap[z + 2]? = some (.cells #[.int .i64 0, .slice none 0 0] 66) := q5.keep Ht2.out (by simp; omega)
    have c3 := hb3.cell
    have c4 := q2.cell
    have y0 : W.cell? ⟨z + 2, 0, none⟩ = some (.int .i64 0) := by rw [cell_of_row _ _ _ _ _ _ hb2]; rfl
    have y1 : W.cell? ⟨z + 2, 1, none⟩ = some (.slice none 0 0) := by rw [cell_of_row _ _ _ _ _ _ hb2]; rfl
    have f0 : W.frozen? ⟨z + 2, 0, none⟩ = false := frozen_of_row _ _ _ _ _ hb2
    have h2 := heap_setCell_same W (z + 2) 0 _ 66 (.int .i64 ((d : Int) + 1)) hb2
    have f1 : (W.setCell ⟨z + 2, 0, none⟩ (.int .i64 ((d : Int) + 1))).frozen? ⟨z + 2, 1, none⟩ = false := frozen_of_row _ _ _ _ _ h2
    have h3 := heap_setCell_same _ (z + 2) 1 _ 66 (.slice (some ⟨g', 0, none⟩) (3 + 17 * G) c') h2
    have H3 := hid h3
    have Hq1 := hid q1
    have Hq3 := hid q3
    have Hq5 := hid q5
    have HK := hid hK
    have HD := hid hD
    have Hb2 := hid hb2
    clear hb3 hb2 h2 h3 q1 q2 q3 q5 hK hD
    gi_wp2_with fail
    have hst : Ext [z + 2] W ((W.setCell ⟨z + 2, 0, none⟩ (.int .i64 ((d : Int) + 1))).setCell ⟨z + 2, 1, none⟩ (.slice (some ⟨g', 0, none⟩) (3 + 17 * G) c')) :=
      (Ext.setCell [z + 2] _ _ _ (by simp)).trans (Ext.setCell [z + 2] _ _ _ (by simp))
    have hK2 := ((KeepsOthers.setCell W ⟨z + 2, 0, none⟩ (.int .i64 ((d : Int) + 1))).trans (KeepsOthers.setCell _ ⟨z + 2, 1, none⟩ (.slice (some ⟨g', 0, none⟩) (3 + 17 * G) c'))).same _ _ HK.out rfl
    have hP := grownBy_putObj' ((W.setCell ⟨z + 2, 0, none⟩ (.int .i64 ((d : Int) + 1))).setCell ⟨z + 2, 1, none⟩ (.slice (some ⟨g', 0, none⟩) (3 + 17 * G) c')) D (.deferred none)
    have hx2 := Ext.grown (S := [D]) hP (by simp)
    have hDz := HD.out
    have hw := HZ.out
    have hg2 : g' ≠ z + 2 := by
      rintro rfl
      obtain ⟨cs', h1, _⟩ := Hq3.out
      rw [Hb2.out] at h1; cases h1
    have hgD : g' ≠ D := by
      rintro rfl
      obtain ⟨cs', h1, _⟩ := Hq3.out
      rw [HK.out] at h1; cases h1
    refine ⟨by simp, .inl ⟨_, _, rfl, run_takeDeferred hK2, _, results_cell_row rfl _ _ (z + 2) 66 _ (0, 0) _ rfl (hx2.keep H3.out (by simp; omega)) Tryd.underlying66 rfl size66, X', g', c', rfl, Hq1.out, (Hq3.out.keep hst (by simp; exact hg2)).keep hx2 (by simp; exact hgD), by omega, ?_⟩⟩
    have hs3 := HX3.out.size
    have hs0 := HE0.out.size
    have hEw : Ext [] w w3 := HE0.out.trans HX3.out
    exact ((hEw.on Hq5.out (by simp; omega)).on hst (by simp; omega)).on hx2 (by simp; omega)
  case body =>
    rintro l pre x a' W hl ⟨r, hr⟩ ⟨X', g', c', q1, q2, q3, q4, q5⟩ rfl hlt ⟨hxh, hxd⟩
    obtain ⟨xh, xd⟩ := x
    simp only at hxh hxd
    have hb1 : Boxed W (z + 1) 3 (.int .i64 (bit : Nat)) := q5.keep Ht1.out (by simp; omega)
    have hb3 : Boxed W (z + 3) 3 (.int .i64 ((d : Int) + 1)) := q5.keep Ht3.out (by simp; omega)
    have c1' := hb1.cell
    have c3 := hb3.cell
    have KL := fun u => leading_any xh (d + 1) (by omega) hxh u
    simp only [show ((d + 1 : Nat) : Int) = (d : Int) + 1 from rfl] at KL
    obtain ⟨q, hq⟩ : ∃ q, ld xh (d + 1) = q := ⟨_, rfl⟩
    have hqb : q ≤ 64 := by
      have := ld_lt (dp := d + 1) hxh (by omega)
      have := pow64 (k := d + 1) (by omega)
      omega
    rw [hq] at KL
    have hand : bits BinOp.and IntKind.i64 (q : Int) 1 = ((q % 2 : Nat) : Int) := and1 hqb
    have hel := sd_len7 HSd.out
    have hfl : (hf d bit pre).length ≤ pre.length := List.length_filter_le _ _
    have KI := fun u (hu : Ext [] W u) => tinsert_any (some ⟨g', 0, none⟩) c' X' G xh xd q1.sd hxh hxd u (q3.keep0 hu).wd ((show Tb W from fun j hj => q5.cell (HTb3.out j hj) (by simp; omega)).keep0 hu)
    have HX := hid q5
    have Hq1 := hid q1
    have Hq2 := hid q2
    have Hq3 := hid q3
    have HQ := hid hq
    clear hr hb1 hb3 hq q1 q2 q3 q5
    by_cases hdd : q % 2 = bit
    · have hd1 : (((q % 2 : Nat) : Int) == (bit : Int)) = true := by simp [hdd]
      gi_wp2_with fail
      refine wpIn_region_quietR (by kernel_rfl) (by kernel_rfl) (by kernel_rfl) ?_
      repeat (gi_big_quiet_step (first | (gi_at_call 67; refine CallsIn.quiet_of_same ((callsIn_wide.2 (KL _)).inRound l))))
      refine wpQuietIn_nil ?_
      rintro _ ⟨nq, rfl⟩
      try simp only [hand, hd1]
      have hxd' := Ext.drewN [] W nq
      obtain ⟨V, hV⟩ : ∃ V, W.drewN nq = V := ⟨_, rfl⟩
      rw [hV] at hxd' ⊢
      clear c1' c3 hV
      have hb4 : Boxed V z4 22 _ := hxd'.keep Hq2.out (by simp)
      have c4 := hb4.cell
      have K3 := KI V hxd'
      have HXd := hid hxd'
      clear hxd' hb4 KI
      gi_wp2_with fail
      gi_at_call 42
      refine ((callsIn_wide.2 K3).inRound l).mono ?_
      clear K3 c4
      rintro _ V2 ⟨hX2, hres⟩
      rcases hres with ⟨X2, g2, c2, hI, rfl, hT2, hg2⟩ | ⟨hno, rfl⟩
      · have hXW : Ext [] W V2 := HXd.out.trans hX2
        have hb4 : Boxed V2 z4 22 _ := hXW.keep Hq2.out (by simp)
        have c4 := hb4.cell
        have f4 := hb4.frozen
        have hx1 := Ext.setCell [z4] V2 ⟨z4, 0, none⟩ (.slice (some ⟨g2, 0, none⟩) (3 + 17 * G) c2) (by simp)
        have hsW := HX.out.size
        have hsV := HXd.out.size
        have hall : Ext [z4] W (V2.setCell ⟨z4, 0, none⟩ (.slice (some ⟨g2, 0, none⟩) (3 + 17 * G) c2)) := (hXW.mono (by simp)).trans hx1
        have HF : Hid (KeepsFrom w3.heap.size W (V2.setCell ⟨z4, 0, none⟩ (.slice (some ⟨g2, 0, none⟩) (3 + 17 * G) c2)) ∧ Kc (Olist [z4]) W (V2.setCell ⟨z4, 0, none⟩ (.slice (some ⟨g2, 0, none⟩) (3 + 17 * G) c2)) ∧ HfI d bit G z4 z w3 (pre ++ [(xh, xd)]) (V2.setCell ⟨z4, 0, none⟩ (.slice (some ⟨g2, 0, none⟩) (3 + 17 * G) c2))) := by
          refine ⟨keeps_ext hall (by simp; omega), kc_list hall, X2, g2, c2, ?_, hb4.set _, hT2.keep hx1 (by simp; omega), by omega, HX.out.trans hall⟩
          have : hf d bit (pre ++ [(xh, xd)]) = hf d bit pre ++ [(xh, xd)] := by unfold hf; rw [List.filter_append]; simp [HQ.out, hdd]
          rw [this]; exact hol_ins Hq1.out hxh hxd hI
        clear hXW hb4 hx1 hall hT2 hX2
        gi_wp2_with fail
        exact HF.out
      · have := hol_full Hq1.out hno
        omega
    · have hd1 : (((q % 2 : Nat) : Int) == (bit : Int)) = false := by simp; omega
      gi_wp2_with fail
      refine wpIn_region_quietR (by kernel_rfl) (by kernel_rfl) (by kernel_rfl) ?_
      repeat (gi_big_quiet_step (first | (gi_at_call 67; refine CallsIn.quiet_of_same ((callsIn_wide.2 (KL _)).inRound l))))
      refine wpQuietIn_nil ?_
      rintro _ ⟨nq, rfl⟩
      try simp only [hand, hd1]
      have hxd' := Ext.drewN [z4] W nq
      have HF : Hid (KeepsFrom w3.heap.size W (W.drewN nq) ∧ Kc (Olist [z4]) W (W.drewN nq) ∧ HfI d bit G z4 z w3 (pre ++ [(xh, xd)]) (W.drewN nq)) := by
        refine ⟨⟨Nat.le_refl _, fun _ _ _ h _ => h⟩, kc_list hxd', X', g', c', ?_, (Ext.drewN [] W nq).keep Hq2.out (by simp), Hq3.out.keep0 (Ext.drewN [] W nq), q4, HX.out.trans hxd'⟩
        have : hf d bit (pre ++ [(xh, xd)]) = hf d bit pre := by unfold hf; rw [List.filter_append]; simp [HQ.out, hdd]
        rw [this]; exact Hq1.out
      clear c1' c3 hxd'
      gi_wp2_with fail
      exact HF.out
end Go.Proofs.YtkfagfdefkaenaaDoor

/-
  slices.Replace at lists of tables, one table's place taken by two; no statement is proved here.
-/
namespace Go.Proofs.YtkfagfdefkaenaaDoor
open Go.RowKit Go.Shelf
attribute [local go_sem] Oper.semAt_some run_store_func

theorem run_copy_k {P : Program} (w : World) (dT sT ty elem : TypeId) (k g o dLen dCap : Nat) (a : Addr) (sLen sCap m : Nat) (cur : List Value) (t : TypeId) (cs : List Value)
    (hu : P.underlying dT = some (.slice elem)) (hs : (P.info? elem).map (·.size) = some k) (hg : w.heap[g]? = some (.cells cur.toArray t (0, 0))) (hm : Nat.min sLen dLen = m) (hn : cs.length = m * k)
    (hsrc : ∀ j v, cs[j]? = some v → w.cell? (a.add j) = some v) (hfit : o + cs.length ≤ cur.length) (h1 : ∀ v ∈ cs, v.oneCell' = true) :
    (Builtin.copy_ #[dT, sT] ty #[.slice (some ⟨g, o, none⟩) dLen dCap, .slice (some a) sLen sCap]).run P w = .ok (goInt m) (w.setRow g (splice cur o cs).toArray) := by
  have hf := run_firstCells_some (P := P) w k m a sLen sCap cs hn hsrc
  have hst := run_storeCells_at P g o t cs 0 cur.toArray w hg (by simpa using hfit) h1
  cases hq : P.info? elem with
  | none => simp [hq] at hs
  | some i =>
    have hi : i.size = k := by simpa [hq] using hs
    simp only [Nat.add_zero] at hst
    simp [Builtin.copy_, run_underlying hu, Builtin.lenOf, sizeOf, typeInfo, hq, hi, hm, hf, hst, splice]
theorem wpList_copy_run {P : Program} {w w' : World} {ops : Array Oper} {rest : List Oper} {o : Oper} {a : Act} {Q : Exit → Act → World → Prop} (hgd : o.guard = none) (d s : Operand) (t t' : TypeId)
    (ho : o.op = .call { callee := .builtin .copy, args := #[d, s], argTypes := #[t, t'] }) (vd vs v' : Value) (hd : a.eval d = vd) (hs : a.eval s = vs)
    (hr : (Builtin.copy_ #[t, t'] o.type #[vd, vs]).run P w = .ok v' w') (h : wpList P ops Q rest (a.put o.dst v') w') : wpList P ops Q (o :: rest) a w := by
  refine wpList_plain hgd fun K hK => ?_
  unfold Oper.wp execOp
  simp only [ho, resolve, invoke, builtin, Sem.run_bind, Sem.run_pure, Result.andThen_ok, List.map_toArray, List.map_cons, List.map_nil, hd, hs, hr]
  exact hK _ _ h
theorem wpList_append_run2 {P : Program} {w w' : World} {ops : Array Oper} {rest : List Oper} {o : Oper} {a : Act} {Q : Exit → Act → World → Prop} (hgd : o.guard = none) (s x : Operand) (t t' : TypeId)
    (ho : o.op = .call { callee := .builtin .append, args := #[s, x], argTypes := #[t, t'] }) (vs vx v' : Value) (hs : a.eval s = vs) (hx : a.eval x = vx)
    (hr : (Builtin.append_ #[t, t'] o.type #[vs, vx]).run P w = .ok v' w') (h : wpList P ops Q rest (a.put o.dst v') w') : wpList P ops Q (o :: rest) a w := by
  refine wpList_plain hgd fun K hK => ?_
  unfold Oper.wp execOp
  simp only [ho, resolve, invoke, builtin, Sem.run_bind, Sem.run_pure, Result.andThen_ok, List.map_toArray, List.map_cons, List.map_nil, hs, hx, hr]
  exact hK _ _ h
theorem step_copy_run {P : Program} {ops : Array Oper} {o : Oper} {a : Act} {w w' : World} {K : Act → World → Prop} {Q : Exit → Act → World → Prop} {E : Prop} (hgd : o.guard = none) (d s : Operand) (t t' : TypeId)
    (ho : o.op = .call { callee := .builtin .copy, args := #[d, s], argTypes := #[t, t'] }) (vd vs v' : Value) (hd : a.eval d = vd) (hs : a.eval s = vs)
    (hr : (Builtin.copy_ #[t, t'] o.type #[vd, vs]).run P w = .ok v' w') (h : K (a.put o.dst v') w') :
    if Region.wanted o (yielded ops a.tmps) = true then Oper.wp P o a w K Q else E := by
  rw [if_pos (by simp [Region.wanted, hgd])]
  unfold Oper.wp execOp
  simp only [ho, resolve, invoke, builtin, Sem.run_bind, Sem.run_pure, Result.andThen_ok, List.map_toArray, List.map_cons, List.map_nil, hd, hs, hr]
  exact h
theorem size66' : (Tryd.prog.info? 66).map (·.size) = some 2 := by kernel_rfl
theorem splice_left {α : Type} (A B : List α) (o : Nat) (cs : List α) (h : A.length = o) : splice (A ++ B) o cs = A ++ (cs ++ B.drop cs.length) := by
  unfold splice
  rw [List.take_left' h, ← h, ← List.drop_drop, List.drop_left]
theorem sizeOf66 : ∀ w, (Go.sizeOf 66).run Tryd.prog w = .ok 2 w := fun w => by
  obtain ⟨i, hi0, _, hz1, _⟩ := info_parts info66
  simp [sizeOf, typeInfo, hi0, hz1]
theorem shape_row {w : World} {g : Nat} {cs : Array Value} {t : TypeId} (h : w.heap[g]? = some (.cells cs t (0, 0))) : w.shape? g = some (t, cs.size) := by
  simp [World.shape?, h]
theorem zero_cells_len (n : Nat) : (Builtin.zeroCells (Value.agg #[.int .i64 0, .slice none 0 0]).cells n).size = n * 2 := by
  simp [Builtin.zeroCells, Value.cells]

/-- What becomes of the list. -/
def RpPost (lo g n : Nat) (xs : List Value) (w : World) (e : Ending) (w' : World) : Prop := ∃ g' c', e = .returned (.slice (some ⟨g', 0, none⟩) n c') ∧ w'.ownsRow lo 66 2 (.slice (some ⟨g', 0, none⟩) n c') n xs ∧ Ext [g] w w'

set_option maxRecDepth 100000 in
set_option maxHeartbeats 4000000 in
theorem replace_end (lo g c i vb : Nat) (P O ys : List Value) (w : World) (hown : w.ownsRow lo 66 2 (.slice (some ⟨g, 0, none⟩) (i + 1) c) (i + 1) (P ++ O)) (hP : P.length = i * 2) (_hO : O.length = 2) (hi : i ≤ 64)
    (hy : ys.length = 4) (hy1 : ∀ u ∈ ys, u.oneCell' = true) (hv : w.heap[vb]? = some (.cells ys.toArray 66 (0, 0))) :
    Calls Tryd.prog 112 #[.slice (some ⟨g, 0, none⟩) (i + 1) c, .int .i64 (i : Nat), .int .i64 ((i : Int) + 1), .slice (some ⟨vb, 0, none⟩) 2 2] w (RpPost lo g (i + 2) (P ++ ys) w) := by
  obtain ⟨j0, hi0, hz0, hz1, hz2⟩ := info_parts info66
  have hlt := own_lt hown g rfl
  rcases id hown.2 with ⟨h0, _⟩ | ⟨g', c', cur, hv', hlo, hg, hnc, hcm, hcs, hck⟩
  · cases h0
  simp only [Value.slice.injEq, Option.some.injEq, Addr.mk.injEq, and_true, true_and] at hv'
  obtain ⟨rfl, rfl⟩ := hv'
  have hpre : w.ownsRow lo 66 2 (.slice (some ⟨g, 0, none⟩) i c) i P := by
    refine ⟨hP, .inr ⟨g, c, cur, rfl, hlo, hg, by omega, hcm, hcs, ?_⟩⟩
    have : (cur.toList.take ((i + 1) * 2)).take (i * 2) = (P ++ O).take (i * 2) := by rw [hck]
    rw [List.take_take, Nat.min_eq_left (by omega), List.take_left' hP] at this
    exact this
  obtain ⟨v', w', hr, ho, hgr, _⟩ := run_append_own (P := Tryd.prog) w lo 24 24 66 j0 _ 2 32 Tryd.underlying24 hi0 hz0 hz1 hz2 rfl (by decide) _ i P hpre ⟨vb, 0, none⟩ 2 2 ys (by omega) (fun j u hj => by rw [Addr.add_lit, Nat.zero_add, cell_of_row _ _ _ _ _ _ hv]; simpa using hj) hy1 (by unfold maxLen; omega) (by omega) (by omega)
  have hx := Ext.grown (S := [g]) hgr (by simp [Value.ownBlock])
  obtain ⟨g2, c2, rfl⟩ : ∃ g2 c2, v' = .slice (some ⟨g2, 0, none⟩) (i + 2) c2 := by
    rcases id ho.2 with ⟨_, h⟩ | ⟨g2, c2, _, h, _⟩
    · omega
    · exact ⟨g2, c2, h⟩
  have HF : Hid (RpPost lo g (i + 2) (P ++ ys) w (.returned (.slice (some ⟨g2, 0, none⟩) (i + 2) c2)) w') := ⟨g2, c2, rfl, ho, hx⟩
  have hcb : ¬ c = i := by omega
  have hci : (i : Int) ≤ c := by omega
  have hci1 : (i : Int) + 1 ≤ c := by omega
  have hii : ((i : Int) == (i : Int) + 1) = false := by simp; omega
  have hij : ((i : Int) + 1 == (i : Int) + 1) = true := by simp
  have hll : ¬ ((i : Int) + 2 < (i : Int) + 1) := by omega
  have htn : ((i : Int) + 1).toNat = i + 1 := by omega
  clear hown hv hg hcs hck hpre ho hgr hx hi0 hz0 hz1 hz2 hy1
  unfold maxLen at hcm
  go_enter Tryd.func112, Tryd.ntmps112
  go_wp2_with (at_builtin; refine wpList_append_run rfl _ _ 24 rfl _ _ _ rfl rfl hr ?_)
  go_ret
  exact HF.out

set_option maxRecDepth 100000 in
set_option maxHeartbeats 4000000 in
theorem replace_mid (lo g c i n vb : Nat) (P O Q ys : List Value) (w : World) (hown : w.ownsRow lo 66 2 (.slice (some ⟨g, 0, none⟩) n c) n (P ++ (O ++ Q))) (hP : P.length = i * 2) (hO : O.length = 2) (hQ : Q.length = (n - (i + 1)) * 2) (hi : i + 1 < n) (hn : n ≤ 64)
    (hq1 : ∀ u ∈ Q, u.oneCell' = true) (hy : ys.length = 4) (hy1 : ∀ u ∈ ys, u.oneCell' = true) (hv : w.heap[vb]? = some (.cells ys.toArray 66 (0, 0))) (hne : vb ≠ g) :
    Calls Tryd.prog 112 #[.slice (some ⟨g, 0, none⟩) n c, .int .i64 (i : Nat), .int .i64 ((i : Int) + 1), .slice (some ⟨vb, 0, none⟩) 2 2] w (RpPost lo g (n + 1) (P ++ ys ++ Q) w) := by
  have hnc0 : n ≤ c ∧ c ≤ maxLen := by
    rcases hown.2 with ⟨h0, _⟩ | ⟨g', c', cur, hv', _, _, h3, h4, _⟩
    · cases h0
    · cases hv'; exact ⟨h3, h4⟩
  have hcm := hnc0.2
  have hnc1 := hnc0.1
  unfold maxLen at hcm
  have HOwn := hid hown
  have HV := hid hv
  have HP := hid hP
  have HO := hid hO
  have HQ := hid hQ
  have HQ1 := hid hq1
  have HY := hid hy
  have HY1 := hid hy1
  clear hown hv hP hO hQ hq1 hy hy1 hnc0
  have hw1 : IntKind.i64.wrap ((i : Int) + 2) = (i : Int) + 2 := by rw [IntKind.wrap_i64]; omega
  have hb0 : (0 : Int) ≤ (i : Int) + 1 := by omega
  have hb1 : (0 : Int) ≤ (i : Int) + 2 := by omega
  have hb3 : (i : Int) ≤ (n : Int) := by omega
  have hb4 : (i : Int) + 1 ≤ (n : Int) := by omega
  have hb5 : (i : Int) ≤ (n : Int) + 1 := by omega
  have hb6 : (i : Int) + 2 ≤ (n : Int) + 1 := by omega
  have htn : ((i : Int) + 1).toNat = i + 1 := by omega
  have htn2 : ((i : Int) + 2).toNat = i + 2 := by omega
  have hc1 : ¬ (c = i + 1) := by omega
  have hc2 : ¬ (c = i) := by omega
  have hci : (i : Int) ≤ c := by omega
  have hci1 : (i : Int) + 1 ≤ c := by omega
  have hii : ((i : Int) == (i : Int) + 1) = false := by simp; omega
  have hij : ((i : Int) + 1 == (n : Int)) = false := by simp; omega
  have htot : (i : Int) + 2 + ((n - (i + 1) : Nat) : Int) = (n : Int) + 1 := by omega
  go_enter Tryd.func112, Tryd.ntmps112
  go_wp2_with fail
  go_quiet (fail)
  obtain ⟨U, hU⟩ : ∃ U, w.drewN nq = U := ⟨_, rfl⟩
  have hEU : Ext [] w U := by rw [← hU]; exact Ext.drewN [] w nq
  try simp only [htot]
  rw [hU]
  clear hU
  have HEU := hid hEU
  have hown := own_keep0 HOwn.out hEU
  have hv : U.heap[vb]? = _ := hEU.keep HV.out (by simp)
  have hP := HP.out
  have hO := HO.out
  have hQ := HQ.out
  have hq1 := HQ1.out
  have hy := HY.out
  have hy1 := HY1.out
  clear hEU HOwn HV HP HO HQ HQ1 HY HY1
  by_cases hroom : n + 1 ≤ c
  · have hroom' : ¬ ((c : Int) < (n : Int) + 1) := by omega
    have hroom2 : (n : Int) + 1 ≤ c := by omega
    rcases id hown.2 with ⟨h0, _⟩ | ⟨g', c', cur, hv', hlo, hg, _, hcm2, hcs, hck⟩
    · cases h0
    simp only [Value.slice.injEq, Option.some.injEq, Addr.mk.injEq, and_true, true_and] at hv'
    obtain ⟨rfl, rfl⟩ := hv'
    have hov : ∀ la ca lb cb off, (callFunc 128 #[.slice (some ⟨g, off, none⟩) la ca, .slice (some ⟨vb, 0, none⟩) lb cb]).run Tryd.prog U = .ok (.value (.bool false)) U := fun la ca lb cb off => by
      rw [run_callFunc_extern Tryd.func128 (by kernel_rfl) (by kernel_rfl) (by kernel_rfl) (e := Extern.SlicesOverlaps.overlaps #[24, 24] #[4]) (by kernel_rfl),
        Lib.run_overlaps_apart U 24 4 66 Tryd.underlying24 2 sizeOf66 ⟨g, off, none⟩ ⟨vb, 0, none⟩ la ca lb cb (fun e => hne e.symm) 66 66 cur.size ys.toArray.size (shape_row hg) (shape_row hv) (by rw [List.size_toArray]; omega) (frozen_of_row _ _ _ _ _ hg) (frozen_of_row _ _ _ _ _ hg)]
      rfl
    obtain ⟨R, hR⟩ : ∃ R, R = cur.toList.drop (n * 2) := ⟨_, rfl⟩
    have hC : cur.toList = P ++ (O ++ (Q ++ R)) := by
      have : cur.toList = cur.toList.take (n * 2) ++ cur.toList.drop (n * 2) := (List.take_append_drop _ _).symm
      rw [hck, ← hR] at this
      rw [this]; simp
    have hRl : R.length = (c - n) * 2 := by rw [hR, List.length_drop, Array.length_toList, hcs]; omega
    have hg0 : U.heap[g]? = some (.cells (P ++ (O ++ (Q ++ R))).toArray 66 (0, 0)) := by rw [hg, ← hC]
    have hcp1 : ∀ ty o dl dc so sl sc, o = (i + 2) * 2 → dl = n - (i + 1) → so = (i + 1) * 2 → sl = n - (i + 1) → (Builtin.copy_ #[24, 24] ty #[.slice (some ⟨g, o, none⟩) dl dc, .slice (some ⟨g, so, none⟩) sl sc]).run Tryd.prog U.drew = .ok (goInt ((n - (i + 1) : Nat) : Nat)) (U.drew.setRow g (splice (P ++ (O ++ (Q ++ R))) ((i + 2) * 2) Q).toArray) := by
      intro ty o dl dc so sl sc ho hdl hso hsl
      subst ho
      exact run_copy_k U.drew 24 24 ty 66 2 g ((i + 2) * 2) dl dc ⟨g, so, none⟩ sl sc (n - (i + 1)) (P ++ (O ++ (Q ++ R))) 66 Q Tryd.underlying24 size66' hg0 (by rw [hdl, hsl]; simp only [Nat.min_def]; split <;> omega) hQ (fun j u hu => by
        have hj := (List.getElem?_eq_some_iff.1 hu).1
        rw [Addr.add_lit, cell_of_row (w := U.drew) g _ _ _ _ hg0, hso]
        simp only [List.getElem?_toArray]
        rw [List.getElem?_append_right (by omega), List.getElem?_append_right (by omega), List.getElem?_append_left (by omega), show (i + 1) * 2 + j - P.length - O.length = j by omega, hu]) (by simp only [List.length_append]; omega) hq1
    have hX1 : splice (P ++ (O ++ (Q ++ R))) ((i + 2) * 2) Q = P ++ ((splice (O ++ (Q ++ R)) 4 Q)) := by
      unfold splice
      rw [List.take_append, List.drop_append, List.take_of_length_le (by omega), List.drop_eq_nil_of_le (by omega), show (i + 2) * 2 - P.length = 4 by omega, show (i + 2) * 2 + Q.length - P.length = 4 + Q.length by omega]
      simp
    have hX1l : (splice (O ++ (Q ++ R)) 4 Q).length = O.length + (Q.length + R.length) := by rw [length_splice]; simp; simp; omega
    have hX1d : (splice (O ++ (Q ++ R)) 4 Q).drop 4 = Q ++ (O ++ (Q ++ R)).drop (4 + Q.length) := by
      unfold splice
      rw [List.drop_left' (by simp; omega)]
    rw [hX1] at hcp1
    obtain ⟨S, hS⟩ : ∃ S, S = splice (O ++ (Q ++ R)) 4 Q := ⟨_, rfl⟩
    rw [← hS] at hcp1 hX1l hX1d
    have hgS : (U.drew.setRow g (P ++ S).toArray).heap[g]? = some (.cells (P ++ S).toArray 66 (0, 0)) := setRow_heap _ _ _ _ _ _ hg0
    have hxS : (U.drew.setRow g (P ++ S).toArray).heap[vb]? = _ := (setRow_other U.drew g vb _ hne).trans hv
    have hcp2 : ∀ ty o dl dc sc, o = i * 2 → dl = n + 1 - i → (Builtin.copy_ #[24, 24] ty #[.slice (some ⟨g, o, none⟩) dl dc, .slice (some ⟨vb, 0, none⟩) 2 sc]).run Tryd.prog (U.drew.setRow g (P ++ S).toArray) = .ok (goInt ((2 : Nat) : Nat)) ((U.drew.setRow g (P ++ S).toArray).setRow g (splice (P ++ S) (i * 2) ys).toArray) := by
      intro ty o dl dc sc ho hdl
      subst ho
      exact run_copy_k _ 24 24 ty 66 2 g (i * 2) dl dc ⟨vb, 0, none⟩ 2 sc 2 (P ++ S) 66 ys Tryd.underlying24 size66' hgS (by rw [hdl]; simp only [Nat.min_def]; split <;> omega) (by omega) (fun j u hj => by rw [Addr.add_lit, Nat.zero_add, cell_of_row _ _ _ _ _ _ hxS]; simpa using hj) (by simp only [List.length_append]; omega) hy1
    have hX2 : splice (P ++ S) (i * 2) ys = P ++ (ys ++ (Q ++ (O ++ (Q ++ R)).drop (4 + Q.length))) := by
      rw [splice_left P S _ _ hP, hy, hX1d]
    rw [hX2, setRow_setRow] at hcp2
    have HF : Hid (RpPost lo g (n + 1) (P ++ ys ++ Q) w (.returned (.slice (some ⟨g, 0, none⟩) (n + 1) c)) (U.drew.setRow g (P ++ (ys ++ (Q ++ (O ++ (Q ++ R)).drop (4 + Q.length)))).toArray)) := by
      refine ⟨_, _, rfl, ⟨?_, .inr ⟨g, c, _, rfl, hlo, setRow_heap _ _ _ _ _ _ hg0, hroom, hcm2, ?_, ?_⟩⟩, ?_⟩
      · simp only [List.length_append]; omega
      · simp; omega
      · rw [show P ++ (ys ++ (Q ++ (O ++ (Q ++ R)).drop (4 + Q.length))) = (P ++ ys ++ Q) ++ (O ++ (Q ++ R)).drop (4 + Q.length) by simp, List.take_left' (by simp; omega)]
      · exact (HEU.out.mono (by simp)).trans ((Ext.drew _ U).trans (Ext.setRow _ _ _ _ (by simp)))
    clear hv hown hg hC hP hQ hR hO hg0 hX1 hX1l hX1d hS hgS hxS hX2 hcs hck hq1 hRl hy hy1
    generalize (P ++ (ys ++ (Q ++ (O ++ (Q ++ R)).drop (4 + Q.length)))).toArray = Z2 at *
    generalize (P ++ S).toArray = Z1 at *
    generalize P ++ ys ++ Q = XS at *
    have hb2 : ¬ (c = i + 2) := by omega
    have hle2 : ¬ ((i : Int) + 2 ≤ (i : Int) + 1) := by omega
    go_wp2_with (simp only [hov])
    go_region_law (refine step_copy_run rfl _ _ 24 24 rfl (.slice (some ⟨g, (i + 2) * 2, none⟩) (n - (i + 1)) (c - (i + 2))) (.slice (some ⟨g, (i + 1) * 2, none⟩) (n - (i + 1)) (c - (i + 1))) _ (by simp [Act.eval, Act.put]) (by simp [Act.eval, Act.put]) (hcp1 _ _ _ _ _ _ _ rfl rfl rfl rfl) ?_)
    go_wp2_with (at_builtin; refine wpList_copy_run rfl _ _ 24 24 rfl (.slice (some ⟨g, i * 2, none⟩) (n + 1 - i) (c - i)) (.slice (some ⟨vb, 0, none⟩) 2 2) _ (by simp [Act.eval, Act.put]) (by simp [Act.eval, Act.put]) (hcp2 _ _ _ _ _ rfl rfl) ?_)
    go_ret
    exact HF.out
  · have hroom' : (c : Int) < (n : Int) + 1 := by omega
    clear hne
    obtain ⟨i0, hi0, hz0, hz1, hz2⟩ := info_parts info66
    have hlt := own_lt hown g rfl
    have hnc : n ≤ c := by
      obtain ⟨a', c', hv, hcm⟩ := own_slice hown
      simp only [Value.slice.injEq] at hv
      omega
    have hcell : ∀ j u, (P ++ (O ++ Q))[j]? = some u → U.cell? ((⟨g, 0, none⟩ : Addr).add j) = some u := fun j u hu => World.ownsRow.cells hown (g := g) rfl j u hu
    have hvw : vb < U.heap.size := lt_of_heap hv
    have hold : (Builtin.firstCells i0.size i (.slice (some ⟨g, 0, none⟩) i c)).run Tryd.prog U.drew = .ok P.toArray U.drew := by
      rw [hz1]
      exact run_firstCells_some U.drew 2 i ⟨g, 0, none⟩ i c P hP (fun j u hu => hcell j u (by rw [List.getElem?_append_left (List.getElem?_eq_some_iff.1 hu).1, hu]))
    have hk1 : i + (n + 1 - i) = n + 1 := by omega
    have hkk : ((n + 1 - i : Nat) : Int) = (n : Int) + 1 - (i : Int) := by omega
    have hrz := fun ty => Lib.run_append_grow_zeros (P := Tryd.prog) U 24 3 ty 66 i0 _ .i64 .i64 Tryd.underlying24 Tryd.underlying3 hi0 hz0 (some ⟨g, 0, none⟩) i c P hold (n + 1 - i) (by omega) (by omega) (by omega) (by omega) (by rw [hz2]; omega) (by rw [hz2]; exact growslice_fits (by omega) (by omega))
    rw [hk1, hkk] at hrz
    obtain ⟨G, hG⟩ : ∃ G, G = grownCap U (n + 1) c 66 := ⟨_, rfl⟩
    have hGge : n + 1 ≤ G := by rw [hG]; exact grownCap_ge U _ c 66
    have hGm : G ≤ maxLen := by rw [hG]; exact grownCap_le_maxLen U _ c 66 (by unfold maxLen; omega)
    rw [← hG] at hrz
    obtain ⟨Zr, hZr⟩ : ∃ Zr : List Value, Zr = (Builtin.zeroCells (Value.agg #[.int .i64 0, .slice none 0 0]).cells (n + 1 - i)).toList ++ (Builtin.zeroCells (Value.agg #[.int .i64 0, .slice none 0 0]).cells (G - (n + 1))).toList := ⟨_, rfl⟩
    have hZl : Zr.length = (G - i) * 2 := by
      have h1 := zero_cells_len (n + 1 - i)
      have h2 := zero_cells_len (G - (n + 1))
      rw [← Array.length_toList] at h1 h2
      rw [hZr, List.length_append, h1, h2]; omega
    have hrow : P.toArray ++ Builtin.zeroCells (Value.agg #[.int .i64 0, .slice none 0 0]).cells (n + 1 - i) ++ Builtin.zeroCells (Value.agg #[.int .i64 0, .slice none 0 0]).cells (G - (n + 1)) = (P ++ Zr).toArray := by
      apply Array.toList_inj.1
      rw [hZr]; simp
    rw [hrow] at hrz
    have hE1 : Ext [] U (U.drew.alloc (.cells (P ++ Zr).toArray 66)) := (Ext.drew [] U).trans (Ext.alloc [] _ _)
    have hg1 : (U.drew.alloc (.cells (P ++ Zr).toArray 66)).heap[U.heap.size]? = some (.cells (P ++ Zr).toArray 66 (0, 0)) := heap_alloc_new U.drew _
    have hx1 : (U.drew.alloc (.cells (P ++ Zr).toArray 66)).heap[vb]? = _ := hE1.keep hv (by simp)
    obtain ⟨W1, hW1⟩ : ∃ W1, W1 = U.drew.alloc (.cells (P ++ Zr).toArray 66) := ⟨_, rfl⟩
    rw [← hW1] at hrz hE1 hg1 hx1
    have hcp2 : ∀ ty o dl dc sc, o = i * 2 → dl = n + 1 - i → (Builtin.copy_ #[24, 24] ty #[.slice (some ⟨U.heap.size, o, none⟩) dl dc, .slice (some ⟨vb, 0, none⟩) 2 sc]).run Tryd.prog W1 = .ok (goInt ((2 : Nat) : Nat)) (W1.setRow U.heap.size (splice (P ++ Zr) (i * 2) ys).toArray) := by
      intro ty o dl dc sc ho hdl
      subst ho
      exact run_copy_k _ 24 24 ty 66 2 U.heap.size (i * 2) dl dc ⟨vb, 0, none⟩ 2 sc 2 (P ++ Zr) 66 ys Tryd.underlying24 size66' hg1 (by rw [hdl]; simp only [Nat.min_def]; split <;> omega) (by omega) (fun j u hj => by rw [Addr.add_lit, Nat.zero_add, cell_of_row _ _ _ _ _ _ hx1]; simpa using hj) (by simp only [List.length_append]; omega) hy1
    rw [splice_left P Zr _ _ hP, hy] at hcp2
    have hE2 : Ext [U.heap.size] W1 (W1.setRow U.heap.size (P ++ (ys ++ Zr.drop 4)).toArray) := Ext.setRow _ _ _ _ (by simp)
    have hg2 : (W1.setRow U.heap.size (P ++ (ys ++ Zr.drop 4)).toArray).heap[U.heap.size]? = some (.cells (P ++ (ys ++ Zr.drop 4)).toArray 66 (0, 0)) := setRow_heap _ _ _ _ _ _ hg1
    have hL2 : (W1.setRow U.heap.size (P ++ (ys ++ Zr.drop 4)).toArray).ownsRow lo 66 2 (.slice (some ⟨g, 0, none⟩) n c) n (P ++ (O ++ Q)) := own_keep (own_keep0 hown hE1) hE2 (by simp [Value.ownBlock]; omega)
    obtain ⟨W2, hW2⟩ : ∃ W2, W2 = W1.setRow U.heap.size (P ++ (ys ++ Zr.drop 4)).toArray := ⟨_, rfl⟩
    rw [← hW2] at hcp2 hE2 hg2 hL2
    have hcp3 : ∀ ty o dl dc so sl sc, o = (i + 2) * 2 → dl = n - (i + 1) → so = (i + 1) * 2 → sl = n - (i + 1) → (Builtin.copy_ #[24, 24] ty #[.slice (some ⟨U.heap.size, o, none⟩) dl dc, .slice (some ⟨g, so, none⟩) sl sc]).run Tryd.prog W2.drew = .ok (goInt ((n - (i + 1) : Nat) : Nat)) (W2.drew.setRow U.heap.size (splice (P ++ (ys ++ Zr.drop 4)) ((i + 2) * 2) Q).toArray) := by
      intro ty o dl dc so sl sc ho hdl hso hsl
      subst ho
      refine run_copy_k W2.drew 24 24 ty 66 2 U.heap.size ((i + 2) * 2) dl dc ⟨g, so, none⟩ sl sc (n - (i + 1)) (P ++ (ys ++ Zr.drop 4)) 66 Q Tryd.underlying24 size66' hg2 (by rw [hdl, hsl]; simp only [Nat.min_def]; split <;> omega) hQ (fun j u hu => ?_) (by simp only [List.length_append, List.length_drop]; omega) hq1
      have h := World.ownsRow.cells hL2 (g := g) rfl ((i + 1) * 2 + j) u (by rw [List.getElem?_append_right (by omega), List.getElem?_append_right (by omega), show (i + 1) * 2 + j - P.length - O.length = j by omega, hu])
      rw [Addr.add_lit] at h ⊢
      rw [hso]
      simpa using h
    rw [show P ++ (ys ++ Zr.drop 4) = (P ++ ys) ++ Zr.drop 4 by simp, splice_left (P ++ ys) (Zr.drop 4) _ _ (by simp; omega)] at hcp3
    have HF : Hid (RpPost lo g (n + 1) (P ++ ys ++ Q) w (.returned (.slice (some ⟨U.heap.size, 0, none⟩) (n + 1) G)) (W2.drew.setRow U.heap.size (P ++ ys ++ (Q ++ (Zr.drop 4).drop Q.length)).toArray)) := by
      refine ⟨_, _, rfl, ⟨?_, .inr ⟨U.heap.size, G, _, rfl, by omega, setRow_heap _ _ _ _ _ _ hg2, hGge, hGm, ?_, ?_⟩⟩, ?_⟩
      · simp only [List.length_append]; omega
      · simp; omega
      · rw [show P ++ ys ++ (Q ++ (Zr.drop 4).drop Q.length) = (P ++ ys ++ Q) ++ (Zr.drop 4).drop Q.length by simp, List.take_left' (by simp; omega)]
      · refine (HEU.out.mono (by simp)).trans (Ext.mono (S := []) ?_ (by simp))
        exact ((hE1.on hE2 (by simp)).trans (Ext.drew [] _)).on (Ext.setRow [U.heap.size] _ _ _ (by simp)) (by simp)
    clear hown hg1 hg2 hL2 hx1 hE1 hE2 hW1 hW2 hZr hZl hrow hG hold hcell hq1 hP hQ hO hi0 hz0 hz1 hz2 hk1 hkk hvw hv hlt hy1
    generalize (P ++ ys ++ (Q ++ (Zr.drop 4).drop Q.length)).toArray = Z3 at *
    have hc3 : ¬ (G = i) := by omega
    have hc4 : ¬ (G = i + 2) := by omega
    unfold maxLen at hGm
    go_wp2_with (at_builtin; first
      | refine wpList_append_run2 rfl _ _ 24 3 rfl _ _ _ rfl rfl (hrz _) ?_
      | refine wpList_copy_run rfl _ _ 24 24 rfl (.slice (some ⟨U.heap.size, i * 2, none⟩) (n + 1 - i) (G - i)) (.slice (some ⟨vb, 0, none⟩) 2 2) _ (by simp [Act.eval, Act.put]) (by simp [Act.eval, Act.put]) (hcp2 _ _ _ _ _ rfl rfl) ?_)
    go_region_law (refine step_copy_run rfl _ _ 24 24 rfl (.slice (some ⟨U.heap.size, (i + 2) * 2, none⟩) (n - (i + 1)) (G - (i + 2))) (.slice (some ⟨g, (i + 1) * 2, none⟩) (n - (i + 1)) (c - (i + 1))) _ (by simp [Act.eval, Act.put]) (by simp [Act.eval, Act.put]) (hcp3 _ _ _ _ _ _ _ rfl rfl rfl rfl) ?_)
    go_wp2_with fail
    go_ret
    exact HF.out
end Go.Proofs.YtkfagfdefkaenaaDoor
