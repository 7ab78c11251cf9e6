/-
  RgB: joined by program; no statement is proved here.
-/
import Derived.Test.YtkfagfdefkaenaaDoorZL
import Derived.Test.YtkfagfdefkaenaaDoorZPF
/-
  A split, with the words of both halves determined; no statement is proved here.
-/
namespace Go.Proofs.YtkfagfdefkaenaaDoor.Rf
open Go.RowKit Go.Shelf
open Pr (Gp GpI sq pl)
attribute [local go_sem] Oper.semAt_some run_store_func

def SpPost (w : World) (zd lo dp bt : Nat) (A : List Tq) (t : Tq) (B : List Tq) (e : Ending) (w' : World) : Prop := (∃ v, e = .returned v) ∧
  ∃ X0 X1 bt' ct' bs' cs', Fil X0 t.G (hf t.d 0 (ents t.T t.G)) ∧ Fil X1 t.G (hf t.d 1 (ents t.T t.G)) ∧ Dx w' zd lo (max dp (t.d + 1)) (A.length + B.length + 2) bt' ct' bs' cs' (A ++ ⟨t.d + 1, t.G, X0⟩ :: ⟨t.d + 1, t.G, X1⟩ :: B) ∧ Ext [zd, bt] w w'
/-- Behind the halves. -/
def SpMid (t : Tq) (i zd n bt ct g c zt : Nat) (U : World) (a' : Act) (w' : World) : Prop := ∃ (b5 b6 : Nat) (X0 : List Nat) (g0 c0 : Nat) (X1 : List Nat) (g1 c1 : Nat), a' = { tmps := #[.pointer (some ⟨zd, 0, none⟩), .int .i64 (i : Nat), undef, undef, .pointer (some ⟨zt, 0, none⟩), .pointer (some ⟨b5, 0, none⟩), .pointer (some ⟨b6, 0, none⟩), .pointer (some ⟨zd, 0, none⟩), .pointer (some ⟨zd, 0, none⟩), .pointer (some ⟨zd, 1, none⟩), .slice (some ⟨bt, 0, none⟩) n ct, .int .i64 (i : Nat), .pointer (some ⟨bt, i * 2, none⟩), .agg #[.int .i64 (t.d : Nat), .slice (some ⟨g, 0, none⟩) (3 + 17 * t.G) c], .agg #[.int .i64 (t.d : Nat), .slice (some ⟨g, 0, none⟩) (3 + 17 * t.G) c], .agg #[.int .i64 ((t.d : Int) + 1), .slice (some ⟨g0, 0, none⟩) (3 + 17 * t.G) c0], .agg #[.int .i64 (t.d : Nat), .slice (some ⟨g, 0, none⟩) (3 + 17 * t.G) c], .agg #[.int .i64 ((t.d : Int) + 1), .slice (some ⟨g1, 0, none⟩) (3 + 17 * t.G) c1], undef, undef, undef, undef, undef, undef, undef, undef, undef, undef, undef, undef, undef, undef, undef, undef, undef, undef, undef, undef, undef, undef, undef, undef, undef, undef, undef, undef, undef, undef, undef], defers := [] } ∧
  Fil X0 t.G (hf t.d 0 (ents t.T t.G)) ∧ Fil X1 t.G (hf t.d 1 (ents t.T t.G)) ∧ Tw w' g0 X0 ∧ Tw w' g1 X1 ∧ w'.heap[b5]? = some (.cells #[.int .i64 ((t.d : Int) + 1), .slice (some ⟨g0, 0, none⟩) (3 + 17 * t.G) c0] 66) ∧ w'.heap[b6]? = some (.cells #[.int .i64 ((t.d : Int) + 1), .slice (some ⟨g1, 0, none⟩) (3 + 17 * t.G) c1] 66) ∧ b5 ≠ b6 ∧ U.heap.size ≤ b5 ∧ U.heap.size ≤ b6 ∧ Ext [] U w'
/-- Behind the new row of tables. -/
def SpM2 (t : Tq) (i zd n bt ct g c zt b5 b6 g0 c0 g1 c1 vb lo dp bs cs : Nat) (W : World) (XS : List Value) (a' : Act) (w' : World) : Prop := ∃ (g' c' : Nat) (w4 : World), a' = { tmps := #[.pointer (some ⟨zd, 0, none⟩), .int .i64 (i : Nat), undef, undef, .pointer (some ⟨zt, 0, none⟩), .pointer (some ⟨b5, 0, none⟩), .pointer (some ⟨b6, 0, none⟩), .pointer (some ⟨zd, 0, none⟩), .pointer (some ⟨zd, 0, none⟩), .pointer (some ⟨zd, 1, none⟩), .slice (some ⟨bt, 0, none⟩) n ct, .int .i64 (i : Nat), .pointer (some ⟨bt, i * 2, none⟩), .agg #[.int .i64 (t.d : Nat), .slice (some ⟨g, 0, none⟩) (3 + 17 * t.G) c], .agg #[.int .i64 (t.d : Nat), .slice (some ⟨g, 0, none⟩) (3 + 17 * t.G) c], .agg #[.int .i64 ((t.d : Int) + 1), .slice (some ⟨g0, 0, none⟩) (3 + 17 * t.G) c0], .agg #[.int .i64 (t.d : Nat), .slice (some ⟨g, 0, none⟩) (3 + 17 * t.G) c], .agg #[.int .i64 ((t.d : Int) + 1), .slice (some ⟨g1, 0, none⟩) (3 + 17 * t.G) c1], .pointer (some ⟨zd, 0, none⟩), .pointer (some ⟨zd, 0, none⟩), .pointer (some ⟨zd, 0, none⟩), .pointer (some ⟨zd, 1, none⟩), .slice (some ⟨bt, 0, none⟩) n ct, .int .i64 (i : Nat), .int .i64 (i : Nat), .int .i64 ((i : Int) + 1), .agg #[.int .i64 ((t.d : Int) + 1), .slice (some ⟨g0, 0, none⟩) (3 + 17 * t.G) c0], .agg #[.int .i64 ((t.d : Int) + 1), .slice (some ⟨g1, 0, none⟩) (3 + 17 * t.G) c1], .slice (some ⟨vb, 0, none⟩) 2 2, .slice (some ⟨g', 0, none⟩) (n + 1) c', .pointer (some ⟨zd, 0, none⟩), .pointer (some ⟨zd, 1, none⟩), undef, undef, undef, undef, undef, undef, undef, undef, undef, undef, undef, undef, undef, undef, undef, undef, undef], defers := [] } ∧
      w' = w4.setCell ⟨zd, 1, none⟩ (.slice (some ⟨g', 0, none⟩) (n + 1) c') ∧ w4.ownsRow lo 66 2 (.slice (some ⟨g', 0, none⟩) (n + 1) c') (n + 1) XS ∧ Ext [bt] W w4 ∧ w4.heap[zd]? = some (.cells #[.int .i64 (dp : Nat), .slice (some ⟨bt, 0, none⟩) n ct, .slice (some ⟨bs, 0, none⟩) (2 ^ dp) cs] 27)
theorem mid_of {U w1 w2 W : World} {t : Tq} {X0 X1 : List Nat} {g0 c0 g1 c1 b5 b6 : Nat} (hH0 : Fil X0 t.G (hf t.d 0 (ents t.T t.G))) (hH1 : Fil X1 t.G (hf t.d 1 (ents t.T t.G))) (hT0 : Tw w1 g0 X0) (hT1 : Tw w2 g1 X1) (hX : Ext [] w1 w2) (hC : Ext [] U w2) (h5 : U.heap.size ≤ b5) (h6 : U.heap.size ≤ b6)
    (md : Md w2 W b5 b6 #[.int .i64 ((t.d : Int) + 1), .slice (some ⟨g0, 0, none⟩) (3 + 17 * t.G) c0] #[.int .i64 ((t.d : Int) + 1), .slice (some ⟨g1, 0, none⟩) (3 + 17 * t.G) c1]) :
    Fil X0 t.G (hf t.d 0 (ents t.T t.G)) ∧ Fil X1 t.G (hf t.d 1 (ents t.T t.G)) ∧ Tw W g0 X0 ∧ Tw W g1 X1 ∧ W.heap[b5]? = some (.cells #[.int .i64 ((t.d : Int) + 1), .slice (some ⟨g0, 0, none⟩) (3 + 17 * t.G) c0] 66) ∧ W.heap[b6]? = some (.cells #[.int .i64 ((t.d : Int) + 1), .slice (some ⟨g1, 0, none⟩) (3 + 17 * t.G) c1] 66) ∧ b5 ≠ b6 ∧ U.heap.size ≤ b5 ∧ U.heap.size ≤ b6 ∧ Ext [] U W := by
  have hk : ∀ g X, Tw w2 g X → Tw W g X := fun g X hT => hT.keep md.ext (by
    intro hm
    simp only [List.mem_cons, List.not_mem_nil, or_false] at hm
    rcases hm with rfl | rfl
    · exact md.n5 _ hT
    · exact md.n6 _ hT)
  exact ⟨hH0, hH1, hk _ _ (hT0.keep0 hX), hk _ _ hT1, md.h5, md.h6, md.ne, h5, h6, hC.on md.ext (by simp; omega)⟩
set_option maxRecDepth 100000 in
set_option maxHeartbeats 4000000 in
theorem dsplit_any (zd lo dp n bt ct bs cs : Nat) (A : List Tq) (t : Tq) (B : List Tq) (hD : Dq dp (A ++ t :: B)) (ht6 : t.d < 6) (w : World) (hx : Dx w zd lo dp n bt ct bs cs (A ++ t :: B)) (hlo : lo ≤ w.heap.size) (hTb : Tb w) :
    Calls Tryd.prog 81 #[.pointer (some ⟨zd, 0, none⟩), .int .i64 (A.length : Nat)] w (SpPost w zd lo dp bt A t B) := by
  have hn := hx.len
  have hn64 := hD.len
  rw [hn] at hn64
  rw [List.length_append, List.length_cons] at hn
  obtain ⟨i, hi⟩ : ∃ i, A.length = i := ⟨_, rfl⟩
  have c1 : w.cell? ⟨zd, 1, none⟩ = some (.slice (some ⟨bt, 0, none⟩) n ct) := by rw [cell_of_row _ _ _ _ _ _ hx.box]; rfl
  obtain ⟨g, c, e1, e2, hTw⟩ := hx.tc.1.cells (n := i) (t := t) (by rw [← hi]; simp)
  have hin : (i : Int) < n := by omega
  have HX := hid hx
  have HD := hid hD
  have HTb := hid hTb
  have HTw := hid hTw
  rw [hi]
  clear hx hD hTb hTw
  go_enter Tryd.func81, Tryd.ntmps81
  go_wp2_with fail
  obtain ⟨U, hU⟩ : ∃ U, w.alloc (.cells #[.int .i64 (t.d : Nat), .slice (some ⟨g, 0, none⟩) (3 + 17 * t.G) c] 66) = U := ⟨_, rfl⟩
  obtain ⟨zt, hzt⟩ : ∃ zt, w.heap.size = zt := ⟨_, rfl⟩
  have hEU : Ext [] w U := by rw [← hU]; exact Ext.alloc [] w _
  have hbt : U.heap[zt]? = some (.cells #[.int .i64 (t.d : Nat), .slice (some ⟨g, 0, none⟩) (3 + 17 * t.G) c] 66) := by rw [← hU, ← hzt]; exact heap_alloc_new w _
  rw [hU, hzt]
  clear hU
  have hsd : Sd t.T t.G := by
    have := HD.out.ok
    rw [ok_app] at this
    exact this.2.1.sd
  have KH := fun (bit : Nat) (hb : bit ≤ 1) u (hu : Ext [] U u) => half_any t g c bit ht6 hb hsd u ((HTw.out.keep0 hEU).keep0 hu) ((HTb.out.keep0 hEU).keep0 hu)
  have K0 : ∀ u, Ext [] U u → Calls Tryd.prog 111 #[.agg #[.int .i64 (t.d : Nat), .slice (some ⟨g, 0, none⟩) (3 + 17 * t.G) c], .int .i64 0] u (HfPost u t 0) := KH 0 (by omega)
  have K1 : ∀ u, Ext [] U u → Calls Tryd.prog 111 #[.agg #[.int .i64 (t.d : Nat), .slice (some ⟨g, 0, none⟩) (3 + 17 * t.G) c], .int .i64 1] u (HfPost u t 1) := KH 1 (by omega)
  have u0 : U.cell? ⟨zt, 0, none⟩ = some (.int .i64 (t.d : Nat)) := by rw [cell_of_row _ _ _ _ _ _ hbt]; rfl
  have u1 : U.cell? ⟨zt, 1, none⟩ = some (.slice (some ⟨g, 0, none⟩) (3 + 17 * t.G) c) := by rw [cell_of_row _ _ _ _ _ _ hbt]; rfl
  have u0' : U.drew.cell? ⟨zt, 0, none⟩ = some (.int .i64 (t.d : Nat)) := u0
  have u1' : U.drew.cell? ⟨zt, 1, none⟩ = some (.slice (some ⟨g, 0, none⟩) (3 + 17 * t.G) c) := u1
  have hEd := Ext.drew [] U
  have HEU := hid hEU
  clear hEU hbt KH e1 e2 c1
  refine Code.wp_mono (Q := fun e a' w' => e = Exit.normal ∧ SpMid t i zd n bt ct g c zt U a' w') ?mono ?reg
  case reg =>
    have n0 := World.new_ne U _ u0
    go_region_held3 (fun w' => w'.cell? ⟨zt, 0, none⟩ = some (.int .i64 (t.d : Nat)) ∧ w'.cell? ⟨zt, 1, none⟩ = some (.slice (some ⟨g, 0, none⟩) (3 + 17 * t.G) c))
      (first | go_keep | exact ⟨Ext.cell (S := []) (by repeat (first | exact hC2 | exact hC1 | exact Ext.refl [] _ | refine Ext.trans ?_ (Ext.alloc [] _ _) | refine Ext.trans ?_ (Ext.drew [] _))) u0 (by simp), Ext.cell (S := []) (by repeat (first | exact hC2 | exact hC1 | exact Ext.refl [] _ | refine Ext.trans ?_ (Ext.alloc [] _ _) | refine Ext.trans ?_ (Ext.drew [] _))) u1 (by simp)⟩)
      (first
        | (go_at_call 111; first
          | ((with_reducible refine (K0 _ hEd).mono ?_); rintro _ w1 ⟨X0, g0, c0, rfl, hH0, hT0, hg0, hE1⟩; have hC1 := hEd.trans hE1)
          | ((with_reducible refine (K0 _ ((Ext.alloc [] _ _).trans (Ext.drew [] _))).mono ?_); rintro _ w1 ⟨X0, g0, c0, rfl, hH0, hT0, hg0, hE1⟩; have hC1 := ((Ext.alloc [] _ _).trans (Ext.drew [] _)).trans hE1; have ra := hE1.keep (show (U.alloc (.cells #[.int .i64 0, .slice none 0 0] 66)).drew.heap[U.heap.size]? = _ from heap_alloc_new U (.cells #[.int .i64 0, .slice none 0 0] 66)) (by simp); have na := Nat.ne_of_lt (lt_of_heap ra); have na' := Ne.symm na)
          | ((with_reducible refine (K0 _ (((Ext.alloc [] _ _).trans (Ext.alloc [] _ _)).trans (Ext.drew [] _))).mono ?_); rintro _ w1 ⟨X0, g0, c0, rfl, hH0, hT0, hg0, hE1⟩; have hC1 := (((Ext.alloc [] _ _).trans (Ext.alloc [] _ _)).trans (Ext.drew [] _)).trans hE1; have ra := hE1.keep (show ((U.alloc (.cells #[.int .i64 0, .slice none 0 0] 66)).alloc (.cells #[.int .i64 0, .slice none 0 0] 66)).drew.heap[U.heap.size]? = _ from (Below.heap_alloc _ _ _ (by simp)).trans (heap_alloc_new U (.cells #[.int .i64 0, .slice none 0 0] 66))) (by simp); have rb := hE1.keep (show ((U.alloc (.cells #[.int .i64 0, .slice none 0 0] 66)).alloc (.cells #[.int .i64 0, .slice none 0 0] 66)).drew.heap[(U.alloc (.cells #[.int .i64 0, .slice none 0 0] 66)).heap.size]? = _ from heap_alloc_new (U.alloc (.cells #[.int .i64 0, .slice none 0 0] 66)) (.cells #[.int .i64 0, .slice none 0 0] 66)) (by simp); simp only [World.size_alloc] at rb)
          | ((with_reducible refine (K1 _ hC1).mono ?_); rintro _ w2 ⟨X1, g1, c1, rfl, hH1, hT1, hg1, hE2⟩; have hX2 := hE2; have hC2 := hC1.trans hX2; (try (have ra2 := hX2.keep ra (by simp); obtain ⟨p0, p1, p2, p3, p4, p5⟩ := zrow_facts ra2; obtain ⟨pa, pb, pc, pd, pe, pf, pg, ph⟩ := zrow_more ra2; have p4' := Ne.symm p4)); (try (have rb2 := hX2.keep rb (by simp); obtain ⟨q0, q1, q2, q3, q4, q5⟩ := zrow_facts rb2; obtain ⟨qa, qb, qc, qd, qe, qf, qg, qh⟩ := zrow_more rb2; have q4' := Ne.symm q4)); have z0 := hC2.cell u0 (by simp); have z1 := hC2.cell u1 (by simp); have z2 := World.new_ne w2 _ z0; have z3 := Ne.symm z2; have y2 := World.new_ne w1 _ (hC1.cell u0 (by simp)); have y3 := Ne.symm y2; have n3 := Ne.symm n0; obtain ⟨_, _, _, _, ne, nf, ng, nh⟩ := zrow_more (heap_alloc_new w2 (.cells #[.int .i64 0, .slice none 0 0] 66)); have n5 : ¬ zt = U.heap.size + 1 := (by have := World.block_lt_of_cell? U _ u0; simp at this; omega); have n6 : ¬ U.heap.size + 1 = zt := (fun e => n5 e.symm); have y5 : ¬ zt = w1.heap.size + 1 := (by have := World.block_lt_of_cell? w1 _ (hC1.cell u0 (by simp)); simp at this; omega); have y6 : ¬ w1.heap.size + 1 = zt := (fun e => y5 e.symm))
          | ((with_reducible refine (K1 _ (hC1.trans (Ext.alloc [] _ _))).mono ?_); rintro _ w2 ⟨X1, g1, c1, rfl, hH1, hT1, hg1, hE2⟩; have hX2 := (Ext.alloc [] _ _).trans hE2; have hC2 := hC1.trans hX2; have rc := hE2.keep (heap_alloc_new _ _) (by simp); obtain ⟨s0, s1, s2, s3, s4, s5⟩ := zrow_facts rc; obtain ⟨sa, sb, sc, sd, se, sf, sg, sh⟩ := zrow_more rc; have s4' := Ne.symm s4; (try (have ra2 := hX2.keep ra (by simp); obtain ⟨p0, p1, p2, p3, p4, p5⟩ := zrow_facts ra2; obtain ⟨pa, pb, pc, pd, pe, pf, pg, ph⟩ := zrow_more ra2; have p4' := Ne.symm p4)); (try (have rb2 := hX2.keep rb (by simp); obtain ⟨q0, q1, q2, q3, q4, q5⟩ := zrow_facts rb2; obtain ⟨qa, qb, qc, qd, qe, qf, qg, qh⟩ := zrow_more rb2; have q4' := Ne.symm q4)); have z0 := hC2.cell u0 (by simp); have z1 := hC2.cell u1 (by simp); have z2 := World.new_ne w2 _ z0; have z3 := Ne.symm z2; have y2 := World.new_ne w1 _ (hC1.cell u0 (by simp)); have y3 := Ne.symm y2; have n3 := Ne.symm n0; obtain ⟨_, _, _, _, ne, nf, ng, nh⟩ := zrow_more (heap_alloc_new w2 (.cells #[.int .i64 0, .slice none 0 0] 66)); have n5 : ¬ zt = U.heap.size + 1 := (by have := World.block_lt_of_cell? U _ u0; simp at this; omega); have n6 : ¬ U.heap.size + 1 = zt := (fun e => n5 e.symm); have y5 : ¬ zt = w1.heap.size + 1 := (by have := World.block_lt_of_cell? w1 _ (hC1.cell u0 (by simp)); simp at this; omega); have y6 : ¬ w1.heap.size + 1 = zt := (fun e => y5 e.symm))
          | ((with_reducible refine (K1 _ ((hC1.trans (Ext.alloc [] _ _)).trans (Ext.alloc [] _ _))).mono ?_); rintro _ w2 ⟨X1, g1, c1, rfl, hH1, hT1, hg1, hE2⟩; have hX2 := ((Ext.alloc [] _ _).trans (Ext.alloc [] _ _)).trans hE2; have hC2 := hC1.trans hX2; have rc := hE2.keep ((Below.heap_alloc _ _ _ (by simp)).trans (heap_alloc_new _ _)) (by simp); have rd := hE2.keep (heap_alloc_new _ _) (by simp); simp only [World.size_alloc] at rd; obtain ⟨s0, s1, s2, s3, s4, s5⟩ := zrow_facts rc; obtain ⟨sa, sb, sc, sd, se, sf, sg, sh⟩ := zrow_more rc; have s4' := Ne.symm s4; obtain ⟨t0, t1, t2, t3, t4, t5⟩ := zrow_facts rd; obtain ⟨ta, tb, tc, td, te, tf, tg, th⟩ := zrow_more rd; have t4' := Ne.symm t4; (try (have ra2 := hX2.keep ra (by simp); obtain ⟨p0, p1, p2, p3, p4, p5⟩ := zrow_facts ra2; obtain ⟨pa, pb, pc, pd, pe, pf, pg, ph⟩ := zrow_more ra2; have p4' := Ne.symm p4)); (try (have rb2 := hX2.keep rb (by simp); obtain ⟨q0, q1, q2, q3, q4, q5⟩ := zrow_facts rb2; obtain ⟨qa, qb, qc, qd, qe, qf, qg, qh⟩ := zrow_more rb2; have q4' := Ne.symm q4)); have z0 := hC2.cell u0 (by simp); have z1 := hC2.cell u1 (by simp); have z2 := World.new_ne w2 _ z0; have z3 := Ne.symm z2; have y2 := World.new_ne w1 _ (hC1.cell u0 (by simp)); have y3 := Ne.symm y2; have n3 := Ne.symm n0; obtain ⟨_, _, _, _, ne, nf, ng, nh⟩ := zrow_more (heap_alloc_new w2 (.cells #[.int .i64 0, .slice none 0 0] 66)); have n5 : ¬ zt = U.heap.size + 1 := (by have := World.block_lt_of_cell? U _ u0; simp at this; omega); have n6 : ¬ U.heap.size + 1 = zt := (fun e => n5 e.symm); have y5 : ¬ zt = w1.heap.size + 1 := (by have := World.block_lt_of_cell? w1 _ (hC1.cell u0 (by simp)); simp at this; omega); have y6 : ¬ w1.heap.size + 1 = zt := (fun e => y5 e.symm)))
        | fail "no arm")
    all_goals
      have hs1 := hC1.size
      have hs2 := hX2.size
      (try have la := lt_of_heap ra)
      (try have lb := lt_of_heap rb)
      refine ⟨rfl, _, _, X0, g0, c0, X1, g1, c1, rfl, ?_⟩
      refine mid_of hH0 hH1 hT0 hT1 hX2 hC2 (by omega) (by omega) ?_
      have ncd : w1.heap.size ≠ w1.heap.size + 1 := by omega
      have nab : U.heap.size ≠ U.heap.size + 1 := by omega
      (try have nac : U.heap.size ≠ w1.heap.size := by omega)
      with_reducible first
        | exact md0
        | exact md0'
        | exact md4a rc _ _ _ _
        | exact md4a ra2 _ _ _ _
        | exact md2a rc _ _
        | exact md2a ra2 _ _
        | exact md4 rc rd ncd _ _ _ _
        | exact md4 rd rc ncd.symm _ _ _ _
        | exact md4 ra2 rc nac _ _ _ _
        | exact md4 rc ra2 nac.symm _ _ _ _
        | exact md4 ra2 rb2 nab _ _ _ _
        | exact md4 rb2 ra2 nab.symm _ _ _ _
  case mono =>
    rintro e a3 w3 ⟨rfl, b5, b6, X0, g0, c0, X1, g1, c1, rfl, hH0, hH1, hT0, hT1, h5, h6, hne, hb5, hb6, hE3⟩
    have hx3 := HEU.out.trans hE3
    have hbox : w3.heap[zd]? = _ := hx3.keep HX.out.box (by simp)
    have k1 : w3.cell? ⟨zd, 1, none⟩ = some (.slice (some ⟨bt, 0, none⟩) n ct) := by rw [cell_of_row _ _ _ _ _ _ hbox]; rfl
    have k5 : w3.cell? ⟨b5, 0, none⟩ = some (.int .i64 ((t.d : Int) + 1)) := by rw [cell_of_row _ _ _ _ _ _ h5]; rfl
    have k6 : w3.cell? ⟨b5, 1, none⟩ = some (.slice (some ⟨g0, 0, none⟩) (3 + 17 * t.G) c0) := by rw [cell_of_row _ _ _ _ _ _ h5]; rfl
    have k7 : w3.cell? ⟨b6, 0, none⟩ = some (.int .i64 ((t.d : Int) + 1)) := by rw [cell_of_row _ _ _ _ _ _ h6]; rfl
    have k8 : w3.cell? ⟨b6, 1, none⟩ = some (.slice (some ⟨g1, 0, none⟩) (3 + 17 * t.G) c1) := by rw [cell_of_row _ _ _ _ _ _ h6]; rfl
    have hzt2 : zt < U.heap.size := World.block_lt_of_cell? U _ u0
    have HX3 := hid hx3
    have H5 := hid h5
    have HH0 := hid hH0
    have HH1 := hid hH1
    have HT0 := hid hT0
    have HT1 := hid hT1
    have HBox := hid hbox
    clear hx3 h5 h6 hH0 hH1 hT0 hT1 hE3 hbox K0 K1 u0 u1 u0' u1' hEd
    obtain ⟨xs, hown, hone, hxv⟩ := own_of_tc (lo := lo) (HX.out.tc.keep0 HX3.out) HX.out.lot HX.out.len
    have hxl := hown.1
    obtain ⟨P, O, Q, hxs, hPl, hOl⟩ : ∃ P O Q, xs = P ++ (O ++ Q) ∧ P.length = i * 2 ∧ O.length = 2 :=
      ⟨xs.take (i * 2), (xs.drop (i * 2)).take 2, (xs.drop (i * 2)).drop 2, by rw [List.take_append_drop, List.take_append_drop], by rw [List.length_take]; omega, by rw [List.length_take, List.length_drop]; omega⟩
    subst hxs
    obtain ⟨ys, hys⟩ : ∃ ys : List Value, ys = [.int .i64 ((t.d : Int) + 1), .slice (some ⟨g0, 0, none⟩) (3 + 17 * t.G) c0, .int .i64 ((t.d : Int) + 1), .slice (some ⟨g1, 0, none⟩) (3 + 17 * t.G) c1] := ⟨_, rfl⟩
    have hEa : Ext [] w3 (w3.alloc (.cells #[.int .i64 ((t.d : Int) + 1), .slice (some ⟨g0, 0, none⟩) (3 + 17 * t.G) c0, .int .i64 ((t.d : Int) + 1), .slice (some ⟨g1, 0, none⟩) (3 + 17 * t.G) c1] 66)).drew := (Ext.alloc [] w3 _).trans (Ext.drew [] _)
    have hvb : (w3.alloc (.cells #[.int .i64 ((t.d : Int) + 1), .slice (some ⟨g0, 0, none⟩) (3 + 17 * t.G) c0, .int .i64 ((t.d : Int) + 1), .slice (some ⟨g1, 0, none⟩) (3 + 17 * t.G) c1] 66)).drew.heap[w3.heap.size]? = some (.cells ys.toArray 66 (0, 0)) := by rw [hys]; exact heap_alloc_new w3 _
    have hbtl : bt < w3.heap.size := (own_lt hown bt rfl).2
    have KR := replace_any lo bt ct i n w3.heap.size P O Q ys _ (own_keep0 hown hEa) hPl hOl (by omega) hn64 (fun u hu => hone u (by simp [hu])) (by rw [hys]; rfl) (by rw [hys]; simp [Value.oneCell']) hvb (by omega)
    obtain ⟨XS, hXS⟩ : ∃ XS, P ++ ys ++ Q = XS := ⟨_, rfl⟩
    rw [hXS] at KR
    have HXS := hid hXS
    clear hXS
    have HEa := hid hEa
    have HXv := hid hxv
    have HYs := hid hys
    have HPl := hid hPl
    have HOl := hid hOl
    have ka1 := hEa.cell k1 (by simp)
    have kb1 : (w3.alloc (.cells #[.int .i64 ((t.d : Int) + 1), .slice (some ⟨g0, 0, none⟩) (3 + 17 * t.G) c0, .int .i64 ((t.d : Int) + 1), .slice (some ⟨g1, 0, none⟩) (3 + 17 * t.G) c1] 66)).cell? ⟨zd, 1, none⟩ = some (.slice (some ⟨bt, 0, none⟩) n ct) := ka1
    have hzbt : zd ≠ bt := by
      rintro rfl
      obtain ⟨cs', e, _⟩ := HX.out.tc.1
      rw [HX.out.box] at e; cases e
    have hwi : IntKind.i64.wrap ((i : Int) + 1) = (i : Int) + 1 := by rw [IntKind.wrap_i64]; omega
    clear hown hone hxv hys hEa hvb hPl hOl hxl
    go_wp2_with fail
    refine Code.wp_mono (Q := fun e a' w' => e = Exit.normal ∧ SpM2 t i zd n bt ct g c zt b5 b6 g0 c0 g1 c1 w3.heap.size lo dp bs cs (w3.alloc (.cells #[.int .i64 ((t.d : Int) + 1), .slice (some ⟨g0, 0, none⟩) (3 + 17 * t.G) c0, .int .i64 ((t.d : Int) + 1), .slice (some ⟨g1, 0, none⟩) (3 + 17 * t.G) c1] 66)).drew XS a' w') ?mono2 ?reg2
    case reg2 =>
     refine wp_region_noPanic ?_
     go_region_law (go_simp; go_wp2_with (first
       | (go_at_call 112; (with_reducible refine KR.mono ?_); clear KR; rintro _ w4 ⟨g', c', rfl, ho4, hE4⟩; have hb4 : w4.heap[zd]? = _ := hE4.keep (HEa.out.keep HBox.out (by simp)) (by simpa using hzbt); have m1 : w4.cell? ⟨zd, 1, none⟩ = some (.slice (some ⟨bt, 0, none⟩) n ct) := (by rw [cell_of_row _ _ _ _ _ _ hb4]; rfl); have f1 : w4.frozen? ⟨zd, 1, none⟩ = false := frozen_of_row _ _ _ _ _ hb4; have HO4 := hid ho4; have HE4 := hid hE4; have HB4 := hid hb4; clear ho4 hE4 hb4)))
     all_goals exact NoPanic.normal ⟨rfl, g', c', w4, rfl, rfl, HO4.out, HE4.out, HB4.out⟩
    case mono2 =>
     rintro e a4 w5 ⟨rfl, g', c', w4, rfl, rfl, ho4, hE4, hb4⟩
     have hE4' : Ext [bt] w3 w4 := (HEa.out.mono (by simp)).trans hE4
     have hnbt : ∀ T, ¬ Tw w3 bt T := (HX.out.tc.keep0 HX3.out).1.not_tw
     have hk4 : ∀ q T, Tw w3 q T → Tw w4 q T := fun q T hT => hT.keep hE4' (by
       rw [List.mem_singleton]; rintro rfl; exact hnbt _ hT)
     obtain ⟨hlog, hTc4⟩ := tc_of_own (L := A ++ ⟨t.d + 1, t.G, X0⟩ :: ⟨t.d + 1, t.G, X1⟩ :: B) ho4 (by simp; omega) (by
       rw [← HXS.out, HYs.out]
       exact split_vals (t0 := ⟨t.d + 1, t.G, X0⟩) (t1 := ⟨t.d + 1, t.G, X1⟩) (by rw [hi]; exact HPl.out) HOl.out (fun k u hu => by
         obtain ⟨q, cq, q1, q2, q3⟩ := HXv.out k u hu
         exact ⟨q, cq, q1, q2, hk4 _ _ q3⟩) (hk4 _ _ HT0.out) (hk4 _ _ HT1.out))
     have hst := Ext.setCell [zd] w4 ⟨zd, 1, none⟩ (.slice (some ⟨g', 0, none⟩) (n + 1) c') (by simp)
     have hb5' := heap_setCell_same w4 zd 1 _ 27 (.slice (some ⟨g', 0, none⟩) (n + 1) c') hb4
     obtain ⟨w5, hw5⟩ : ∃ w5, w4.setCell ⟨zd, 1, none⟩ (.slice (some ⟨g', 0, none⟩) (n + 1) c') = w5 := ⟨_, rfl⟩
     rw [hw5] at hst hb5' ⊢
     have hbx5 : w5.heap[zd]? = some (.cells #[.int .i64 (dp : Nat), .slice (some ⟨g', 0, none⟩) (n + 1) c', .slice (some ⟨bs, 0, none⟩) (2 ^ dp) cs] 27) := hb5'
     have hzd3 : zd < w3.heap.size := lt_of_heap HBox.out
     have hnzd : ∀ T, ¬ Tw w4 zd T := by
       rintro T ⟨cs', h1, _⟩
       rw [hb4] at h1; cases h1
     have hb5bt : b5 ≠ bt := by
       rintro rfl
       have := (own_of_tc (lo := 0) HX.out.tc (Nat.zero_le _) rfl)
       have h1 := HX.out.tc.1.lt
       have := HEU.out.size
       omega
     have hb5zd : b5 ≠ zd := by
       rintro rfl
       have h1 := lt_of_heap HX.out.box
       have := HEU.out.size
       omega
     have hgzd : g' ≠ zd := by
       rintro rfl
       obtain ⟨cs', h1, _⟩ := hTc4.1
       rw [hb4] at h1; cases h1
     have hTc5 := hTc4.keep hst (by simpa using hgzd) (by simpa using hnzd)
     have h55 : w5.heap[b5]? = _ := hst.keep (hE4'.keep H5.out (by simpa using hb5bt)) (by simpa using hb5zd)
     have j0 : w5.cell? ⟨zd, 0, none⟩ = some (.int .i64 (dp : Nat)) := by rw [cell_of_row _ _ _ _ _ _ hbx5]; rfl
     have j5 : w5.cell? ⟨b5, 0, none⟩ = some (.int .i64 ((t.d : Int) + 1)) := by rw [cell_of_row _ _ _ _ _ _ h55]; rfl
     have fz : w5.frozen? ⟨zd, 0, none⟩ = false := frozen_of_row _ _ _ _ _ hbx5
     have hEw5 : Ext [zd, bt] w w5 := ((HX3.out.mono (by simp)).trans (hE4'.mono (by simp))).trans (hst.mono (by simp))
     have HTc5 := hid hTc5
     have HBx5 := hid hbx5
     have HEw5 := hid hEw5
     clear hst hb5' hw5 hTc4 hE4 hE4' ho4 hb4 hk4 hnbt hbx5 h55 hTc5 hEw5 k1 k5 k6 k7 k8 ka1 kb1 KR hnzd
     go_wp2_with fail
     go_region_law (fail)
     all_goals
      obtain ⟨dm, hdm⟩ : ∃ dm, max dp (t.d + 1) = dm := ⟨_, rfl⟩
      have hmx : (if (dp : Int) < (t.d : Int) + 1 then (t.d : Int) + 1 else (dp : Int)) = (dm : Int) := by rw [← hdm]; split <;> omega
      have hDm := dq_max HD.out ht6 HH0.out.toHol HH1.out.toHol
      rw [hdm] at hDm
      rw [hmx]
      have hst := (Ext.setCell [zd] w5 ⟨zd, 0, none⟩ (.int .i64 (dm : Nat)) (by simp)).trans (Ext.drew [zd] _)
      have hbx6 := heap_setCell_same w5 zd 0 _ 27 (.int .i64 (dm : Nat)) HBx5.out
      obtain ⟨w6, hw6⟩ : ∃ w6, (w5.setCell ⟨zd, 0, none⟩ (.int .i64 (dm : Nat))).drew = w6 := ⟨_, rfl⟩
      have hb6' : w6.heap[zd]? = some (.cells #[.int .i64 (dm : Nat), .slice (some ⟨g', 0, none⟩) (n + 1) c', .slice (some ⟨bs, 0, none⟩) (2 ^ dp) cs] 27) := by rw [← hw6]; exact hbx6
      rw [hw6] at hst ⊢
      clear hbx6 hw6
      have hn5 : ∀ T, ¬ Tw w5 zd T := by
        rintro T ⟨cs', h1, _⟩
        rw [HBx5.out] at h1; cases h1
      have hTc6 := HTc5.out.keep hst (by simpa using hgzd) (by simpa using hn5)
      have hEw6 : Ext [zd, bt] w w6 := HEw5.out.trans (hst.mono (by simp))
      have q0 : w6.cell? ⟨zd, 0, none⟩ = some (.int .i64 (dm : Nat)) := by rw [cell_of_row _ _ _ _ _ _ hb6']; rfl
      have q1 : w6.cell? ⟨zd, 1, none⟩ = some (.slice (some ⟨g', 0, none⟩) (n + 1) c') := by rw [cell_of_row _ _ _ _ _ _ hb6']; rfl
      have q2 : w6.cell? ⟨zd, 2, none⟩ = some (.slice (some ⟨bs, 0, none⟩) (2 ^ dp) cs) := by rw [cell_of_row _ _ _ _ _ _ hb6']; rfl
      have KS := slotsOf_any dm g' c' (n + 1) _ (some ⟨bs, 0, none⟩) (2 ^ dp) cs rfl _ hDm.le (fun k u hk => hDm.d_le k u hk) hDm.all (by simp; omega) w6 hTc6.1
      obtain ⟨sd, hsd2⟩ : ∃ sd, 2 ^ dp = sd := ⟨_, rfl⟩
      obtain ⟨sm, hsm⟩ : ∃ sm, 2 ^ dm = sm := ⟨_, rfl⟩
      rw [hsd2] at hb6' q2 KS
      rw [hsm] at KS
      have HTc6 := hid hTc6
      have HEw6 := hid hEw6
      have HB6 := hid hb6'
      have HDm := hid hdm
      have HSm := hid hsm
      clear hst hTc6 hEw6 hb6' hn5 hmx j0 j5 fz hdm hsm hsd2
      go_wp2_with (go_at_call 113; refine KS.mono ?_; clear KS q0 q1 q2; rintro _ w7 ⟨g7, c7, rfl, hN7, hg7, hc7, ⟨cur7, hr7⟩, hE7⟩; have hb7 := hE7.keep HB6.out (by simp); have m2 : w7.cell? ⟨zd, 2, none⟩ = some (.slice (some ⟨bs, 0, none⟩) sd cs) := (by rw [cell_of_row _ _ _ _ _ _ hb7]; rfl); have f2 : w7.frozen? ⟨zd, 2, none⟩ = false := frozen_of_row _ _ _ _ _ hb7; have HB7 := hid hb7; have HN7 := hid hN7; have HE7 := hid hE7; clear hb7 hN7 hE7)
      have hst := Ext.setCell [zd] w7 ⟨zd, 2, none⟩ (.slice (some ⟨g7, 0, none⟩) sm c7) (by simp)
      have hbx := heap_setCell_same w7 zd 2 _ 27 (.slice (some ⟨g7, 0, none⟩) sm c7) HB7.out
      have hn7 : ∀ T, ¬ Tw w7 zd T := by
        rintro T ⟨cs', h1, _⟩
        rw [HB7.out] at h1; cases h1
      have hs6 := HEw6.out.size
      have hg7z : g7 ≠ zd := by
        have := lt_of_heap HB6.out
        omega
      refine bodyPost_ret (results_none rfl _ _ _) rfl ⟨⟨_, rfl⟩, X0, X1, g', c', g7, c7, HH0.out, HH1.out, ⟨?_, (HTc6.out.keep0 HE7.out).keep hst (by simpa using hgzd) (by simpa using hn7), ?_, ?_, by simp; omega, hlog, by omega, by have := HTc6.out.1.lt; omega⟩, ?_⟩
      · rw [HDm.out, HSm.out]
        have he : A.length + B.length + 2 = n + 1 := by omega
        rw [he]; exact hbx
      · rw [HDm.out]
        exact HN7.out.keep hst (by simpa using hg7z)
      · rw [HDm.out, HSm.out]; exact hc7
      · exact (HEw6.out.trans (HE7.out.mono (by simp))).trans (hst.mono (by simp))
end Go.Proofs.YtkfagfdefkaenaaDoor.Rf
