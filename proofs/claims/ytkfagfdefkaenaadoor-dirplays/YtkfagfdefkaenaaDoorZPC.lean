/-
  RfH, RfI, Det, RfJ: joined by program; no statement is proved here.
-/
import Derived.Test.YtkfagfdefkaenaaDoorZPB
import Derived.Test.YtkfagfdefkaenaaDoorZF
/-
  The document's words of its table; no statement is proved here.
-/
namespace Go.Proofs.YtkfagfdefkaenaaDoor.Rf
open Go.RowKit Go.Shelf
open Pr (Gp GpI sq pl pl_step pl_lt pl_zero sq_len sq_take sq_at)
attribute [local go_sem] Oper.semAt_some run_store_func

theorem take_two {T : List Nat} {a n : Nat} (h : a + n + 1 < T.length) : (T.drop a).take (n + 2) = (T.drop a).take n ++ [T.getD (a + n) 0, T.getD (a + n + 1) 0] := by
  have e1 : (T.drop a)[n]? = some (T.getD (a + n) 0) := by rw [List.getElem?_drop, List.getD_eq_getElem?_getD, List.getElem?_eq_getElem (by omega)]; rfl
  have e2 : (T.drop a)[n + 1]? = some (T.getD (a + n + 1) 0) := by rw [List.getElem?_drop, List.getD_eq_getElem?_getD, ← Nat.add_assoc, List.getElem?_eq_getElem (by omega)]; rfl
  rw [show n + 2 = n + 1 + 1 from rfl, List.take_add_one, List.take_add_one, e1, e2]
  simp
theorem take_row {T : List Nat} {G g : Nat} (hl : T.length = 3 + 17 * G) (hg : g < G) : T.take (3 + 17 * (g + 1)) = T.take (3 + 17 * g) ++ [cw T g] ++ (T.drop (3 + 17 * g + 1)).take 16 := by
  have e1 : T[3 + 17 * g]? = some (cw T g) := by unfold cw; rw [List.getD_eq_getElem?_getD, List.getElem?_eq_getElem (by omega)]; rfl
  rw [show 3 + 17 * (g + 1) = (3 + 17 * g + 1) + 16 by omega, List.take_add, List.take_add_one, e1]
  rfl
theorem cw_step (c k : Nat) : c / 2 ^ (8 * (k + 1)) * 256 + byt c k = c / 2 ^ (8 * k) := by
  unfold byt
  have e : c / 2 ^ (8 * (k + 1)) = c / 2 ^ (8 * k) / 256 := by
    rw [Nat.div_div_eq_div_mul, show 8 * (k + 1) = 8 * k + 8 by omega, Nat.pow_add]
  rw [e]
  omega
theorem step_append_run {P : Program} {ops : Array Oper} {o : Oper} {a : Act} {w w' : World} {K : Act → World → Prop} {Q : Exit → Act → World → Prop} {E : Prop} (hgd : o.guard = none) (s x : Operand) (t : TypeId)
    (ho : o.op = .call { callee := .builtin .append, args := #[s, x], argTypes := #[t, t] }) (vs vx v' : Value) (hs : a.eval s = vs) (hx : a.eval x = vx)
    (hr : (Builtin.append_ #[t, t] o.type #[vs, vx]).run P w = .ok v' w') (h : K (a.put o.dst v') w') :
    if Region.wanted o (yielded ops a.tmps) = true then Oper.wp P o a w K Q else E := by
  rw [if_pos (by simp [Region.wanted, hgd])]
  unfold Oper.wp execOp
  simp only [ho, resolve, invoke, builtin, Sem.run_bind, Sem.run_pure, Result.andThen_ok, List.map_toArray, List.map_cons, List.map_nil, hs, hx, hr]
  exact h
theorem own_three (w w' : World) (x y z : Nat) (h : w'.heap[w.heap.size]? = some (.cells #[.int .u64 (x : Nat), .int .u64 (y : Nat), .int .u64 (z : Nat)] 37 (0, 0))) : w'.ownsRow w.heap.size 37 1 (.slice (some ⟨w.heap.size, 0, none⟩) 3 3) 3 (vw [x, y, z]) :=
  ⟨rfl, .inr ⟨_, 3, _, rfl, Nat.le_refl _, h, Nat.le_refl _, by decide, rfl, rfl⟩⟩
set_option maxRecDepth 100000 in
set_option maxHeartbeats 4000000 in
theorem rwords_any (p q c G : Nat) (T : List Nat) (w : World) (hR : Rt w p q c G T) (hS : Shp T G) (h1 : T.getD 1 0 = knt (fun x => decide (x < 128)) T (8 * G)) (h2 : T.getD 2 0 + knt (fun x => decide (x ≠ 128)) T (8 * G) = 7 * G) : Calls Tryd.prog 48 #[.pointer (some ⟨p, 0, none⟩)] w (FdPost w T) := by
  have hG := hS.gp
  have hle := hG.le
  have hpos := hG.pos
  have hRd := hR.keep0 (Ext.drew [] w)
  have KL := rlen_any p q c G T w.drew hRd hle
  have KF := rleft_any p q c G T w.drew hRd hle
  rw [← h1] at KL
  have e2 : ((7 * G : Nat) : Int) - (knt (fun x => decide (x ≠ 128)) T (8 * G) : Nat) = ((T.getD 2 0 : Nat) : Int) := by omega
  rw [e2] at KF
  obtain ⟨t1, ht1⟩ : ∃ t1, T.getD 1 0 = t1 := ⟨_, rfl⟩
  obtain ⟨t2, ht2⟩ : ∃ t2, T.getD 2 0 = t2 := ⟨_, rfl⟩
  rw [ht1] at KL
  rw [ht2] at KF
  have HR := hid hR
  obtain ⟨f0, f1⟩ := hR.flds
  clear hR h1 h2 e2
  go_enter Tryd.func48, Tryd.ntmps48
  go_wp2_with fail
  have hu0 := u64w (n := G) (by omega)
  have hu1 := u64w (n := t1) (by rw [← ht1]; exact getD_lt64 hS.lt _)
  have hu2 := u64w (n := t2) (by rw [← ht2]; exact getD_lt64 hS.lt _)
  apply region_cut
  case hr =>
    go_region_law (go_simp; go_wp2_with (first
      | (go_at_call 45; refine met KL ?_)
      | (go_at_call 83; refine met KF ?_)))
    all_goals exact NoPanic.normal ⟨rfl, rfl, rfl⟩
  have hlen := hS.len
  have h3 : T.take 3 = [G, t1, t2] := by
    have e0 : T[0]? = some G := by rw [← hS.g0, List.getD_eq_getElem?_getD, List.getElem?_eq_getElem (by omega)]; rfl
    have e1 : T[1]? = some t1 := by rw [← ht1, List.getD_eq_getElem?_getD, List.getElem?_eq_getElem (by omega)]; rfl
    have e2 : T[2]? = some t2 := by rw [← ht2, List.getD_eq_getElem?_getD, List.getElem?_eq_getElem (by omega)]; rfl
    rw [show 3 = 0 + 1 + 1 + 1 from rfl, List.take_add_one, List.take_add_one, List.take_add_one, e0, e1, e2]
    rfl
  have hEa := (Ext.alloc [] w (.cells #[.int .u64 (G : Nat), .int .u64 (t1 : Nat), .int .u64 (t2 : Nat)] 37)).trans (Ext.drew [] _)
  have hro := heap_alloc_new w (.cells #[.int .u64 (G : Nat), .int .u64 (t1 : Nat), .int .u64 (t2 : Nat)] 37)
  obtain ⟨W2, hW2⟩ : ∃ W2, (w.alloc (.cells #[.int .u64 (G : Nat), .int .u64 (t1 : Nat), .int .u64 (t2 : Nat)] 37)).drew = W2 := ⟨_, rfl⟩
  have hO := own_three w W2 G t1 t2 (by rw [← hW2]; exact hro)
  rw [hW2] at hEa ⊢
  rw [← h3] at hO
  have HO := hid hO
  have HE := hid hEa
  have HCw := hid hS.cw_lt
  have HRow := hid (fun g (hg : g < G) => take_row hlen hg)
  have HTwo := hid (fun a n (h : a + n + 1 < T.length) => take_two h)
  have HLen := hid hlen
  clear hW2 hro hO hEa KL KF ht1 ht2 h3 hRd hS hG f0 f1
  go_wp2
  go_loopw [3, 4] (fun v u wr => ∃ g : Nat, u = .int .i64 g ∧ g ≤ G ∧ wr.ownsRow w.heap.size 37 1 v (3 + 17 * g) (vw (T.take (3 + 17 * g))) ∧ Ext [] w wr) (fun _ u _ => (G - (intOf u)).toNat)
  case atStart => exact ⟨0, rfl, by omega, HO.out, HE.out⟩
  case round =>
    obtain ⟨g, rfl, hg, hOg, hEg⟩ := hrel
    have hRr := HR.out.keep0 hEg
    obtain ⟨f0, f1⟩ := hRr.flds
    have HS := hid (fun (i : Nat) (hi : i < 8) (hgG : g < G) => by
      have := hRr.slot (k := 8 * g + i) (by omega)
      rw [sT_at T g i hi] at this
      exact this)
    have HOg := hid hOg
    have HEg := hid hEg
    by_cases hgG : g < G
    · have HRg := hid (HRow.out g hgG)
      have HBt := hid (fun i => cw_step (cw T g) i)
      have HBl := hid (fun i => byt_lt (cw T g) i)
      have hcl := HCw.out g
      have HBe := hid (fun i => show bt T g i = byt (cw T g) i from rfl)
      generalize hCW : cw T g = CW at *
      clear hOg hEg HRow hCW
      go_wp2
      go_loop [5, 7] (fun x u => ∃ k : Nat, k ≤ 8 ∧ u = .int .i64 ((k : Int) - 1) ∧ x = .int .u64 (CW / 2 ^ (8 * k) : Nat)) (fun _ u => (intOf u + 1).toNat)
      case atStart => exact ⟨8, by omega, rfl, by rw [Nat.div_eq_of_lt (by omega)]; rfl⟩
      case round =>
        obtain ⟨k, hk, rfl, rfl⟩ := hrel
        cases k with
        | zero =>
          rw [show CW / 2 ^ (8 * 0) = CW by simp]
          clear hcl HBt HBl HBe
          go_wp2
          go_loopw [6, 8] (fun v u W => ∃ i : Nat, u = .int .i64 i ∧ i ≤ 8 ∧ W.ownsRow wr.heap.size 37 1 v (2 * i) (vw ((T.drop (3 + 17 * g + 1)).take (2 * i))) ∧ Ext [] wr W) (fun _ u _ => (8 - (intOf u)).toNat)
          case atStart => exact ⟨0, rfl, by omega, own_nil _ _ _ _, Ext.refl _ _⟩
          case round =>
            obtain ⟨i, rfl, hi, hOi, hEi⟩ := hrel
            by_cases hi8 : i < 8
            · have hRw := HR.out.keep0 (HEg.out.trans hEi)
              obtain ⟨fw0, fw1⟩ := hRw.flds
              obtain ⟨_, s1, s2⟩ := hRw.slot (k := 8 * g + i) (by omega)
              rw [sT_at T g i hi8] at s1 s2
              have HTw := hid (HTwo.out (3 + 17 * g + 1) (2 * i) (by rw [HLen.out]; omega))
              have hx1 : hsw T g i = T.getD (3 + 17 * g + 1 + 2 * i) 0 := rfl
              have hx2 : idw T g i = T.getD (3 + 17 * g + 1 + 2 * i + 1) 0 := by unfold idw; rw [show 3 + 17 * g + 2 + 2 * i = 3 + 17 * g + 1 + 2 * i + 1 by omega]
              rw [← hx1, ← hx2] at HTw
              have hw1 : IntKind.i64.wrap (8 * (g : Int) + (i : Int)) = ((8 * g + i : Nat) : Int) := by rw [IntKind.wrap_i64] <;> omega
              have hw2 : IntKind.i64.wrap (8 * (g : Int)) = 8 * (g : Int) := by rw [IntKind.wrap_i64] <;> omega
              have hlt2 : 8 * g + i < 8 * G := by omega
              clear hx1 hx2 hRw
              generalize hsw T g i = X at *
              generalize idw T g i = Y at *
              have hE1 := (Ext.alloc [] wr (.cells #[.int .u64 (X : Nat), .int .u64 (Y : Nat)] 37)).trans (Ext.drew [] _)
              have hV := (vs_new wr 37 [.int .u64 (X : Nat), .int .u64 (Y : Nat)]).keep0 (Ext.drew [] _)
              have hqs : q < wr.heap.size := block_lt_of_cell s1
              have hps : p < wr.heap.size := block_lt_of_cell fw1
              obtain ⟨v', w', hr, hO', hE', _⟩ := app_own _ _ (hEi.trans hE1) 22 22 37 _ 8 Tryd.underlying22 info37 rfl (by omega) _ _ _ (own_keep0 hOi hE1) (some ⟨wr.heap.size, 0, none⟩) 2 2 _ rfl hV (by simp [Value.oneCell']) (by omega)
              obtain ⟨a0, c0, rfl, _⟩ := own_slice hOi
              obtain ⟨a1, c2, rfl, _⟩ := own_slice hO'
              have HO' := hid hO'
              have HE' := hid hE'
              clear hO' hE' hE1 hV hOi hEi
              generalize 8 * g + i = kk at *
              have hk2 : (kk : Int) < 8 * (G : Int) := by omega
              have hk3 : (kk : Int) < ((8 * G : Nat) : Int) := by omega
              have hk4 : (0 : Int) ≤ (kk : Int) := by omega
              go_wp2_with fail
              apply region_cut
              case hr =>
                go_region_law (refine step_append_run rfl _ _ 22 rfl _ _ _ (by rfl) (by rfl) hr ?_)
                all_goals exact NoPanic.normal ⟨rfl, rfl, rfl⟩
              go_wp2
              go_roundw
              case rel => exact ⟨i + 1, by go_num, by omega, by have := HO'.out; rw [show 2 * (i + 1) = 2 * i + 2 by omega, HTw.out, vw_append]; exact this, HE'.out⟩
              case measure => simp [intOf]; omega
            · obtain rfl : i = 8 := by omega
              have hOk := own_keep0 HOg.out hEi
              have hE1 := Ext.alloc [] wr (.cells #[.int .u64 (CW : Nat)] 37)
              have hV := vs_new wr 37 [.int .u64 (CW : Nat)]
              obtain ⟨v1, w1, hr1, hO1, hE2, hk1⟩ := app_own w _ ((HEg.out.trans hEi).trans hE1) 22 22 37 _ 8 Tryd.underlying22 info37 rfl (by omega) _ _ _ (own_keep0 hOk hE1) (some ⟨wr.heap.size, 0, none⟩) 1 1 _ rfl hV (by simp [Value.oneCell']) (by omega)
              have hlk := own_keep (own_keep0 hOi hE1) hk1 (fun b hb hlb => by
                have q1 := (own_lt HOg.out b (by simpa using hb)).2
                have q2 := (own_lt hOi b hlb).1
                omega)
              have hll : (List.take (2 * 8) (T.drop (3 + 17 * g + 1))).length = 16 := by rw [List.length_take, List.length_drop, HLen.out]; omega
              obtain ⟨al, cl, rfl, _⟩ := own_slice hlk
              have hVl := own_vs hlk
              obtain ⟨v2, w2, hr2, hO2, hE3, _⟩ := app_own w _ hE2 22 22 37 _ 8 Tryd.underlying22 info37 rfl (by omega) _ _ _ hO1 al 16 cl _ (by rw [vw_len]; exact hll) hVl (vw_one _) (by omega)
              obtain ⟨a0, c0, rfl, _⟩ := own_slice HOg.out
              obtain ⟨a1, c2, rfl, _⟩ := own_slice hO1
              obtain ⟨a2, c3, rfl, _⟩ := own_slice hO2
              have HO2 := hid hO2
              have HE3 := hid hE3
              clear hO1 hE2 hk1 hlk hll hVl hO2 hE3 hOk hE1 hV hOi hEi
              go_wp2_with (at_builtin; first
                | (refine wpList_append_run rfl _ _ 22 rfl _ _ _ rfl rfl hr1 ?_; clear hr1)
                | (refine wpList_append_run rfl _ _ 22 rfl _ _ _ rfl rfl hr2 ?_))
              go_roundw
              case rel => exact ⟨g + 1, by go_num, by omega, by have := HO2.out; rw [HRg.out, vw_append, vw_append, show 3 + 17 * (g + 1) = 3 + 17 * g + 1 + 16 by omega]; exact this, HE3.out⟩
              case measure => simp [intOf]; omega
        | succ k =>
          have s0 := (HS.out k (by omega) hgG).1
          simp only [HBe.out k] at s0
          have hst := HBt.out k
          have hbl := HBl.out k
          have hlt : CW / 2 ^ (8 * k) < 18446744073709551616 := Nat.lt_of_le_of_lt (Nat.div_le_self _ _) hcl
          generalize CW / 2 ^ (8 * (k + 1)) = X at *
          obtain ⟨Y, hY⟩ : ∃ Y, CW / 2 ^ (8 * k) = Y := ⟨_, rfl⟩
          have HY := hid hY
          rw [hY] at hst hlt
          clear hY
          generalize byt CW k = Bk at *
          have hwa : IntKind.u64.wrap ((X : Int) * 256) = (X : Int) * 256 := by rw [IntKind.wrap_u64]; omega
          have hwb : IntKind.u64.wrap ((X : Int) * 256 + (Bk : Int)) = (Y : Int) := by rw [IntKind.wrap_u64]; omega
          have hwc : IntKind.u64.wrap (Bk : Int) = (Bk : Int) := u64w (by omega)
          have hw1 : IntKind.i64.wrap (8 * (g : Int) + (k : Int)) = ((8 * g + k : Nat) : Int) := by rw [IntKind.wrap_i64] <;> omega
          have hw2 : IntKind.i64.wrap (8 * (g : Int)) = 8 * (g : Int) := by rw [IntKind.wrap_i64] <;> omega
          have hki : ((k + 1 : Nat) : Int) - 1 = (k : Int) := by omega
          rw [hki]
          have hlt2 : 8 * g + k < 8 * G := by omega
          have hst' := hid hst
          clear hst hki
          generalize 8 * g + k = kk at *
          go_wp2
          go_round
          case rel => exact ⟨k, by omega, by go_num, by rw [HY.out]⟩
          case measure => simp [intOf]
    · obtain rfl : g = G := by omega
      have hO2 := HOg.out
      rw [List.take_of_length_le (by rw [HLen.out]; omega)] at hO2
      have HF := hid (show FdPost w T (.returned _) wr from ⟨_, rfl, by rw [HLen.out]; exact hO2, HEg.out⟩)
      clear hO2
      go_wp2
      go_ret
      exact HF.out
end Go.Proofs.YtkfagfdefkaenaaDoor.Rf

/-
  The document's new table; no statement is proved here.
-/
namespace Go.Proofs.YtkfagfdefkaenaaDoor.Rf
open Go.RowKit Go.Shelf
open Pr (Gp GpI sq pl pl_step pl_lt pl_zero sq_len sq_take sq_at)
attribute [local go_sem] Oper.semAt_some run_store_func

theorem info116 : (Tryd.prog.info? 116).map (fun i => (i.zero, i.size, i.bytes)) = some (some (.agg #[.int .u8 0, .int .u64 0, .int .u64 0]), 3, 24) := by kernel_rfl
theorem made_at (n k : Nat) (hk : k < n) : (madeCells #[.int .u8 0, .int .u64 0, .int .u64 0] (n * 3))[k * 3]? = some (.int .u8 0) ∧ (madeCells #[.int .u8 0, .int .u64 0, .int .u64 0] (n * 3))[k * 3 + 1]? = some (.int .u64 0) ∧ (madeCells #[.int .u8 0, .int .u64 0, .int .u64 0] (n * 3))[k * 3 + 2]? = some (.int .u64 0) := by
  have e0 : k * 3 < n * 3 := by omega
  have e1 : k * 3 + 1 < n * 3 := by omega
  have e2 : k * 3 + 2 < n * 3 := by omega
  refine ⟨?_, ?_, ?_⟩ <;> simp [madeCells, e0, e1, e2, Nat.add_mod]
theorem sT_new {G k : Nat} (hk : k < 8 * G) : sT (newT G) k = (128, 0, 0) := by
  have h1 : k / 8 < G := by omega
  have h2 : k % 8 < 8 := by omega
  have h3 := new_hs (G := G) (k := G) h1 h2
  have h4 : bt (newT G) (k / 8) (k % 8) = 128 := by unfold bt newT; rw [new_cw h1 h1]; exact byt_new _ h2
  unfold sT
  rw [h4]
  unfold newT
  rw [h3.1, h3.2]
/-- The first j slots are empty, the others not yet. -/
structure Nw (w : World) (q n j : Nat) : Prop where
  row : ∃ cs, w.heap[q]? = some (.cells cs 116 (0, 0)) ∧ ∀ k, k < n → cs[k * 3]? = some (.int .u8 (((if k < j then 128 else 0 : Nat)) : Nat)) ∧ cs[k * 3 + 1]? = some (.int .u64 0) ∧ cs[k * 3 + 2]? = some (.int .u64 0)
theorem Nw.frz {w : World} {q n j : Nat} (h : Nw w q n j) (i : Nat) : w.frozen? ⟨q, i, none⟩ = false := by
  obtain ⟨cs, h1, _⟩ := h.row
  exact frozen_of_row w q i cs 116 h1
theorem Nw.set {w : World} {q n j : Nat} (h : Nw w q n j) (hj : j < n) : Nw (w.setCell ⟨q, j * 3, none⟩ (.int .u8 128)) q n (j + 1) := by
  obtain ⟨cs, h1, h2⟩ := h.row
  refine ⟨cs.setIfInBounds (j * 3) (.int .u8 128), heap_setCell_same w q (j * 3) cs 116 _ h1, fun k hk => ?_⟩
  obtain ⟨a0, a1, a2⟩ := h2 k hk
  have l0 : j * 3 < cs.size := (Array.getElem?_eq_some_iff.1 (h2 j hj).1).1
  by_cases e : k = j
  · subst e
    simp [l0, a1, a2]
  · simp only [Array.getElem?_setIfInBounds, show ¬ j * 3 = k * 3 from by omega, show ¬ j * 3 = k * 3 + 1 from by omega, show ¬ j * 3 = k * 3 + 2 from by omega, if_false]
    refine ⟨?_, a1, a2⟩
    rw [a0]
    by_cases q1 : k < j
    · rw [if_pos q1, if_pos (by omega)]
    · rw [if_neg q1, if_neg (by omega)]
set_option maxRecDepth 100000 in
set_option maxHeartbeats 400000 in
theorem rnew_ok (G : Nat) (hG : Gp G) (w : World) : Calls Tryd.prog 36 #[.int .i64 (G : Nat)] w fun e w' => ∃ p q, e = .returned (.tuple #[.pointer (some ⟨p, 0, none⟩), .int .i64 0]) ∧ Rt w' p q (8 * G) G (newT G) ∧ w.heap.size ≤ p ∧ w.heap.size ≤ q ∧ Ext [] w w' := by
  have K := Pr.groups_any G true (by simp [Pr.gpI_nat, hG]) w
  have hle := hG.le
  obtain ⟨i80, hi80, hz80, hs80, hy80⟩ := info_parts info116
  have hr := run_make (P := Tryd.prog) w 90 116 i80 _ Tryd.underlying90 hi80 hz80 .i64 .i64 ((8 * G : Nat) : Int) ((8 * G : Nat) : Int) (by omega) (Int.le_refl _) (by rw [hy80]; omega) (by omega)
  rw [hs80] at hr
  simp only [Int.toNat_natCast] at hr
  rw [show (((8 * G : Nat) : Int)) = 8 * (G : Int) by omega] at hr
  have hN : Nw (w.alloc (.cells (madeCells (Value.agg #[.int .u8 0, .int .u64 0, .int .u64 0]).cells (8 * G * 3)) 116)) w.heap.size (8 * G) 0 := ⟨_, heap_alloc_new w _, fun k hk => made_at (8 * G) k hk⟩
  have hE := Ext.alloc [] w (.cells (madeCells (Value.agg #[.int .u8 0, .int .u64 0, .int .u64 0]).cells (8 * G * 3)) 116)
  have hsz := World.size_alloc w (.cells (madeCells (Value.agg #[.int .u8 0, .int .u64 0, .int .u64 0]).cells (8 * G * 3)) 116)
  generalize w.alloc (.cells (madeCells (Value.agg #[.int .u8 0, .int .u64 0, .int .u64 0]).cells (8 * G * 3)) 116) = w1 at hr hN hE hsz
  have HN := hid hN
  have HE := hid hE
  have HSz := hid hsz
  clear hG hN hE hi80 hz80 hs80 hy80 hsz
  go_enter Tryd.func36, Tryd.ntmps36
  go_wp2_with fail
  refine met K ?_
  clear K
  go_wp2_with fail
  have hp0 := heap_alloc_new w1 (.cells #[.int .i64 (G : Nat), .slice (some ⟨w.heap.size, 0, none⟩) (8 * G) (8 * G)] 92)
  have hE3 := Ext.alloc [] w1 (.cells #[.int .i64 (G : Nat), .slice (some ⟨w.heap.size, 0, none⟩) (8 * G) (8 * G)] 92)
  obtain ⟨W3, hW3⟩ : ∃ W3, w1.alloc (.cells #[.int .i64 (G : Nat), .slice (some ⟨w.heap.size, 0, none⟩) (8 * G) (8 * G)] 92) = W3 := ⟨_, rfl⟩
  rw [hW3] at hp0 hE3 ⊢
  have HN3 := hid (show Nw W3 w.heap.size (8 * G) 0 from by
    obtain ⟨cs, h1, h2⟩ := HN.out.row
    exact ⟨cs, hE3.keep h1 (by simp), h2⟩)
  have HP3 := hid hp0
  have HE3 := hid (HE.out.trans hE3)
  have hqp : w.heap.size < w1.heap.size := by have := HSz.out; omega
  have HQp := hid hqp
  have HW := hid (show w.heap.size ≤ w.heap.size from Nat.le_refl _)
  clear hW3 hE3 hp0 HN HE HSz hr hqp
  go_loopw [5] (fun u wr => ∃ j : Nat, u = .int .i64 j ∧ j ≤ 8 * G ∧ wr.heap[w1.heap.size]? = some (.cells #[.int .i64 (G : Nat), .slice (some ⟨w.heap.size, 0, none⟩) (8 * G) (8 * G)] 92 (0, 0)) ∧ Nw wr w.heap.size (8 * G) j ∧ Ext [] w wr) (fun u _ => (8 * G - (intOf u)).toNat)
  case atStart => exact ⟨0, rfl, by omega, HP3.out, HN3.out, HE3.out⟩
  case round =>
    obtain ⟨j, rfl, hj, hP, hN, hX⟩ := hrel
    have f1 : wr.cell? ⟨w1.heap.size, 1, none⟩ = some (.slice (some ⟨w.heap.size, 0, none⟩) (8 * G) (8 * G)) := by rw [cell_of_row _ _ _ _ _ _ hP]; rfl
    by_cases hjG : j < 8 * G
    · have z0 := hN.frz (j * 3)
      obtain ⟨cs, h1, h2⟩ := hN.row
      have c0 : wr.cell? ⟨w.heap.size, j * 3, none⟩ = some (.int .u8 (((if j < j then 128 else 0 : Nat)) : Nat)) := by rw [cell_of_row _ _ _ _ _ _ h1]; exact (h2 j hjG).1
      have hS := Ext.setCell [w.heap.size] wr ⟨w.heap.size, j * 3, none⟩ (.int .u8 128) (by simp)
      have HA := hid (And.intro (hS.keep hP (by have := HQp.out; simp; omega)) (And.intro (hN.set hjG) (hX.on hS (by simp))))
      clear hP hN hX h1 h2 hS
      go_wp2
      go_roundw
      case rel => exact ⟨j + 1, by go_num, by omega, HA.out.1, HA.out.2.1, HA.out.2.2⟩
      case measure => simp [intOf]; omega
    · obtain rfl : j = 8 * G := by omega
      have HP := hid hP
      have HNN := hid hN
      have HX := hid hX
      clear hP hN hX
      go_wp2
      go_ret2
      refine ⟨w1.heap.size, w.heap.size, rfl, ⟨HP.out, ?_⟩, Nat.le_of_lt HQp.out, Nat.le_refl _, HX.out⟩
      obtain ⟨cs, h1, h2⟩ := HNN.out.row
      refine ⟨cs, h1, fun k hk => ?_⟩
      rw [sT_new hk]
      have := h2 k hk
      rw [if_pos hk] at this
      exact this
set_option maxRecDepth 100000 in
theorem rnew_bad (G : Int) (hG : ¬ GpI G) (w : World) : Calls Tryd.prog 36 #[.int .i64 G] w fun e w' => e = .returned (.tuple #[.pointer none, .int .i64 2]) ∧ w' = w := by
  have K := Pr.groups_any G false (by simp [hG]) w
  clear hG
  go_enter Tryd.func36, Tryd.ntmps36
  go_wp2_with fail
  refine met K ?_
  clear K
  go_wp2
  go_ret2
  exact ⟨rfl, rfl⟩
end Go.Proofs.YtkfagfdefkaenaaDoor.Rf

/-
  What Insert makes is one thing alone; no statement is proved here.
-/
namespace Go.Proofs.YtkfagfdefkaenaaDoor
open Pr (Gp GpI sq pl)

theorem first_uniq {f : Nat → List Nat} : ∀ {A A' C C' : List Nat} {g g' : Nat}, A ++ g :: C = A' ++ g' :: C' → (∀ x ∈ A, f x = []) → (∀ x ∈ A', f x = []) → f g ≠ [] → f g' ≠ [] → g = g'
  | [], [], _, _, _, _, e, _, _, _, _ => by
    injection e
  | [], a' :: A', _, _, g, g', e, _, h2, h3, _ => by
    injection e with e1 e2
    exact absurd (h2 g (by rw [e1]; simp)) h3
  | a :: A, [], _, _, g, g', e, h1, _, _, h4 => by
    injection e with e1 e2
    exact absurd (h1 g' (by rw [← e1]; simp)) h4
  | a :: A, a' :: A', _, _, g, g', e, h1, h2, h3, h4 => by
    injection e with e1 e2
    exact first_uniq (A := A) (A' := A') e2 (fun x hx => h1 x (by simp [hx])) (fun x hx => h2 x (by simp [hx])) h3 h4
theorem fst_uniq {T : List Nat} {h G g i g' i' : Nat} (h1 : Fst T h G g i) (h2 : Fst T h G g' i') : g = g' ∧ i = i' := by
  obtain ⟨A, C, l, e, ha, ho⟩ := h1
  obtain ⟨A', C', l', e', ha', ho'⟩ := h2
  have hg : g = g' := first_uniq (f := opn T) (e ▸ e') ha ha' (by rw [ho]; simp) (by rw [ho']; simp)
  subst hg
  rw [ho] at ho'
  injection ho' with q _
  exact ⟨rfl, q⟩
theorem insT_det {T A B : List Nat} {G h d : Nat} (h1 : InsT T G h d (some A)) (h2 : InsT T G h d (some B)) : A = B := by
  obtain ⟨g, i, hf, _, rfl⟩ := h1
  obtain ⟨g', i', hf', _, rfl⟩ := h2
  obtain ⟨rfl, rfl⟩ := fst_uniq hf hf'
  rfl
theorem insT_one {T A : List Nat} {G h d : Nat} (h1 : InsT T G h d (some A)) (h2 : InsT T G h d none) : False := by
  obtain ⟨g, i, hf, hno, _⟩ := h1
  exact hno (h2 g i hf)
end Go.Proofs.YtkfagfdefkaenaaDoor

/-
  The document's Insert and Delete beside the program's, in plain words; no statement is proved here.
-/
namespace Go.Proofs.YtkfagfdefkaenaaDoor.Rf
open Go.RowKit Go.Shelf
open Pr (Gp GpI sq pl pl_step pl_lt pl_zero sq_len sq_take sq_at)

theorem Sd.byte {T : List Nat} {G g i : Nat} (hS : Sd T G) (hg : g < G) (hi : i < 8) : bt T g i < 128 ∨ bt T g i = 128 ∨ bt T g i = 254 := (scB_iff.1 (hS.ctl g hg)).1 i hi
theorem Sd.sole {T : List Nat} {G g i j : Nat} (hS : Sd T G) (hg : g < G) (hi : i < 8) (hj : j < 8) (h1 : bt T g i = 254) : bt T g j ≠ 128 := by
  rcases (scB_iff.1 (hS.ctl g hg)).2 with q | q
  · exact q j hj
  · exact absurd h1 (q i hi)
theorem knt_full (T : List Nat) (G : Nat) : knt (fun x => decide (x < 128)) T (8 * G) = nfl T G := by rw [knt_tot, nfl_tot]
theorem knt_used {T : List Nat} {G : Nat} (hS : Sd T G) : knt (fun x => decide (x ≠ 128)) T (8 * G) = nus T G := by
  rw [knt_tot, nus_tot]
  refine tot_same fun g hg => cnt_congr fun i hi => ?_
  rcases Sd.byte hS hg hi with q | q | q
  · simp [q, show bt T g i ≠ 128 by omega]
  · simp [q]
  · simp [q]
theorem opn_ful {T : List Nat} {g : Nat} (hg : ∀ j, j < 8 → bt T g j < 128) : opn T g = [] := by
  rw [opn_eq, List.filter_eq_nil_iff]
  intro i hi
  have := hg i (by simpa using hi)
  simp
  omega
theorem opn_first {T : List Nat} {G g i : Nat} (hS : Sd T G) (hg : g < G) (hi : i < 8) (h1 : ∀ j, j < i → bt T g j < 128) (h2 : ¬ bt T g i < 128) : ∃ l, opn T g = i :: l := by
  rw [opn_eq, show List.range 8 = List.range' 0 i ++ i :: List.range' (i + 1) (8 - i - 1) from by
    rw [List.range_eq_range', show 8 = i + ((8 - i - 1) + 1) by omega, ← List.range'_append_1, List.range'_succ]
    simp]
  rw [List.filter_append, List.filter_cons, if_pos (by rcases Sd.byte hS hg hi with q | q | q <;> simp [q] <;> omega)]
  have : (List.range' 0 i).filter (fun i => decide (bt T g i = 128) || decide (bt T g i = 254)) = [] := by
    rw [List.filter_eq_nil_iff]
    intro j hj
    simp [List.mem_range'] at hj
    have := h1 j (by omega)
    simp
    omega
  rw [this]
  exact ⟨_, rfl⟩
/-- What the document's Insert makes is what the program's makes. -/
theorem ins_agree {T : List Nat} {p q c G h d : Nat} {w' : World} {e : Ending} (hS : Sd T G) (hh : h < 18446744073709551616) (hd : d < 18446744073709551616) (hI : RIns T p q c G h d w' e) :
    (∃ T', InsT T G h d (some T') ∧ e = .returned (.bool true) ∧ Rt w' p q c G T') ∨ (InsT T G h d none ∧ e = .returned (.bool false) ∧ Rt w' p q c G T) := by
  have hlt : ∀ x ∈ sq (h / 128) G, x < G := fun x hx => by
    obtain ⟨n, _, rfl⟩ := List.mem_map.1 hx
    exact pl_lt _ hS.shp.gp.pos n
  have hk := knt_used hS
  have hu := hS.use
  rcases hI with ⟨h1, rfl, hR⟩ | ⟨A, g, C, i, hsq, hg, hi, hA, hj, hn, hc⟩
  · refine .inr ⟨?_, rfl, hR⟩
    rintro g i ⟨A, C, l, e1, _, e2⟩
    rw [opn_ful (h1 g (by rw [e1]; simp))] at e2
    cases e2
  · obtain ⟨l, hl⟩ := opn_first hS hg hi hj hn
    have hF : Fst T h G g i := ⟨A, C, l, hsq, fun x hx => opn_ful (hA x hx), hl⟩
    have hm : mt (cw T g) 128 ≠ 0 ↔ bt T g i = 128 := by
      constructor
      · intro q
        rcases Sd.byte hS hg hi with r | r | r
        · exact absurd r hn
        · exact r
        · exact absurd (mt_zero.2 fun j hj => Sd.sole hS hg hi hj r) q
      · intro r q
        exact mt_zero.1 q i hi r
    rcases hc with ⟨h1, h2, rfl, hR⟩ | ⟨h1, rfl, hR⟩
    · refine .inr ⟨?_, rfl, hR⟩
      intro g' i' hF'
      obtain ⟨rfl, rfl⟩ := fst_uniq hF hF'
      exact ⟨hm.2 h1, by omega⟩
    · have hno : ¬ (mt (cw T g) 128 ≠ 0 ∧ T.getD 2 0 = 0) := fun r => h1 ⟨hm.1 r.1, by omega⟩
      exact .inl ⟨_, ⟨g, i, hF, hno, rfl⟩, rfl, hR _ (ins_sd hS hh hd hF hno).2.1⟩
/-- What the document's Delete makes is what the program's makes. -/
theorem del_agree {T : List Nat} {p q c G h d : Nat} {w' : World} {e : Ending} (hS : Sd T G) (hI : RDel T p q c G h d (wk T (sq (h / 128) G)) w' e) :
    (∃ T', DelT T G h d (some T') ∧ e = .returned (.bool true) ∧ Rt w' p q c G T') ∨ (DelT T G h d none ∧ e = .returned (.bool false) ∧ Rt w' p q c G T) := by
  have hlt : ∀ x ∈ wk T (sq (h / 128) G), x < G := fun x hx => by
    obtain ⟨n, _, rfl⟩ := List.mem_map.1 ((wk_pre T (sq (h / 128) G)).subset hx)
    exact pl_lt _ hS.shp.gp.pos n
  have hits : ∀ A : List Nat, (∀ x ∈ A, x < G) → (∀ x ∈ A, ∀ j, j < 8 → ¬ Its T h d x j) → ∀ p ∈ mtl T h A, idw T p.1 p.2 ≠ d := fun A hA hn p hp => by
    unfold mtl at hp
    obtain ⟨x, hx, hpx⟩ := List.mem_flatMap.1 hp
    rw [mgr_eq hS (hA x hx)] at hpx
    obtain ⟨i, hi, rfl⟩ := List.mem_map.1 hpx
    rw [List.mem_filter] at hi
    have hq := hi.2
    simp only [Bool.and_eq_true, decide_eq_true_eq] at hq
    exact fun r => hn x hx i (by simpa using hi.1) ⟨hq.1, hq.2, r⟩
  rcases hI with ⟨h1, rfl, hR⟩ | ⟨A, g, C, i, hL, hg, hi, hA, hj, hn, rfl, hR⟩
  · exact .inr ⟨hits _ hlt h1, rfl, hR⟩
  · have hx : mgr T h g = (((List.range' 0 i).filter fun i => decide (bt T g i < 128) && decide (hsw T g i = h)).map fun i => (g, i)) ++ (g, i) :: (((List.range' (i + 1) (8 - i - 1)).filter fun i => decide (bt T g i < 128) && decide (hsw T g i = h)).map fun i => (g, i)) := by
      rw [mgr_eq hS hg, show List.range 8 = List.range' 0 i ++ i :: List.range' (i + 1) (8 - i - 1) from by
        rw [List.range_eq_range', show 8 = i + ((8 - i - 1) + 1) by omega, ← List.range'_append_1, List.range'_succ]
        simp]
      rw [List.filter_append, List.filter_cons, if_pos (by simp [hn.1, hn.2.1]), List.map_append, List.map_cons]
    refine .inl ⟨_, ⟨mtl T h A ++ (((List.range' 0 i).filter fun i => decide (bt T g i < 128) && decide (hsw T g i = h)).map fun i => (g, i)), (g, i), (((List.range' (i + 1) (8 - i - 1)).filter fun i => decide (bt T g i < 128) && decide (hsw T g i = h)).map fun i => (g, i)) ++ mtl T h C, ?_, ?_, hn.2.2, rfl⟩, rfl, ?_⟩
    · unfold mts
      rw [hL]
      unfold mtl
      rw [List.flatMap_append, List.flatMap_cons, hx]
      simp only [List.append_assoc, List.cons_append]
    · intro p hp
      rw [List.mem_append] at hp
      rcases hp with hp | hp
      · exact hits A (fun x hx => hlt x (by rw [hL]; simp [hx])) hA p hp
      · obtain ⟨j, hj2, rfl⟩ := List.mem_map.1 hp
        rw [List.mem_filter] at hj2
        have hq := hj2.2
        simp only [Bool.and_eq_true, decide_eq_true_eq] at hq
        have hji : j < i := by
          have := hj2.1
          simp [List.mem_range'] at this
          exact this
        exact fun r => hj j hji ⟨hq.1, hq.2, r⟩
    · refine hR _ ?_
      have u := (del_sd hS hg hi hn.1).2.1
      have e : (if mt (cw T g) 128 = 0 then 254 else 128) = (if hasE T g = true then 128 else 254) := by
        unfold hasE
        by_cases q : mt (cw T g) 128 = 0 <;> simp [q]
      rw [e] at u
      exact u
/-- What the document finds is what the program finds. -/
theorem find_agree {T : List Nat} {G : Nat} (hS : Sd T G) (h : Nat) : (wk T (sq (h / 128) G)).flatMap (sl T h) = fnd T h G := by
  unfold fnd mts mtl
  rw [List.map_flatMap]
  refine flatMap_same fun g hg => ?_
  obtain ⟨n, _, rfl⟩ := List.mem_map.1 ((wk_pre T (sq (h / 128) G)).subset hg)
  rw [mgr_eq hS (pl_lt _ hS.shp.gp.pos n), List.map_map]
  rfl
end Go.Proofs.YtkfagfdefkaenaaDoor.Rf
