/-
  RfH: joined by program; no statement is proved here.
-/
import Derived.Test.YtkknadkcpndnaaaDoorZL
/-
  The document's words of its table; no statement is proved here.
-/
namespace Go.Proofs.YtkknadkcpndnaaaDoor.Rf
open Go.RowKit Go.Shelf
open Pr (Gp GpI sq pl pl_step pl_lt pl_zero sq_len sq_take sq_at)
attribute [local go_sem] Oper.semAt_some run_store_func

theorem take_two {T : List Nat} {a n : Nat} (h : a + n + 1 < T.length) : (T.drop a).take (n + 2) = (T.drop a).take n ++ [T.getD (a + n) 0, T.getD (a + n + 1) 0] := by
  have e1 : (T.drop a)[n]? = some (T.getD (a + n) 0) := by rw [List.getElem?_drop, List.getD_eq_getElem?_getD, List.getElem?_eq_getElem (by omega)]; rfl
  have e2 : (T.drop a)[n + 1]? = some (T.getD (a + n + 1) 0) := by rw [List.getElem?_drop, List.getD_eq_getElem?_getD, ← Nat.add_assoc, List.getElem?_eq_getElem (by omega)]; rfl
  rw [show n + 2 = n + 1 + 1 from rfl, List.take_add_one, List.take_add_one, e1, e2]
  simp
theorem take_row {T : List Nat} {G g : Nat} (hl : T.length = 3 + 17 * G) (hg : g < G) : T.take (3 + 17 * (g + 1)) = T.take (3 + 17 * g) ++ [cw T g] ++ (T.drop (3 + 17 * g + 1)).take 16 := by
  have e1 : T[3 + 17 * g]? = some (cw T g) := by unfold cw; rw [List.getD_eq_getElem?_getD, List.getElem?_eq_getElem (by omega)]; rfl
  rw [show 3 + 17 * (g + 1) = (3 + 17 * g + 1) + 16 by omega, List.take_add, List.take_add_one, e1]
  rfl
theorem cw_step (c k : Nat) : c / 2 ^ (8 * (k + 1)) * 256 + byt c k = c / 2 ^ (8 * k) := by
  unfold byt
  have e : c / 2 ^ (8 * (k + 1)) = c / 2 ^ (8 * k) / 256 := by
    rw [Nat.div_div_eq_div_mul, show 8 * (k + 1) = 8 * k + 8 by omega, Nat.pow_add]
  rw [e]
  omega
theorem step_append_run {P : Program} {ops : Array Oper} {o : Oper} {a : Act} {w w' : World} {K : Act → World → Prop} {Q : Exit → Act → World → Prop} {E : Prop} (hgd : o.guard = none) (s x : Operand) (t : TypeId)
    (ho : o.op = .call { callee := .builtin .append, args := #[s, x], argTypes := #[t, t] }) (vs vx v' : Value) (hs : a.eval s = vs) (hx : a.eval x = vx)
    (hr : (Builtin.append_ #[t, t] o.type #[vs, vx]).run P w = .ok v' w') (h : K (a.put o.dst v') w') :
    if Region.wanted o (yielded ops a.tmps) = true then Oper.wp P o a w K Q else E := by
  rw [if_pos (by simp [Region.wanted, hgd])]
  unfold Oper.wp execOp
  simp only [ho, resolve, invoke, builtin, Sem.run_bind, Sem.run_pure, Result.andThen_ok, List.map_toArray, List.map_cons, List.map_nil, hs, hx, hr]
  exact h
theorem own_three (w w' : World) (x y z : Nat) (h : w'.heap[w.heap.size]? = some (.cells #[.int .u64 (x : Nat), .int .u64 (y : Nat), .int .u64 (z : Nat)] 23 (0, 0))) : w'.ownsRow w.heap.size 23 1 (.slice (some ⟨w.heap.size, 0, none⟩) 3 3) 3 (vw [x, y, z]) :=
  ⟨rfl, .inr ⟨_, 3, _, rfl, Nat.le_refl _, h, Nat.le_refl _, by decide, rfl, rfl⟩⟩
set_option maxRecDepth 100000 in
set_option maxHeartbeats 4000000 in
theorem rwords_any (p q c G : Nat) (T : List Nat) (w : World) (hR : Rt w p q c G T) (hS : Shp T G) (h1 : T.getD 1 0 = knt (fun x => decide (x < 128)) T (8 * G)) (h2 : T.getD 2 0 + knt (fun x => decide (x ≠ 128)) T (8 * G) = 7 * G) : Calls Tryd.prog 28 #[.pointer (some ⟨p, 0, none⟩)] w (FdPost w T) := by
  have hG := hS.gp
  have hle := hG.le
  have hpos := hG.pos
  have hRd := hR.keep0 (Ext.drew [] w)
  have KL := rlen_any p q c G T w.drew hRd hle
  have KF := rleft_any p q c G T w.drew hRd hle
  rw [← h1] at KL
  have e2 : ((7 * G : Nat) : Int) - (knt (fun x => decide (x ≠ 128)) T (8 * G) : Nat) = ((T.getD 2 0 : Nat) : Int) := by omega
  rw [e2] at KF
  obtain ⟨t1, ht1⟩ : ∃ t1, T.getD 1 0 = t1 := ⟨_, rfl⟩
  obtain ⟨t2, ht2⟩ : ∃ t2, T.getD 2 0 = t2 := ⟨_, rfl⟩
  rw [ht1] at KL
  rw [ht2] at KF
  have HR := hid hR
  obtain ⟨f0, f1⟩ := hR.flds
  clear hR h1 h2 e2
  go_enter Tryd.func28, Tryd.ntmps28
  go_wp2_with fail
  have hu0 := u64w (n := G) (by omega)
  have hu1 := u64w (n := t1) (by rw [← ht1]; exact getD_lt64 hS.lt _)
  have hu2 := u64w (n := t2) (by rw [← ht2]; exact getD_lt64 hS.lt _)
  apply region_cut
  case hr =>
    go_region_law (go_simp; go_wp2_with (first
      | (go_at_call 19; refine met KL ?_)
      | (go_at_call 37; refine met KF ?_)))
    all_goals exact NoPanic.normal ⟨rfl, rfl, rfl⟩
  have hlen := hS.len
  have h3 : T.take 3 = [G, t1, t2] := by
    have e0 : T[0]? = some G := by rw [← hS.g0, List.getD_eq_getElem?_getD, List.getElem?_eq_getElem (by omega)]; rfl
    have e1 : T[1]? = some t1 := by rw [← ht1, List.getD_eq_getElem?_getD, List.getElem?_eq_getElem (by omega)]; rfl
    have e2 : T[2]? = some t2 := by rw [← ht2, List.getD_eq_getElem?_getD, List.getElem?_eq_getElem (by omega)]; rfl
    rw [show 3 = 0 + 1 + 1 + 1 from rfl, List.take_add_one, List.take_add_one, List.take_add_one, e0, e1, e2]
    rfl
  have hEa := (Ext.alloc [] w (.cells #[.int .u64 (G : Nat), .int .u64 (t1 : Nat), .int .u64 (t2 : Nat)] 23)).trans (Ext.drew [] _)
  have hro := heap_alloc_new w (.cells #[.int .u64 (G : Nat), .int .u64 (t1 : Nat), .int .u64 (t2 : Nat)] 23)
  obtain ⟨W2, hW2⟩ : ∃ W2, (w.alloc (.cells #[.int .u64 (G : Nat), .int .u64 (t1 : Nat), .int .u64 (t2 : Nat)] 23)).drew = W2 := ⟨_, rfl⟩
  have hO := own_three w W2 G t1 t2 (by rw [← hW2]; exact hro)
  rw [hW2] at hEa ⊢
  rw [← h3] at hO
  have HO := hid hO
  have HE := hid hEa
  have HCw := hid hS.cw_lt
  have HRow := hid (fun g (hg : g < G) => take_row hlen hg)
  have HTwo := hid (fun a n (h : a + n + 1 < T.length) => take_two h)
  have HLen := hid hlen
  clear hW2 hro hO hEa KL KF ht1 ht2 h3 hRd hS hG f0 f1
  go_wp2
  go_loopw [3, 4] (fun v u wr => ∃ g : Nat, u = .int .i64 g ∧ g ≤ G ∧ wr.ownsRow w.heap.size 23 1 v (3 + 17 * g) (vw (T.take (3 + 17 * g))) ∧ Ext [] w wr) (fun _ u _ => (G - (intOf u)).toNat)
  case atStart => exact ⟨0, rfl, by omega, HO.out, HE.out⟩
  case round =>
    obtain ⟨g, rfl, hg, hOg, hEg⟩ := hrel
    have hRr := HR.out.keep0 hEg
    obtain ⟨f0, f1⟩ := hRr.flds
    have HS := hid (fun (i : Nat) (hi : i < 8) (hgG : g < G) => by
      have := hRr.slot (k := 8 * g + i) (by omega)
      rw [sT_at T g i hi] at this
      exact this)
    have HOg := hid hOg
    have HEg := hid hEg
    by_cases hgG : g < G
    · have HRg := hid (HRow.out g hgG)
      have HBt := hid (fun i => cw_step (cw T g) i)
      have HBl := hid (fun i => byt_lt (cw T g) i)
      have hcl := HCw.out g
      have HBe := hid (fun i => show bt T g i = byt (cw T g) i from rfl)
      generalize hCW : cw T g = CW at *
      clear hOg hEg HRow hCW
      go_wp2
      go_loop [5, 7] (fun x u => ∃ k : Nat, k ≤ 8 ∧ u = .int .i64 ((k : Int) - 1) ∧ x = .int .u64 (CW / 2 ^ (8 * k) : Nat)) (fun _ u => (intOf u + 1).toNat)
      case atStart => exact ⟨8, by omega, rfl, by rw [Nat.div_eq_of_lt (by omega)]; rfl⟩
      case round =>
        obtain ⟨k, hk, rfl, rfl⟩ := hrel
        cases k with
        | zero =>
          rw [show CW / 2 ^ (8 * 0) = CW by simp]
          clear hcl HBt HBl HBe
          go_wp2
          go_loopw [6, 8] (fun v u W => ∃ i : Nat, u = .int .i64 i ∧ i ≤ 8 ∧ W.ownsRow wr.heap.size 23 1 v (2 * i) (vw ((T.drop (3 + 17 * g + 1)).take (2 * i))) ∧ Ext [] wr W) (fun _ u _ => (8 - (intOf u)).toNat)
          case atStart => exact ⟨0, rfl, by omega, own_nil _ _ _ _, Ext.refl _ _⟩
          case round =>
            obtain ⟨i, rfl, hi, hOi, hEi⟩ := hrel
            by_cases hi8 : i < 8
            · have hRw := HR.out.keep0 (HEg.out.trans hEi)
              obtain ⟨fw0, fw1⟩ := hRw.flds
              obtain ⟨_, s1, s2⟩ := hRw.slot (k := 8 * g + i) (by omega)
              rw [sT_at T g i hi8] at s1 s2
              have HTw := hid (HTwo.out (3 + 17 * g + 1) (2 * i) (by rw [HLen.out]; omega))
              have hx1 : hsw T g i = T.getD (3 + 17 * g + 1 + 2 * i) 0 := rfl
              have hx2 : idw T g i = T.getD (3 + 17 * g + 1 + 2 * i + 1) 0 := by unfold idw; rw [show 3 + 17 * g + 2 + 2 * i = 3 + 17 * g + 1 + 2 * i + 1 by omega]
              rw [← hx1, ← hx2] at HTw
              have hw1 : IntKind.i64.wrap (8 * (g : Int) + (i : Int)) = ((8 * g + i : Nat) : Int) := by rw [IntKind.wrap_i64] <;> omega
              have hw2 : IntKind.i64.wrap (8 * (g : Int)) = 8 * (g : Int) := by rw [IntKind.wrap_i64] <;> omega
              have hlt2 : 8 * g + i < 8 * G := by omega
              clear hx1 hx2 hRw
              generalize hsw T g i = X at *
              generalize idw T g i = Y at *
              have hE1 := (Ext.alloc [] wr (.cells #[.int .u64 (X : Nat), .int .u64 (Y : Nat)] 23)).trans (Ext.drew [] _)
              have hV := (vs_new wr 23 [.int .u64 (X : Nat), .int .u64 (Y : Nat)]).keep0 (Ext.drew [] _)
              have hqs : q < wr.heap.size := block_lt_of_cell s1
              have hps : p < wr.heap.size := block_lt_of_cell fw1
              obtain ⟨v', w', hr, hO', hE', _⟩ := app_own _ _ (hEi.trans hE1) 22 22 23 _ 8 Tryd.underlying22 info23 rfl (by omega) _ _ _ (own_keep0 hOi hE1) (some ⟨wr.heap.size, 0, none⟩) 2 2 _ rfl hV (by simp [Value.oneCell']) (by omega)
              obtain ⟨a0, c0, rfl, _⟩ := own_slice hOi
              obtain ⟨a1, c2, rfl, _⟩ := own_slice hO'
              have HO' := hid hO'
              have HE' := hid hE'
              clear hO' hE' hE1 hV hOi hEi
              generalize 8 * g + i = kk at *
              have hk2 : (kk : Int) < 8 * (G : Int) := by omega
              have hk3 : (kk : Int) < ((8 * G : Nat) : Int) := by omega
              have hk4 : (0 : Int) ≤ (kk : Int) := by omega
              go_wp2_with fail
              apply region_cut
              case hr =>
                go_region_law (refine step_append_run rfl _ _ 22 rfl _ _ _ (by rfl) (by rfl) hr ?_)
                all_goals exact NoPanic.normal ⟨rfl, rfl, rfl⟩
              go_wp2
              go_roundw
              case rel => exact ⟨i + 1, by go_num, by omega, by have := HO'.out; rw [show 2 * (i + 1) = 2 * i + 2 by omega, HTw.out, vw_append]; exact this, HE'.out⟩
              case measure => simp [intOf]; omega
            · obtain rfl : i = 8 := by omega
              have hOk := own_keep0 HOg.out hEi
              have hE1 := Ext.alloc [] wr (.cells #[.int .u64 (CW : Nat)] 23)
              have hV := vs_new wr 23 [.int .u64 (CW : Nat)]
              obtain ⟨v1, w1, hr1, hO1, hE2, hk1⟩ := app_own w _ ((HEg.out.trans hEi).trans hE1) 22 22 23 _ 8 Tryd.underlying22 info23 rfl (by omega) _ _ _ (own_keep0 hOk hE1) (some ⟨wr.heap.size, 0, none⟩) 1 1 _ rfl hV (by simp [Value.oneCell']) (by omega)
              have hlk := own_keep (own_keep0 hOi hE1) hk1 (fun b hb hlb => by
                have q1 := (own_lt HOg.out b (by simpa using hb)).2
                have q2 := (own_lt hOi b hlb).1
                omega)
              have hll : (List.take (2 * 8) (T.drop (3 + 17 * g + 1))).length = 16 := by rw [List.length_take, List.length_drop, HLen.out]; omega
              obtain ⟨al, cl, rfl, _⟩ := own_slice hlk
              have hVl := own_vs hlk
              obtain ⟨v2, w2, hr2, hO2, hE3, _⟩ := app_own w _ hE2 22 22 23 _ 8 Tryd.underlying22 info23 rfl (by omega) _ _ _ hO1 al 16 cl _ (by rw [vw_len]; exact hll) hVl (vw_one _) (by omega)
              obtain ⟨a0, c0, rfl, _⟩ := own_slice HOg.out
              obtain ⟨a1, c2, rfl, _⟩ := own_slice hO1
              obtain ⟨a2, c3, rfl, _⟩ := own_slice hO2
              have HO2 := hid hO2
              have HE3 := hid hE3
              clear hO1 hE2 hk1 hlk hll hVl hO2 hE3 hOk hE1 hV hOi hEi
              go_wp2_with (at_builtin; first
                | (refine wpList_append_run rfl _ _ 22 rfl _ _ _ rfl rfl hr1 ?_; clear hr1)
                | (refine wpList_append_run rfl _ _ 22 rfl _ _ _ rfl rfl hr2 ?_))
              go_roundw
              case rel => exact ⟨g + 1, by go_num, by omega, by have := HO2.out; rw [HRg.out, vw_append, vw_append, show 3 + 17 * (g + 1) = 3 + 17 * g + 1 + 16 by omega]; exact this, HE3.out⟩
              case measure => simp [intOf]; omega
        | succ k =>
          have s0 := (HS.out k (by omega) hgG).1
          simp only [HBe.out k] at s0
          have hst := HBt.out k
          have hbl := HBl.out k
          have hlt : CW / 2 ^ (8 * k) < 18446744073709551616 := Nat.lt_of_le_of_lt (Nat.div_le_self _ _) hcl
          generalize CW / 2 ^ (8 * (k + 1)) = X at *
          obtain ⟨Y, hY⟩ : ∃ Y, CW / 2 ^ (8 * k) = Y := ⟨_, rfl⟩
          have HY := hid hY
          rw [hY] at hst hlt
          clear hY
          generalize byt CW k = Bk at *
          have hwa : IntKind.u64.wrap ((X : Int) * 256) = (X : Int) * 256 := by rw [IntKind.wrap_u64]; omega
          have hwb : IntKind.u64.wrap ((X : Int) * 256 + (Bk : Int)) = (Y : Int) := by rw [IntKind.wrap_u64]; omega
          have hwc : IntKind.u64.wrap (Bk : Int) = (Bk : Int) := u64w (by omega)
          have hw1 : IntKind.i64.wrap (8 * (g : Int) + (k : Int)) = ((8 * g + k : Nat) : Int) := by rw [IntKind.wrap_i64] <;> omega
          have hw2 : IntKind.i64.wrap (8 * (g : Int)) = 8 * (g : Int) := by rw [IntKind.wrap_i64] <;> omega
          have hki : ((k + 1 : Nat) : Int) - 1 = (k : Int) := by omega
          rw [hki]
          have hlt2 : 8 * g + k < 8 * G := by omega
          have hst' := hid hst
          clear hst hki
          generalize 8 * g + k = kk at *
          go_wp2
          go_round
          case rel => exact ⟨k, by omega, by go_num, by rw [HY.out]⟩
          case measure => simp [intOf]
    · obtain rfl : g = G := by omega
      have hO2 := HOg.out
      rw [List.take_of_length_le (by rw [HLen.out]; omega)] at hO2
      have HF := hid (show FdPost w T (.returned _) wr from ⟨_, rfl, by rw [HLen.out]; exact hO2, HEg.out⟩)
      clear hO2
      go_wp2
      go_ret
      exact HF.out
end Go.Proofs.YtkknadkcpndnaaaDoor.Rf
