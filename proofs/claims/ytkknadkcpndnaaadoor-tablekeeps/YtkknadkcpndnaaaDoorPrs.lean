/-
  All and the law's pairs; no statement is proved here.
-/
import Derived.Test.YtkknadkcpndnaaaDoorGro
import Derived.Test.YtkknadkcpndnaaaDoorFou
namespace Go.Proofs.YtkknadkcpndnaaaDoor
open Go.RowKit Go.Shelf
open Pr (Gp GpI sq pl)
attribute [local go_sem] Oper.semAt_some run_store_func wide_fn wide_depth

theorem wpListIn_append_run {F : Fence} {n : Nat} {P : Program} {w w' : World} {ops : Array Oper} {rest : List Oper} {o : Oper} {a : Act} {Q : Exit → Act → World → Prop} (hgd : o.guard = none) (s x : Operand) (t : TypeId)
    (ho : o.op = .call { callee := .builtin .append, args := #[s, x], argTypes := #[t, t] }) (vs vx v' : Value) (hs : a.eval s = vs) (hx : a.eval x = vx)
    (hr : (Builtin.append_ #[t, t] o.type #[vs, vx]).run P w = .ok v' w') (h : wpListIn F n P ops Q rest (a.put o.dst v') w') : wpListIn F n P ops Q (o :: rest) a w := by
  refine wpListIn_plain hgd fun K hK => ?_
  unfold Oper.wpIn
  refine ⟨by simp [Oper.about, ho, resolve, Target.leads, Sem.run_pure], ?_⟩
  rw [Oper.semAt_plain F _ _ (by rw [ho]; intro c hc'; cases hc')]
  simp [execOp, ho, resolve, invoke, builtin, hs, hx, hr, Result.andThen]
  exact hK _ _ h
/-- Two words more: the world behind append and store. -/
theorem gat_push2 {w1 W U : World} {z1 : Nat} {L : List Nat} {x y : Nat} {va : Option Addr} {n vc : Nat} (hn : L.length = n) (hw : w1.heap.size = z1) (hv : Boxed W z1 22 (.slice va n vc)) (ho : W.ownsRow z1 23 1 (.slice va n vc) n (vw L)) (hvn : ∀ q, (Value.slice va n vc).ownBlock = some q → z1 < q) (hB : Below z1 w1 W) (hU : Ext [] W U)
    (hx : U.cell? ⟨W.heap.size, 0, none⟩ = some (.int .u64 (x : Nat))) (hy : U.cell? ⟨W.heap.size, 1, none⟩ = some (.int .u64 (y : Nat))) (hl : n ≤ 1000000) :
    ∃ v' U', (Builtin.append_ #[22, 22] 22 #[.slice va n vc, .slice (some ⟨W.heap.size, 0, none⟩) 2 2]).run Tryd.prog U = .ok v' U' ∧ (∃ a' c', v' = .slice a' (n + 2) c') ∧ Boxed U' z1 22 (.slice va n vc) ∧ Gat w1 z1 (L ++ [x, y]) (U'.setCell ⟨z1, 0, none⟩ v') ∧ Kc (Obx z1) W (U'.setCell ⟨z1, 0, none⟩ v') ∧ KeepsOthers W (U'.setCell ⟨z1, 0, none⟩ v') ∧ Ext (z1 :: (Value.slice va n vc).ownBlock.toList) W (U'.setCell ⟨z1, 0, none⟩ v') ∧ Ext (Value.slice va n vc).ownBlock.toList W U' := by
  obtain ⟨i, hi0, hz0, hz1, hz2⟩ := info_parts info23
  have hz1l := hv.lt
  obtain ⟨v', U', hr, ho5, hg5, _, hn5⟩ := run_append_own_at (P := Tryd.prog) U z1 22 22 23 i _ 1 8 Tryd.underlying22 hi0 hz0 hz1 hz2 rfl (by decide) (.slice va n vc) n (vw L) (own_keep0 ho hU) ⟨W.heap.size, 0, none⟩ 2 2 [.int .u64 (x : Nat), .int .u64 (y : Nat)] rfl (fun j u2 hu2 => by
    cases j with
    | zero => rw [Addr.add_lit, Nat.zero_add, hx, ← hu2]; rfl
    | succ j =>
      cases j with
      | zero => rw [Addr.add_lit, Nat.zero_add, hy, ← hu2]; rfl
      | succ j => simp at hu2) (by simp [Value.oneCell']) (by unfold maxLen; omega) (by omega) (by have := hU.size; omega)
  have hx5 : Ext (Value.slice va n vc).ownBlock.toList W U' := (hU.mono (by simp)).trans (ext_grown hg5)
  have hzn : z1 ∉ (Value.slice va n vc).ownBlock.toList := by
    intro hm
    rw [Option.mem_toList] at hm
    have := hvn z1 hm
    omega
  have hbz : Boxed U' z1 22 (.slice va n vc) := hx5.keep hv hzn
  have hx6 := Ext.setCell [z1] U' ⟨z1, 0, none⟩ v' (by simp)
  have hvn5 : ∀ g, v'.ownBlock = some g → z1 < g := fun g hg => by
    rcases hn5 with q | q
    · rw [q] at hg; exact hvn g hg
    · rw [q] at hg; simp at hg; have := hU.size; omega
  obtain ⟨a5, c5, hv5, _⟩ := own_slice ho5
  have hxx : Ext (z1 :: (Value.slice va n vc).ownBlock.toList) W (U'.setCell ⟨z1, 0, none⟩ v') := (hx5.mono (by simp; intro a ha; exact .inr ha)).trans (hx6.mono (by simp))
  refine ⟨v', U', hr, ⟨a5, c5, hv5⟩, hbz, ⟨⟨v', hbz.set v', ?_, hvn5⟩, ?_⟩, kc_gat hv (hbz.set v') hxx ?_, ?_, hxx, hx5⟩
  · rw [List.length_append, vw_append, hn]
    exact own_keep ho5 hx6 (fun q hq hvv => by simp only [List.mem_singleton] at hq; have := hvn5 q hvv; omega)
  · refine hB.trans ⟨hxx.os, hxx.tape, hxx.output, hxx.size, fun k hk => hxx.block k (by omega) (fun q => ?_)⟩
    rcases List.mem_cons.1 q with e | q
    · omega
    · rw [Option.mem_toList] at q
      have := hvn k q
      omega
  · rcases hn5 with q | q
    · exact .inl q
    · right
      intro k hk
      rw [q] at hk
      simp at hk
      have := hU.size
      omega
  · refine ⟨hxx.size, fun k o hk ho' => hxx.keep hk (fun q => ?_)⟩
    rcases List.mem_cons.1 q with e | q
    · subst e; rw [show W.heap[k]? = _ from hv] at hk; cases hk; cases ho'
    · rw [Option.mem_toList] at q
      rcases ho.2 with ⟨e, _⟩ | ⟨g, cap, cur, e, _, hg, _⟩
      · rw [e] at q; simp [Value.ownBlock] at q
      · rw [e] at q; simp [Value.ownBlock] at q; subst q; rw [hg] at hk; cases hk; cases ho'
/-- Pairs laid one behind the other. -/
def flat2 (E : List (Nat × Nat)) : List Nat := E.flatMap fun p => [p.1, p.2]
theorem flat2_app (A B : List (Nat × Nat)) : flat2 (A ++ B) = flat2 A ++ flat2 B := by simp [flat2]
theorem flat2_len : ∀ E : List (Nat × Nat), (flat2 E).length = 2 * E.length
  | [] => rfl
  | p :: E => by
    have := flat2_len E
    simp only [flat2, List.flatMap_cons, List.length_append, List.length_cons, List.length_nil] at this ⊢
    omega
theorem eql_func_nil66 (w : World) (gf : FuncId) (lb : Array Value) : (binOp .eql 66 (.func (.func gf) #[] lb) .nilFunc).run Tryd.prog w = .ok (.bool false) w := by
  have h : ∀ d, (Op.equalIn (d + 1) 66 (.func (.func gf) #[] lb) .nilFunc).run Tryd.prog w = .ok false w := fun d => by simp [Op.equalIn, run_underlying Tryd.underlying66]
  simp only [binOp]
  simp [Op.equal, Op.maxDepth, h 9999]
def AlPost (w : World) (T : List Nat) (G : Nat) (e : Ending) (w' : World) : Prop := ∃ Bt g cc, e = .returned (.tuple #[.func (.func 78) #[] #[.pointer (some ⟨Bt, 0, none⟩)], .int .i64 0]) ∧ Boxed w' Bt 22 (.slice (some ⟨g, 0, none⟩) (3 + 17 * G) cc) ∧ Tw w' g T ∧ w.heap.size ≤ g ∧ w.heap.size ≤ Bt ∧ Ext [] w w'
theorem tall_any (b o c : Nat) (T : List Nat) (G : Nat) (hSd : Sd T G) (w : World) (hT : Wd w (some ⟨b, o, none⟩) T) : Calls Tryd.prog 33 #[.slice (some ⟨b, o, none⟩) (3 + 17 * G) c] w (AlPost w T G) := by
  have K0 := sound_true (some ⟨b, o, none⟩) c T G hSd w hT
  have hG := hSd.shp.gp.le
  have HT := hid hT
  have HL := hid hSd.shp.len
  clear hT hSd
  go_enter Tryd.func33, Tryd.ntmps33
  go_wp2_with fail
  refine K0.mono ?_
  clear K0
  rintro _ w1 ⟨rfl, hX1⟩
  have K1 := clone_any b o (3 + 17 * G) c T w1 (HT.out.keep0 hX1) HL.out (by omega) (by omega)
  have HX1 := hid hX1
  clear hX1
  go_wp2_with fail
  refine K1.mono ?_
  clear K1
  rintro _ w2 ⟨g, cc, rfl, hTw, hg, hX2⟩
  have K2 := entries_any (some ⟨g, 0, none⟩) (3 + 17 * G) cc w2
  have HX2 := hid (HX1.out.trans hX2)
  have HTw := hid hTw
  have hs1 := HX1.out.size
  clear hX2 hTw
  go_wp2_with fail
  refine K2.mono ?_
  clear K2
  rintro _ _ ⟨rfl, rfl⟩
  go_wp2
  go_ret2
  have hx := Ext.alloc [] w2 (.cells #[.slice (some ⟨g, 0, none⟩) (3 + 17 * G) cc] 22)
  exact ⟨_, g, cc, rfl, Boxed.new w2 22 _, HTw.out.keep0 hx, by omega, HX2.out.size, HX2.out.trans hx⟩

set_option maxRecDepth 100000 in
set_option maxHeartbeats 4000000 in
theorem pairs_any (a : Option Addr) (c : Nat) (T : List Nat) (G : Nat) (hSd : Sd T G) (w : World) (hT : Wd w a T) (hTb : Tb w) :
    Calls Tryd.prog 15 #[.slice a (3 + 17 * G) c] w (FoPost w (flat2 (ents T G))) := by
  have hlen := hSd.shp.len
  have hG := hSd.shp.gp.le
  have hml := ents_len T G
  refine (callsIn_wide (n := 14)).1 ?_
  refine callsIn_of_wp_marks Tryd.func15 rfl trivial ?_ rfl
  simp only [Tryd.ntmps15, List.size_toArray, List.length_cons, List.length_nil, Nat.reduceAdd, Nat.reduceSub, Array.replicate_succ, Array.replicate_zero, List.push_toArray, List.append_toArray, List.nil_append, List.cons_append]
  obtain ⟨z, hz⟩ : ∃ z, w.heap.size = z := ⟨_, rfl⟩
  obtain ⟨W0, hW0⟩ : ∃ W0, ((w.alloc (.cells #[.slice a (3 + 17 * G) c] 22)).alloc (.cells #[.slice none 0 0] 22)).alloc (.cells #[.bool false] 4) = W0 := ⟨_, rfl⟩
  have hE0 : Ext [] w W0 := by rw [← hW0]; exact ((Ext.alloc [] _ _).trans (Ext.alloc [] _ _)).trans (Ext.alloc [] _ _)
  have b0 : Boxed W0 z 22 (.slice a (3 + 17 * G) c) := by rw [← hW0, ← hz]; exact ((Boxed.new w 22 _).alloc _).alloc _
  have b1 : Boxed W0 (z + 1) 22 (.slice none 0 0) := by
    have := (Boxed.new (w.alloc (.cells #[.slice a (3 + 17 * G) c] 22)) 22 (.slice none 0 0)).alloc (.cells #[.bool false] 4)
    rw [hW0, World.size_alloc, hz] at this; exact this
  have b2 : Boxed W0 (z + 2) 4 (.bool false) := by
    have := Boxed.new ((w.alloc (.cells #[.slice a (3 + 17 * G) c] 22)).alloc (.cells #[.slice none 0 0] 22)) 4 (.bool false)
    rw [hW0, World.size_alloc, World.size_alloc, hz] at this; exact this
  have cZ := b0.cell
  have K0 := ownT_any a (3 + 17 * G) c T W0 (hT.keep0 hE0) (by omega) (by omega) (by omega)
  have HE0 := hid hE0
  have Hb0 := hid b0
  have Hb1 := hid b1
  have Hb2 := hid b2
  have HTb0 := hid (hTb.keep0 hE0)
  have HSd := hid hSd
  have HZ := hid hz
  clear hE0 b0 b1 b2 hT hTb hSd hlen
  gi_wp2_with fail
  try rw [hW0]
  try simp only [hz]
  simp only [show z + 1 + 1 = z + 2 from rfl]
  clear hW0 hz
  gi_at_call 12
  refine (callsIn_wide.2 K0).mono ?_
  clear K0 cZ
  rintro _ w1 ⟨g, cc, rfl, hTw, hg, hX1⟩
  have K1 := tall_any g 0 cc T G HSd.out w1 hTw.wd
  have HX1 := hid hX1
  have HTb1 := hid (HTb0.out.keep0 hX1)
  clear hX1 hTw hg
  gi_wp2_with fail
  gi_at_call 33
  refine (callsIn_wide.2 K1).mono ?_
  clear K1
  rintro _ w2 ⟨Bn, gB, cB, rfl, hbn, hTB, hgB, hBn, hX2⟩
  have hfn := fun W => eql_func_nil66 W 78 #[.pointer (some ⟨Bn, 0, none⟩)]
  have HX2 := hid (HX1.out.trans hX2)
  have HTb2 := hid (HTb1.out.keep0 hX2)
  have HTB := hid hTB
  have Hbn := hid hbn
  clear hX2 HX1 hbn hTB hBn hgB
  gi_wp2_with fail
  clear hfn
  have hEa := Ext.alloc [] w2 (.cells #[.slice none 0 0] 22)
  have hbn' := hEa.keep Hbn.out (by simp)
  have hTB' := HTB.out.keep0 hEa
  have hTb' := HTb2.out.keep0 hEa
  have bL := Boxed.new w2 22 (.slice none 0 0)
  have hB0 := hEa.below
  have hs3 : (w2.alloc (.cells #[.slice none 0 0] 22)).heap.size = w2.heap.size + 1 := by simp
  obtain ⟨z2, hz2⟩ : ∃ z2, w2.heap.size = z2 := ⟨_, rfl⟩
  obtain ⟨W3, hW3⟩ : ∃ W3, w2.alloc (.cells #[.slice none 0 0] 22) = W3 := ⟨_, rfl⟩
  rw [hW3] at hbn' hTB' hTb' bL hB0 hs3 ⊢
  rw [hz2] at bL hB0 hs3 ⊢
  have HZ2 := hid hz2
  have Ht0 := hid (show Boxed w2 z 22 _ from HX2.out.keep Hb0.out (by simp))
  have Ht1 := hid (show Boxed w2 (z + 1) 22 _ from HX2.out.keep Hb1.out (by simp))
  have Ht2 := hid (show Boxed w2 (z + 2) 4 _ from HX2.out.keep Hb2.out (by simp))
  have hzz2 : z + 2 < z2 := by rw [← hz2]; exact Ht2.out.lt
  have hBl2 : Bn < z2 := by rw [← hz2]; exact Hbn.out.lt
  have hgl2 : gB < z2 := by rw [← hz2]; exact HTB.out.lt
  have h3z : z2 + 1 ≤ W3.heap.size ∧ W3.heap.size ≤ z2 + 1 := by omega
  have hO3 : ∀ k ∈ [0, Bn, gB], ¬ Obx z2 W3 k := by
    rintro k hk (rfl | ⟨v, hv, hvo⟩)
    · simp at hk; omega
    · have : v = .slice none 0 0 := boxed_inj hv bL
      subst this
      simp [Value.ownBlock] at hvo
  obtain ⟨cs, hcs, hcs2⟩ := hTB'
  have HEnt := hid (entries_gives 13 (by omega) Bn gB 0 cB G T _ HSd.out.shp (Obx z2) W3 hbn' hcs rfl (Tw.wd ⟨cs, hcs, hcs2⟩) hTb' hO3)
  have HG0 := hid (show Gat w2 z2 (flat2 []) W3 from ⟨⟨_, bL, own_nil _ _ _ _, by simp [Value.ownBlock]⟩, hB0⟩)
  have HCal := hid (cal_gat (α := Nat × Nat) (w1 := w2) (z1 := z2) (B := W3.heap.size) (fun pre => flat2 pre) hz2 (by omega))
  clear hEa hW3 hz2 hs3 Hb0 Hb1 Hb2 hB0 hcs hcs2 hO3 bL hbn' hTb'
  refine loop_givesS rfl (by omega) (gf := 78) (lb := #[.pointer (some ⟨Bn, 0, none⟩)]) rfl trivial (enters_of Tryd.func78 (by kernel_rfl) rfl)
    HEnt.out (fun _ => rfl)
    (fun pre W => Gat w2 z2 (flat2 pre) W) (fun _ _ _ => False) HCal.out
    (fun _ => ⟨fun _ _ _ _ h _ _ => h, fun _ _ _ h => h.elim, fun _ _ _ _ _ h => h.elim⟩)
    HG0.out
    (fun x a' _ => a' = { tmps := #[.slice a (3 + 17 * G) c, .pointer (some ⟨z, 0, none⟩), .pointer (some ⟨z + 1, 0, none⟩), .pointer (some ⟨z + 2, 0, none⟩), .func (.func 78) #[] #[.pointer (some ⟨Bn, 0, none⟩)], .int .i64 0, .pointer (some ⟨z2, 0, none⟩), .int .u64 (x.1 : Nat), .int .u64 (x.2 : Nat), .tuple #[.func (.func 78) #[] #[.pointer (some ⟨Bn, 0, none⟩)], .int .i64 0], .slice a (3 + 17 * G) c, .slice (some ⟨g, 0, none⟩) (3 + 17 * G) cc, .tuple #[.func (.func 78) #[] #[.pointer (some ⟨Bn, 0, none⟩)], .int .i64 0], .func (.func 78) #[] #[.pointer (some ⟨Bn, 0, none⟩)], .int .i64 0, .func (.func 78) #[] #[.pointer (some ⟨Bn, 0, none⟩)], .bool false, .func (.func 78) #[] #[.pointer (some ⟨Bn, 0, none⟩)], .int .u64 (x.1 : Nat), .int .u64 (x.2 : Nat), undef, undef, undef, undef, undef, undef, undef, undef, undef, undef, undef], defers := [] }) (fun x a' _ X Y row hs hg hr => hs)
    ?assign ?body ?done ?stop
  case assign =>
    rintro l pre x W K _ hI hK
    unfold eenc
    gi_wp2
    exact hK _ _ (KeepsFrom.refl _ _) (Kc.refl _ _) hI rfl
  case stop =>
    rintro D cd pre W _ _ h _
    exact h.elim
  case body =>
    rintro l pre x a' W hl ⟨r, hr⟩ ⟨⟨v, hb, ho, hvn⟩, hB⟩ rfl hlt ⟨hxh, hxd⟩
    obtain ⟨xh, xd⟩ := x
    simp only at hxh hxd
    obtain ⟨va, vc, rfl, _⟩ := own_slice ho
    have HSn := hid (show flat2 (pre ++ [(xh, xd)]) = flat2 pre ++ [xh, xd] by rw [flat2_app]; rfl)
    have hlp := flat2_len pre
    obtain ⟨L, hL⟩ : ∃ L, flat2 pre = L := ⟨_, rfl⟩
    rw [hL] at ho hb hlp HSn
    simp only [hL] at hvn
    obtain ⟨ln, hln⟩ : ∃ ln, L.length = ln := ⟨_, rfl⟩
    rw [hln] at ho hb hlp
    simp only [hln] at hvn
    have hU := Ext.alloc [] W (.cells #[.int .u64 (xh : Nat), .int .u64 (xd : Nat)] 23)
    obtain ⟨v', U', hrun, ⟨a', c', hv'⟩, hbU, hgat, hkc, hko, hxx, hx5⟩ := gat_push2 (w1 := w2) (L := L) (x := xh) (y := xd) hln HZ2.out hb ho hvn hB hU (by rw [cell_of_row _ _ _ _ _ _ (heap_alloc_new W _)]; rfl) (by rw [cell_of_row _ _ _ _ _ _ (heap_alloc_new W _)]; rfl) (by omega)
    subst hv'
    have hcW := hb.cell
    have cU := hbU.cell
    have fU := hbU.frozen
    have hcN := (hbU.set (.slice a' (ln + 2) c')).cell
    have hWz : Boxed W z 22 (.slice a (3 + 17 * G) c) := (hB.block z (by omega)).trans Ht0.out
    have hcT : (U'.setCell ⟨z2, 0, none⟩ (.slice a' (ln + 2) c')).cell? ⟨z, 0, none⟩ = some (.slice a (3 + 17 * G) c) := hxx.cell hWz.cell (by
      intro q
      rcases List.mem_cons.1 q with e | q
      · simp at e; omega
      · rw [Option.mem_toList] at q
        have := hvn _ q
        simp at this; omega)
    have HF : Hid (KeepsFrom W3.heap.size W (U'.setCell ⟨z2, 0, none⟩ (.slice a' (ln + 2) c')) ∧ Kc (Obx z2) W (U'.setCell ⟨z2, 0, none⟩ (.slice a' (ln + 2) c')) ∧ Gat w2 z2 (flat2 (pre ++ [(xh, xd)])) (U'.setCell ⟨z2, 0, none⟩ (.slice a' (ln + 2) c'))) := by
      rw [HSn.out]
      exact ⟨hko.from _, hkc, hgat⟩
    have hpl6 : ¬ (3 + 17 * (G : Int) < (ln : Int) + 2) := by omega
    have hpl7 : decide (3 + 17 * (G : Int) < (ln : Int) + 2) = false := by simp; omega
    have hlnb : ln ≤ 1000000 := by omega
    clear hr hb ho hvn hB hU hgat hkc hko hxx hx5 hbU hln hL hlp hWz
    gi_wp2_with (gi_at_builtin; refine wpListIn_append_run rfl _ _ 22 rfl _ _ _ rfl rfl hrun ?_)
    exact HF.out
  case done =>
    rintro D zs W hD rfl ⟨⟨v, bC1, hrow, _⟩, hB1⟩ hK
    obtain ⟨LL, hLL⟩ : ∃ LL, flat2 (ents T G) = LL := ⟨_, rfl⟩
    rw [hLL] at hrow ⊢
    obtain ⟨av, cv, rfl, _⟩ := own_slice hrow
    have hc := bC1.cell
    have bR1 : Boxed W (z + 1) 22 (.slice none 0 0) := (hB1.block _ (by omega)).trans Ht1.out
    have bO1 : Boxed W (z + 2) 4 (.bool false) := (hB1.block _ (by omega)).trans Ht2.out
    have cR := bR1.cell
    have fR := bR1.frozen
    have hx1 := Ext.setCell [z + 1] W ⟨z + 1, 0, none⟩ (.slice av LL.length cv) (by simp)
    have bO1' : Boxed (W.setCell ⟨z + 1, 0, none⟩ (.slice av LL.length cv)) (z + 2) 4 (.bool false) := hx1.keep bO1 (by simp)
    have cO := bO1'.cell
    have fO := bO1'.frozen
    have HB1 := hid hB1
    have HK := hid hK
    have HR1 := hid bR1
    have HO1 := hid bO1'
    have Hrow := hid hrow
    have HD := hid hD
    have Hx1 := hid hx1
    clear hB1 hK bR1 bO1 bO1' hrow bC1 hD hx1
    gi_wp2_with fail
    have hK2 := ((KeepsOthers.setCell W ⟨z + 1, 0, none⟩ (.slice av LL.length cv)).trans (KeepsOthers.setCell _ ⟨z + 2, 0, none⟩ (.bool true))).same _ _ HK.out rfl
    refine ⟨by simp, .inl ⟨_, _, rfl, run_takeDeferred hK2, ?_⟩⟩
    have hP := grownBy_putObj' ((W.setCell ⟨z + 1, 0, none⟩ (.slice av LL.length cv)).setCell ⟨z + 2, 0, none⟩ (.bool true)) D (.deferred none)
    have hx2 := Ext.setCell [z + 2] (W.setCell ⟨z + 1, 0, none⟩ (.slice av LL.length cv)) ⟨z + 2, 0, none⟩ (.bool true) (by simp)
    have hx3 := Ext.grown (S := [D]) hP (by simp)
    have hD2 := HD.out
    have hr1 : Boxed _ _ _ _ := hx3.keep (hx2.keep (HR1.out.set (.slice av LL.length cv)) (by simp)) (by simp; omega)
    have hr2 : Boxed _ _ _ _ := hx3.keep (HO1.out.set (.bool true)) (by simp; omega)
    have hw2 : Ext [] w2 W := by have h := HB1.out; rw [← HZ2.out] at h; exact below_ext h
    have hE : Ext [] w W := (HE0.out.trans HX2.out).trans hw2
    have hol := own_lt Hrow.out
    have hzw := HZ.out
    refine ⟨_, results_cells2' rfl _ _ ⟨z + 1, 0, none⟩ ⟨z + 2, 0, none⟩ _ _ rfl rfl (load22' hr1) (load4 hr2), _, rfl, ?_, ?_⟩
    · have h1 := own_keep Hrow.out Hx1.out (by simp; intro h; have := hol _ h; omega)
      have h2 := own_keep h1 hx2 (by simp; intro h; have := hol _ h; omega)
      have h3 := own_keep h2 hx3 (by
        intro b hb
        simp at hb
        subst hb
        intro h
        rcases h2.2 with ⟨h0, _⟩ | ⟨g, cap, cur, h0, _, hg, _⟩
        · rw [h0] at h; simp [Value.ownBlock] at h
        · rw [h0] at h
          simp [Value.ownBlock] at h
          subst h
          rw [hK2] at hg
          simp at hg)
      try rw [hLL]
      refine own_base h3 ?_
      omega
    · exact ((hE.on Hx1.out (by simp; omega)).on hx2 (by simp; omega)).on hx3 (by simp; omega)
end Go.Proofs.YtkknadkcpndnaaaDoor
