/-
  The reference's NewNode; no statement is proved here.
-/
import Derived.Test.YtbjplfbplkjibaaRUnit
import Derived.Test.YtbjplfbplkjibaaNode
namespace Go.Proofs.Ytbjplfbplkjibaa
open Go.RowKit

/-- The nodes' row is another value. -/
theorem Rm.rown {w w2 : World} {p : Nat} {vn vl vn' : Value} {KV SV : List Value} {G : Gs} (h : Rm w p vn vl KV SV G) (hE : Ext vn.ownBlock.toList w w2) (hr : w2.ownsRow 0 69 3 vn' (G.ns.length + 1) (tri (cols (G.ns ++ [nz])) (KV ++ [.int .i64 0]) (SV ++ [.slice none 0 0]))) :
    Rm (w2.setCell ⟨p, 0, none⟩ vn') p vn' vl (KV ++ [.int .i64 0]) (SV ++ [.slice none 0 0]) { G with ns := G.ns ++ [nz] } := by
  have hF : Fx (fun k => vn.ownBlock = some k) w w2 := Fx.of_ext hE (fun x hx => .inl (by simpa using hx))
  have hE2 : Fx (fun k => k = p) w2 (w2.setCell ⟨p, 0, none⟩ vn') := Fx.of_ext (Ext.setCell [p] w2 _ _ (by simp)) (by simp)
  have hb2 := hF.keep h.blk h.np
  have sv : ∀ j, svAt (SV ++ [.slice none 0 0]) j = svAt SV j := fun j => by
    by_cases q : j < SV.length
    · simp [svAt, List.getD, List.getElem?_append_left q]
    · rw [svAt_out (l := SV) (by omega)]
      by_cases e : j = SV.length
      · subst e; simp [svAt, List.getD]
      · exact svAt_out (by simp; omega)
  refine ⟨by rw [heap_setCell_same _ _ _ _ _ _ hb2]; rfl, ?_, ?_, by simp [h.kvl], by simp [h.svl], fun i hi => ?_, fun i hi => ?_, fun a b hab k => ?_, fun i g => ?_⟩
  · simp only [List.length_append, List.length_singleton]
    refine own_keepF hr hE2 (fun g hg e => ?_)
    obtain ⟨cur, hc⟩ := own_at hr hg
    exact row_ne hc hb2 (by decide) e
  · exact (h.lin.keep hF (fun g hg r => h.nl g r hg)).keep hE2 (fun g hg e => h.lp (e ▸ hg))
  · simp only [ndAt_snoc]
    split
    · rename_i e
      refine ⟨0, ?_, fun _ => rfl⟩
      rw [e, ← h.kvl]; simp [kvAt, List.getD]
    · rename_i e
      have hi2 : i < G.ns.length := by simp at hi; omega
      obtain ⟨q, h1, h2⟩ := h.kvo i hi2
      refine ⟨q, ?_, h2⟩
      rw [← h1]; simp [kvAt, List.getD, List.getElem?_append_left (show i < KV.length by rw [h.kvl]; exact hi2)]
  · rw [sv]
    simp only [ndAt_snoc]
    split
    · rename_i e
      rw [e, svAt_out (by rw [h.svl]; exact Nat.le_refl _)]
      exact ⟨[], own_nil _ _ _ _, fun _ => rfl⟩
    · obtain ⟨s, hs, h3⟩ := h.slAll i
      exact ⟨s, own_keepF (own_keepF hs hF (fun g hg r => h.nsl g r i hg)) hE2 (fun g hg e => h.sp i (e ▸ hg)), h3⟩
  · rw [sv, sv]; exact h.sep a b hab k
  · rw [sv]; exact h.sel i g

/-- A node is another, with slots of its own. -/
theorem Rm.setn {w : World} {p : Nat} {vl : Value} {KV SV : List Value} {G : Gs} {g c : Nat} (h : Rm w p (.slice (some ⟨g, 0, none⟩) G.ns.length c) vl KV SV G) (i : Nat) (x : Nd) (v : Value) (hi : i < G.ns.length) (hv : Lo w v x.s)
    (hd : ∀ k, v.ownBlock = some k → vl.ownBlock ≠ some k ∧ ∀ j, (svAt SV j).ownBlock ≠ some k) :
    Rm (((w.setCell ⟨g, i * 3, none⟩ (.int .i64 x.c)).setCell ⟨g, i * 3 + 1, none⟩ (.int .i64 x.k)).setCell ⟨g, i * 3 + 2, none⟩ v) p (.slice (some ⟨g, 0, none⟩) G.ns.length c) vl (KV.set i (.int .i64 x.k)) (SV.set i v) { G with ns := G.ns.set i x } := by
  have hE : Fx (fun k => k = g) w (((w.setCell ⟨g, i * 3, none⟩ (.int .i64 x.c)).setCell ⟨g, i * 3 + 1, none⟩ (.int .i64 x.k)).setCell ⟨g, i * 3 + 2, none⟩ v) :=
    Fx.of_ext (S := [g]) (((Ext.setCell [g] w _ _ (by simp)).trans (Ext.setCell [g] _ _ _ (by simp))).trans (Ext.setCell [g] _ _ _ (by simp))) (by simp)
  have hr := (((h.row.stored (i * 3) (.int .i64 x.c)).1.stored (i * 3 + 1) (.int .i64 x.k)).1.stored (i * 3 + 2) v).1
  rw [tri_set0 _ _ _ _ _ (by rw [cols_len]; exact h.kvl) (by rw [cols_len]; exact h.svl), tri_set1 _ _ _ _ _ (by rw [List.length_set, cols_len]; exact h.kvl) (by rw [List.length_set, cols_len]; exact h.svl), tri_set2 _ _ _ _ _ (by rw [List.length_set, List.length_set, cols_len]; exact h.kvl) (by rw [List.length_set, cols_len]; exact h.svl)] at hr
  have hvg : v.ownBlock ≠ some g := fun q => by
    obtain ⟨cs, hc⟩ := own_at hv q
    obtain ⟨cs', hc'⟩ := own_at h.row (q := g) rfl
    exact row_ne hc hc' (by decide) rfl
  have sv := fun j => svAt_set (l := SV) (i := i) (j := j) (x := v) (by rw [h.svl]; exact hi)
  refine ⟨hE.keep h.blk (fun e => h.np (by simp [Value.ownBlock, e])), ?_, h.lin.keep hE (fun k hk e => h.nl g rfl (e ▸ hk)), by simpa using h.kvl, by simpa using h.svl, fun j hj => ?_, fun j hj => ?_, fun a b hab k => ?_, fun j k => ?_⟩
  · simp only [List.length_set]
    rw [cols_set]; exact hr
  · simp only [List.length_set] at hj
    simp only
    rw [kvAt_set (by rw [h.kvl]; exact hi), ndAt_set hi]
    split
    · exact ⟨x.k, rfl, fun _ => rfl⟩
    · exact h.kvo j hj
  · simp only [List.length_set] at hj
    simp only
    rw [sv, ndAt_set hi]
    split
    · exact ⟨x.s, own_keepF hv hE (fun k hk e => hvg (e ▸ hk)), fun _ => rfl⟩
    · obtain ⟨s, hs, h3⟩ := h.slo j hj
      exact ⟨s, own_keepF hs hE (fun k hk e => h.nsl g rfl j (e ▸ hk)), h3⟩
  · rw [sv, sv]
    split
    · rename_i ea
      rw [if_neg (by omega)]
      exact fun q => (hd k q).2 b
    · split
      · exact fun q r => (hd k r).2 a q
      · exact h.sep a b hab k
  · rw [sv]
    split
    · exact fun q => (hd k q).1
    · exact h.sel j k

theorem rnode_fin {w W1 W2 : World} {p g c m : Nat} {G : Gs} {B : Nat → Prop} {vl v : Value} {KV SV : List Value} (hle : G.le ≤ G.ns.length) (hf : fr G ≠ 65536) (h1 : Rm W1 p (.slice (some ⟨g, 0, none⟩) (pre G).ns.length c) vl KV SV (pre G)) (ft : Ft (Nw B w) p (.slice (some ⟨g, 0, none⟩) (pre G).ns.length c) vl SV) (hX : Fx B w W1)
    (hE : Ext [] W1 W2) (hv : W2.ownsRow W1.heap.size 3 1 v m (List.replicate m (Value.int .i64 (-1)))) :
    RPost w p (nodeG G m) B (.tuple #[.int .i64 (fr G : Nat), .int .i64 0]) (.returned (.tuple #[.int .i64 (fr G : Nat), .int .i64 0])) (((W2.setCell ⟨g, fr G * 3, none⟩ (.int .i64 3)).setCell ⟨g, fr G * 3 + 1, none⟩ (.int .i64 0)).setCell ⟨g, fr G * 3 + 2, none⟩ v) := by
  have h2 := h1.keepE hE
  have h3 := h2.setn (fr G) ⟨3, List.replicate m (-1), 0⟩ v (pre_lt hle) (by unfold Lo; simpa using own_base hv (Nat.zero_le _)) (fun k hk => by
    have hk2 := (own_lt hv k hk).1
    refine ⟨fun q => ?_, fun j q => ?_⟩
    · have := h1.lin.lt _ q; omega
    · obtain ⟨s, hs, _⟩ := h1.slAll j
      have := (own_lt hs _ q).2; omega)
  rw [node_pre hf]
  have hXs := hX.size
  refine ⟨rfl, ⟨_, _, _, _, h3, ft.p, ft.n, ft.l, fun j k => ?_⟩, ?_⟩
  · rw [svAt_set (by rw [h1.svl]; exact pre_lt hle)]
    split
    · intro q; have := (own_lt hv k q).1; exact .inr (by omega)
    · exact ft.s j k
  · refine (hX.trans (C := Nw B w) (Fx.of_ext0 hE) (fun k q => q)).trans (C := Nw B w) (Fx.of_ext (S := [g]) (((Ext.setCell [g] W2 _ _ (by simp)).trans (Ext.setCell [g] _ _ _ (by simp))).trans (Ext.setCell [g] _ _ _ (by simp))) (by simp; exact .inl (ft.n g rfl))) (fun k q => q)

theorem info69 : (Try.prog.info? 69).map (fun i => (i.zero, i.size, i.bytes)) = some (some (.agg #[.int .i64 0, .int .i64 0, .slice none 0 0]), 3, 40) := by kernel_rfl

set_option maxRecDepth 100000 in
set_option maxHeartbeats 4000000 in
theorem rnode_any (p : Nat) (G : Gs) (B : Nat → Prop) (x : Int) (w : World) (h : Rg w p G B) (hI : Iv G) :
    Calls Try.prog 26 #[.pointer (some ⟨p, 0, none⟩), .int .i64 x] w (RPost w p (node G x).1 B (.tuple #[.int .i64 (node G x).2.1, .int .i64 (node G x).2.2])) := by
  have hlen := hI.len
  have hle := hI.le
  by_cases hx : x < 0
  · rw [show node G x = (G, 0, 2) by simp [node, hx]]
    have HF := hid (rg_same h (.tuple #[.int .i64 0, .int .i64 2]))
    clear h hI
    go_enter Try.func26, Try.ntmps26
    go_wp2_with fail
    go_ret2
    exact HF.out
  by_cases hx2 : 8192 < x
  · rw [show node G x = (G, 0, 2) by simp [node, hx2]]
    have HF := hid (rg_same h (.tuple #[.int .i64 0, .int .i64 2]))
    clear h hI
    go_enter Try.func26, Try.ntmps26
    go_wp2_with fail
    go_ret2
    exact HF.out
  obtain ⟨m, rfl⟩ : ∃ m : Nat, x = m := ⟨x.toNat, by omega⟩
  have hm : m ≤ 8192 := by omega
  obtain ⟨vn, vl, KV, SV, h, ft⟩ := h
  obtain ⟨an, cn, rfl, hcn⟩ := own_slice h.row
  obtain ⟨f0, _⟩ := h.flds
  have HFr : Hid (∀ k, (∀ i, i < k → (ndAt G.ns i).c ≠ 0) → (ndAt G.ns k).c = 0 → fr G = k) := fun k h1 h2 => fr_eq (by
    rcases Nat.lt_or_ge k G.le with r | r
    · exact absurd h2 (hI.les k r)
    · exact r) (fun i _ hi => h1 i hi) h2
  have HH := hid h
  have HT := hid ft
  have HI := hid hI
  have HO := hid (fun (h : (ndAt G.ns G.ns.length).c = 0 → False) => h (by rw [ndAt_out (Nat.le_refl _)]; rfl))
  obtain ⟨n, hn⟩ : ∃ n, n = G.ns.length := ⟨_, rfl⟩
  have HN := hid hn
  rw [← hn] at f0 hcn hlen hle
  clear h ft hn hI HO
  go_enter Try.func26, Try.ntmps26
  go_wp2_with fail
  go_loop [6] (fun q => ∃ k : Nat, q = .int .i64 k ∧ k ≤ n ∧ ∀ i, i < k → (ndAt G.ns i).c ≠ 0) (fun q => (n - (intOf q)).toNat)
  case atStart => exact ⟨0, rfl, Nat.zero_le _, fun i hi => by omega⟩
  case round =>
    obtain ⟨k, rfl, hk, hno⟩ := hrel
    have HNo := hid hno
    clear hno
    by_cases hlt : k < n
    · obtain ⟨g, c, hv, hc, hgp, hgl, c0, c1, c2, cf⟩ := HH.out.node (i := k) (by rw [← HN.out]; exact hlt)
      simp only [Value.slice.injEq] at hv
      obtain ⟨rfl, hnn, rfl⟩ := hv
      clear hnn
      have hil : (k : Int) < n := by omega
      by_cases hc0 : (ndAt G.ns k).c = 0
      · have hb : (((ndAt G.ns k).c : Int) != 0) = false := by simp [hc0]
        have hfr : fr G = k := HFr.out k HNo.out hc0
        have hf : fr G ≠ 65536 := by omega
        have hne : ((k : Int) == (n : Int)) = false := by simp; omega
        have hk6 : ¬ (65536 : Int) ≤ (k : Int) := by omega
        have hpe : pre G = { G with le := fr G } := by simp only [pre]; rw [if_neg (by rw [← HN.out]; omega)]
        have HR : Hid (node G m = (nodeG G m, (fr G : Int), 0)) := by
          show _ = _
          simp only [node]; rw [if_neg (by omega), if_neg hf]; simp
        have HM : Hid (Rm w p (.slice (some ⟨g, 0, none⟩) (pre G).ns.length cn) vl KV SV (pre G)) := by rw [hpe]; exact HH.out.le _
        have HTT : Hid (Ft (Nw B w) p (.slice (some ⟨g, 0, none⟩) (pre G).ns.length cn) vl SV) := by rw [hpe]; exact HT.out.mono (fun _ q => .inl q)
        have HXX : Hid (Fx B w w) := Fx.refl _ _
        have hpn : (pre G).ns.length = n := by rw [hpe, HN.out]
        have hkp : (k : Int) < (pre G).ns.length := by rw [hpn]; exact hil
        have HFr2 := hid hfr
        have HLe := hid (show G.le ≤ G.ns.length from HI.out.le)
        have HFf := hid hf
        have HKp := hid hkp
        have HPl := hid (show k < (pre G).ns.length by omega)
        clear c1 c2 cf hc HFr HNo hpe hf hfr HH HT HI hpn hkp hc0
        generalize (ndAt G.ns k).c = cc at *
        go_upto_region 11 with fail
        clear c0 f0 hb hne
        go_wp2_with fail
        go_loopw [8] (fun q wr => ∃ (j : Nat) (v : Value), q = .int .i64 j ∧ j ≤ m ∧ (∃ a c, v = .slice a j c) ∧ wr.heap[w.heap.size]? = some (.cells #[.int .i64 3, .int .i64 0, v] 69 (0, 0)) ∧ wr.ownsRow w.heap.size 3 1 v j (List.replicate j (Value.int .i64 (-1))) ∧ Ext [] w wr) (fun q _ => (m - (intOf q)).toNat)
        case atStart => exact ⟨0, .slice none 0 0, rfl, Nat.zero_le _, ⟨_, _, rfl⟩, heap_alloc_new _ _, own_nil _ _ _ _, Ext.alloc _ _ _⟩
        case round =>
          obtain ⟨j, v, rfl, hj, ⟨av, cv, rfl⟩, hb2, ho, hE⟩ := hrel
          by_cases hjm : j < m
          · have d2 : wr.cell? ⟨w.heap.size, 2, none⟩ = some (.slice av j cv) := by rw [cell_of_row _ _ _ _ _ _ hb2]; rfl
            have hjm2 : (j : Int) < m := by omega
            obtain ⟨i3, hi3, hz3, hs3, hy3⟩ := info_parts info3
            have hEa := Ext.alloc [] wr (.cells #[.int .i64 (-1)] 3)
            have hsz := hE.size
            obtain ⟨v', w2, hr, ho2, hg2, _⟩ := run_append_own (P := Try.prog) (wr.alloc (.cells #[.int .i64 (-1)] 3)) w.heap.size 28 28 3 i3 _ 1 8 Try.underlying28 hi3 hz3 hs3 hy3 rfl (by decide) (.slice av j cv) j _ (own_keep0 ho hEa) ⟨wr.heap.size, 0, none⟩ 1 1 [.int .i64 (-1)] rfl (fun j u hu => by rw [Addr.add_lit, cell_of_row _ _ _ _ _ _ (heap_alloc_new wr _), Nat.zero_add, ← hu]; simp) (by simp [Value.oneCell']) (by unfold maxLen; omega) (by omega) (by simp; omega)
            have hX2 := ext_grown hg2
            have hb2a := hEa.keep hb2 (by simp)
            have hb3 := hX2.keep hb2a (by have := own_ne (own_keep0 ho hEa) hb2a (by decide); simpa using this)
            obtain ⟨a2, c2, rfl, _⟩ := own_slice ho2
            have e2 : w2.cell? ⟨w.heap.size, 2, none⟩ = some (.slice av j cv) := by rw [cell_of_row _ _ _ _ _ _ hb3]; rfl
            have z2 := frozen_of_row w2 w.heap.size 2 _ _ hb3
            have HB4 := hid (heap_setCell_same w2 w.heap.size 2 _ _ (.slice a2 (j + 1) c2) hb3)
            have hS := Ext.setCell [w.heap.size] w2 ⟨w.heap.size, 2, none⟩ (.slice a2 (j + 1) c2) (by simp)
            have HO4 := hid (own_keep ho2 hS (fun b hb => by
              simp at hb
              subst hb
              exact own_ne ho2 hb3 (by decide)))
            have HE4 := hid (((hE.trans hEa).on hX2 (fun b hb => (own_lt (own_keep0 ho hEa) b (by simpa using hb)).1)).on hS (by simp))
            have HRp : Hid (List.replicate j (Value.int .i64 (-1)) ++ [.int .i64 (-1)] = List.replicate (j + 1) (Value.int .i64 (-1))) := by show _ = _; rw [List.replicate_succ']
            clear hb2 ho hE hEa hg2 hX2 hb2a hb3 hS ho2 hi3 hz3 hs3 hy3
            go_wp2_with (at_builtin; refine wpList_append_run rfl _ _ 28 rfl _ _ _ rfl rfl hr ?_)
            go_roundw
            case rel => exact ⟨j + 1, _, by go_num, by omega, ⟨_, _, rfl⟩, HB4.out, by have := HO4.out; rw [HRp.out] at this; exact this, HE4.out⟩
            case measure => simp [intOf]; omega
          · obtain rfl : j = m := by omega
            have d0 : wr.cell? ⟨w.heap.size, 0, none⟩ = some (.int .i64 3) := by rw [cell_of_row _ _ _ _ _ _ hb2]; rfl
            have d1 : wr.cell? ⟨w.heap.size, 1, none⟩ = some (.int .i64 0) := by rw [cell_of_row _ _ _ _ _ _ hb2]; rfl
            have d2 : wr.cell? ⟨w.heap.size, 2, none⟩ = some (.slice av j cv) := by rw [cell_of_row _ _ _ _ _ _ hb2]; rfl
            have hld := fun q => run_loadVar_row (P := Try.prog) (wr.drewN q) w.heap.size 69 69 _ (0, 0) _ hb2 Try.underlying69 rfl (by kernel_rfl)
            have hG := HM.out.keepE hE
            obtain ⟨g', c', hv', hc', hgp', hgl', c0, c1, c2, cf⟩ := hG.node (i := k) HPl.out
            simp only [Value.slice.injEq, Option.some.injEq, Addr.mk.injEq, and_true, true_and] at hv'
            obtain ⟨rfl, rfl⟩ := hv'
            have cf0 := cf (k * 3)
            have cf1 := cf (k * 3 + 1)
            have cf2 := cf (k * 3 + 2)
            have fp := hG.flds.1
            have HF : Hid (∀ q, RPost w p (nodeG G j) B (.tuple #[.int .i64 (k : Nat), .int .i64 0]) (.returned (.tuple #[.int .i64 (k : Nat), .int .i64 0])) ((((wr.drewN q).setCell ⟨g, k * 3, none⟩ (.int .i64 3)).setCell ⟨g, k * 3 + 1, none⟩ (.int .i64 0)).setCell ⟨g, k * 3 + 2, none⟩ (.slice av j cv))) := fun q => by
              have := rnode_fin HLe.out HFf.out HM.out HTT.out HXX.out (hE.trans (Ext.drewN [] wr q)) (own_keep0 ho (Ext.drewN [] wr q))
              rw [HFr2.out] at this
              exact this
            obtain ⟨kq, hkq, _⟩ := hG.kvo k HPl.out
            rw [hkq] at c1
            clear hG ho hE cf hc' hkq HM HTT HXX hb2
            have hkp := HKp.out
            generalize svAt SV k = sv0 at *
            generalize (ndAt (pre G).ns k).c = cc0 at *
            generalize (pre G).ns.length = n1 at *
            go_wp2_with fail
            go_region
            go_wp2_with fail
            go_ret2
            rw [HR.out, HFr2.out]
            exact HF.out _
      · have hb : (((ndAt G.ns k).c : Int) != 0) = true := by simp; omega
        have HNo2 : Hid (∀ i, i < k + 1 → (ndAt G.ns i).c ≠ 0) := fun i hi => by
          by_cases e : i = k
          · rw [e]; exact hc0
          · exact HNo.out i (by omega)
        clear hc0 HNo c1 c2 cf hc
        generalize (ndAt G.ns k).c = cc at *
        go_wp2_with fail
        go_round
        case rel => exact ⟨k + 1, by go_num, by omega, HNo2.out⟩
        case measure => simp [intOf]; omega
    · obtain rfl : k = n := by omega
      have hc0 : (ndAt G.ns k).c = 0 := by rw [HN.out, ndAt_out (Nat.le_refl _)]; rfl
      have hfr : fr G = k := HFr.out k HNo.out hc0
      have hd1 : ¬ (k : Int) < k := by omega
      have HLe := hid (show G.le ≤ G.ns.length from HI.out.le)
      by_cases hf : fr G = 65536
      · have HR : Hid (node G m = ({ G with le := fr G }, 0, 7)) := by show _ = _; simp only [node, nodeG]; rw [if_neg (by omega), if_pos hf, if_pos hf]
        have HF : Hid (RPost w p { G with le := fr G } B (.tuple #[.int .i64 0, .int .i64 7]) (.returned (.tuple #[.int .i64 0, .int .i64 7])) w) := ⟨rfl, ⟨_, _, _, _, HH.out.le _, HT.out.mono (fun _ q => .inl q)⟩, Fx.refl _ _⟩
        have hk6 : (65536 : Int) ≤ (k : Int) := by omega
        clear HFr HNo HH HT HI HN hc0 hf hfr
        go_wp2_with fail
        go_ret2
        rw [HR.out]
        exact HF.out
      · have hk6 : ¬ (65536 : Int) ≤ (k : Int) := by omega
        have hkb : k < 65536 := by omega
        have hne : ((k : Int) == (k : Int)) = true := by simp
        have hpe : pre G = { G with le := fr G, ns := G.ns ++ [nz] } := by simp only [pre]; rw [if_pos (by rw [hfr, HN.out])]
        have HR : Hid (node G m = (nodeG G m, (fr G : Int), 0)) := by
          show _ = _
          simp only [node]; rw [if_neg (by omega), if_neg hf]; simp
        have hm1 := HH.out
        have ft := HT.out
        obtain ⟨i69, hi69, hz69, hs69, hy69⟩ := info_parts info69
        have hEa := Ext.alloc [] w (.cells #[.int .i64 0, .int .i64 0, .slice none 0 0] 69)
        have hGl : G.ns.length < 65536 := by rw [← HN.out]; exact hkb
        obtain ⟨v', w2, hr, ho2, hg2, _, hat⟩ := run_append_own_at (P := Try.prog) (w.alloc (.cells #[.int .i64 0, .int .i64 0, .slice none 0 0] 69)) 0 27 27 69 i69 _ 3 40 Try.underlying27 hi69 hz69 hs69 hy69 rfl (by decide) _ _ _ (own_keep0 hm1.row hEa) ⟨w.heap.size, 0, none⟩ 1 1 [.int .i64 0, .int .i64 0, .slice none 0 0] rfl (fun j u hu => by rw [Addr.add_lit, cell_of_row _ _ _ _ _ _ (heap_alloc_new w _), Nat.zero_add, ← hu]; simp) (by simp [Value.oneCell']) (by unfold maxLen; omega) (by omega) (Nat.zero_le _)
        have hX2 := ext_grown hg2
        have hE12 : Ext (Value.slice an G.ns.length cn).ownBlock.toList w w2 := (hEa.mono (by simp)).trans hX2
        rw [show tri (cols G.ns) KV SV ++ [Value.int .i64 0, .int .i64 0, .slice none 0 0] = tri (cols (G.ns ++ [nz])) (KV ++ [.int .i64 0]) (SV ++ [.slice none 0 0]) by rw [show cols (G.ns ++ [nz]) = cols G.ns ++ [.int .i64 0] by simp [cols, nz], tri_snoc _ _ _ _ _ _ (by rw [cols_len]; exact hm1.kvl) (by rw [cols_len]; exact hm1.svl)]] at ho2
        have hm2 := (hm1.rown hE12 ho2).le (fr G)
        have hb2 : w2.heap[p]? = _ := hE12.keep hm1.blk (by simpa using hm1.np)
        have k0 : w2.cell? ⟨p, 0, none⟩ = some (.slice an k cn) := by rw [cell_of_row _ _ _ _ _ _ hb2, HN.out]; rfl
        have zz : w2.frozen? ⟨p, 0, none⟩ = false := frozen_of_row _ _ _ _ _ hb2
        obtain ⟨g, c2, rfl, _⟩ := ho2.form (by omega)
        have hpn : (pre G).ns.length = k + 1 := by rw [hpe, HN.out]; simp
        have HM : Hid (Rm (w2.setCell ⟨p, 0, none⟩ (.slice (some ⟨g, 0, none⟩) (k + 1) c2)) p (.slice (some ⟨g, 0, none⟩) (pre G).ns.length c2) vl (KV ++ [.int .i64 0]) (SV ++ [.slice none 0 0]) (pre G)) := by rw [hpn, hpe, HN.out]; exact hm2
        have HTT : Hid (Ft (Nw B w) p (.slice (some ⟨g, 0, none⟩) (pre G).ns.length c2) vl (SV ++ [.slice none 0 0])) := by
          refine ⟨.inl ft.p, fun q hq => ?_, fun q hq => .inl (ft.l q hq), fun j q hq => ?_⟩
          · simp [Value.ownBlock] at hq
            subst hq
            rcases hat with r | r
            · exact .inl (ft.n g (by rw [← r]; rfl))
            · simp [Value.ownBlock] at r
              exact .inr (by omega)
          · by_cases r : j < SV.length
            · refine .inl (ft.s j q ?_)
              rw [← hq]; simp [svAt, List.getD, List.getElem?_append_left r]
            · exfalso
              by_cases e : j = SV.length
              · subst e; simp [svAt, List.getD, Value.ownBlock] at hq
              · rw [svAt_out (by simp; omega)] at hq; simp [Value.ownBlock] at hq
        have HXX : Hid (Fx B w (w2.setCell ⟨p, 0, none⟩ (.slice (some ⟨g, 0, none⟩) (k + 1) c2))) := by
          refine Fx.of_ext (S := p :: (Value.slice an G.ns.length cn).ownBlock.toList) ((hE12.mono (by simp; intro a ha; exact .inr ha)).trans (Ext.setCell _ _ _ _ (by simp))) ?_
          intro q hq
          simp only [List.mem_cons, Option.mem_toList] at hq
          rcases hq with rfl | hq
          · exact .inl ft.p
          · exact .inl (ft.n q hq)
        have HFr2 := hid hfr
        have HFf := hid hf
        have HKp := hid (show (k : Int) < ((pre G).ns.length : Nat) by rw [hpn]; omega)
        have HPl := hid (show k < (pre G).ns.length by omega)
        have hz0 := hm1.froz 0
        rw [← HN.out] at hr
        clear hm1 hm2 ft hEa ho2 hg2 hat hX2 hE12 hb2 hi69 hz69 hs69 hy69 hpe hpn HFr HNo HH HT HI hc0 hf hfr hGl
        go_upto_region 10 with (at_builtin; refine wpList_append_run rfl _ _ 27 rfl _ _ _ rfl rfl hr ?_)
        generalize hW1 : w2.setCell ⟨p, 0, none⟩ _ = W1 at *
        clear hW1 hr k0 zz hz0 f0
        go_upto_region 11 with fail
        go_wp2_with fail
        go_loopw [8] (fun q wr => ∃ (j : Nat) (v : Value), q = .int .i64 j ∧ j ≤ m ∧ (∃ a c, v = .slice a j c) ∧ wr.heap[W1.heap.size]? = some (.cells #[.int .i64 3, .int .i64 0, v] 69 (0, 0)) ∧ wr.ownsRow W1.heap.size 3 1 v j (List.replicate j (Value.int .i64 (-1))) ∧ Ext [] W1 wr) (fun q _ => (m - (intOf q)).toNat)
        case atStart => exact ⟨0, .slice none 0 0, rfl, Nat.zero_le _, ⟨_, _, rfl⟩, heap_alloc_new _ _, own_nil _ _ _ _, Ext.alloc _ _ _⟩
        case round =>
          obtain ⟨j, v, rfl, hj, ⟨av, cv, rfl⟩, hb2, ho, hE⟩ := hrel
          by_cases hjm : j < m
          · have d2 : wr.cell? ⟨W1.heap.size, 2, none⟩ = some (.slice av j cv) := by rw [cell_of_row _ _ _ _ _ _ hb2]; rfl
            have hjm2 : (j : Int) < m := by omega
            obtain ⟨i3, hi3, hz3, hs3, hy3⟩ := info_parts info3
            have hEa := Ext.alloc [] wr (.cells #[.int .i64 (-1)] 3)
            have hsz := hE.size
            obtain ⟨v', w2, hr, ho2, hg2, _⟩ := run_append_own (P := Try.prog) (wr.alloc (.cells #[.int .i64 (-1)] 3)) W1.heap.size 28 28 3 i3 _ 1 8 Try.underlying28 hi3 hz3 hs3 hy3 rfl (by decide) (.slice av j cv) j _ (own_keep0 ho hEa) ⟨wr.heap.size, 0, none⟩ 1 1 [.int .i64 (-1)] rfl (fun j u hu => by rw [Addr.add_lit, cell_of_row _ _ _ _ _ _ (heap_alloc_new wr _), Nat.zero_add, ← hu]; simp) (by simp [Value.oneCell']) (by unfold maxLen; omega) (by omega) (by simp; omega)
            have hX2 := ext_grown hg2
            have hb2a := hEa.keep hb2 (by simp)
            have hb3 := hX2.keep hb2a (by have := own_ne (own_keep0 ho hEa) hb2a (by decide); simpa using this)
            obtain ⟨a2, c2, rfl, _⟩ := own_slice ho2
            have e2 : w2.cell? ⟨W1.heap.size, 2, none⟩ = some (.slice av j cv) := by rw [cell_of_row _ _ _ _ _ _ hb3]; rfl
            have z2 := frozen_of_row w2 W1.heap.size 2 _ _ hb3
            have HB4 := hid (heap_setCell_same w2 W1.heap.size 2 _ _ (.slice a2 (j + 1) c2) hb3)
            have hS := Ext.setCell [W1.heap.size] w2 ⟨W1.heap.size, 2, none⟩ (.slice a2 (j + 1) c2) (by simp)
            have HO4 := hid (own_keep ho2 hS (fun b hb => by
              simp at hb
              subst hb
              exact own_ne ho2 hb3 (by decide)))
            have HE4 := hid (((hE.trans hEa).on hX2 (fun b hb => (own_lt (own_keep0 ho hEa) b (by simpa using hb)).1)).on hS (by simp))
            have HRp : Hid (List.replicate j (Value.int .i64 (-1)) ++ [.int .i64 (-1)] = List.replicate (j + 1) (Value.int .i64 (-1))) := by show _ = _; rw [List.replicate_succ']
            clear hb2 ho hE hEa hg2 hX2 hb2a hb3 hS ho2 hi3 hz3 hs3 hy3
            go_wp2_with (at_builtin; refine wpList_append_run rfl _ _ 28 rfl _ _ _ rfl rfl hr ?_)
            go_roundw
            case rel => exact ⟨j + 1, _, by go_num, by omega, ⟨_, _, rfl⟩, HB4.out, by have := HO4.out; rw [HRp.out] at this; exact this, HE4.out⟩
            case measure => simp [intOf]; omega
          · obtain rfl : j = m := by omega
            have d0 : wr.cell? ⟨W1.heap.size, 0, none⟩ = some (.int .i64 3) := by rw [cell_of_row _ _ _ _ _ _ hb2]; rfl
            have d1 : wr.cell? ⟨W1.heap.size, 1, none⟩ = some (.int .i64 0) := by rw [cell_of_row _ _ _ _ _ _ hb2]; rfl
            have d2 : wr.cell? ⟨W1.heap.size, 2, none⟩ = some (.slice av j cv) := by rw [cell_of_row _ _ _ _ _ _ hb2]; rfl
            have hld := fun q => run_loadVar_row (P := Try.prog) (wr.drewN q) W1.heap.size 69 69 _ (0, 0) _ hb2 Try.underlying69 rfl (by kernel_rfl)
            have hG := HM.out.keepE hE
            obtain ⟨g', c', hv', hc', hgp', hgl', c0, c1, c2, cf⟩ := hG.node (i := k) HPl.out
            simp only [Value.slice.injEq, Option.some.injEq, Addr.mk.injEq, and_true, true_and] at hv'
            obtain ⟨rfl, rfl⟩ := hv'
            have cf0 := cf (k * 3)
            have cf1 := cf (k * 3 + 1)
            have cf2 := cf (k * 3 + 2)
            have fp := hG.flds.1
            have HF : Hid (∀ q, RPost w p (nodeG G j) B (.tuple #[.int .i64 (k : Nat), .int .i64 0]) (.returned (.tuple #[.int .i64 (k : Nat), .int .i64 0])) ((((wr.drewN q).setCell ⟨g, k * 3, none⟩ (.int .i64 3)).setCell ⟨g, k * 3 + 1, none⟩ (.int .i64 0)).setCell ⟨g, k * 3 + 2, none⟩ (.slice av j cv))) := fun q => by
              have := rnode_fin HLe.out HFf.out HM.out HTT.out HXX.out (hE.trans (Ext.drewN [] wr q)) (own_keep0 ho (Ext.drewN [] wr q))
              rw [HFr2.out] at this
              exact this
            obtain ⟨kq, hkq, _⟩ := hG.kvo k HPl.out
            rw [hkq] at c1
            clear hG ho hE cf hc' hkq HM HTT HXX hb2
            have hkp := HKp.out
            generalize svAt (SV ++ [.slice none 0 0]) k = sv0 at *
            generalize (ndAt (pre G).ns k).c = cc0 at *
            generalize (pre G).ns.length = n1 at *
            go_wp2_with fail
            go_region
            go_wp2_with fail
            go_ret2
            rw [HR.out, HFr2.out]
            exact HF.out _

end Go.Proofs.Ytbjplfbplkjibaa
