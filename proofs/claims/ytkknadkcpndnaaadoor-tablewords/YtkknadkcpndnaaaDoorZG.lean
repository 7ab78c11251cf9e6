/-
  Fin, Del, Wf, Upd: joined by program; no statement is proved here.
-/
import Derived.Test.YtkknadkcpndnaaaDoorZE
import Derived.Test.YtkknadkcpndnaaaDoorZF
/-
  Find: the ids of a hash's entries; no statement is proved here.
-/
namespace Go.Proofs.YtkknadkcpndnaaaDoor
open Go.RowKit Go.Shelf
open Pr (Gp GpI sq pl)
attribute [local go_sem] Oper.semAt_some run_store_func wide_fn wide_depth

def fnd (T : List Nat) (h G : Nat) : List Nat := (mts T h G).map fun p => idw T p.1 p.2
/-- An iterator over the words L. -/
def FiPost (w : World) (L : List Nat) (e : Ending) (w' : World) : Prop := ∃ Bn v, e = .returned (.tuple #[.func (.func 81) #[] #[.pointer (some ⟨Bn, 0, none⟩)], .int .i64 0]) ∧ Boxed w' Bn 22 v ∧ w'.ownsRow w.heap.size 23 1 v L.length (vw L) ∧ w.heap.size ≤ Bn ∧ Ext [] w w'
theorem mts_len {T : List Nat} {h G : Nat} (_hG : Gp G) : (mts T h G).length ≤ 8 * G := by
  have h1 := mtl_len T h (wk T (sq (h / 128) G))
  have h2 := (wk_pre T (sq (h / 128) G)).length_le
  rw [Pr.sq_len] at h2
  unfold mts
  omega
theorem results_slots2 {P : Program} {fn : Func} {p q : Tmp} (h : fn.results = #[.tmp p, .tmp q]) (tmps : Array Value) (w : World) (v v' : Value)
    (hp : tmps.getD p undef = v) (hq : tmps.getD q undef = v') : (results fn tmps).run P w = .ok (.tuple #[v, v']) w := by
  have hp' : tmps[p]?.getD undef = v := by simpa using hp
  have hq' : tmps[q]?.getD undef = v' := by simpa using hq
  simp [results, h, hp', hq']

set_option maxRecDepth 100000 in
set_option maxHeartbeats 4000000 in
theorem find_any (a : Option Addr) (c : Nat) (T : List Nat) (G h : Nat) (hSd : Sd T G) (hh : h < 18446744073709551616) (w : World) (hT : Wd w a T) (hTb : Tb w) :
    Calls Tryd.prog 32 #[.slice a (3 + 17 * G) c, .int .u64 (h : Nat)] w (FiPost w (fnd T h G)) := by
  have hlen := hSd.shp.len
  have hG := hSd.shp.gp.le
  have hne : T ≠ [] := by rintro rfl; simp at hlen; omega
  obtain ⟨b, o, rfl, hcc⟩ := hT.at_ hne
  clear hcc
  refine (callsIn_wide (n := 14)).1 ?_
  refine callsIn_of_wp_marks Tryd.func32 rfl trivial ?_ rfl
  simp only [Tryd.ntmps32, List.size_toArray, List.length_cons, List.length_nil, Nat.reduceAdd, Nat.reduceSub, Array.replicate_succ, Array.replicate_zero, List.push_toArray, List.append_toArray, List.nil_append, List.cons_append]
  obtain ⟨z, hz⟩ : ∃ z, w.heap.size = z := ⟨_, rfl⟩
  have hE0 := Ext.alloc [] w (.cells #[.slice (some ⟨b, o, none⟩) (3 + 17 * G) c] 22)
  have bZ := Boxed.new w 22 (.slice (some ⟨b, o, none⟩) (3 + 17 * G) c)
  rw [hz] at bZ
  have cZ := bZ.cell
  have K0 := sound_true (some ⟨b, o, none⟩) c T G hSd _ (hT.keep0 hE0)
  have HE0 := hid hE0
  have HbZ := hid bZ
  have HT0 := hid (hT.keep0 hE0)
  have HTb0 := hid (hTb.keep0 hE0)
  have HSd := hid hSd
  have HL := hid hlen
  have hGp := hid hSd.shp.gp
  clear hE0 bZ hT hTb hSd hlen
  gi_wp2_with fail
  gi_at_call 38
  refine (callsIn_wide.2 K0).mono ?_
  clear K0 cZ
  rintro _ w1 ⟨rfl, hX1⟩
  obtain ⟨z1, hz1⟩ : ∃ z1, w1.heap.size = z1 := ⟨_, rfl⟩
  have hbZ1 : Boxed w1 z 22 (.slice (some ⟨b, o, none⟩) (3 + 17 * G) c) := hX1.keep HbZ.out (by simp)
  have hzz : z < z1 := by rw [← hz1]; exact hbZ1.lt
  have cZ := (hbZ1.alloc (.cells #[.slice none 0 0] 22)).cell
  have HT1 := hid (HT0.out.keep0 hX1)
  have HTb1 := hid (HTb0.out.keep0 hX1)
  have HE1 := hid (HE0.out.trans hX1)
  have HbZ1 := hid hbZ1
  have K1 := matches_any (some ⟨b, o, none⟩) (3 + 17 * G) c h (w1.alloc (.cells #[.slice none 0 0] 22))
  simp only [World.size_alloc, hz1] at K1
  have HZ1 := hid hz1
  clear hX1 HbZ HT0 HTb0 HE0 hbZ1
  gi_wp2_with (first | (gi_at_call 41; refine (callsIn_wide.2 K1).mono ?_; rintro _ _ ⟨rfl, rfl⟩))
  clear K1 cZ
  have hz1' := HZ1.out
  have b0 := ((Boxed.new w1 22 (.slice none 0 0)).alloc (.cells #[.slice (some ⟨b, o, none⟩) (3 + 17 * G) c] 22)).alloc (.cells #[.int .u64 (h : Nat)] 23)
  have b1 := (Boxed.new (w1.alloc (.cells #[.slice none 0 0] 22)) 22 (.slice (some ⟨b, o, none⟩) (3 + 17 * G) c)).alloc (.cells #[.int .u64 (h : Nat)] 23)
  have b2 := Boxed.new ((w1.alloc (.cells #[.slice none 0 0] 22)).alloc (.cells #[.slice (some ⟨b, o, none⟩) (3 + 17 * G) c] 22)) 23 (.int .u64 (h : Nat))
  have hX3 : Ext [] w1 (((w1.alloc (.cells #[.slice none 0 0] 22)).alloc (.cells #[.slice (some ⟨b, o, none⟩) (3 + 17 * G) c] 22)).alloc (.cells #[.int .u64 (h : Nat)] 23)) := ((Ext.alloc [] _ _).trans (Ext.alloc [] _ _)).trans (Ext.alloc [] _ _)
  obtain ⟨W3, hW3⟩ : ∃ W3, ((w1.alloc (.cells #[.slice none 0 0] 22)).alloc (.cells #[.slice (some ⟨b, o, none⟩) (3 + 17 * G) c] 22)).alloc (.cells #[.int .u64 (h : Nat)] 23) = W3 := ⟨_, rfl⟩
  have hs3 : W3.heap.size = z1 + 3 := by rw [← hW3]; simp [hz1']
  simp only [World.size_alloc, hz1'] at b0 b1 b2
  rw [hW3] at b0 b1 b2 hX3
  have hb1 : b < z1 := by
    obtain ⟨b', o', e, hc⟩ := HT1.out.at_ hne
    cases e
    have := block_lt_of_cell (hc 0 (by rw [HL.out]; omega))
    rw [hz1'] at this; exact this
  obtain ⟨R, hR1⟩ : ∃ R, w1.heap[b]? = some R := ⟨_, Array.getElem?_eq_getElem (by rw [hz1']; exact hb1)⟩
  have hRc : R.isCells = true := by
    obtain ⟨b', o', e, hc⟩ := HT1.out.at_ hne
    cases e
    have := hc 0 (by rw [HL.out]; omega)
    cases R with
    | cells cs t m => rfl
    | _ => simp [World.cell?, hR1] at this
  have h01 : 0 < z1 := by rw [← hz1']; exact HTb1.out.lt
  have hO3 : ∀ k ∈ [0, z1 + 1, z1 + 1 + 1, b], ¬ Obx z1 W3 k := by
    rintro k hk (rfl | ⟨v, hv, hvo⟩)
    · simp at hk; omega
    · have : v = .slice none 0 0 := boxed_inj hv b0
      subst this
      simp [Value.ownBlock] at hvo
  have hMat := matches_gives 13 (by omega) (z1 + 1) (z1 + 1 + 1) b o c h G T R HSd.out.shp hh (Obx z1) W3 b1 b2 (hX3.keep hR1 (by simp)) hRc (HT1.out.keep0 hX3) (HTb1.out.keep0 hX3) hO3
  have HMat := hid hMat
  have hG0 : Gat w1 z1 [] W3 := ⟨⟨_, b0, own_nil _ _ _ _, by simp [Value.ownBlock]⟩, by rw [← hz1']; exact hX3.below⟩
  have HG0 := hid hG0
  have HR1 := hid hR1
  clear b0 b1 b2 hX3 hMat hG0 hR1 hRc hO3
  rw [hW3]
  clear hW3
  have HCal := hid (cal_gat (α := Nat × Nat) (w1 := w1) (z1 := z1) (B := W3.heap.size) (fun pre => pre.map fun p => idw T p.1 p.2) hz1' (by omega))
  have hml := mts_len (T := T) (h := h) hGp.out
  clear hz1'
  refine loop_givesS rfl (by omega) (gf := 75) (lb := #[.pointer (some ⟨z1 + 1 + 1, 0, none⟩), .pointer (some ⟨z1 + 1, 0, none⟩)]) rfl trivial (enters_of Tryd.func75 (by kernel_rfl) rfl)
    HMat.out (fun _ => rfl)
    (fun pre W => Gat w1 z1 (pre.map fun p => idw T p.1 p.2) W) (fun _ _ _ => False) HCal.out
    (fun _ => ⟨fun _ _ _ _ h _ _ => h, fun _ _ _ h => h.elim, fun _ _ _ _ _ h => h.elim⟩)
    HG0.out
    (fun x a' _ => a' = { tmps := #[.slice (some ⟨b, o, none⟩) (3 + 17 * G) c, .int .u64 (h : Nat), .pointer (some ⟨z, 0, none⟩), undef, .nilFunc, .int .i64 0, .pointer (some ⟨z1, 0, none⟩), .int .i64 (x.1 : Nat), .int .i64 (x.2 : Nat), .slice (some ⟨b, o, none⟩) (3 + 17 * G) c, .bool true, .bool false, .slice (some ⟨b, o, none⟩) (3 + 17 * G) c, .int .u64 (h : Nat), .func (.func 75) #[] #[.pointer (some ⟨z1 + 1 + 1, 0, none⟩), .pointer (some ⟨z1 + 1, 0, none⟩)], .int .i64 (x.1 : Nat), .int .i64 (x.2 : Nat), undef, undef, undef, undef, undef, undef, undef, undef, undef, undef, undef], defers := [] }) (fun x a' _ X Y row hs hg hr => hs)
    ?assign ?body ?done ?stop
  case stop =>
    rintro D cd pre W _ _ h _
    exact h.elim
  case assign =>
    rintro l pre x W K _ hI hK
    unfold penc
    gi_wp2
    exact hK _ _ (KeepsFrom.refl _ _) (Kc.refl _ _) hI rfl
  case done =>
    rintro D zs W hD rfl ⟨⟨v, hb, ho, hvn⟩, hB⟩ hK
    obtain ⟨va, vc, rfl, _⟩ := own_slice ho
    have cI := hb.cell
    have KV := fun u => tvalues_any va ((mts T h G).map fun p => idw T p.1 p.2).length vc u
    have HO := hid ho
    have HB := hid hB
    have HK := hid hK
    have HD := hid hD
    have HVn := hid hvn
    have Hln := hid (show (fnd T h G).length = ((mts T h G).map fun p => idw T p.1 p.2).length from rfl)
    clear hb ho hvn hB hK hD
    generalize hln : ((mts T h G).map fun p => idw T p.1 p.2).length = ln at *
    clear hln
    gi_wp2_with (first | (gi_at_call 54; refine (callsIn_wide.2 (KV _)).mono ?_; rintro _ _ ⟨rfl, rfl⟩))
    have hK2 := (KeepsOthers.alloc W (.cells #[.slice va ln vc] 22)).same _ _ HK.out rfl
    have hP := grownBy_putObj' (W.alloc (.cells #[.slice va ln vc] 22)) D (.deferred none)
    have hx1 := Ext.alloc [] W (.cells #[.slice va ln vc] 22)
    have hx2 := Ext.grown (S := [D]) hP (by simp)
    have hx0 : Ext [] w1 W := by have h := HB.out; rw [← HZ1.out] at h; exact below_ext h
    have hDW := lt_of_heap HK.out
    have hzw : w.heap.size ≤ z1 := by omega
    have hDz := HD.out
    refine ⟨by simp, .inl ⟨_, _, rfl, run_takeDeferred hK2, _, results_slots2 rfl _ _ _ _ rfl rfl, W.heap.size, .slice va ln vc, rfl, ?_, ?_, ?_, ?_⟩⟩
    · exact hx2.keep (heap_alloc_new W _) (by simp; omega)
    · have h1 := own_keep0 HO.out hx1
      rw [Hln.out]
      refine own_base (own_keep h1 hx2 (fun q hq hv => ?_)) hzw
      simp only [List.mem_singleton] at hq
      subst hq
      rcases h1.2 with ⟨e, _⟩ | ⟨g, cap, cur, e, _, hg, _⟩
      · rw [e] at hv; simp [Value.ownBlock] at hv
      · rw [e] at hv; simp [Value.ownBlock] at hv; subst hv; rw [hK2] at hg; simp at hg
    · have := hx0.size; have := HZ1.out; omega
    · exact ((HE1.out.trans hx0).trans hx1).on hx2 (by simp; omega)
  case body =>
    rintro l pre x a' W hl ⟨r, hr⟩ ⟨⟨v, hb, ho, hvn⟩, hB⟩ rfl hlt ⟨hgx, hix, hhx⟩
    obtain ⟨gx, ix⟩ := x
    simp only at hgx hix hhx
    obtain ⟨va, vc, rfl, _⟩ := own_slice ho
    have hB1 := hB
    rw [← HZ1.out] at hB1
    have hX := below_ext hB1
    have hbZ : Boxed W z 22 (.slice (some ⟨b, o, none⟩) (3 + 17 * G) c) := hX.keep HbZ1.out (by simp)
    obtain ⟨_, _, heq, hTc⟩ := (HT1.out.keep0 hX).at_ hne
    cases heq
    have cR := hTc (3 + 17 * gx + 2 + 2 * ix) (by rw [HL.out]; omega)
    rw [show T.getD (3 + 17 * gx + 2 + 2 * ix) 0 = idw T gx ix from rfl] at cR
    have KI := fun u => idAt_any gx ix (by omega) (by omega) u
    have cB := hb.cell
    have cZ := hbZ.cell
    obtain ⟨dx, hdx⟩ : ∃ dx, idw T gx ix = dx := ⟨_, rfl⟩
    rw [hdx] at cR
    have hlp : (pre.map fun p => idw T p.1 p.2).length ≤ 1000000 := by rw [List.length_map]; omega
    have HSn := hid (show ((pre ++ [(gx, ix)]).map fun p => idw T p.1 p.2) = (pre.map fun p => idw T p.1 p.2) ++ [dx] by rw [List.map_append, List.map_cons, List.map_nil, hdx])
    obtain ⟨L, hL⟩ : ∃ L, (pre.map fun p => idw T p.1 p.2) = L := ⟨_, rfl⟩
    rw [hL] at ho hb hlp HSn cB
    simp only [hL] at hvn
    obtain ⟨ln, hln⟩ : ∃ ln, L.length = ln := ⟨_, rfl⟩
    rw [hln] at ho hb hlp cB
    simp only [hln] at hvn
    have HX := hid hX
    have Hb := hid hb
    have HO := hid ho
    have HVn := hid hvn
    have HB := hid hB
    have Hln := hid hln
    have HbZ := hid hbZ
    clear hX hb ho hvn hB hB1 hTc hr hdx hL hln hbZ
    gi_wp2_with fail
    refine wpIn_region_heldC (fun u => u.cell? ⟨z1, 0, none⟩ = some (.slice va ln vc) ∧ u.cell? ⟨z, 0, none⟩ = some (.slice (some ⟨b, o, none⟩) (3 + 17 * G) c) ∧ u.cell? ⟨b, o + (3 + 17 * gx + 2 + 2 * ix), none⟩ = some (.int .u64 (dx : Nat))) 9 (by kernel_rfl) ?_
    have hS : W.drew.cell? ⟨z1, 0, none⟩ = some (.slice va ln vc) ∧ W.drew.cell? ⟨z, 0, none⟩ = some (.slice (some ⟨b, o, none⟩) (3 + 17 * G) c) ∧ W.drew.cell? ⟨b, o + (3 + 17 * gx + 2 + 2 * ix), none⟩ = some (.int .u64 (dx : Nat)) := ⟨cB, cZ, cR⟩
    refine wpAnyC_take (i := 0) (v := .slice va ln vc) rfl (by kernel_rfl) (fun _ _ _ h => h) (yieldsR_run rfl rfl (fun _ => rfl) (fun u hu => by obtain ⟨u1, u2, u3⟩ := hu; go_simp)) hS ?_
    simp only [Act.put, List.setIfInBounds_toArray]
    refine wpAnyC_take (i := 1) (v := .slice (some ⟨b, o, none⟩) (3 + 17 * G) c) rfl (by kernel_rfl) (fun _ _ _ h => h) (yieldsR_run rfl rfl (fun _ => rfl) (fun u hu => by obtain ⟨u1, u2, u3⟩ := hu; go_simp)) hS ?_
    simp only [Act.put]
    refine wpAnyC_take (i := 2) (v := .int .i64 (gx : Nat)) rfl (by kernel_rfl) (fun _ _ _ h => h) (yieldsR_run rfl rfl (fun _ => rfl) (fun u hu => by obtain ⟨u1, u2, u3⟩ := hu; go_simp)) hS ?_
    simp only [Act.put]
    refine wpAnyC_take (i := 3) (v := .int .i64 (ix : Nat)) rfl (by kernel_rfl) (fun _ _ _ h => h) (yieldsR_run rfl rfl (fun _ => rfl) (fun u hu => by obtain ⟨u1, u2, u3⟩ := hu; go_simp)) hS ?_
    simp only [Act.put]
    refine wpAnyC_sole (i := 4) rfl (by kernel_rfl) (fun K1 hK1 => ?_)
    go_simp
    refine ((callsIn_wide.2 (KI _)).inRound l).mono ?_
    rintro _ _ ⟨rfl, rfl⟩
    refine hK1 _ _ (.inr hS) ?_
    clear hK1 K1
    refine wpAnyC_take (i := 5) (v := .pointer (some ⟨b, o + (3 + 17 * gx + 2 + 2 * ix), none⟩)) rfl (by kernel_rfl) (fun _ _ _ h => h) (yieldsR_run rfl rfl (fun _ => rfl) (fun u hu => by clear hu; go_simp; rw [if_pos (by omega), show (3 + 17 * (gx : Int) + 2 + 2 * (ix : Int)).toNat = 3 + 17 * gx + 2 + 2 * ix by omega])) hS ?_
    simp only [Act.put, List.setIfInBounds_toArray]
    refine wpAnyC_take (i := 6) (v := .int .u64 (dx : Nat)) rfl (by kernel_rfl) (fun _ _ _ h => h) (yieldsR_run rfl rfl (fun _ => rfl) (fun u hu => by obtain ⟨u1, u2, u3⟩ := hu; go_simp)) hS ?_
    simp only [Act.put]
    refine wpAnyC_sole (i := 7) rfl (by kernel_rfl) (fun K1 hK1 => ?_)
    go_simp
    have hxa := Ext.alloc [] W.drew (.cells #[.int .u64 (dx : Nat)] 23)
    have hU : Ext [] W (W.drew.alloc (.cells #[.int .u64 (dx : Nat)] 23)) := (Ext.drew [] W).trans hxa
    have hS2 : (W.drew.alloc (.cells #[.int .u64 (dx : Nat)] 23)).cell? ⟨z1, 0, none⟩ = some (.slice va ln vc) ∧ (W.drew.alloc (.cells #[.int .u64 (dx : Nat)] 23)).cell? ⟨z, 0, none⟩ = some (.slice (some ⟨b, o, none⟩) (3 + 17 * G) c) ∧ (W.drew.alloc (.cells #[.int .u64 (dx : Nat)] 23)).cell? ⟨b, o + (3 + 17 * gx + 2 + 2 * ix), none⟩ = some (.int .u64 (dx : Nat)) := ⟨hxa.cell hS.1 (by simp), hxa.cell hS.2.1 (by simp), hxa.cell hS.2.2 (by simp)⟩
    refine hK1 _ _ (.inr hS2) ?_
    clear hK1 K1
    obtain ⟨v', U', hrun, ⟨a', c', hv'⟩, hbU, hgat, hkc, hko, hxx, hx5⟩ := gat_push (w1 := w1) (L := L) (x := dx) Hln.out HZ1.out Hb.out HO.out HVn.out HB.out hU (Boxed.cell (Boxed.new W.drew 23 (.int .u64 (dx : Nat)))) hlp
    refine wpAnyC_sole (i := 8) rfl (by kernel_rfl) (fun K1 hK1 => ?_)
    refine stepR_append (fun _ => trivial) rfl _ _ 22 rfl (.slice va ln vc) (.slice (some ⟨W.heap.size, 0, none⟩) 1 1) v' rfl rfl hrun ?_
    have hownz : ∀ q, q ∈ (Value.slice va ln vc).ownBlock.toList → z1 < q := fun q hq => HVn.out q (by simpa using hq)
    have hS3 : U'.cell? ⟨z1, 0, none⟩ = some (.slice va ln vc) ∧ U'.cell? ⟨z, 0, none⟩ = some (.slice (some ⟨b, o, none⟩) (3 + 17 * G) c) ∧ U'.cell? ⟨b, o + (3 + 17 * gx + 2 + 2 * ix), none⟩ = some (.int .u64 (dx : Nat)) := by
      refine ⟨hbU.cell, hx5.cell cZ (fun q => by have := hownz _ q; simp at this; omega), hx5.cell cR (fun q => by have := hownz _ q; simp at this; omega)⟩
    refine hK1 _ _ (.inr hS3) ?_
    clear hK1 K1
    subst hv'
    have cU := hbU.cell
    have fU := hbU.frozen
    have HF : Hid (KeepsFrom W3.heap.size W (U'.setCell ⟨z1, 0, none⟩ (.slice a' (ln + 1) c')) ∧ Kc (Obx z1) W (U'.setCell ⟨z1, 0, none⟩ (.slice a' (ln + 1) c')) ∧ Gat w1 z1 ((pre ++ [(gx, ix)]).map fun p => idw T p.1 p.2) (U'.setCell ⟨z1, 0, none⟩ (.slice a' (ln + 1) c'))) := by
      rw [HSn.out]
      exact ⟨hko.from _, hkc, hgat⟩
    clear hrun hgat hkc hko hxx hx5 hU hxa hS hS2 hS3
    refine wpAnyC_sole (i := 9) rfl (by kernel_rfl) (fun K1 hK1 => ?_)
    go_simp
    refine hK1 _ _ (.inl rfl) ?_
    clear hK1 K1
    refine wpAnyC_done (by kernel_rfl) ?_
    gi_wp2_with fail
    exact HF.out
end Go.Proofs.YtkknadkcpndnaaaDoor

/-
  Delete: a table without an entry; no statement is proved here.
-/
namespace Go.Proofs.YtkknadkcpndnaaaDoor
open Go.RowKit Go.Shelf
open Pr (Gp GpI sq pl)
attribute [local go_sem] Oper.semAt_some run_store_func wide_fn wide_depth

/-- The blocks of a list are the loop's own. -/
def Olist (S : List Nat) (_ : World) (k : Nat) : Prop := k ∈ S
theorem cal_list {β : Type} {S : List Nat} {J : β → World → Prop} {B : Nat} (hJ : OwnFrom B J) (hl : ∀ s W, J s W → ∀ k ∈ S, k < W.heap.size) : Cal (Olist S) J B := ⟨hJ, fun s W k h hk => hl s W h k hk, fun _ _ _ _ _ _ _ h => h⟩
theorem kc_list {S : List Nat} {A B : World} (x : Ext S A B) : Kc (Olist S) A B := ⟨x.size, fun _ _ hk _ hO => x.keep hk hO, fun _ h => .inl h⟩
theorem load22 {w : World} {g : Nat} {v : Value} (h : Boxed w g 22 v) : (loadVar 22 ⟨g, 0, none⟩).run Tryd.prog w = .ok v w := by
  have := h.cell
  simp [go_sem, this]
theorem load29 {w : World} {g : Nat} {v : Value} (h : Boxed w g 29 v) : (loadVar 29 ⟨g, 0, none⟩).run Tryd.prog w = .ok v w := by
  have := h.cell
  simp [go_sem, this]
theorem results_cells2 {P : Program} {fn : Func} {p q : Tmp} {ty ty' : TypeId} (h : fn.results = #[.cell p ty, .cell q ty']) (tmps : Array Value) (w : World) (a b : Addr) (v v' : Value)
    (hp : tmps.getD p undef = .pointer (some a)) (hq : tmps.getD q undef = .pointer (some b)) (h1 : (loadVar ty a).run P w = .ok v w) (h2 : (loadVar ty' b).run P w = .ok v' w) : (results fn tmps).run P w = .ok (.tuple #[v, v']) w := by
  have hp' : tmps[p]?.getD undef = .pointer (some a) := by simpa using hp
  have hq' : tmps[q]?.getD undef = .pointer (some b) := by simpa using hq
  simp [results, h, hp', hq', asAddr, h1, h2]

/-- What Delete makes of a table. -/
def DelT (T : List Nat) (G h d : Nat) : Option (List Nat) → Prop
  | some T' => ∃ A x C, mts T h G = A ++ x :: C ∧ (∀ p ∈ A, idw T p.1 p.2 ≠ d) ∧ idw T x.1 x.2 = d ∧ T' = remAt T x.1 x.2
  | none => ∀ p ∈ mts T h G, idw T p.1 p.2 ≠ d
def TDelPost (T : List Nat) (G h d : Nat) (w : World) (e : Ending) (w' : World) : Prop := Ext [] w w' ∧
  ((∃ T' g c, DelT T G h d (some T') ∧ e = .returned (.tuple #[.slice (some ⟨g, 0, none⟩) (3 + 17 * G) c, .int .i64 0]) ∧ Tw w' g T' ∧ w.heap.size ≤ g) ∨
   (DelT T G h d none ∧ e = .returned (.tuple #[.slice none 0 0, .int .i64 4])))
def DelI (T : List Nat) (d : Nat) (W3 : World) (pre : List (Nat × Nat)) (W : World) : Prop := Ext [] W3 W ∧ ∀ p ∈ pre, idw T p.1 p.2 ≠ d
def DelX (T : List Nat) (G d z : Nat) (W3 : World) (cd : Code) (pre : List (Nat × Nat)) (W : World) : Prop := cd = .ret ∧ ∃ A x, pre = A ++ [x] ∧ (∀ p ∈ A, idw T p.1 p.2 ≠ d) ∧ idw T x.1 x.2 = d ∧
  ∃ g c, Boxed W (z + 2) 22 (.slice (some ⟨g, 0, none⟩) (3 + 17 * G) c) ∧ Boxed W (z + 3) 29 (.int .i64 0) ∧ Tw W g (remAt T x.1 x.2) ∧ W3.heap.size ≤ g ∧ Ext [z + 2, z + 3] W3 W

set_option maxRecDepth 100000 in
set_option maxHeartbeats 4000000 in
theorem tdelete_any (a : Option Addr) (c : Nat) (T : List Nat) (G h d : Nat) (hSd : Sd T G) (hh : h < 18446744073709551616) (w : World) (hT : Wd w a T) (hTb : Tb w) :
    Calls Tryd.prog 17 #[.slice a (3 + 17 * G) c, .int .u64 (h : Nat), .int .u64 (d : Nat)] w (TDelPost T G h d w) := by
  have hlen := hSd.shp.len
  have hG := hSd.shp.gp.le
  have hne : T ≠ [] := by rintro rfl; simp at hlen; omega
  obtain ⟨b, o, rfl, hcc⟩ := hT.at_ hne
  clear hcc
  refine (callsIn_wide (n := 14)).1 ?_
  refine callsIn_of_wp_marks Tryd.func17 rfl trivial ?_ rfl
  simp only [Tryd.ntmps17, List.size_toArray, List.length_cons, List.length_nil, Nat.reduceAdd, Nat.reduceSub, Array.replicate_succ, Array.replicate_zero, List.push_toArray, List.append_toArray, List.nil_append, List.cons_append]
  obtain ⟨z, hz⟩ : ∃ z, w.heap.size = z := ⟨_, rfl⟩
  have hbz : b < z := by
    obtain ⟨b', o', e, hc⟩ := hT.at_ hne
    cases e
    have := block_lt_of_cell (hc 0 (by rw [hlen]; omega))
    rw [hz] at this; exact this
  have h0z : 0 < z := by rw [← hz]; exact hTb.lt
  obtain ⟨W0, hW0⟩ : ∃ W0, (((w.alloc (.cells #[.slice (some ⟨b, o, none⟩) (3 + 17 * G) c] 22)).alloc (.cells #[.int .u64 (d : Nat)] 23)).alloc (.cells #[.slice none 0 0] 22)).alloc (.cells #[.int .i64 0] 29) = W0 := ⟨_, rfl⟩
  have hE0 : Ext [] w W0 := by rw [← hW0]; exact (((Ext.alloc [] _ _).trans (Ext.alloc [] _ _)).trans (Ext.alloc [] _ _)).trans (Ext.alloc [] _ _)
  have b0 : Boxed W0 z 22 (.slice (some ⟨b, o, none⟩) (3 + 17 * G) c) := by rw [← hW0, ← hz]; exact (((Boxed.new w 22 _).alloc _).alloc _).alloc _
  have b1 : Boxed W0 (z + 1) 23 (.int .u64 (d : Nat)) := by
    have := ((Boxed.new (w.alloc (.cells #[.slice (some ⟨b, o, none⟩) (3 + 17 * G) c] 22)) 23 (.int .u64 (d : Nat))).alloc (.cells #[.slice none 0 0] 22)).alloc (.cells #[.int .i64 0] 29)
    rw [hW0, World.size_alloc, hz] at this; exact this
  have b2 : Boxed W0 (z + 2) 22 (.slice none 0 0) := by
    have := (Boxed.new ((w.alloc (.cells #[.slice (some ⟨b, o, none⟩) (3 + 17 * G) c] 22)).alloc (.cells #[.int .u64 (d : Nat)] 23)) 22 (.slice none 0 0)).alloc (.cells #[.int .i64 0] 29)
    rw [hW0, World.size_alloc, World.size_alloc, hz] at this; exact this
  have b3 : Boxed W0 (z + 3) 29 (.int .i64 0) := by
    have := Boxed.new (((w.alloc (.cells #[.slice (some ⟨b, o, none⟩) (3 + 17 * G) c] 22)).alloc (.cells #[.int .u64 (d : Nat)] 23)).alloc (.cells #[.slice none 0 0] 22)) 29 (.int .i64 0)
    rw [hW0, World.size_alloc, World.size_alloc, World.size_alloc, hz] at this; exact this
  have cZ := b0.cell
  have K0 := sound_true (some ⟨b, o, none⟩) c T G hSd _ (hT.keep0 hE0)
  have HE0 := hid hE0
  have Hb0 := hid b0
  have Hb1 := hid b1
  have Hb2 := hid b2
  have Hb3 := hid b3
  have HT0 := hid (hT.keep0 hE0)
  have HTb0 := hid (hTb.keep0 hE0)
  have HSd := hid hSd
  have HL := hid hlen
  have HZ := hid hz
  clear hE0 b0 b1 b2 b3 hT hTb hSd hlen
  gi_wp2_with fail
  try rw [hW0]
  try simp only [hz]
  simp only [show z + 1 + 1 = z + 2 from rfl, show z + 2 + 1 = z + 3 from rfl]
  clear hW0
  gi_at_call 38
  refine (callsIn_wide.2 K0).mono ?_
  clear K0 cZ hz
  rintro _ w1 ⟨rfl, hX1⟩
  obtain ⟨z1, hz1⟩ : ∃ z1, w1.heap.size = z1 := ⟨_, rfl⟩
  have hb0 : Boxed w1 z 22 (.slice (some ⟨b, o, none⟩) (3 + 17 * G) c) := hX1.keep Hb0.out (by simp)
  have cZ := hb0.cell
  have HT1 := hid (HT0.out.keep0 hX1)
  have HTb1 := hid (HTb0.out.keep0 hX1)
  have HE1 := hid (HE0.out.trans hX1)
  have Hb0' := hid hb0
  have Hb1' := hid (show Boxed w1 (z + 1) 23 _ from hX1.keep Hb1.out (by simp))
  have Hb2' := hid (show Boxed w1 (z + 2) 22 _ from hX1.keep Hb2.out (by simp))
  have Hb3' := hid (show Boxed w1 (z + 3) 29 _ from hX1.keep Hb3.out (by simp))
  have hzz : z + 3 < z1 := by rw [← hz1]; exact Hb3'.out.lt
  have K1 := matches_any (some ⟨b, o, none⟩) (3 + 17 * G) c h w1
  simp only [hz1] at K1
  have HZ1 := hid hz1
  clear hX1 Hb0 Hb1 Hb2 Hb3 HT0 HTb0 HE0 hb0 hz1
  gi_wp2_with (first | (gi_at_call 41; refine (callsIn_wide.2 K1).mono ?_; rintro _ _ ⟨rfl, rfl⟩))
  clear K1 cZ
  have hz1' := HZ1.out
  have bt := (Boxed.new w1 22 (.slice (some ⟨b, o, none⟩) (3 + 17 * G) c)).alloc (.cells #[.int .u64 (h : Nat)] 23)
  have bh := Boxed.new (w1.alloc (.cells #[.slice (some ⟨b, o, none⟩) (3 + 17 * G) c] 22)) 23 (.int .u64 (h : Nat))
  have hX3 : Ext [] w1 ((w1.alloc (.cells #[.slice (some ⟨b, o, none⟩) (3 + 17 * G) c] 22)).alloc (.cells #[.int .u64 (h : Nat)] 23)) := (Ext.alloc [] _ _).trans (Ext.alloc [] _ _)
  obtain ⟨W3, hW3⟩ : ∃ W3, (w1.alloc (.cells #[.slice (some ⟨b, o, none⟩) (3 + 17 * G) c] 22)).alloc (.cells #[.int .u64 (h : Nat)] 23) = W3 := ⟨_, rfl⟩
  have hs3 : W3.heap.size = z1 + 2 := by rw [← hW3]; simp [hz1']
  simp only [World.size_alloc, hz1'] at bt bh
  rw [hW3] at bt bh hX3
  have hb1 : b < z1 := by
    obtain ⟨b', o', e, hc⟩ := HT1.out.at_ hne
    cases e
    have := block_lt_of_cell (hc 0 (by rw [HL.out]; omega))
    rw [hz1'] at this; exact this
  obtain ⟨R, hR1⟩ : ∃ R, w1.heap[b]? = some R := ⟨_, Array.getElem?_eq_getElem (by rw [hz1']; exact hb1)⟩
  have hRc : R.isCells = true := by
    obtain ⟨b', o', e, hc⟩ := HT1.out.at_ hne
    cases e
    have := hc 0 (by rw [HL.out]; omega)
    cases R with
    | cells cs t m => rfl
    | _ => simp [World.cell?, hR1] at this
  have hO3 : ∀ k ∈ [0, z1, z1 + 1, b], ¬ Olist [z + 2, z + 3] W3 k := by
    intro k hk hO
    simp only [Olist, List.mem_cons, List.not_mem_nil, or_false] at hk hO
    omega
  have hMat := matches_gives 13 (by omega) z1 (z1 + 1) b o c h G T R HSd.out.shp hh (Olist [z + 2, z + 3]) W3 bt bh (hX3.keep hR1 (by simp)) hRc (HT1.out.keep0 hX3) (HTb1.out.keep0 hX3) hO3
  have HMat := hid hMat
  have HX3 := hid hX3
  clear bt bh hMat hR1 hRc hO3 hX3
  rw [hW3]
  have hz13 : z1 + 2 ≤ W3.heap.size ∧ W3.heap.size ≤ z1 + 2 := by omega
  clear hW3 hs3 hz1'
  have hz3' : z + 3 < W3.heap.size := by omega
  refine loop_givesS rfl (by omega) (gf := 75) (lb := #[.pointer (some ⟨z1 + 1, 0, none⟩), .pointer (some ⟨z1, 0, none⟩)]) rfl trivial (enters_of Tryd.func75 (by kernel_rfl) rfl)
    HMat.out (fun _ => rfl)
    (DelI T d W3) (DelX T G d z W3)
    (cal_list (OwnFrom.and (ext_own (Nat.le_refl _)) (ownFrom_pure _ _)) (fun s W hs k hk => by have := hs.1.size; simp at hk; omega))
    (fun cd => cal_list (fun s X Y row hs hg hr => by
      obtain ⟨e1, A, x, e2, e3, e4, g, c', q1, q2, q3, q4, q5⟩ := hs
      exact ⟨e1, A, x, e2, e3, e4, g, c', boxed_own (z + 2) 22 (fun _ : Unit => .slice (some ⟨g, 0, none⟩) (3 + 17 * G) c') () X Y row q1 hg (fun r e => (hr r e).2), boxed_own (z + 3) 29 (fun _ : Unit => .int .i64 0) () X Y row q2 hg (fun r e => (hr r e).2), tw_own (β := Unit) g _ () X Y row q3 hg (fun r e => (hr r e).2), q4, ext_own (β := Unit) (Nat.le_refl _) () X Y row q5 hg hr⟩)
      (fun s W hs k hk => by obtain ⟨e1, A, x, e2, e3, e4, g, c', q1, q2, q3, q4, q5⟩ := hs; have := q5.size; simp at hk; omega))
    ⟨Ext.refl _ _, by simp⟩
    (fun x a' _ => a' = { tmps := #[.slice (some ⟨b, o, none⟩) (3 + 17 * G) c, .int .u64 (h : Nat), .int .u64 (d : Nat), .pointer (some ⟨z, 0, none⟩), undef, .pointer (some ⟨z + 1, 0, none⟩), .pointer (some ⟨z + 2, 0, none⟩), .pointer (some ⟨z + 3, 0, none⟩), .int .i64 (x.1 : Nat), .int .i64 (x.2 : Nat), undef, .slice (some ⟨b, o, none⟩) (3 + 17 * G) c, .bool true, .bool false, .slice (some ⟨b, o, none⟩) (3 + 17 * G) c, .int .u64 (h : Nat), .func (.func 75) #[] #[.pointer (some ⟨z1 + 1, 0, none⟩), .pointer (some ⟨z1, 0, none⟩)], .int .i64 (x.1 : Nat), .int .i64 (x.2 : Nat), undef, undef, undef, undef, undef, undef, undef, undef, undef, undef, undef, undef, undef, undef, undef], defers := [] }) (fun x a' _ X Y row hs hg hr => hs)
    ?assign ?body ?done ?stop
  case assign =>
    rintro l pre x W K _ hI hK
    unfold penc
    gi_wp2
    exact hK _ _ (KeepsFrom.refl _ _) (Kc.refl _ _) hI rfl
  case stop =>
    rintro D cd pre W hD hSp ⟨rfl, A, x, rfl, hA, hx, g, c', q1, q2, q3, q4, q5⟩ hK
    have HF : Hid (DelT T G h d (some (remAt T x.1 x.2))) := by
      obtain ⟨C, hC⟩ := hSp
      exact ⟨A, x, C, by rw [← hC]; simp, hA, hx, rfl⟩
    have Hq1 := hid q1
    have Hq2 := hid q2
    have Hq3 := hid q3
    have Hq5 := hid q5
    have HK := hid hK
    have HD := hid hD
    clear hSp hA hx q1 q2 q3 q5 hK hD
    gi_wp2_with fail
    have hP := grownBy_putObj' W D (.deferred none)
    have hx2 := Ext.grown (S := [D]) hP (by simp)
    have hDz := HD.out
    have hr1 : Boxed _ _ _ _ := hx2.keep (show W.heap[z + 2]? = _ from Hq1.out) (by simp; omega)
    have hr2 : Boxed _ _ _ _ := hx2.keep (show W.heap[z + 3]? = _ from Hq2.out) (by simp; omega)
    have hDW := lt_of_heap HK.out
    have hgD : g ≠ D := by
      rintro rfl
      obtain ⟨cs, h1, _⟩ := Hq3.out
      rw [HK.out] at h1
      cases h1
    have hw := HZ.out
    refine ⟨by simp, .inl ⟨_, _, rfl, run_takeDeferred HK.out, _, results_cells2 rfl _ _ ⟨z + 2, 0, none⟩ ⟨z + 3, 0, none⟩ _ _ rfl rfl (load22 hr1) (load29 hr2), ?_, .inl ⟨_, g, c', HF.out, rfl, Hq3.out.keep hx2 (by simp; exact hgD), by omega⟩⟩⟩
    exact (((HE1.out.trans HX3.out).on Hq5.out (by simp; omega)).on hx2 (by simp; omega))
  case done =>
    rintro D zs W hD rfl ⟨hX, hno⟩ hK
    have hb2 : Boxed W (z + 2) 22 (.slice none 0 0) := hX.keep (HX3.out.keep Hb2'.out (by simp)) (by simp)
    have hb3 : Boxed W (z + 3) 29 (.int .i64 0) := hX.keep (HX3.out.keep Hb3'.out (by simp)) (by simp)
    have c2 := hb2.cell
    have f2 := hb2.frozen
    have hx1 := Ext.setCell [z + 2] W ⟨z + 2, 0, none⟩ (.slice none 0 0) (by simp)
    have hb3' : Boxed (W.setCell ⟨z + 2, 0, none⟩ (.slice none 0 0)) (z + 3) 29 (.int .i64 0) := hx1.keep hb3 (by simp)
    have c3 := hb3'.cell
    have f3 := hb3'.frozen
    have HX := hid hX
    have HNo := hid hno
    have HK := hid hK
    have HD := hid hD
    have Hb2 := hid hb2
    have Hb3 := hid hb3'
    have Hx1 := hid hx1
    clear hX hno hK hD hb2 hb3 hb3' hx1
    gi_wp2_with fail
    have hx3 := Ext.setCell [z + 3] (W.setCell ⟨z + 2, 0, none⟩ (.slice none 0 0)) ⟨z + 3, 0, none⟩ (.int .i64 4) (by simp)
    have hK2 := ((KeepsOthers.setCell W ⟨z + 2, 0, none⟩ (.slice none 0 0)).trans (KeepsOthers.setCell _ ⟨z + 3, 0, none⟩ (.int .i64 4))).same _ _ HK.out rfl
    have hP := grownBy_putObj' ((W.setCell ⟨z + 2, 0, none⟩ (.slice none 0 0)).setCell ⟨z + 3, 0, none⟩ (.int .i64 4)) D (.deferred none)
    have hx2 := Ext.grown (S := [D]) hP (by simp)
    have hDz := HD.out
    have hr1 : Boxed _ _ _ _ := hx2.keep (hx3.keep (Hb2.out.set (.slice none 0 0)) (by simp)) (by simp; omega)
    have hr2 : Boxed _ _ _ _ := hx2.keep (Hb3.out.set (.int .i64 4)) (by simp; omega)
    have hw := HZ.out
    refine ⟨by simp, .inl ⟨_, _, rfl, run_takeDeferred hK2, _, results_cells2 rfl _ _ ⟨z + 2, 0, none⟩ ⟨z + 3, 0, none⟩ _ _ rfl rfl (load22 hr1) (load29 hr2), ?_, .inr ⟨HNo.out, rfl⟩⟩⟩
    exact ((((HE1.out.trans HX3.out).trans HX.out).on Hx1.out (by simp; omega)).on hx3 (by simp; omega)).on hx2 (by simp; omega)
  case body =>
    rintro l pre x a' W hl ⟨r, hr⟩ ⟨hX, hno⟩ rfl hlt ⟨hgx, hix, hhx⟩
    obtain ⟨gx, ix⟩ := x
    simp only at hgx hix hhx
    have hXa := HX3.out.trans hX
    have hb0 : Boxed W z 22 (.slice (some ⟨b, o, none⟩) (3 + 17 * G) c) := hXa.keep Hb0'.out (by simp)
    have hb1 : Boxed W (z + 1) 23 (.int .u64 (d : Nat)) := hXa.keep Hb1'.out (by simp)
    have hb2 : Boxed W (z + 2) 22 (.slice none 0 0) := hXa.keep Hb2'.out (by simp)
    have hb3 : Boxed W (z + 3) 29 (.int .i64 0) := hXa.keep Hb3'.out (by simp)
    have hTW := HT1.out.keep0 hXa
    obtain ⟨_, _, heq, hTc⟩ := hTW.at_ hne
    cases heq
    have cR := hTc (3 + 17 * gx + 2 + 2 * ix) (by rw [HL.out]; omega)
    rw [show T.getD (3 + 17 * gx + 2 + 2 * ix) 0 = idw T gx ix from rfl] at cR
    have KI := fun u => idAt_any gx ix (by omega) (by omega) u
    have c0 := hb0.cell
    have c1 := hb1.cell
    obtain ⟨dx, hdx⟩ : ∃ dx, idw T gx ix = dx := ⟨_, rfl⟩
    rw [hdx] at cR
    have HX := hid hX
    have HNo := hid hno
    have HTW := hid hTW
    have Hb0 := hid hb0
    have Hb2 := hid hb2
    have Hb3 := hid hb3
    have Hdx := hid hdx
    clear hX hno hTW hTc hr hb0 hb1 hb2 hb3 hXa hdx
    by_cases hdd : dx = d
    · have hd1 : ((dx : Int) == (d : Int)) = true := by simp [hdd]
      gi_wp2_with fail
      refine wpIn_region_quietR (by kernel_rfl) (by kernel_rfl) (by kernel_rfl) ?_
      repeat (gi_big_quiet_step (first | (gi_at_call 42; refine CallsIn.quiet_of_same ((callsIn_wide.2 (KI _)).inRound l))))
      refine wpQuietIn_nil ?_
      rintro _ ⟨nq, rfl⟩
      have hxd := Ext.drewN [] W nq
      obtain ⟨V, hV⟩ : ∃ V, W.drewN nq = V := ⟨_, rfl⟩
      rw [hV] at hxd ⊢
      clear c0 c1 cR hV
      have c0 := Boxed.cell (show Boxed V z 22 _ from hxd.keep Hb0.out (by simp))
      have K2 := clone_any b o (3 + 17 * G) c T V (HTW.out.keep0 hxd) HL.out (by omega) (by omega)
      have HXd := hid hxd
      clear hxd
      gi_wp2_with fail
      gi_at_call 39
      refine ((callsIn_wide.2 K2).inRound l).mono ?_
      clear K2
      rintro _ V2 ⟨g, cc, rfl, hTw, hg, hX2⟩
      have huse := HSd.out.use
      have K3 := remove_any g cc T G gx ix HSd.out.shp hgx hix (by omega) V2 hTw
      have HX2 := hid (HXd.out.trans hX2)
      have hg2 : W.heap.size ≤ g := Nat.le_trans HXd.out.size hg
      clear hX2 HXd c0 hTw hg huse
      gi_wp2_with fail
      gi_at_call 43
      refine ((callsIn_wide.2 K3).inRound l).mono ?_
      clear K3
      rintro _ V3 ⟨⟨v3, rfl⟩, hTw3, hX3b⟩
      have hXW : Ext [] W V3 := HX2.out.on hX3b (by simp; omega)
      have hb2 : Boxed V3 (z + 2) 22 (.slice none 0 0) := hXW.keep Hb2.out (by simp)
      have hb3 : Boxed V3 (z + 3) 29 (.int .i64 0) := hXW.keep Hb3.out (by simp)
      have c2 := hb2.cell
      have f2 := hb2.frozen
      have hx1 := Ext.setCell [z + 2] V3 ⟨z + 2, 0, none⟩ (.slice (some ⟨g, 0, none⟩) (3 + 17 * G) cc) (by simp)
      have hb3' : Boxed (V3.setCell ⟨z + 2, 0, none⟩ (.slice (some ⟨g, 0, none⟩) (3 + 17 * G) cc)) (z + 3) 29 (.int .i64 0) := hx1.keep hb3 (by simp)
      have c3 := hb3'.cell
      have f3 := hb3'.frozen
      have hx3 := Ext.setCell [z + 3] (V3.setCell ⟨z + 2, 0, none⟩ (.slice (some ⟨g, 0, none⟩) (3 + 17 * G) cc)) ⟨z + 3, 0, none⟩ (.int .i64 0) (by simp)
      have hgW : W3.heap.size ≤ g := Nat.le_trans HX.out.size hg2
      have hall : Ext [z + 2, z + 3] W ((V3.setCell ⟨z + 2, 0, none⟩ (.slice (some ⟨g, 0, none⟩) (3 + 17 * G) cc)).setCell ⟨z + 3, 0, none⟩ (.int .i64 0)) := ((hXW.mono (by simp)).trans (hx1.mono (by simp))).trans (hx3.mono (by simp))
      have HF : Hid (KeepsFrom W3.heap.size W ((V3.setCell ⟨z + 2, 0, none⟩ (.slice (some ⟨g, 0, none⟩) (3 + 17 * G) cc)).setCell ⟨z + 3, 0, none⟩ (.int .i64 0)) ∧ Kc (Olist [z + 2, z + 3]) W ((V3.setCell ⟨z + 2, 0, none⟩ (.slice (some ⟨g, 0, none⟩) (3 + 17 * G) cc)).setCell ⟨z + 3, 0, none⟩ (.int .i64 0)) ∧ DelX T G d z W3 .ret (pre ++ [(gx, ix)]) ((V3.setCell ⟨z + 2, 0, none⟩ (.slice (some ⟨g, 0, none⟩) (3 + 17 * G) cc)).setCell ⟨z + 3, 0, none⟩ (.int .i64 0))) := by
        refine ⟨keeps_ext hall (by simp; omega), kc_list hall, rfl, pre, (gx, ix), rfl, HNo.out, ?_, g, cc, ?_, ?_, ?_, hgW, (HX.out.mono (by simp)).trans hall⟩
        · show idw T gx ix = d
          rw [Hdx.out, hdd]
        · exact hx3.keep (hb2.set _) (by simp)
        · exact hb3'.set _
        · exact (hTw3.keep hx1 (by simp; omega)).keep hx3 (by simp; omega)
      clear hTw3 hX3b hXW hb2 hb3 hx1 hb3' hx3 hall
      gi_wp2_with fail
      exact HF.out
    · have hd1 : ((dx : Int) == (d : Int)) = false := by simp; omega
      gi_wp2_with fail
      refine wpIn_region_quietR (by kernel_rfl) (by kernel_rfl) (by kernel_rfl) ?_
      repeat (gi_big_quiet_step (first | (gi_at_call 42; refine CallsIn.quiet_of_same ((callsIn_wide.2 (KI _)).inRound l))))
      refine wpQuietIn_nil ?_
      rintro _ ⟨nq, rfl⟩
      have HF : Hid (KeepsFrom W3.heap.size W (W.drewN nq) ∧ Kc (Olist [z + 2, z + 3]) W (W.drewN nq) ∧ DelI T d W3 (pre ++ [(gx, ix)]) (W.drewN nq)) := by
        refine ⟨⟨Nat.le_refl _, fun _ _ _ h _ => h⟩, kc_list (Ext.drewN _ W nq), HX.out.trans (Ext.drewN [] W nq), fun p hp => ?_⟩
        rcases List.mem_append.1 hp with q | q
        · exact HNo.out p q
        · simp only [List.mem_singleton] at q
          subst q
          show idw T gx ix ≠ d
          rw [Hdx.out]
          exact hdd
      clear c0 c1 cR
      gi_wp2_with fail
      exact HF.out
end Go.Proofs.YtkknadkcpndnaaaDoor

/-
  Sound tables, byte by byte; no statement is proved here.
-/
namespace Go.Proofs.YtkknadkcpndnaaaDoor
open Pr (Gp GpI sq pl)

/-! ### counting in a group -/
def cnt (p : Nat → Bool) : Nat := ((List.range 8).filter p).length
theorem flen (p : Nat → Bool) (x : Nat) (l : List Nat) : ((x :: l).filter p).length = (if p x then 1 else 0) + (l.filter p).length := by
  rw [List.filter_cons]
  split <;> simp [Nat.add_comm]
theorem cnt_eq (p : Nat → Bool) : cnt p = (if p 0 then 1 else 0) + (if p 1 then 1 else 0) + (if p 2 then 1 else 0) + (if p 3 then 1 else 0) + (if p 4 then 1 else 0) + (if p 5 then 1 else 0) + (if p 6 then 1 else 0) + (if p 7 then 1 else 0) := by
  unfold cnt
  rw [show List.range 8 = [0, 1, 2, 3, 4, 5, 6, 7] from rfl]
  rw [flen, flen, flen, flen, flen, flen, flen, flen]
  simp only [List.filter_nil, List.length_nil, Nat.add_zero, Nat.add_assoc]
theorem cnt_congr {p q : Nat → Bool} (h : ∀ i, i < 8 → p i = q i) : cnt p = cnt q := by
  unfold cnt
  rw [List.filter_congr fun i hi => h i (by simpa using hi)]
theorem cnt_flip {p q : Nat → Bool} {i : Nat} (hi : i < 8) (h : ∀ j, j < 8 → j ≠ i → q j = p j) (hp : p i = false) (hq : q i = true) : cnt q = cnt p + 1 := by
  rw [cnt_eq, cnt_eq]
  have h0 := h 0 (by omega); have h1 := h 1 (by omega); have h2 := h 2 (by omega); have h3 := h 3 (by omega)
  have h4 := h 4 (by omega); have h5 := h 5 (by omega); have h6 := h 6 (by omega); have h7 := h 7 (by omega)
  rcases (by omega : i = 0 ∨ i = 1 ∨ i = 2 ∨ i = 3 ∨ i = 4 ∨ i = 5 ∨ i = 6 ∨ i = 7) with rfl | rfl | rfl | rfl | rfl | rfl | rfl | rfl
  all_goals
    try rw [h0 (by omega)]
    try rw [h1 (by omega)]
    try rw [h2 (by omega)]
    try rw [h3 (by omega)]
    try rw [h4 (by omega)]
    try rw [h5 (by omega)]
    try rw [h6 (by omega)]
    try rw [h7 (by omega)]
    rw [hp, hq]
    simp only [if_true, Bool.false_eq_true, if_false]
    try omega
theorem pc_mk (p : Nat → Bool) : pc (mk p 8) = cnt p := by
  unfold pc cnt
  congr 1
  apply List.filter_congr
  intro i hi
  rw [mk_testBit]
  simp at hi
  simp [hi]
theorem mk_orr (p q : Nat → Bool) : mk p 8 ||| mk q 8 = mk (fun i => p i || q i) 8 := by
  apply Nat.eq_of_testBit_eq
  intro i
  rw [Nat.testBit_or, mk_testBit, mk_testBit, mk_testBit]
  cases decide (i < 8) <;> simp
theorem mk_zero {p : Nat → Bool} : mk p 8 = 0 ↔ ∀ i, i < 8 → p i = false := by
  constructor
  · intro h i hi
    have := mk_testBit p 8 i
    rw [h] at this
    simp only [hi, decide_true, Bool.true_and, Nat.zero_testBit] at this
    exact this.symm
  · intro h
    apply Nat.eq_of_testBit_eq
    intro i
    rw [mk_testBit]
    by_cases hi : i < 8
    · simp [h i hi]
    · simp [hi]
theorem mk_full {p : Nat → Bool} : mk p 8 = 255 ↔ ∀ i, i < 8 → p i = true := by
  constructor
  · intro h i hi
    have := mk_testBit p 8 i
    rw [h] at this
    have h2 : (255 : Nat).testBit i = true := by
      rcases (by omega : i = 0 ∨ i = 1 ∨ i = 2 ∨ i = 3 ∨ i = 4 ∨ i = 5 ∨ i = 6 ∨ i = 7) with rfl | rfl | rfl | rfl | rfl | rfl | rfl | rfl <;> rfl
    rw [h2] at this
    simp only [hi, decide_true, Bool.true_and] at this
    exact this.symm
  · intro h
    have e : (255 : Nat) = mk (fun _ => true) 8 := by decide
    rw [e]
    apply Nat.eq_of_testBit_eq
    intro i
    rw [mk_testBit, mk_testBit]
    by_cases hi : i < 8
    · simp [h i hi]
    · simp [hi]

/-! ### a table's bytes -/
def bt (T : List Nat) (g i : Nat) : Nat := byt (cw T g) i
theorem mt_zero {c x : Nat} : mt c x = 0 ↔ ∀ i, i < 8 → byt c i ≠ x := by
  unfold mt
  rw [mk_zero]
  simp
theorem hasE_iff {T : List Nat} {g : Nat} : hasE T g = false ↔ ∀ i, i < 8 → bt T g i ≠ 128 := by
  unfold hasE
  rw [decide_eq_false_iff_not, Classical.not_not, mt_zero]
  rfl
theorem opn_eq (T : List Nat) (g : Nat) : opn T g = (List.range 8).filter fun i => decide (bt T g i = 128) || decide (bt T g i = 254) := by
  unfold opn mt
  rw [mk_orr, bsF_mk]
  rfl
theorem scB_iff {c : Nat} : scB c = true ↔ (∀ i, i < 8 → byt c i < 128 ∨ byt c i = 128 ∨ byt c i = 254) ∧ ((∀ i, i < 8 → byt c i ≠ 128) ∨ (∀ i, i < 8 → byt c i ≠ 254)) := by
  unfold scB
  rw [Bool.and_eq_true, Bool.or_eq_true, decide_eq_true_iff, decide_eq_true_iff, decide_eq_true_iff, mt_zero, mt_zero]
  have e : (fl c ||| (mt c 128 ||| mt c 254)) = mk (fun i => decide (byt c i < 128) || (decide (byt c i = 128) || decide (byt c i = 254))) 8 := by
    unfold fl mt
    rw [mk_orr, mk_orr]
  rw [e, mk_full]
  simp
theorem fl_bit {c i : Nat} (hi : i < 8) : (fl c).testBit i = decide (byt c i < 128) := by
  unfold fl
  rw [mk_testBit]
  simp [hi]
theorem ssB_iff {T : List Nat} {g : Nat} : ssB T g = true ↔ ∀ i, i < 8 → (bt T g i < 128 → bt T g i = hsw T g i % 128) ∧ (128 ≤ bt T g i → hsw T g i = 0 ∧ idw T g i = 0) := by
  unfold ssB
  rw [List.all_eq_true]
  constructor
  · intro h i hi
    have := h i (by simpa using hi)
    unfold slB at this
    rw [fl_bit hi] at this
    by_cases q : byt (cw T g) i < 128
    · simp only [q, decide_true, if_true, decide_eq_true_eq] at this
      exact ⟨fun _ => this, fun h => by unfold bt at h; omega⟩
    · simp only [q, decide_false, Bool.false_eq_true, if_false, Bool.and_eq_true, decide_eq_true_eq] at this
      exact ⟨fun h => absurd h q, fun _ => this⟩
  · intro h i hi
    have hi8 : i < 8 := by simpa using hi
    obtain ⟨h1, h2⟩ := h i hi8
    unfold slB
    rw [fl_bit hi8]
    by_cases q : byt (cw T g) i < 128
    · simp only [q, decide_true, if_true, decide_eq_true_eq]
      exact h1 q
    · simp only [q, decide_false, Bool.false_eq_true, if_false, Bool.and_eq_true, decide_eq_true_eq]
      exact h2 (by unfold bt; omega)
theorem pc_fl (c : Nat) : pc (fl c) = cnt fun i => decide (byt c i < 128) := pc_mk _
theorem pc_us (c : Nat) : pc (fl c ||| mt c 254) = cnt fun i => decide (byt c i < 128) || decide (byt c i = 254) := by
  unfold fl mt
  rw [mk_orr, pc_mk]
end Go.Proofs.YtkknadkcpndnaaaDoor

/-
  What a slot that is written changes; sound tables stay sound; no statement is proved here.
-/
namespace Go.Proofs.YtkknadkcpndnaaaDoor
open Pr (Gp GpI sq pl)

theorem wr_at {T : List Nat} {g i b h d j : Nat} (hj : j < T.length) : (wr T g i b h d).getD j 0 = if j = 3 + 17 * g + 2 + 2 * i then d else if j = 3 + 17 * g + 1 + 2 * i then h else if j = 3 + 17 * g then st (cw T g) i b else T.getD j 0 := by
  unfold wr
  rw [getD_set (by simpa using hj), getD_set (by simpa using hj), getD_set hj]
/-- The slot (g0, i0) is written, and nothing else but the counts. -/
structure Up (T T' : List Nat) (G g0 i0 b h d : Nat) : Prop where
  shp : Shp T' G
  bt : ∀ g, g < G → ∀ i, i < 8 → bt T' g i = if g = g0 ∧ i = i0 then b else bt T g i
  hs : ∀ g, g < G → ∀ i, i < 8 → hsw T' g i = if g = g0 ∧ i = i0 then h else hsw T g i
  id : ∀ g, g < G → ∀ i, i < 8 → idw T' g i = if g = g0 ∧ i = i0 then d else idw T g i
theorem wr_len (T : List Nat) (g i b h d : Nat) : (wr T g i b h d).length = T.length := by simp [wr]
theorem Shp.wr {T : List Nat} {G g i b h d : Nat} (hS : Shp T G) (_hg : g < G) (hi : i < 8) (hb : b < 256) (hh : h < 18446744073709551616) (hd : d < 18446744073709551616) : Shp (wr T g i b h d) G := by
  unfold Go.Proofs.YtkknadkcpndnaaaDoor.wr
  exact ((hS.set _ _ (by omega) (st_lt (hS.cw_lt g) hb hi)).set _ _ (by omega) hh).set _ _ (by omega) hd
theorem up_wr {T : List Nat} {G g0 i0 b h d : Nat} (hS : Shp T G) (hg : g0 < G) (hi : i0 < 8) (hb : b < 256) (hh : h < 18446744073709551616) (hd : d < 18446744073709551616) : Up T (wr T g0 i0 b h d) G g0 i0 b h d := by
  have hl := hS.len
  refine ⟨hS.wr hg hi hb hh hd, fun g hgG i hi8 => ?_, fun g hgG i hi8 => ?_, fun g hgG i hi8 => ?_⟩
  · unfold bt cw
    rw [wr_at (by omega), if_neg (by omega), if_neg (by omega)]
    by_cases e : g = g0
    · subst e
      rw [if_pos rfl, byt_st hb hi hi8]
      by_cases q : i = i0
      · rw [if_pos q, if_pos ⟨rfl, q⟩]
      · rw [if_neg q, if_neg (fun h => q h.2)]; rfl
    · rw [if_neg (by omega), if_neg (fun h => e h.1)]
  · unfold hsw
    rw [wr_at (by omega), if_neg (by omega)]
    by_cases e : g = g0 ∧ i = i0
    · rw [if_pos (by obtain ⟨rfl, rfl⟩ := e; rfl), if_pos e]
    · rw [if_neg (by omega), if_neg (by omega), if_neg e]
  · unfold idw
    rw [wr_at (by omega)]
    by_cases e : g = g0 ∧ i = i0
    · rw [if_pos (by obtain ⟨rfl, rfl⟩ := e; rfl), if_pos e]
    · rw [if_neg (by omega), if_neg (by omega), if_neg (by omega), if_neg e]
theorem set_cw {T : List Nat} {G k x g : Nat} (hl : T.length = 3 + 17 * G) (hk : k < 3) (hg : g < G) : cw (T.set k x) g = cw T g := by
  unfold cw; rw [getD_set (by omega), if_neg (by omega)]
theorem set_hs {T : List Nat} {G k x g i : Nat} (hl : T.length = 3 + 17 * G) (hk : k < 3) (hg : g < G) (hi : i < 8) : hsw (T.set k x) g i = hsw T g i := by
  unfold hsw; rw [getD_set (by omega), if_neg (by omega)]
theorem set_id {T : List Nat} {G k x g i : Nat} (hl : T.length = 3 + 17 * G) (hk : k < 3) (hg : g < G) (hi : i < 8) : idw (T.set k x) g i = idw T g i := by
  unfold idw; rw [getD_set (by omega), if_neg (by omega)]
theorem Up.of_set {T T' : List Nat} {G k x g0 i0 b h d : Nat} (hl : T.length = 3 + 17 * G) (hk : k < 3) (u : Up (T.set k x) T' G g0 i0 b h d) : Up T T' G g0 i0 b h d :=
  ⟨u.shp, fun g hg i hi => by rw [u.bt g hg i hi]; unfold Go.Proofs.YtkknadkcpndnaaaDoor.bt; rw [set_cw hl hk hg], fun g hg i hi => by rw [u.hs g hg i hi, set_hs hl hk hg hi], fun g hg i hi => by rw [u.id g hg i hi, set_id hl hk hg hi]⟩
theorem wr_low {T : List Nat} {g i b h d k : Nat} (hk : k < 3) (hl : k < T.length) : (wr T g i b h d).getD k 0 = T.getD k 0 := by
  rw [wr_at hl, if_neg (by omega), if_neg (by omega), if_neg (by omega)]

/-! ### counts over groups -/
def tot (f : Nat → Nat) : Nat → Nat
  | 0 => 0
  | k + 1 => tot f k + f k
theorem tot_same {f f' : Nat → Nat} : ∀ {k : Nat}, (∀ g, g < k → f' g = f g) → tot f' k = tot f k
  | 0, _ => rfl
  | k + 1, h => by rw [tot, tot, tot_same fun g hg => h g (by omega), h k (by omega)]
theorem tot_up {f f' : Nat → Nat} {g0 : Nat} (h1 : f' g0 = f g0 + 1) : ∀ {k : Nat}, g0 < k → (∀ g, g < k → g ≠ g0 → f' g = f g) → tot f' k = tot f k + 1
  | 0, h, _ => by omega
  | k + 1, h, h2 => by
    rw [tot, tot]
    by_cases e : g0 = k
    · subst e
      rw [tot_same (f := f) (f' := f') fun g hg => h2 g (by omega) (by omega), h1]
      omega
    · rw [tot_up h1 (k := k) (by omega) fun g hg => h2 g (by omega), h2 k (by omega) (fun q => e q.symm)]
      omega
theorem nfl_tot (T : List Nat) : ∀ k, nfl T k = tot (fun g => cnt fun i => decide (bt T g i < 128)) k
  | 0 => rfl
  | k + 1 => by rw [nfl, tot, nfl_tot T k, pc_fl]; rfl
theorem nus_tot (T : List Nat) : ∀ k, nus T k = tot (fun g => cnt fun i => decide (bt T g i < 128) || decide (bt T g i = 254)) k
  | 0 => rfl
  | k + 1 => by rw [nus, tot, nus_tot T k, pc_us]; rfl

/-! ### one more entry -/
theorem ins_sd {T : List Nat} {G h d : Nat} (hS : Sd T G) (hh : h < 18446744073709551616) (hd : d < 18446744073709551616) {g0 i0 : Nat} (hF : Fst T h G g0 i0) (hno : ¬ (mt (cw T g0) 128 ≠ 0 ∧ T.getD 2 0 = 0)) :
    Sd (insAt T g0 i0 h d) G ∧ Up T (insAt T g0 i0 h d) G g0 i0 (h % 128) h d ∧ g0 < G ∧ i0 < 8 ∧ 128 ≤ bt T g0 i0 ∧ (insAt T g0 i0 h d).getD 1 0 = T.getD 1 0 + 1 ∧ (insAt T g0 i0 h d).getD 2 0 + (if bt T g0 i0 = 128 then 1 else 0) = T.getD 2 0 := by
  have hl := hS.shp.len
  have hG := hS.shp.gp.le
  obtain ⟨A, C, l, hsq, hA, hop⟩ := hF
  have hmem : g0 ∈ sq (h / 128) G := by rw [hsq]; simp
  have hg0 : g0 < G := by
    obtain ⟨n, _, rfl⟩ := List.mem_map.1 hmem
    exact Pr.pl_lt _ hS.shp.gp.pos n
  have hi0m : i0 ∈ opn T g0 := by rw [hop]; simp
  rw [opn_eq, List.mem_filter] at hi0m
  have hi0 : i0 < 8 := by simpa using hi0m.1
  have hb0 : bt T g0 i0 = 128 ∨ bt T g0 i0 = 254 := by simpa using hi0m.2
  have hn1 := nfl_le T G
  rw [← hS.cnt] at hn1
  have hn2 : T.getD 2 0 ≤ 7 * G := by have := hS.use; omega
  have h128 : h % 128 < 128 := Nat.mod_lt _ (by omega)
  obtain ⟨T1, hT1⟩ : ∃ T1, T1 = (if mt (cw T g0) 128 ≠ 0 then T.set 2 (T.getD 2 0 - 1) else T) := ⟨_, rfl⟩
  have hS1 : Shp T1 G := by rw [hT1]; split; exact hS.shp.set 2 _ (by omega) (by omega); exact hS.shp
  have hS2 := hS1.set 1 (T.getD 1 0 + 1) (by omega) (by omega)
  have hcw : cw (T1.set 1 (T.getD 1 0 + 1)) g0 = cw T g0 := by
    rw [set_cw hS1.len (by omega) hg0, hT1]
    split
    · rw [set_cw hl (by omega) hg0]
    · rfl
  have hins : insAt T g0 i0 h d = wr (T1.set 1 (T.getD 1 0 + 1)) g0 i0 (h % 128) h d := by unfold insAt; rw [← hT1]
  have hup0 := up_wr (d := d) (h := h) (b := h % 128) hS2 hg0 hi0 (by omega) hh hd
  rw [← hins] at hup0
  have hup1 := Up.of_set hS1.len (by omega) hup0
  have hup : Up T (insAt T g0 i0 h d) G g0 i0 (h % 128) h d := by
    rw [hT1] at hup1
    by_cases q : mt (cw T g0) 128 ≠ 0
    · rw [if_pos q] at hup1; exact Up.of_set hl (by omega) hup1
    · rw [if_neg q] at hup1; exact hup1
  have hctl := fun g (hg : g < G) => scB_iff.1 (hS.ctl g hg)
  have hE0 : mt (cw T g0) 128 ≠ 0 ↔ bt T g0 i0 = 128 := by
    constructor
    · intro q
      rcases hb0 with r | r
      · exact r
      · exfalso
        rcases (hctl g0 hg0).2 with s | s
        · exact q (mt_zero.2 s)
        · exact s i0 hi0 r
    · intro q r
      exact mt_zero.1 r i0 hi0 q
  have h1' : (insAt T g0 i0 h d).getD 1 0 = T.getD 1 0 + 1 := by
    rw [hins, wr_low (by omega) (by rw [List.length_set, hS1.len]; omega), getD_set (by rw [hS1.len]; omega), if_pos rfl]
  have h2' : (insAt T g0 i0 h d).getD 2 0 + (if bt T g0 i0 = 128 then 1 else 0) = T.getD 2 0 := by
    rw [hins, wr_low (by omega) (by rw [List.length_set, hS1.len]; omega), getD_set (by rw [hS1.len]; omega), if_neg (by omega), hT1]
    by_cases q : mt (cw T g0) 128 ≠ 0
    · rw [if_pos q, if_pos (hE0.1 q), getD_set (by omega), if_pos rfl]
      have : T.getD 2 0 ≠ 0 := fun r => hno ⟨q, r⟩
      omega
    · rw [if_neg q, if_neg (fun r => q (hE0.2 r)), Nat.add_zero]
  refine ⟨⟨hup.shp, fun g hg => ?_, fun g hg => ?_, ?_, ?_, ?_⟩, hup, hg0, hi0, by omega, h1', h2'⟩
  · rw [scB_iff]
    obtain ⟨e1, e2⟩ := hctl g hg
    refine ⟨fun i hi => ?_, ?_⟩
    · have := hup.bt g hg i hi
      unfold bt at this
      rw [this]
      split
      · exact .inl h128
      · exact e1 i hi
    · rcases e2 with e2 | e2
      · left
        intro i hi
        have := hup.bt g hg i hi
        unfold bt at this
        rw [this]
        split
        · omega
        · exact e2 i hi
      · right
        intro i hi
        have := hup.bt g hg i hi
        unfold bt at this
        rw [this]
        split
        · omega
        · exact e2 i hi
  · rw [ssB_iff]
    intro i hi
    have e := ssB_iff.1 (hS.slt g hg) i hi
    rw [hup.bt g hg i hi, hup.hs g hg i hi, hup.id g hg i hi]
    split
    · exact ⟨fun _ => rfl, fun q => by omega⟩
    · exact e
  · rw [h1', hS.cnt, nfl_tot, nfl_tot]
    refine (tot_up (g0 := g0) ?_ hg0 fun g hg hne => ?_).symm
    · refine cnt_flip hi0 (fun j hj hne => ?_) ?_ ?_
      · rw [hup.bt g0 hg0 j hj, if_neg (fun q => hne q.2)]
      · simp; omega
      · rw [hup.bt g0 hg0 i0 hi0, if_pos ⟨rfl, rfl⟩]; simpa using h128
    · apply cnt_congr
      intro i hi
      rw [hup.bt g hg i hi, if_neg (fun q => hne q.1)]
  · have huse := hS.use
    rw [nus_tot] at huse ⊢
    by_cases q : bt T g0 i0 = 128
    · rw [if_pos q] at h2'
      have : tot (fun g => cnt fun i => decide (bt (insAt T g0 i0 h d) g i < 128) || decide (bt (insAt T g0 i0 h d) g i = 254)) G = tot (fun g => cnt fun i => decide (bt T g i < 128) || decide (bt T g i = 254)) G + 1 := by
        refine tot_up (g0 := g0) ?_ hg0 fun g hg hne => ?_
        · refine cnt_flip hi0 (fun j hj hne => ?_) ?_ ?_
          · rw [hup.bt g0 hg0 j hj, if_neg (fun q => hne q.2)]
          · rw [q]; rfl
          · rw [hup.bt g0 hg0 i0 hi0, if_pos ⟨rfl, rfl⟩]; simp [h128]
        · apply cnt_congr
          intro i hi
          rw [hup.bt g hg i hi, if_neg (fun q => hne q.1)]
      omega
    · rw [if_neg q] at h2'
      have hb : bt T g0 i0 = 254 := by omega
      have : tot (fun g => cnt fun i => decide (bt (insAt T g0 i0 h d) g i < 128) || decide (bt (insAt T g0 i0 h d) g i = 254)) G = tot (fun g => cnt fun i => decide (bt T g i < 128) || decide (bt T g i = 254)) G := by
        apply tot_same
        intro g hg
        apply cnt_congr
        intro i hi
        rw [hup.bt g hg i hi]
        split
        · rename_i e
          obtain ⟨rfl, rfl⟩ := e
          rw [hb]; simp [h128]
        · rfl
      omega
  · intro own hown i hi hfull
    rw [fl_bit hi, decide_eq_true_eq] at hfull
    have hbt := hup.bt own hown i hi
    have hhs := hup.hs own hown i hi
    have hEe : ∀ g, g < G → hasE T g = false → hasE (insAt T g0 i0 h d) g = false := fun g hg q => by
      rw [hasE_iff] at q ⊢
      intro j hj
      rw [hup.bt g hg j hj]
      split
      · omega
      · exact q j hj
    have hpl : ∀ x n, pl x G n < G := fun x n => Pr.pl_lt x hS.shp.gp.pos n
    by_cases e : own = g0 ∧ i = i0
    · rw [if_pos e] at hhs
      rw [hhs]
      obtain ⟨rfl, rfl⟩ := e
      have hAl : A.length < G := by
        have := congrArg List.length hsq
        rw [Pr.sq_len] at this
        simp at this
        omega
      refine ⟨A.length, hAl, ?_, fun n hn => hEe _ (hpl _ _) ?_⟩
      · have := Pr.sq_at (h / 128) G hAl
        rw [hsq] at this
        simp at this
        exact this.symm
      · have h1 := Pr.sq_at (h / 128) G (show n < G by omega)
        rw [hsq, List.getElem?_append_left hn] at h1
        have h2 := hA _ (List.mem_of_getElem? h1)
        rw [opn_eq, List.filter_eq_nil_iff] at h2
        rw [hasE_iff]
        intro j hj q
        exact h2 j (by simpa using hj) (by simp [q])
    · rw [if_neg e] at hhs hbt
      rw [hhs]
      obtain ⟨k, hk, hpk, hnk⟩ := hS.fnd own hown i hi (by rw [fl_bit hi, decide_eq_true_eq]; unfold bt at hbt; rw [← hbt]; exact hfull)
      exact ⟨k, hk, hpk, fun n hn => hEe _ (hpl _ _) (hnk n hn)⟩
end Go.Proofs.YtkknadkcpndnaaaDoor
