/-
  Find: the ids of a hash's entries; no statement is proved here.
-/
import Derived.Test.YtkknadkcpndnaaaDoorBox
import Derived.Test.YtkknadkcpndnaaaDoorMat
namespace Go.Proofs.YtkknadkcpndnaaaDoor
open Go.RowKit Go.Shelf
open Pr (Gp GpI sq pl)
attribute [local go_sem] Oper.semAt_some run_store_func wide_fn wide_depth

def fnd (T : List Nat) (h G : Nat) : List Nat := (mts T h G).map fun p => idw T p.1 p.2
/-- An iterator over the words L. -/
def FiPost (w : World) (L : List Nat) (e : Ending) (w' : World) : Prop := ∃ Bn v, e = .returned (.tuple #[.func (.func 81) #[] #[.pointer (some ⟨Bn, 0, none⟩)], .int .i64 0]) ∧ Boxed w' Bn 22 v ∧ w'.ownsRow w.heap.size 23 1 v L.length (vw L) ∧ w.heap.size ≤ Bn ∧ Ext [] w w'
theorem mts_len {T : List Nat} {h G : Nat} (_hG : Gp G) : (mts T h G).length ≤ 8 * G := by
  have h1 := mtl_len T h (wk T (sq (h / 128) G))
  have h2 := (wk_pre T (sq (h / 128) G)).length_le
  rw [Pr.sq_len] at h2
  unfold mts
  omega
theorem results_slots2 {P : Program} {fn : Func} {p q : Tmp} (h : fn.results = #[.tmp p, .tmp q]) (tmps : Array Value) (w : World) (v v' : Value)
    (hp : tmps.getD p undef = v) (hq : tmps.getD q undef = v') : (results fn tmps).run P w = .ok (.tuple #[v, v']) w := by
  have hp' : tmps[p]?.getD undef = v := by simpa using hp
  have hq' : tmps[q]?.getD undef = v' := by simpa using hq
  simp [results, h, hp', hq']

set_option maxRecDepth 100000 in
set_option maxHeartbeats 4000000 in
theorem find_any (a : Option Addr) (c : Nat) (T : List Nat) (G h : Nat) (hSd : Sd T G) (hh : h < 18446744073709551616) (w : World) (hT : Wd w a T) (hTb : Tb w) :
    Calls Tryd.prog 32 #[.slice a (3 + 17 * G) c, .int .u64 (h : Nat)] w (FiPost w (fnd T h G)) := by
  have hlen := hSd.shp.len
  have hG := hSd.shp.gp.le
  have hne : T ≠ [] := by rintro rfl; simp at hlen; omega
  obtain ⟨b, o, rfl, hcc⟩ := hT.at_ hne
  clear hcc
  refine (callsIn_wide (n := 14)).1 ?_
  refine callsIn_of_wp_marks Tryd.func32 rfl trivial ?_ rfl
  simp only [Tryd.ntmps32, List.size_toArray, List.length_cons, List.length_nil, Nat.reduceAdd, Nat.reduceSub, Array.replicate_succ, Array.replicate_zero, List.push_toArray, List.append_toArray, List.nil_append, List.cons_append]
  obtain ⟨z, hz⟩ : ∃ z, w.heap.size = z := ⟨_, rfl⟩
  have hE0 := Ext.alloc [] w (.cells #[.slice (some ⟨b, o, none⟩) (3 + 17 * G) c] 22)
  have bZ := Boxed.new w 22 (.slice (some ⟨b, o, none⟩) (3 + 17 * G) c)
  rw [hz] at bZ
  have cZ := bZ.cell
  have K0 := sound_true (some ⟨b, o, none⟩) c T G hSd _ (hT.keep0 hE0)
  have HE0 := hid hE0
  have HbZ := hid bZ
  have HT0 := hid (hT.keep0 hE0)
  have HTb0 := hid (hTb.keep0 hE0)
  have HSd := hid hSd
  have HL := hid hlen
  have hGp := hid hSd.shp.gp
  clear hE0 bZ hT hTb hSd hlen
  gi_wp2_with fail
  gi_at_call 38
  refine (callsIn_wide.2 K0).mono ?_
  clear K0 cZ
  rintro _ w1 ⟨rfl, hX1⟩
  obtain ⟨z1, hz1⟩ : ∃ z1, w1.heap.size = z1 := ⟨_, rfl⟩
  have hbZ1 : Boxed w1 z 22 (.slice (some ⟨b, o, none⟩) (3 + 17 * G) c) := hX1.keep HbZ.out (by simp)
  have hzz : z < z1 := by rw [← hz1]; exact hbZ1.lt
  have cZ := (hbZ1.alloc (.cells #[.slice none 0 0] 22)).cell
  have HT1 := hid (HT0.out.keep0 hX1)
  have HTb1 := hid (HTb0.out.keep0 hX1)
  have HE1 := hid (HE0.out.trans hX1)
  have HbZ1 := hid hbZ1
  have K1 := matches_any (some ⟨b, o, none⟩) (3 + 17 * G) c h (w1.alloc (.cells #[.slice none 0 0] 22))
  simp only [World.size_alloc, hz1] at K1
  have HZ1 := hid hz1
  clear hX1 HbZ HT0 HTb0 HE0 hbZ1
  gi_wp2_with (first | (gi_at_call 41; refine (callsIn_wide.2 K1).mono ?_; rintro _ _ ⟨rfl, rfl⟩))
  clear K1 cZ
  have hz1' := HZ1.out
  have b0 := ((Boxed.new w1 22 (.slice none 0 0)).alloc (.cells #[.slice (some ⟨b, o, none⟩) (3 + 17 * G) c] 22)).alloc (.cells #[.int .u64 (h : Nat)] 23)
  have b1 := (Boxed.new (w1.alloc (.cells #[.slice none 0 0] 22)) 22 (.slice (some ⟨b, o, none⟩) (3 + 17 * G) c)).alloc (.cells #[.int .u64 (h : Nat)] 23)
  have b2 := Boxed.new ((w1.alloc (.cells #[.slice none 0 0] 22)).alloc (.cells #[.slice (some ⟨b, o, none⟩) (3 + 17 * G) c] 22)) 23 (.int .u64 (h : Nat))
  have hX3 : Ext [] w1 (((w1.alloc (.cells #[.slice none 0 0] 22)).alloc (.cells #[.slice (some ⟨b, o, none⟩) (3 + 17 * G) c] 22)).alloc (.cells #[.int .u64 (h : Nat)] 23)) := ((Ext.alloc [] _ _).trans (Ext.alloc [] _ _)).trans (Ext.alloc [] _ _)
  obtain ⟨W3, hW3⟩ : ∃ W3, ((w1.alloc (.cells #[.slice none 0 0] 22)).alloc (.cells #[.slice (some ⟨b, o, none⟩) (3 + 17 * G) c] 22)).alloc (.cells #[.int .u64 (h : Nat)] 23) = W3 := ⟨_, rfl⟩
  have hs3 : W3.heap.size = z1 + 3 := by rw [← hW3]; simp [hz1']
  simp only [World.size_alloc, hz1'] at b0 b1 b2
  rw [hW3] at b0 b1 b2 hX3
  have hb1 : b < z1 := by
    obtain ⟨b', o', e, hc⟩ := HT1.out.at_ hne
    cases e
    have := block_lt_of_cell (hc 0 (by rw [HL.out]; omega))
    rw [hz1'] at this; exact this
  obtain ⟨R, hR1⟩ : ∃ R, w1.heap[b]? = some R := ⟨_, Array.getElem?_eq_getElem (by rw [hz1']; exact hb1)⟩
  have hRc : R.isCells = true := by
    obtain ⟨b', o', e, hc⟩ := HT1.out.at_ hne
    cases e
    have := hc 0 (by rw [HL.out]; omega)
    cases R with
    | cells cs t m => rfl
    | _ => simp [World.cell?, hR1] at this
  have h01 : 0 < z1 := by rw [← hz1']; exact HTb1.out.lt
  have hO3 : ∀ k ∈ [0, z1 + 1, z1 + 1 + 1, b], ¬ Obx z1 W3 k := by
    rintro k hk (rfl | ⟨v, hv, hvo⟩)
    · simp at hk; omega
    · have : v = .slice none 0 0 := boxed_inj hv b0
      subst this
      simp [Value.ownBlock] at hvo
  have hMat := matches_gives 13 (by omega) (z1 + 1) (z1 + 1 + 1) b o c h G T R HSd.out.shp hh (Obx z1) W3 b1 b2 (hX3.keep hR1 (by simp)) hRc (HT1.out.keep0 hX3) (HTb1.out.keep0 hX3) hO3
  have HMat := hid hMat
  have hG0 : Gat w1 z1 [] W3 := ⟨⟨_, b0, own_nil _ _ _ _, by simp [Value.ownBlock]⟩, by rw [← hz1']; exact hX3.below⟩
  have HG0 := hid hG0
  have HR1 := hid hR1
  clear b0 b1 b2 hX3 hMat hG0 hR1 hRc hO3
  rw [hW3]
  clear hW3
  have HCal := hid (cal_gat (α := Nat × Nat) (w1 := w1) (z1 := z1) (B := W3.heap.size) (fun pre => pre.map fun p => idw T p.1 p.2) hz1' (by omega))
  have hml := mts_len (T := T) (h := h) hGp.out
  clear hz1'
  refine loop_givesS rfl (by omega) (gf := 75) (lb := #[.pointer (some ⟨z1 + 1 + 1, 0, none⟩), .pointer (some ⟨z1 + 1, 0, none⟩)]) rfl trivial (enters_of Tryd.func75 (by kernel_rfl) rfl)
    HMat.out (fun _ => rfl)
    (fun pre W => Gat w1 z1 (pre.map fun p => idw T p.1 p.2) W) (fun _ _ _ => False) HCal.out
    (fun _ => ⟨fun _ _ _ _ h _ _ => h, fun _ _ _ h => h.elim, fun _ _ _ _ _ h => h.elim⟩)
    HG0.out
    (fun x a' _ => a' = { tmps := #[.slice (some ⟨b, o, none⟩) (3 + 17 * G) c, .int .u64 (h : Nat), .pointer (some ⟨z, 0, none⟩), undef, .nilFunc, .int .i64 0, .pointer (some ⟨z1, 0, none⟩), .int .i64 (x.1 : Nat), .int .i64 (x.2 : Nat), .slice (some ⟨b, o, none⟩) (3 + 17 * G) c, .bool true, .bool false, .slice (some ⟨b, o, none⟩) (3 + 17 * G) c, .int .u64 (h : Nat), .func (.func 75) #[] #[.pointer (some ⟨z1 + 1 + 1, 0, none⟩), .pointer (some ⟨z1 + 1, 0, none⟩)], .int .i64 (x.1 : Nat), .int .i64 (x.2 : Nat), undef, undef, undef, undef, undef, undef, undef, undef, undef, undef, undef], defers := [] }) (fun x a' _ X Y row hs hg hr => hs)
    ?assign ?body ?done ?stop
  case stop =>
    rintro D cd pre W _ _ h _
    exact h.elim
  case assign =>
    rintro l pre x W K _ hI hK
    unfold penc
    gi_wp2
    exact hK _ _ (KeepsFrom.refl _ _) (Kc.refl _ _) hI rfl
  case done =>
    rintro D zs W hD rfl ⟨⟨v, hb, ho, hvn⟩, hB⟩ hK
    obtain ⟨va, vc, rfl, _⟩ := own_slice ho
    have cI := hb.cell
    have KV := fun u => tvalues_any va ((mts T h G).map fun p => idw T p.1 p.2).length vc u
    have HO := hid ho
    have HB := hid hB
    have HK := hid hK
    have HD := hid hD
    have HVn := hid hvn
    have Hln := hid (show (fnd T h G).length = ((mts T h G).map fun p => idw T p.1 p.2).length from rfl)
    clear hb ho hvn hB hK hD
    generalize hln : ((mts T h G).map fun p => idw T p.1 p.2).length = ln at *
    clear hln
    gi_wp2_with (first | (gi_at_call 54; refine (callsIn_wide.2 (KV _)).mono ?_; rintro _ _ ⟨rfl, rfl⟩))
    have hK2 := (KeepsOthers.alloc W (.cells #[.slice va ln vc] 22)).same _ _ HK.out rfl
    have hP := grownBy_putObj' (W.alloc (.cells #[.slice va ln vc] 22)) D (.deferred none)
    have hx1 := Ext.alloc [] W (.cells #[.slice va ln vc] 22)
    have hx2 := Ext.grown (S := [D]) hP (by simp)
    have hx0 : Ext [] w1 W := by have h := HB.out; rw [← HZ1.out] at h; exact below_ext h
    have hDW := lt_of_heap HK.out
    have hzw : w.heap.size ≤ z1 := by omega
    have hDz := HD.out
    refine ⟨by simp, .inl ⟨_, _, rfl, run_takeDeferred hK2, _, results_slots2 rfl _ _ _ _ rfl rfl, W.heap.size, .slice va ln vc, rfl, ?_, ?_, ?_, ?_⟩⟩
    · exact hx2.keep (heap_alloc_new W _) (by simp; omega)
    · have h1 := own_keep0 HO.out hx1
      rw [Hln.out]
      refine own_base (own_keep h1 hx2 (fun q hq hv => ?_)) hzw
      simp only [List.mem_singleton] at hq
      subst hq
      rcases h1.2 with ⟨e, _⟩ | ⟨g, cap, cur, e, _, hg, _⟩
      · rw [e] at hv; simp [Value.ownBlock] at hv
      · rw [e] at hv; simp [Value.ownBlock] at hv; subst hv; rw [hK2] at hg; simp at hg
    · have := hx0.size; have := HZ1.out; omega
    · exact ((HE1.out.trans hx0).trans hx1).on hx2 (by simp; omega)
  case body =>
    rintro l pre x a' W hl ⟨r, hr⟩ ⟨⟨v, hb, ho, hvn⟩, hB⟩ rfl hlt ⟨hgx, hix, hhx⟩
    obtain ⟨gx, ix⟩ := x
    simp only at hgx hix hhx
    obtain ⟨va, vc, rfl, _⟩ := own_slice ho
    have hB1 := hB
    rw [← HZ1.out] at hB1
    have hX := below_ext hB1
    have hbZ : Boxed W z 22 (.slice (some ⟨b, o, none⟩) (3 + 17 * G) c) := hX.keep HbZ1.out (by simp)
    obtain ⟨_, _, heq, hTc⟩ := (HT1.out.keep0 hX).at_ hne
    cases heq
    have cR := hTc (3 + 17 * gx + 2 + 2 * ix) (by rw [HL.out]; omega)
    rw [show T.getD (3 + 17 * gx + 2 + 2 * ix) 0 = idw T gx ix from rfl] at cR
    have KI := fun u => idAt_any gx ix (by omega) (by omega) u
    have cB := hb.cell
    have cZ := hbZ.cell
    obtain ⟨dx, hdx⟩ : ∃ dx, idw T gx ix = dx := ⟨_, rfl⟩
    rw [hdx] at cR
    have hlp : (pre.map fun p => idw T p.1 p.2).length ≤ 1000000 := by rw [List.length_map]; omega
    have HSn := hid (show ((pre ++ [(gx, ix)]).map fun p => idw T p.1 p.2) = (pre.map fun p => idw T p.1 p.2) ++ [dx] by rw [List.map_append, List.map_cons, List.map_nil, hdx])
    obtain ⟨L, hL⟩ : ∃ L, (pre.map fun p => idw T p.1 p.2) = L := ⟨_, rfl⟩
    rw [hL] at ho hb hlp HSn cB
    simp only [hL] at hvn
    obtain ⟨ln, hln⟩ : ∃ ln, L.length = ln := ⟨_, rfl⟩
    rw [hln] at ho hb hlp cB
    simp only [hln] at hvn
    have HX := hid hX
    have Hb := hid hb
    have HO := hid ho
    have HVn := hid hvn
    have HB := hid hB
    have Hln := hid hln
    have HbZ := hid hbZ
    clear hX hb ho hvn hB hB1 hTc hr hdx hL hln hbZ
    gi_wp2_with fail
    refine wpIn_region_heldC (fun u => u.cell? ⟨z1, 0, none⟩ = some (.slice va ln vc) ∧ u.cell? ⟨z, 0, none⟩ = some (.slice (some ⟨b, o, none⟩) (3 + 17 * G) c) ∧ u.cell? ⟨b, o + (3 + 17 * gx + 2 + 2 * ix), none⟩ = some (.int .u64 (dx : Nat))) 9 (by kernel_rfl) ?_
    have hS : W.drew.cell? ⟨z1, 0, none⟩ = some (.slice va ln vc) ∧ W.drew.cell? ⟨z, 0, none⟩ = some (.slice (some ⟨b, o, none⟩) (3 + 17 * G) c) ∧ W.drew.cell? ⟨b, o + (3 + 17 * gx + 2 + 2 * ix), none⟩ = some (.int .u64 (dx : Nat)) := ⟨cB, cZ, cR⟩
    refine wpAnyC_take (i := 0) (v := .slice va ln vc) rfl (by kernel_rfl) (fun _ _ _ h => h) (yieldsR_run rfl rfl (fun _ => rfl) (fun u hu => by obtain ⟨u1, u2, u3⟩ := hu; go_simp)) hS ?_
    simp only [Act.put, List.setIfInBounds_toArray]
    refine wpAnyC_take (i := 1) (v := .slice (some ⟨b, o, none⟩) (3 + 17 * G) c) rfl (by kernel_rfl) (fun _ _ _ h => h) (yieldsR_run rfl rfl (fun _ => rfl) (fun u hu => by obtain ⟨u1, u2, u3⟩ := hu; go_simp)) hS ?_
    simp only [Act.put]
    refine wpAnyC_take (i := 2) (v := .int .i64 (gx : Nat)) rfl (by kernel_rfl) (fun _ _ _ h => h) (yieldsR_run rfl rfl (fun _ => rfl) (fun u hu => by obtain ⟨u1, u2, u3⟩ := hu; go_simp)) hS ?_
    simp only [Act.put]
    refine wpAnyC_take (i := 3) (v := .int .i64 (ix : Nat)) rfl (by kernel_rfl) (fun _ _ _ h => h) (yieldsR_run rfl rfl (fun _ => rfl) (fun u hu => by obtain ⟨u1, u2, u3⟩ := hu; go_simp)) hS ?_
    simp only [Act.put]
    refine wpAnyC_sole (i := 4) rfl (by kernel_rfl) (fun K1 hK1 => ?_)
    go_simp
    refine ((callsIn_wide.2 (KI _)).inRound l).mono ?_
    rintro _ _ ⟨rfl, rfl⟩
    refine hK1 _ _ (.inr hS) ?_
    clear hK1 K1
    refine wpAnyC_take (i := 5) (v := .pointer (some ⟨b, o + (3 + 17 * gx + 2 + 2 * ix), none⟩)) rfl (by kernel_rfl) (fun _ _ _ h => h) (yieldsR_run rfl rfl (fun _ => rfl) (fun u hu => by clear hu; go_simp; rw [if_pos (by omega), show (3 + 17 * (gx : Int) + 2 + 2 * (ix : Int)).toNat = 3 + 17 * gx + 2 + 2 * ix by omega])) hS ?_
    simp only [Act.put, List.setIfInBounds_toArray]
    refine wpAnyC_take (i := 6) (v := .int .u64 (dx : Nat)) rfl (by kernel_rfl) (fun _ _ _ h => h) (yieldsR_run rfl rfl (fun _ => rfl) (fun u hu => by obtain ⟨u1, u2, u3⟩ := hu; go_simp)) hS ?_
    simp only [Act.put]
    refine wpAnyC_sole (i := 7) rfl (by kernel_rfl) (fun K1 hK1 => ?_)
    go_simp
    have hxa := Ext.alloc [] W.drew (.cells #[.int .u64 (dx : Nat)] 23)
    have hU : Ext [] W (W.drew.alloc (.cells #[.int .u64 (dx : Nat)] 23)) := (Ext.drew [] W).trans hxa
    have hS2 : (W.drew.alloc (.cells #[.int .u64 (dx : Nat)] 23)).cell? ⟨z1, 0, none⟩ = some (.slice va ln vc) ∧ (W.drew.alloc (.cells #[.int .u64 (dx : Nat)] 23)).cell? ⟨z, 0, none⟩ = some (.slice (some ⟨b, o, none⟩) (3 + 17 * G) c) ∧ (W.drew.alloc (.cells #[.int .u64 (dx : Nat)] 23)).cell? ⟨b, o + (3 + 17 * gx + 2 + 2 * ix), none⟩ = some (.int .u64 (dx : Nat)) := ⟨hxa.cell hS.1 (by simp), hxa.cell hS.2.1 (by simp), hxa.cell hS.2.2 (by simp)⟩
    refine hK1 _ _ (.inr hS2) ?_
    clear hK1 K1
    obtain ⟨v', U', hrun, ⟨a', c', hv'⟩, hbU, hgat, hkc, hko, hxx, hx5⟩ := gat_push (w1 := w1) (L := L) (x := dx) Hln.out HZ1.out Hb.out HO.out HVn.out HB.out hU (Boxed.cell (Boxed.new W.drew 23 (.int .u64 (dx : Nat)))) hlp
    refine wpAnyC_sole (i := 8) rfl (by kernel_rfl) (fun K1 hK1 => ?_)
    refine stepR_append (fun _ => trivial) rfl _ _ 22 rfl (.slice va ln vc) (.slice (some ⟨W.heap.size, 0, none⟩) 1 1) v' rfl rfl hrun ?_
    have hownz : ∀ q, q ∈ (Value.slice va ln vc).ownBlock.toList → z1 < q := fun q hq => HVn.out q (by simpa using hq)
    have hS3 : U'.cell? ⟨z1, 0, none⟩ = some (.slice va ln vc) ∧ U'.cell? ⟨z, 0, none⟩ = some (.slice (some ⟨b, o, none⟩) (3 + 17 * G) c) ∧ U'.cell? ⟨b, o + (3 + 17 * gx + 2 + 2 * ix), none⟩ = some (.int .u64 (dx : Nat)) := by
      refine ⟨hbU.cell, hx5.cell cZ (fun q => by have := hownz _ q; simp at this; omega), hx5.cell cR (fun q => by have := hownz _ q; simp at this; omega)⟩
    refine hK1 _ _ (.inr hS3) ?_
    clear hK1 K1
    subst hv'
    have cU := hbU.cell
    have fU := hbU.frozen
    have HF : Hid (KeepsFrom W3.heap.size W (U'.setCell ⟨z1, 0, none⟩ (.slice a' (ln + 1) c')) ∧ Kc (Obx z1) W (U'.setCell ⟨z1, 0, none⟩ (.slice a' (ln + 1) c')) ∧ Gat w1 z1 ((pre ++ [(gx, ix)]).map fun p => idw T p.1 p.2) (U'.setCell ⟨z1, 0, none⟩ (.slice a' (ln + 1) c'))) := by
      rw [HSn.out]
      exact ⟨hko.from _, hkc, hgat⟩
    clear hrun hgat hkc hko hxx hx5 hU hxa hS hS2 hS3
    refine wpAnyC_sole (i := 9) rfl (by kernel_rfl) (fun K1 hK1 => ?_)
    go_simp
    refine hK1 _ _ (.inl rfl) ?_
    clear hK1 K1
    refine wpAnyC_done (by kernel_rfl) ?_
    gi_wp2_with fail
    exact HF.out
end Go.Proofs.YtkknadkcpndnaaaDoor
