/-
  Whatever is made and written while a cycle runs: what was reached at its beginning, what came since, and what was written into a slot or shaded, is live at its end, and no live node names a dead one: the function ColorSafe answers true and leaves its arguments as they were, where its arguments hold together at most 1048576 values.
-/
import Derived.Test.YtfgdoehiocgkhaaProt
import Derived.Deep.CondSized
namespace Go.Proofs.Ytfgdoehiocgkhaa
open Go.RowKit

namespace colorSafe

/-- How far the script of the cycle is. -/
structure Sd (R : List Int) (w : World) (p : Nat) (G : Gs) (T : Nat → Prop) (a3 : Option Addr) (sv : Value) (Bs : List Bool) (cy m : Nat) (wr : World) (va : Value) : Prop where
  go : ∃ H C A, Gr wr p H C ∧ Iv H ∧ Pr w wr a3 (li (lives G)) sv Bs va A C ∧ Sf G T A H ∧ H.cy ≤ cy + m ∧ A.length ≤ 1048576 + m ∧ ∀ r ∈ R, r ∈ A

theorem get_li {G : Gs} {k : Nat} (h : k < (lives G).length) : (li (lives G)).getD k 0 = (((lives G).getD k 0 : Nat) : Int) := by simp [li, h]
theorem lives_get {G : Gs} {k : Nat} (h : k < (lives G).length) : lvN G ((lives G).getD k 0) := mem_lives.1 (by simp [List.getD, h])

set_option maxRecDepth 100000 in
set_option maxHeartbeats 2000000 in
theorem walk (a : Option Addr) (n c : Nat) (S : List Oq) (da : Option Addr) (dn dc : Nat) (Du : List Oq) (ra : Option Addr) (rn rc : Nat) (R : List Int) (w : World) (hS : Sc w a S) (hn : S.length = n) (_hnb : n ≤ 1048576) (hDu : Sc w da Du) (hdn : Du.length = dn) (hdb : dn ≤ 1048576) (hR : Is w ra R) (hrn : R.length = rn) (hrb : rn ≤ 1048576) :
    Calls Try.prog 4 #[.slice a n c, .slice da dn dc, .slice ra rn rc] w (SayPost w (.bool true)) := by
  subst hrn
  have hsl := hS.len
  have K1 := grown_any a n c S w hS hn
  have HR := hid hR
  have HDu := hid hDu
  have HDn := hid hdn
  clear hS hn hR hDu hdn
  go_enter Try.func4, Try.ntmps4
  go_wp2_with fail
  refine K1.mono ?_
  clear K1
  rintro e w1 ⟨p, G, rfl, hf, hI, hcy, hg1, hE1⟩
  have HI := hid hI
  have hlenG := hI.len
  have hph : G.ph = 0 := hf.1
  have Hg1 := hid hg1
  have HE1 := hid hE1
  clear hf hI hg1 hE1
  go_wp2_with fail
  refine (awake_any w1).mono ?_
  rintro e w2 ⟨rfl, hE2⟩
  have Hg2 := hid (Hg1.out.keep0 hE2)
  have HE2 := hid (HE1.out.trans hE2)
  clear hE2 Hg1 HE1
  have K3 := told_any p G _ w2 Hg2.out hlenG
  go_wp2_with fail
  refine K3.mono ?_
  clear K3
  rintro e w3 ⟨v3, rfl, hL3, hn3, hE3⟩
  have HgT := hid (Hg2.out.there.keep0 hE3)
  have HE3 := hid (HE2.out.trans hE3)
  obtain ⟨a3, c3, rfl, hI3⟩ := lst_is hL3
  have HI3 := hid hI3
  have hz3 := hE3.size
  have hz2 := HE2.out.size
  have Hn3 : Hid (∀ ad, a3 = some ad → w2.heap.size ≤ ad.block) := fun ad had => hn3 ad.block (by rw [had]; rfl)
  have Hlt3 : Hid (∀ ad, a3 = some ad → ad.block < w3.heap.size) := fun ad had => hL3.lt ad.block (by rw [had]; rfl)
  have hll : (lives G).length ≤ 65536 := Nat.le_trans (livK_len G G.ns.length) hlenG
  have K4 := net_any p G _ a3 (lives G).length c3 w3 HgT.out HI.out hI3 rfl
  clear hL3 hI3 hE3 Hg2 HE2 hn3
  rw [li_len]
  go_wp2_with fail
  refine K4.mono ?_
  clear K4
  rintro e w4 ⟨a4, c4, H4, rfl, _, hNb, hE4⟩
  have HNb := hid hNb
  have HE4 := hid (HE3.out.trans hE4)
  have HgT4 := hid (HgT.out.keep0 hE4)
  have HI4 := hid (HI3.out.keep0 hE4)
  have hz4 := hE4.size
  clear hNb hE4 HgT HI3 HE3
  obtain ⟨a5, c5, w5, hr5, hI5, hn5, hE5⟩ := app_copy w4 ra R rc (HR.out.keep0 HE4.out) (by omega)
  have HE5 := hid (HE4.out.trans hE5)
  have HI6 := hid (HI4.out.keep0 hE5)
  have HNb5 := hid (HNb.out.keep0 hE5)
  have hz5 := hE5.size
  obtain ⟨D, hD⟩ : ∃ D : Nat → Prop, D = fun k => w.heap.size ≤ k ∧ k < w2.heap.size := ⟨_, rfl⟩
  have HD : Hid (∀ k, D k → w.heap.size ≤ k ∧ k < w2.heap.size) := fun k hk => by rw [hD] at hk; exact hk
  have hg5 : Gr w5 p G D := by rw [hD]; exact HgT4.out.keep0 hE5
  have K5 := start_any p G D a5 R.length c5 R w5 hg5 HI.out hI5 rfl (by omega) (fun ad had q => by
    have := hn5 ad had
    have := (HD.out _ q).2
    omega)
  have hcyS := start_cy G R
  have HIv := hid (iv_start HI.out R)
  have hlS := start_len G R
  clear hI5 hn5 hE5 HgT4 hg5 hD HI4 HE4 HNb
  go_wp2_with (at_builtin; refine wpList_append_run rfl _ _ 23 rfl _ _ _ rfl rfl hr5 ?_)
  refine K5.mono ?_
  clear K5 hr5
  rintro e w6 ⟨rfl, hg6, hx6⟩
  have Hg6 := hid hg6
  have HX6 := hid hx6
  have hnD : ∀ g, w2.heap.size ≤ g → ¬ D g := fun g hg q => by have := (HD.out g q).2; omega
  have HnD := hid hnD
  have HI7 := hid (is_keepF HI6.out hx6 (fun ad had => hnD _ (Hn3.out ad had)))
  have HE6 := hid (hx6.on HE5.out (fun k q => (HD.out k q).1))
  clear hg6 hx6 hnD
  by_cases her : (start G R).2 = 0
  · have HS2 := hid her
    have hall := (start_ok her).2.1
    have hRl : ∀ r ∈ R, lvB G r = true := List.all_eq_true.1 hall
    have HRl := hid hRl
    have K7 := kept_any ra R.length rc R (nK G (lives G).length) w6 (HR.out.keep0 HE6.out) rfl hrb
    rw [kept_all hRl] at K7
    have hnk : nK G (lives G).length ≤ 65536 := Nat.le_trans nK_len hlenG
    have HNb6 := hid (HNb5.out.keepF HX6.out (fun g hg => HnD.out g (by omega)))
    have HSf : Hid (Sf G (fun i => Rch (netN G) (tn R) (-1) i) R (start G R).1) := sf_start HI.out her
    rw [her]
    clear hall hRl her HNb5
    rw [netM_len]
    go_wp2_with fail
    refine K7.mono ?_
    clear K7
    rintro e w7 ⟨a7, c7, rfl, hI7', hE7⟩
    have hnt : Nt w7 a4 (netM G (nK G (lives G).length)) := by
      refine (HNb6.out.keep0 hE7).nt (by rw [netM_len]; omega) (fun i hi => ?_)
      rw [netM_len] at hi
      rw [netM_at hi]
      have := nbr_len HI.out i
      omega
    have K8 := rreached_any (netN G) (tn R) (-1) a4 (nK G (lives G).length) c4 a7 R.length c7 w7 (by rw [cn_netN HI.out]; exact hnt) (netN_len G) (good_net HI.out HRl.out) (by rw [ci_tn (fun x hx => (lvB_iff.1 (HRl.out x hx)).1)]; exact hI7') (tn_len R) hrb
    have HE7 := hid hE7
    clear hI7' hE7 hnt HNb6
    go_wp2_with fail
    refine K8.mono ?_
    clear K8
    rintro e w8 ⟨v8, Bs, rfl, hB8, ho8, hE8⟩
    have hBlen : Bs.length = nK G (lives G).length := by rw [hB8.len, netN_len]
    rw [netN_len] at ho8
    obtain ⟨a8, c8, e8, _⟩ := own_slice ho8
    subst e8
    have hE68 := HE7.out.trans hE8
    have hz6 := HX6.out.size
    have hz68 := hE68.size
    have hz78 := hE8.size
    have hz67 := HE7.out.size
    obtain ⟨v9, w9, hr9, ho9, hE9, hX9⟩ := app_own w8 w8 (Ext.refl _ _) 23 23 3 _ 8 Try.underlying23 info3 rfl (by decide) (.slice none 0 0) 0 [] (own_nil _ _ _ _) ra R.length rc (R.map (Value.int .i64)) (by simp) (HR.out.keep0 (HE6.out.trans hE68)) (fun u hu => by obtain ⟨y, _, rfl⟩ := List.mem_map.1 hu; rfl) (by omega)
    rw [Nat.zero_add, List.nil_append] at ho9
    obtain ⟨a9, c9, e9, _⟩ := own_slice ho9
    subst e9
    have hE69 := hE68.trans hE9
    have HT : Hid (∀ i, lvN G i → (Bs.getD i false = true ↔ Rch (netN G) (tn R) (-1) i)) := fun i hi => hB8.mem i (by rw [netN_len]; exact nK_all hi)
    have HSd : Hid (Sd R w p G (fun i => Rch (netN G) (tn R) (-1) i) a3 (.slice a8 (nK G (lives G).length) c8) Bs (start G R).1.cy 0 w9 (.slice a9 R.length c9)) := by
      refine ⟨(start G R).1, fun k => Nw D w5 k ∧ k < w6.heap.size, R, Hg6.out.there.keep0 hE69, HIv.out, ?_, HSf.out, Nat.le_refl _, by omega, fun r hr => hr⟩
      have hsz9 := hE69.size
      have hz9 := hE9.size
      refine ⟨fun k hk => ⟨?_, Nat.lt_of_lt_of_le hk.2 hsz9⟩, HE6.out.trans hE69, HI7.out.keep0 hE69, fun ad had => ⟨fun q => ?_, ?_⟩, ?_, fun g hg q => ?_, ?_, fun g hg q => ?_, fun ad had q => ?_⟩
      · rcases hk.1 with r | r
        · exact (HD.out k r).1
        · exact Nat.le_trans HE5.out.size r
      · rcases q.1 with r | r
        · exact HnD.out _ (Hn3.out ad had) r
        · have := Hlt3.out ad had; omega
      · have := Hlt3.out ad had; omega
      · have := own_base (own_keep0 ho8 hE9) (Nat.zero_le _)
        rw [hBlen]; exact this
      · have := (own_lt ho8 g hg).1; omega
      · exact own_base ho9 (by have := HE6.out.size; omega)
      · have := (own_lt ho9 g hg).1; omega
      · have := (own_lt ho9 _ q).1; have := Hlt3.out ad had; omega
    have HBlen := hid hBlen
    have KC := cycles_any p (start G R).1 _ w9 (Hg6.out.keep0 hE69)
    have HIG := HI
    have HCls : Hid (Cls G R (fun i => Rch (netN G) (tn R) (-1) i)) := cls_net HI.out
    clear hB8 ho8 hE8 ho9 hE9 hX9 hE68 hE69 hBlen HSf HE7 Hg6 HX6 HE6 HI7 HI6 HE5 HIv
    generalize (start G R).1.cy = cy0 at *
    go_wp2_with (at_builtin; refine wpList_append_run rfl _ _ 23 rfl _ _ _ rfl rfl hr9 ?_)
    refine met KC ?_
    clear KC hr9
    go_wp2_with fail
    generalize hTT : (fun i => Rch (netN G) (tn R) (-1) i) = T at *
    have HTT : Hid (∀ i, Rch (netN G) (tn R) (-1) i → T i) := fun i h => by rw [← hTT]; exact h
    clear hTT
    generalize hnkk : nK G (lives G).length = nk at *
    have HNk := hid hnkk
    clear hnkk
    go_loopw [12, 14] (fun q12 q14 wr => ∃ k : Nat, q14 = .int .i64 k ∧ k ≤ dn ∧ (∃ ad l d, q12 = .slice ad l d) ∧ Sd R w p G T a3 (.slice a8 nk c8) Bs cy0 k wr q12) (fun _ q _ => (dn - (intOf q)).toNat)
    case atStart => exact ⟨0, rfl, Nat.zero_le _, ⟨_, _, _, rfl⟩, HSd.out⟩
    case round =>
      clear HSd
      obtain ⟨k, rfl, hk, ⟨va, vl, vd, rfl⟩, hSd⟩ := hrel
      have HSd := hid hSd
      clear hSd
      obtain ⟨H, C, A, hgH, hIH, hPr, hSf, hcyH, hAl, hRA⟩ := HSd.out.go
      have KC := cycles_any p H _ wr hgH
      have hcyb : H.cy ≤ 3000000000000 := by omega
      by_cases hlt : k < dn
      · by_cases hcc : H.cy = cy0
        · have hcb : ((H.cy : Int) == (cy0 : Int)) = true := by simp [hcc]
          have hkD : k < Du.length := by rw [HDn.out]; exact hlt
          rcases (HDu.out.keep0 hPr.ext).at_ with h0 | ⟨b, o, rfl, hcs⟩
          · rw [h0] at hkD; simp at hkD
          obtain ⟨oa, oc, c0, c1, c2, c3, c4, hIo, hbl⟩ := hcs k hkD
          have KPh := fun W (hW : Ext [] wr W) => phase_any p H _ W (hgH.keep0 hW)
          have hEo := Ext.alloc [] wr (.cells #[.int .i64 (oqAt Du k).kd, .int .i64 (oqAt Du k).a, .int .i64 (oqAt Du k).b, .int .i64 (oqAt Du k).c, .slice oa (oqAt Du k).r.length oc] 44)
          have hbo : (wr.alloc (.cells #[.int .i64 (oqAt Du k).kd, .int .i64 (oqAt Du k).a, .int .i64 (oqAt Du k).b, .int .i64 (oqAt Du k).c, .slice oa (oqAt Du k).r.length oc] 44)).heap[wr.heap.size]? = some (.cells #[.int .i64 (oqAt Du k).kd, .int .i64 (oqAt Du k).a, .int .i64 (oqAt Du k).b, .int .i64 (oqAt Du k).c, .slice oa (oqAt Du k).r.length oc] 44 (0, 0)) := heap_alloc_new wr _
          have hIo1 := hIo.keep0 hEo
          have hgW := hgH.keep0 hEo
          have hPW := hPr.keep0 hEo
          have hCw : ∀ q, C q → q < wr.heap.size := fun q hq => (hPr.c q hq).2
          have KPh1 := KPh _ hEo
          have HSame : Hid (Sd R w p G T a3 (.slice a8 nk c8) Bs cy0 (k + 1) (wr.alloc (.cells #[.int .i64 (oqAt Du k).kd, .int .i64 (oqAt Du k).a, .int .i64 (oqAt Du k).b, .int .i64 (oqAt Du k).c, .slice oa (oqAt Du k).r.length oc] 44)) (.slice va vl vd)) := ⟨H, C, A, hgW, hIH, hPW, hSf, by omega, by omega, hRA⟩
          have KSet := set_any p H C (oqAt Du k).a (oqAt Du k).b (oqAt Du k).c _ hgW hIH
          have KSh := shadeC_any p H C (oqAt Du k).a _ hgW hIH
          have KDo := do_any p H C (oqAt Du k) oa oc _ hgW hIH (by omega) hIo1 hbl
          have KNo := node_any p H C (min (oqAt Du k).a 64) _ hgW hIH
          have HSsf := hid (sf_set HIG.out hIH hSf (oqAt Du k).a (oqAt Du k).b (oqAt Du k).c)
          have HShf := hid (sf_shade HIG.out hSf (oqAt Du k).a)
          have HNof := hid (sf_new HIG.out hIH hSf (min (oqAt Du k).a 64))
          have HDof : Hid ((oqAt Du k).kd = 3 ∨ (oqAt Du k).kd = 4 ∨ (oqAt Du k).kd = 5 → Sf G T A (opG H (oqAt Du k))) := fun hq => by
            unfold opG
            rw [if_neg (by omega), if_neg (by omega)]
            split
            · exact sf_work HIG.out HCls.out hRA HRl.out _ hIH hSf
            · rw [if_neg (by omega), if_pos (by omega)]; exact hSf
          have HIset := hid (iv_set hIH (oqAt Du k).a (oqAt Du k).b (oqAt Du k).c)
          have HIsh := hid (iv_shade hIH (oqAt Du k).a)
          have HIno := hid (iv_node hIH (min (oqAt Du k).a 64))
          have HIdo := hid (iv_op hIH (oqAt Du k))
          have hcs1 := set_cy H (oqAt Du k).a (oqAt Du k).b (oqAt Du k).c
          have hcs2 := shade_cy H (oqAt Du k).a
          have hcs3 := node_cy H (min (oqAt Du k).a 64)
          have hcs4 := op_cy H (oqAt Du k)
          have HOP : Hid (∀ W2 H' D, Gr W2 p H' D → (∀ q, D q → Nw C (wr.alloc (.cells #[.int .i64 (oqAt Du k).kd, .int .i64 (oqAt Du k).a, .int .i64 (oqAt Du k).b, .int .i64 (oqAt Du k).c, .slice oa (oqAt Du k).r.length oc] 44)) q) → Fx C (wr.alloc (.cells #[.int .i64 (oqAt Du k).kd, .int .i64 (oqAt Du k).a, .int .i64 (oqAt Du k).b, .int .i64 (oqAt Du k).c, .slice oa (oqAt Du k).r.length oc] 44)) W2 → Iv H' → Sf G T A H' → H'.cy ≤ cy0 + (k + 1) →
              W2.heap[wr.heap.size]? = some (.cells #[.int .i64 (oqAt Du k).kd, .int .i64 (oqAt Du k).a, .int .i64 (oqAt Du k).b, .int .i64 (oqAt Du k).c, .slice oa (oqAt Du k).r.length oc] 44 (0, 0)) ∧ Sd R w p G T a3 (.slice a8 nk c8) Bs cy0 (k + 1) W2 (.slice va vl vd) ∧
              ∀ x, Sf G T (A ++ [x]) H' → ∃ v' W3, (Builtin.append_ #[23, 23] 23 #[.slice va vl vd, .slice (some ⟨W2.heap.size, 0, none⟩) 1 1]).run Try.prog (W2.alloc (.cells #[.int .i64 x] 3)) = .ok v' W3 ∧ (∃ ad l d, v' = .slice ad l d) ∧ Sd R w p G T a3 (.slice a8 nk c8) Bs cy0 (k + 1) W3 v') := by
            intro W2 H' D hg hD hx hI' hS' hc'
            have hP2 := hPW.op hx hD
            refine ⟨hx.keep hbo (fun q => by have := hCw _ q; omega), ⟨H', _, A, hg.there, hI', hP2, hS', hc', by omega, hRA⟩, fun x hSx => ?_⟩
            obtain ⟨v', W3, hr, hP3, hg3⟩ := hP2.app hg.there x (by omega)
            obtain ⟨a', c', e', _⟩ := own_slice hP3.a
            exact ⟨v', W3, hr, ⟨a', _, c', e'⟩, H', _, A ++ [x], hg3, hI', hP3, hSx, hc', by simp; omega, fun r hr' => by simp [hRA r hr']⟩
          clear hcs hIo hIo1 hbl hgH hIH hPr hSf hgW hPW KPh hEo hRA hkD HSd
          generalize (oqAt Du k).r.length = rl at *
          generalize oqAt Du k = oo at *
          go_upto_region 16 with (go_at_call 20; refine met KC ?_)
          generalize hW1 : wr.alloc _ = W1 at *
          have d0 : W1.cell? ⟨wr.heap.size, 0, none⟩ = some (.int .i64 oo.kd) := by rw [cell_of_row _ _ _ _ _ _ hbo]; rfl
          have d1 : W1.cell? ⟨wr.heap.size, 1, none⟩ = some (.int .i64 oo.a) := by rw [cell_of_row _ _ _ _ _ _ hbo]; rfl
          have d2 : W1.cell? ⟨wr.heap.size, 2, none⟩ = some (.int .i64 oo.b) := by rw [cell_of_row _ _ _ _ _ _ hbo]; rfl
          have d3 : W1.cell? ⟨wr.heap.size, 3, none⟩ = some (.int .i64 oo.c) := by rw [cell_of_row _ _ _ _ _ _ hbo]; rfl
          have d4 : W1.cell? ⟨wr.heap.size, 4, none⟩ = some (.slice oa rl oc) := by rw [cell_of_row _ _ _ _ _ _ hbo]; rfl
          generalize wr.heap.size = ob at *
          have HBo : Hid (∀ W2 : World, W2.heap[ob]? = some (.cells #[.int .i64 oo.kd, .int .i64 oo.a, .int .i64 oo.b, .int .i64 oo.c, .slice oa rl oc] 44 (0, 0)) → W2.cell? ⟨ob, 0, none⟩ = some (.int .i64 oo.kd) ∧ W2.cell? ⟨ob, 1, none⟩ = some (.int .i64 oo.a) ∧ W2.cell? ⟨ob, 3, none⟩ = some (.int .i64 oo.c)) := fun W2 h2 => ⟨by rw [cell_of_row _ _ _ _ _ _ h2]; rfl, by rw [cell_of_row _ _ _ _ _ _ h2]; rfl, by rw [cell_of_row _ _ _ _ _ _ h2]; rfl⟩
          clear hW1 hbo c0 c1 c2 c3 c4 hCw KC
          by_cases k2 : oo.kd = 2
          · have b2 : (oo.kd == 2) = true := by simp [k2]
            clear KSet KSh KDo KNo HSsf HShf HNof HDof HIset HIsh HIno HIdo HOP k2
            go_wp2_with fail
            go_roundw
            case rel => exact ⟨k + 1, by go_num, by omega, ⟨_, _, _, rfl⟩, HSame.out⟩
            case measure => simp [intOf]; omega
          have b2 : (oo.kd == 2) = false := by simp [k2]
          by_cases k1 : oo.kd = 1
          · have b1 : (oo.kd == 1) = true := by simp [k1]
            clear KSh KDo KNo HShf HNof HDof HIsh HIno HIdo k2 k1
            have HST : Hid (∀ e W2, GPost W1 p (set H oo.a oo.b oo.c).1 C (.int .i64 (set H oo.a oo.b oo.c).2) e W2 → e = .returned (.int .i64 (set H oo.a oo.b oo.c).2) ∧ W2.heap[ob]? = some (.cells #[.int .i64 oo.kd, .int .i64 oo.a, .int .i64 oo.b, .int .i64 oo.c, .slice oa rl oc] 44 (0, 0)) ∧ Sd R w p G T a3 (.slice a8 nk c8) Bs cy0 (k + 1) W2 (.slice va vl vd) ∧ ((set H oo.a oo.b oo.c).2 = 0 → 0 ≤ oo.c → ∃ v' W3, (Builtin.append_ #[23, 23] 23 #[.slice va vl vd, .slice (some ⟨W2.heap.size, 0, none⟩) 1 1]).run Try.prog (W2.alloc (.cells #[.int .i64 oo.c] 3)) = .ok v' W3 ∧ (∃ ad l d, v' = .slice ad l d) ∧ Sd R w p G T a3 (.slice a8 nk c8) Bs cy0 (k + 1) W3 v')) := by
              rintro e W2 ⟨rfl, hg, hx⟩
              obtain ⟨q1, q2, q3⟩ := HOP.out W2 _ _ hg (fun _ q => q) hx HIset.out HSsf.out.1 (by omega)
              exact ⟨rfl, q1, q2, fun h1 h2 => q3 oo.c (HSsf.out.2 h1 h2)⟩
            clear HOP HSsf HIset
            generalize set H oo.a oo.b oo.c = res at *
            go_wp2_with (go_at_call 11; refine met KPh1 ?_)
            refine KSet.mono ?_
            clear KSet
            intro e W2 hq
            obtain ⟨rfl, q1, q2, q3⟩ := HST.out e W2 hq
            obtain ⟨e0, e1, e3⟩ := HBo.out W2 q1
            have HQ2 := hid q2
            have HQ3 := hid q3
            clear hq q1 q2 q3 HST d0 d1 d2 d3 d4 KPh1 HSame
            by_cases z0 : res.2 = 0
            · have z0' : (res.2 == 0) = true := by simp [z0]
              by_cases z1 : 0 ≤ oo.c
              · by_cases z2 : H.ph = 1
                · have z2' : ((H.ph : Int) == 1) = true := by simp [z2]
                  obtain ⟨v', W3, hr, ⟨a', l', d', rfl⟩, hq⟩ := HQ3.out z0 z1
                  have HQ := hid hq
                  clear hq z0 HQ3 z2
                  generalize H.ph = ph at *
                  go_wp2_with (at_builtin; refine wpList_append_run rfl _ _ 23 rfl _ _ _ rfl rfl hr ?_)
                  go_roundw
                  case rel => exact ⟨k + 1, by go_num, by omega, ⟨_, _, _, rfl⟩, HQ.out⟩
                  case measure => simp [intOf]; omega
                · have z2' : ((H.ph : Int) == 1) = false := by simp; omega
                  clear HQ3 z0 z2
                  generalize H.ph = ph at *
                  go_wp2_with fail
                  go_roundw
                  case rel => exact ⟨k + 1, by go_num, by omega, ⟨_, _, _, rfl⟩, HQ2.out⟩
                  case measure => simp [intOf]; omega
              · clear HQ3 z0
                generalize H.ph = ph at *
                go_wp2_with fail
                go_roundw
                case rel => exact ⟨k + 1, by go_num, by omega, ⟨_, _, _, rfl⟩, HQ2.out⟩
                case measure => simp [intOf]; omega
            · have z0' : (res.2 == 0) = false := by simp [z0]
              clear HQ3 z0
              generalize H.ph = ph at *
              go_wp2_with fail
              go_roundw
              case rel => exact ⟨k + 1, by go_num, by omega, ⟨_, _, _, rfl⟩, HQ2.out⟩
              case measure => simp [intOf]; omega
          have b1 : (oo.kd == 1) = false := by simp [k1]
          by_cases k6 : oo.kd = 6
          · have b6 : (oo.kd == 6) = true := by simp [k6]
            clear KSet KDo KNo HSsf HNof HDof HIset HIno HIdo k2 k1 k6
            have HST : Hid (∀ e W2, GPost W1 p (shade H oo.a).1 C (.int .i64 (shade H oo.a).2) e W2 → e = .returned (.int .i64 (shade H oo.a).2) ∧ W2.heap[ob]? = some (.cells #[.int .i64 oo.kd, .int .i64 oo.a, .int .i64 oo.b, .int .i64 oo.c, .slice oa rl oc] 44 (0, 0)) ∧ Sd R w p G T a3 (.slice a8 nk c8) Bs cy0 (k + 1) W2 (.slice va vl vd) ∧ ((shade H oo.a).2 = 0 → ∃ v' W3, (Builtin.append_ #[23, 23] 23 #[.slice va vl vd, .slice (some ⟨W2.heap.size, 0, none⟩) 1 1]).run Try.prog (W2.alloc (.cells #[.int .i64 oo.a] 3)) = .ok v' W3 ∧ (∃ ad l d, v' = .slice ad l d) ∧ Sd R w p G T a3 (.slice a8 nk c8) Bs cy0 (k + 1) W3 v')) := by
              rintro e W2 ⟨rfl, hg, hx⟩
              obtain ⟨q1, q2, q3⟩ := HOP.out W2 _ _ hg (fun _ q => q) hx HIsh.out HShf.out.1 (by omega)
              exact ⟨rfl, q1, q2, fun h1 => q3 oo.a (HShf.out.2 h1)⟩
            clear HOP HShf HIsh
            generalize shade H oo.a = res at *
            go_wp2_with (go_at_call 11; refine met KPh1 ?_)
            refine KSh.mono ?_
            clear KSh
            intro e W2 hq
            obtain ⟨rfl, q1, q2, q3⟩ := HST.out e W2 hq
            obtain ⟨e0, e1, e3⟩ := HBo.out W2 q1
            have HQ2 := hid q2
            have HQ3 := hid q3
            clear hq q1 q2 q3 HST d0 d1 d2 d3 d4 KPh1 HSame
            by_cases z0 : res.2 = 0
            · have z0' : (res.2 == 0) = true := by simp [z0]
              by_cases z2 : H.ph = 1
              · have z2' : ((H.ph : Int) == 1) = true := by simp [z2]
                obtain ⟨v', W3, hr, ⟨a', l', d', rfl⟩, hq⟩ := HQ3.out z0
                have HQ := hid hq
                clear hq z0 HQ3 z2
                generalize H.ph = ph at *
                go_wp2_with (at_builtin; refine wpList_append_run rfl _ _ 23 rfl _ _ _ rfl rfl hr ?_)
                go_roundw
                case rel => exact ⟨k + 1, by go_num, by omega, ⟨_, _, _, rfl⟩, HQ.out⟩
                case measure => simp [intOf]; omega
              · have z2' : ((H.ph : Int) == 1) = false := by simp; omega
                clear HQ3 z0 z2
                generalize H.ph = ph at *
                go_wp2_with fail
                go_roundw
                case rel => exact ⟨k + 1, by go_num, by omega, ⟨_, _, _, rfl⟩, HQ2.out⟩
                case measure => simp [intOf]; omega
            · have z0' : (res.2 == 0) = false := by simp [z0]
              clear HQ3 z0
              generalize H.ph = ph at *
              go_wp2_with fail
              go_roundw
              case rel => exact ⟨k + 1, by go_num, by omega, ⟨_, _, _, rfl⟩, HQ2.out⟩
              case measure => simp [intOf]; omega
          have b6 : (oo.kd == 6) = false := by simp [k6]
          by_cases kr : 1 ≤ oo.kd ∧ oo.kd ≤ 6
          · obtain ⟨kr1, kr2⟩ := kr
            clear KSet KSh KNo HSsf HShf HNof HIset HIsh HIno
            have HDf := hid (HDof.out (by omega))
            have HST : Hid (∀ e W2, GPost W1 p (opG H oo) C (.tuple #[]) e W2 → e = .returned (.tuple #[]) ∧ Sd R w p G T a3 (.slice a8 nk c8) Bs cy0 (k + 1) W2 (.slice va vl vd)) := by
              rintro e W2 ⟨rfl, hg, hx⟩
              obtain ⟨q1, q2, q3⟩ := HOP.out W2 _ _ hg (fun _ q => q) hx HIdo.out HDf.out (by omega)
              exact ⟨rfl, q2⟩
            unfold oqv at KDo
            clear HOP HDf HDof HIdo k1 k2 k6
            generalize opG H oo = res at *
            go_wp2_with (go_at_call 11; refine met KPh1 ?_)
            refine KDo.mono ?_
            clear KDo
            intro e W2 hq
            obtain ⟨rfl, q2⟩ := HST.out e W2 hq
            have HQ2 := hid q2
            clear hq q2 HST d0 d1 d2 d3 d4 KPh1 HSame HBo
            go_wp2_with fail
            go_roundw
            case rel => exact ⟨k + 1, by go_num, by omega, ⟨_, _, _, rfl⟩, HQ2.out⟩
            case measure => simp [intOf]; omega
          · clear KSet KSh KDo HSsf HShf HDof HIset HIsh HIdo
            have HST : Hid (∀ e W2, GPost W1 p (node H (min oo.a 64)).1 C (.tuple #[.int .i64 (node H (min oo.a 64)).2.1, .int .i64 (node H (min oo.a 64)).2.2]) e W2 → e = .returned (.tuple #[.int .i64 (node H (min oo.a 64)).2.1, .int .i64 (node H (min oo.a 64)).2.2]) ∧ Sd R w p G T a3 (.slice a8 nk c8) Bs cy0 (k + 1) W2 (.slice va vl vd) ∧ ((node H (min oo.a 64)).2.2 = 0 → ∃ v' W3, (Builtin.append_ #[23, 23] 23 #[.slice va vl vd, .slice (some ⟨W2.heap.size, 0, none⟩) 1 1]).run Try.prog (W2.alloc (.cells #[.int .i64 (node H (min oo.a 64)).2.1] 3)) = .ok v' W3 ∧ (∃ ad l d, v' = .slice ad l d) ∧ Sd R w p G T a3 (.slice a8 nk c8) Bs cy0 (k + 1) W3 v')) := by
              rintro e W2 ⟨rfl, hg, hx⟩
              obtain ⟨q1, q2, q3⟩ := HOP.out W2 _ _ hg (fun _ q => q) hx HIno.out HNof.out.1 (by omega)
              exact ⟨rfl, q2, fun h1 => q3 _ (HNof.out.2 h1)⟩
            clear HOP HNof HIno k1 k2 k6
            have hmin : (oo.a ≤ 64 ∧ min oo.a 64 = oo.a) ∨ (64 ≤ oo.a ∧ ¬ oo.a ≤ 64 ∧ min oo.a 64 = 64) := by omega
            have hkr : oo.kd < 1 ∨ 6 < oo.kd := by omega
            clear kr hcs1 hcs2 hcs3 hcs4
            generalize node H (min oo.a 64) = res at *
            generalize min oo.a 64 = mm at *
            rcases hkr with hkr | hkr
            · have hk1 : ¬ 1 ≤ oo.kd := by omega
              rcases hmin with ⟨h1, rfl⟩ | ⟨h1, h1', rfl⟩
              · go_wp2_with (go_at_call 11; refine met KPh1 ?_)
                all_goals
                  refine KNo.mono ?_
                  intro e W2 hq
                  obtain ⟨rfl, q2, q3⟩ := HST.out e W2 hq
                  have HQ2 := hid q2
                  have HQ3 := hid q3
                  clear hq q2 q3 HST d0 d1 d2 d3 d4 KPh1 HSame HBo KNo
                  by_cases z0 : res.2.2 = 0
                  · have z0' : (res.2.2 == 0) = true := by simp [z0]
                    obtain ⟨v', W3, hr, ⟨a', l', d', rfl⟩, hq⟩ := HQ3.out z0
                    have HQ := hid hq
                    clear hq z0 HQ3
                    go_wp2_with (at_builtin; refine wpList_append_run rfl _ _ 23 rfl _ _ _ rfl rfl hr ?_)
                    go_roundw
                    case rel => exact ⟨k + 1, by go_num, by omega, ⟨_, _, _, rfl⟩, HQ.out⟩
                    case measure => simp [intOf]; omega
                  · have z0' : (res.2.2 == 0) = false := by simp [z0]
                    clear HQ3 z0
                    go_wp2_with fail
                    go_roundw
                    case rel => exact ⟨k + 1, by go_num, by omega, ⟨_, _, _, rfl⟩, HQ2.out⟩
                    case measure => simp [intOf]; omega
              · go_wp2_with (go_at_call 11; refine met KPh1 ?_)
                all_goals
                  refine KNo.mono ?_
                  intro e W2 hq
                  obtain ⟨rfl, q2, q3⟩ := HST.out e W2 hq
                  have HQ2 := hid q2
                  have HQ3 := hid q3
                  clear hq q2 q3 HST d0 d1 d2 d3 d4 KPh1 HSame HBo KNo
                  by_cases z0 : res.2.2 = 0
                  · have z0' : (res.2.2 == 0) = true := by simp [z0]
                    obtain ⟨v', W3, hr, ⟨a', l', d', rfl⟩, hq⟩ := HQ3.out z0
                    have HQ := hid hq
                    clear hq z0 HQ3
                    go_wp2_with (at_builtin; refine wpList_append_run rfl _ _ 23 rfl _ _ _ rfl rfl hr ?_)
                    go_roundw
                    case rel => exact ⟨k + 1, by go_num, by omega, ⟨_, _, _, rfl⟩, HQ.out⟩
                    case measure => simp [intOf]; omega
                  · have z0' : (res.2.2 == 0) = false := by simp [z0]
                    clear HQ3 z0
                    go_wp2_with fail
                    go_roundw
                    case rel => exact ⟨k + 1, by go_num, by omega, ⟨_, _, _, rfl⟩, HQ2.out⟩
                    case measure => simp [intOf]; omega
            · have hk1 : 1 ≤ oo.kd := by omega
              have hk2 : ¬ oo.kd ≤ 6 := by omega
              rcases hmin with ⟨h1, rfl⟩ | ⟨h1, h1', rfl⟩
              · go_wp2_with (go_at_call 11; refine met KPh1 ?_)
                all_goals
                  refine KNo.mono ?_
                  intro e W2 hq
                  obtain ⟨rfl, q2, q3⟩ := HST.out e W2 hq
                  have HQ2 := hid q2
                  have HQ3 := hid q3
                  clear hq q2 q3 HST d0 d1 d2 d3 d4 KPh1 HSame HBo KNo
                  by_cases z0 : res.2.2 = 0
                  · have z0' : (res.2.2 == 0) = true := by simp [z0]
                    obtain ⟨v', W3, hr, ⟨a', l', d', rfl⟩, hq⟩ := HQ3.out z0
                    have HQ := hid hq
                    clear hq z0 HQ3
                    go_wp2_with (at_builtin; refine wpList_append_run rfl _ _ 23 rfl _ _ _ rfl rfl hr ?_)
                    go_roundw
                    case rel => exact ⟨k + 1, by go_num, by omega, ⟨_, _, _, rfl⟩, HQ.out⟩
                    case measure => simp [intOf]; omega
                  · have z0' : (res.2.2 == 0) = false := by simp [z0]
                    clear HQ3 z0
                    go_wp2_with fail
                    go_roundw
                    case rel => exact ⟨k + 1, by go_num, by omega, ⟨_, _, _, rfl⟩, HQ2.out⟩
                    case measure => simp [intOf]; omega
              · go_wp2_with (go_at_call 11; refine met KPh1 ?_)
                all_goals
                  refine KNo.mono ?_
                  intro e W2 hq
                  obtain ⟨rfl, q2, q3⟩ := HST.out e W2 hq
                  have HQ2 := hid q2
                  have HQ3 := hid q3
                  clear hq q2 q3 HST d0 d1 d2 d3 d4 KPh1 HSame HBo KNo
                  by_cases z0 : res.2.2 = 0
                  · have z0' : (res.2.2 == 0) = true := by simp [z0]
                    obtain ⟨v', W3, hr, ⟨a', l', d', rfl⟩, hq⟩ := HQ3.out z0
                    have HQ := hid hq
                    clear hq z0 HQ3
                    go_wp2_with (at_builtin; refine wpList_append_run rfl _ _ 23 rfl _ _ _ rfl rfl hr ?_)
                    go_roundw
                    case rel => exact ⟨k + 1, by go_num, by omega, ⟨_, _, _, rfl⟩, HQ.out⟩
                    case measure => simp [intOf]; omega
                  · have z0' : (res.2.2 == 0) = false := by simp [z0]
                    clear HQ3 z0
                    go_wp2_with fail
                    go_roundw
                    case rel => exact ⟨k + 1, by go_num, by omega, ⟨_, _, _, rfl⟩, HQ2.out⟩
                    case measure => simp [intOf]; omega
        · have hcb : ((H.cy : Int) == (cy0 : Int)) = false := by simp; omega
          have hcn : ((H.cy : Int) != (cy0 : Int)) = true := by simp; omega
          have HEx := hid hPr.ext
          clear hgH hIH hPr hSf hRA HSd
          generalize H.cy = hcyv at *
          go_wp2_with (go_at_call 20; refine met KC ?_)
          go_ret
          exact ⟨rfl, HEx.out⟩
      · obtain rfl : k = dn := by omega
        by_cases hcc : H.cy = cy0
        · have hcn : ((H.cy : Int) != (cy0 : Int)) = false := by simp [hcc]
          obtain ⟨va', vd', ev, _⟩ := own_slice hPr.a
          simp only [Value.slice.injEq] at ev
          obtain ⟨rfl, rfl, rfl⟩ := ev
          have KF := finish_any p H _ wr hgH hIH (by omega)
          have HST : Hid (∀ e w8, FnPost wr p C H e w8 → e = .returned (.tuple #[]) ∧ ∃ G', Sf G T A G' ∧ G'.ph = 0 ∧ Iv G' ∧ Gr w8 p G' (Nw C wr) ∧ Pr w w8 a3 (li (lives G)) (.slice a8 nk c8) Bs (.slice va A.length vd) A (fun k => Nw C wr k ∧ k < w8.heap.size)) := by
            rintro e w8 ⟨G', rfl, ⟨hp, u, hu⟩, hg8, hx8⟩
            refine ⟨rfl, G', ?_, hp, ?_, hg8, hPr.op hx8 (fun _ q => q)⟩
            · rw [hu]; exact sf_work HIG.out HCls.out hRA HRl.out u hIH hSf
            · rw [hu]; exact iv_work u hIH
          clear hgH hIH hPr hSf hRA HSd
          generalize H.cy = hcyv at *
          go_wp2_with (go_at_call 20; refine met KC ?_)
          refine KF.mono ?_
          clear KF KC
          intro e w8 hq
          obtain ⟨rfl, G', hSf8, hp8, hI8, hg8, hP8⟩ := HST.out e w8 hq
          obtain ⟨hS1, hS2⟩ := hSf8.s (by rw [hp8]; decide)
          have HS1 := hid hS1
          have HS2 := hid hS2
          have HI8 := hid hI8
          have Hg8 := hid hg8
          have HP8 := hid hP8
          have hlen8 := hI8.len
          have K9 := told_any p G' _ w8 hg8 hlen8
          clear hq HST hS1 hS2 hI8 hg8 hP8 hSf8
          go_wp2_with fail
          refine K9.mono ?_
          clear K9
          rintro e w10 ⟨v10, rfl, hL10, _, hE10⟩
          obtain ⟨a10, c10, rfl, hI10⟩ := lst_is hL10
          have HI10 := hid hI10
          have HP10 := hid (HP8.out.keep0 hE10)
          have Hg10 := hid (Hg8.out.keep0 hE10)
          have HE10 := hid HP10.out.ext
          have HOs : Hid (Os w10 a8 Bs) := own_vs HP10.out.s
          have HA10 : Hid (Is w10 va A) := own_vs HP10.out.a
          have HIb10 := hid HP10.out.l
          have hll10 : (lives G').length ≤ 65536 := Nat.le_trans (livK_len G' G'.ns.length) hlen8
          have HNka : Hid (∀ i, lvN G i → i < nk) := fun i hi => by rw [← HNk.out]; exact nK_all hi
          have HLg := hid (fun k (h : k < (lives G).length) => show lvN G ((lives G).getD k 0) from mem_lives.1 (by simp [List.getD, h]))
          clear hL10 hI10 hE10 HP8 Hg8 HP10
          rw [li_len] at *
          generalize hnl : (lives G).length = nl at *
          have HNL := hid hnl
          clear hnl
          go_wp2_with fail
          go_loop [21] (fun q => ∃ j : Nat, q = .int .i64 j ∧ j ≤ nl) (fun q => (nl - (intOf q)).toNat)
          case atStart => exact ⟨0, rfl, Nat.zero_le _⟩
          case round =>
            obtain ⟨j, rfl, hj⟩ := hrel
            by_cases hjl : j < nl
            · have hjL : j < (lives G).length := by rw [HNL.out]; exact hjl
              obtain ⟨b, o, hab, c0⟩ := HIb10.out.cell (j := j) (by rw [li_len]; exact hjL)
              have hgl : (li (lives G)).getD j 0 = (((lives G).getD j 0 : Nat) : Int) := by simp [li, hjL]
              rw [hgl] at c0
              have hlv := HLg.out j (by rw [← HNL.out]; exact hjL)
              have hyk := HNka.out _ hlv
              have KA := in_any a10 (lives G').length c10 (li (lives G')) (((lives G).getD j 0 : Nat) : Int) w10 HI10.out (li_len _) (by omega)
              rw [in_lives] at KA
              obtain ⟨b2, o2, hab2, c2⟩ := HOs.out.cell (j := (lives G).getD j 0) (by rw [HBlen.out]; exact hyk)
              have HTr : Hid (Bs.getD ((lives G).getD j 0) false = true → lvB G' ((lives G).getD j 0 : Nat) = true) := fun q => by
                rw [lvB_nat, decide_eq_true_eq]
                exact HS1.out _ hlv (HTT.out _ ((HT.out _ hlv).1 q))
              subst hab hab2
              clear hgl hjL hlv
              generalize (lives G).getD j 0 = y at *
              have hyi : (y : Int) < nk := by omega
              have hd1 : decide ((y : Int) < nk) = true := by simp [hyk]
              have hd2 : decide (y < nk) = true := by simp [hyk]
              cases ht : Bs.getD y false
              · rw [ht] at c2
                clear HTr ht KA
                go_wp2_with fail
                go_round
                case rel => exact ⟨j + 1, by go_num, by omega⟩
                case measure => simp [intOf]; omega
              · rw [HTr.out ht] at KA
                rw [ht] at c2
                clear HTr ht
                go_wp2_with fail
                refine met KA ?_
                go_wp2_with fail
                go_round
                case rel => exact ⟨j + 1, by go_num, by omega⟩
                case measure => simp [intOf]; omega
            · obtain rfl : j = nl := by omega
              clear HOs HIb10 HNka HLg HS1
              generalize hal : A.length = al at *
              have HAL := hid hal
              clear hal
              go_wp2_with fail
              go_loop [22] (fun q => ∃ j : Nat, q = .int .i64 j ∧ j ≤ al) (fun q => (al - (intOf q)).toNat)
              case atStart => exact ⟨0, rfl, Nat.zero_le _⟩
              case round =>
                obtain ⟨i, rfl, hi⟩ := hrel
                by_cases hil : i < al
                · have hiL : i < A.length := by rw [HAL.out]; exact hil
                  obtain ⟨b, o, hab, c0⟩ := HA10.out.cell (j := i) hiL
                  have KA := in_any a10 (lives G').length c10 (li (lives G')) (A.getD i 0) w10 HI10.out (li_len _) (by omega)
                  rw [in_lives, HS2.out _ (by simp [List.getD, hiL])] at KA
                  subst hab
                  clear hiL
                  generalize A.getD i 0 = x at *
                  go_wp2_with fail
                  refine met KA ?_
                  go_wp2_with fail
                  go_round
                  case rel => exact ⟨i + 1, by go_num, by omega⟩
                  case measure => simp [intOf]; omega
                · obtain rfl : i = al := by omega
                  clear HA10 HS2 HAL
                  generalize hn9 : (lives G').length = n9 at *
                  have HN9 := hid hn9
                  clear hn9
                  go_wp2_with fail
                  go_loopw [23] (fun q wq => ∃ m : Nat, q = .int .i64 m ∧ m ≤ n9 ∧ Ext [] w10 wq) (fun q _ => (n9 - (intOf q)).toNat)
                  case atStart => exact ⟨0, rfl, Nat.zero_le _, Ext.refl _ _⟩
                  case round =>
                    obtain ⟨m, rfl, hm, hEm⟩ := hrel
                    have HEm := hid hEm
                    clear hEm
                    by_cases hml : m < n9
                    · have hmL : m < (lives G').length := by rw [HN9.out]; exact hml
                      obtain ⟨b, o, hab, c0⟩ := (HI10.out.keep0 HEm.out).cell (j := m) (by rw [li_len]; exact hmL)
                      rw [get_li hmL] at c0
                      have hlv := lives_get hmL
                      have KS := slots_any p G' _ ((lives G').getD m 0 : Nat) wr (Hg10.out.keep0 HEm.out) HI8.out
                      have hsv : slV G' ((lives G').getD m 0 : Nat) = (ndAt G'.ns ((lives G').getD m 0)).s := by
                        unfold slV
                        rw [lvB_nat, decide_eq_true hlv]
                        simp
                      have hfl : fl G' ((lives G').getD m 0 : Nat) = 0 := by
                        unfold fl
                        rw [lvB_nat, decide_eq_true hlv]
                        simp
                      rw [hsv, hfl] at KS
                      have hs1 := HI8.out.sl ((lives G').getD m 0)
                      have HCl := hid (HI8.out.cl _ hlv)
                      subst hab
                      clear hsv hfl hlv hmL
                      generalize (ndAt G'.ns ((lives G').getD m 0)).s = sl at *
                      generalize (lives G').getD m 0 = y at *
                      go_wp2_with fail
                      refine KS.mono ?_
                      clear KS
                      rintro e w12 ⟨v12, rfl, ho12, hE12⟩
                      obtain ⟨a12, c12, rfl, _⟩ := own_slice ho12
                      have HS12 : Hid (Is w12 a12 sl) := own_vs ho12
                      have HEm2 := hid (HEm.out.trans hE12)
                      have HI12 := hid (HI10.out.keep0 HEm2.out)
                      clear ho12 hE12 c0 HEm
                      generalize hsl : sl.length = ln at *
                      have HSL := hid hsl
                      clear hsl
                      go_wp2_with fail
                      go_loop [26] (fun q => ∃ t : Nat, q = .int .i64 t ∧ t ≤ ln) (fun q => (ln - (intOf q)).toNat)
                      case atStart => exact ⟨0, rfl, Nat.zero_le _⟩
                      case round =>
                        obtain ⟨t, rfl, ht⟩ := hrel
                        by_cases htl : t < ln
                        · have htL : t < sl.length := by rw [HSL.out]; exact htl
                          obtain ⟨b, o, hab, c0⟩ := HS12.out.cell (j := t) htL
                          have KA := in_any _ n9 c10 (li (lives G')) (sl.getD t 0) w12 HI12.out (by rw [li_len]; exact HN9.out) (by omega)
                          rw [in_lives] at KA
                          have HCx := hid (HCl.out (sl.getD t 0) (by simp [List.getD, htL]))
                          subst hab
                          clear htL
                          generalize sl.getD t 0 = x at *
                          by_cases hx : x = -1
                          · have hb : (x != -1) = false := by simp [hx]
                            clear HCx KA hx
                            go_wp2_with fail
                            go_round
                            case rel => exact ⟨t + 1, by go_num, by omega⟩
                            case measure => simp [intOf]; omega
                          · have hb : (x != -1) = true := by simp [hx]
                            have hl : lvB G' x = true := by
                              rcases HCx.out with q | q
                              · exact absurd q hx
                              · exact q
                            rw [hl] at KA
                            clear HCx hx hl
                            go_wp2_with fail
                            refine met KA ?_
                            go_wp2_with fail
                            go_round
                            case rel => exact ⟨t + 1, by go_num, by omega⟩
                            case measure => simp [intOf]; omega
                        · obtain rfl : t = ln := by omega
                          go_wp2_with fail
                          go_roundw
                          case rel => exact ⟨m + 1, by go_num, by omega, HEm2.out⟩
                          case measure => simp [intOf]; omega
                    · obtain rfl : m = n9 := by omega
                      have HEf := hid (HE10.out.trans HEm.out)
                      go_wp2_with fail
                      go_ret
                      exact ⟨rfl, HEf.out⟩
        · have hcn : ((H.cy : Int) != (cy0 : Int)) = true := by simp; omega
          have HEx := hid hPr.ext
          clear hgH hIH hPr hSf hRA HSd
          generalize H.cy = hcyv at *
          go_wp2_with (go_at_call 20; refine met KC ?_)
          go_ret
          exact ⟨rfl, HEx.out⟩
  · have hne : ((start G R).2 != 0) = true := by simpa using her
    clear her
    generalize (start G R).2 = er at *
    go_wp2_with fail
    go_ret
    exact ⟨rfl, HE6.out⟩

end colorSafe
end Go.Proofs.Ytfgdoehiocgkhaa

namespace Go.Proofs.Ytfgdoehiocgkhaa.colorSafe
open Go.ChangeShapes Go.WideShapes Go.ChangeAt Go.RowKit

theorem some_bulk {H : Type} (d : DataW H) : 0 < Rows.uptoBulk d := by
  cases d
  case lit l => cases l <;> simp [Rows.uptoBulk]
  all_goals simp [Rows.uptoBulk]
theorem count_bulk {H : Type} : ∀ l : List (DataW H), l.length ≤ Rows.uptoBulkAll l
  | [] => Nat.zero_le _
  | d :: r => by
    have h1 := some_bulk d
    have h2 := count_bulk r
    simp only [Rows.uptoBulkAll, List.length_cons]
    omega
theorem slice_bulk {H : Type} {enc : TypeId × Value → H} {W : World} {fuel : Nat} {t e : TypeId} (hu : Try.prog.underlying t = some (.slice e)) {a : Option Addr} {n c : Nat} {d : DataW H} {ps : List MemPlace} (h : DataW.trod enc Try.prog W 0 (fun _ => true) true fuel t [.slice a n c] = some (d, ps)) : n ≤ Rows.uptoBulk d := by
  rcases DataW.trod_slice hu h with ⟨hcs, _⟩ | ⟨ad, len, cap, elems, rest, fu, rfl, hcs, hx, _, hlc, _, hel, hE, _, _⟩
  · simp at hcs
    obtain ⟨_, rfl, rfl⟩ := hcs
    exact Nat.zero_le _
  · simp only [List.cons.injEq, Value.slice.injEq, and_true] at hcs
    obtain ⟨rfl, rfl, rfl⟩ := hcs
    simp only [Prod.mk.injEq] at hx
    obtain ⟨rfl, _⟩ := hx
    have := count_bulk (elems.map (·.1))
    simp only [Rows.uptoBulk, List.length_map] at this ⊢
    omega

set_option maxRecDepth 100000 in
theorem lifted (os : Go.Os) (started : os.Started) (H : Type) (enc : TypeId × Value → H) (F : Stop.Interp) :
    ReturnsInHanded {} Try.checked os 4 .any ((Rows.OpenSpec.upto Rows.colorSafeSpec).pre6 enc Try.prog Try.f4 Rows.colorSafeUptoRow.domain false) (((Rows.OpenSpec.upto Rows.colorSafeSpec).at F).post enc Try.prog Try.f4 false true false false) := by
  refine returnsInHanded_of_cond_sized (C := Try.checked) (s := Rows.OpenSpec.upto Rows.colorSafeSpec) (k := Rows.uptoSmall) rfl own started (by kernel_rfl) Try.func4
    (OpenSpec.witness (enc := enc) (C := Try.checked) (s := Rows.OpenSpec.upto Rows.colorSafeSpec) (k := Rows.uptoSmall) rfl false ⟨#[], #[.slice none 0 0, .slice none 0 0, .slice none 0 0], []⟩ 8 (by kernel_rfl) (by kernel_rfl) (by kernel_rfl)
      (x := ([.nil, .nil, .nil], [], [])) (by kernel_rfl) rfl (by kernel_rfl)) ?_
  intro W base args ds gs before hval0 hW hcnd hk hsz0 _
  have hval : ∀ (j : Nat) t v, Try.f4.params[j]? = some t → args[j]? = some v → Value.okWide Try.prog W .any base t v := hval0
  have hW' := hW
  obtain ⟨p, q, hA0, hV, rfl, hfz, hnd⟩ := hW
  have hA : DataW.TrodAll enc Try.prog W 0 (fun _ => true) true Try.f4.params.toList args.toList ds p := hA0
  rw [Try.params4] at hA hval
  obtain ⟨v0, vs0, d0, ds0, p0, q0, hargs, rfl, rfl, h0, r0⟩ := trodAll_cons hA
  obtain ⟨v1, vs1, d1, ds1, p1, q1, rfl, rfl, rfl, h1, r1⟩ := trodAll_cons r0
  obtain ⟨v2, vs2, d2, ds2, p2, q2, rfl, rfl, rfl, h2, r2⟩ := trodAll_cons r1
  obtain ⟨rfl, rfl, rfl⟩ := trodAll_nil r2
  obtain rfl : args = #[v0, v1, v2] := by cases args; simp_all
  obtain ⟨rfl, rfl⟩ := trodVars_none hV
  obtain ⟨a0, len0, cap0, rfl⟩ := okWide_slice Try.underlying22 (hval 0 22 v0 rfl rfl)
  have k0 := h0
  have lt0 : ∀ x ∈ p0, x.block < W.heap.size := by obtain ⟨m, hm⟩ := k0; exact DataW.trod_lt m _ _ _ hm
  obtain ⟨a1, len1, cap1, rfl⟩ := okWide_slice Try.underlying22 (hval 1 22 v1 rfl rfl)
  have k1 := h1
  have lt1 : ∀ x ∈ p1, x.block < W.heap.size := by obtain ⟨m, hm⟩ := k1; exact DataW.trod_lt m _ _ _ hm
  obtain ⟨a2, len2, cap2, rfl⟩ := okWide_slice Try.underlying23 (hval 2 23 v2 rfl rfl)
  have k2 := h2
  have lt2 : ∀ x ∈ p2, x.block < W.heap.size := by obtain ⟨m, hm⟩ := k2; exact DataW.trod_lt m _ _ _ hm
  have hsz : (DataW.weightsEach Try.prog [22, 22, 23] [d0, d1, d2]).all (· ≤ reachBytes) = true := hsz0
  have hbk : Rows.uptoBulkAll ([d0, d1, d2] ++ []) ≤ 1048576 := of_decide_eq_true hk
  have hwd0 : ∀ y ∈ d0.weights Try.prog 22, y ≤ 140737488351232 := by
    intro y hy
    have := List.all_eq_true.1 hsz y (DataW.weights_mem_each (j := 0) (t := 22) rfl rfl y hy)
    have h2 := of_decide_eq_true this
    simpa [reachBytes] using h2
  obtain ⟨fuel0, hf0⟩ := h0
  have hlb0 := slice_bulk Try.underlying22 hf0
  have hq0 : len0 ≤ 1048576 := by
    simp only [List.append_nil, Rows.uptoBulkAll] at hbk
    omega
  obtain ⟨S0, hS0, hl0⟩ := open_script (n := len0) (c := cap0) hf0 hwd0
  have hwd1 : ∀ y ∈ d1.weights Try.prog 22, y ≤ 140737488351232 := by
    intro y hy
    have := List.all_eq_true.1 hsz y (DataW.weights_mem_each (j := 1) (t := 22) rfl rfl y hy)
    have h2 := of_decide_eq_true this
    simpa [reachBytes] using h2
  obtain ⟨fuel1, hf1⟩ := h1
  have hlb1 := slice_bulk Try.underlying22 hf1
  have hq1 : len1 ≤ 1048576 := by
    simp only [List.append_nil, Rows.uptoBulkAll] at hbk
    omega
  obtain ⟨S1, hS1, hl1⟩ := open_script (n := len1) (c := cap1) hf1 hwd1
  have hwd2 : ∀ y ∈ d2.weights Try.prog 23, y ≤ 140737488351232 := by
    intro y hy
    have := List.all_eq_true.1 hsz y (DataW.weights_mem_each (j := 2) (t := 23) rfl rfl y hy)
    have h2 := of_decide_eq_true this
    simpa [reachBytes] using h2
  obtain ⟨fuel2, hf2⟩ := h2
  have hlb2 := slice_bulk Try.underlying23 hf2
  have hq2 : len2 ≤ 1048576 := by
    simp only [List.append_nil, Rows.uptoBulkAll] at hbk
    omega
  obtain ⟨b2, c2, X2, hv2, hI2, hx2, hb2, hd2⟩ := open_list (v := .slice a2 len2 cap2) hf2 hwd2
  simp only [Value.slice.injEq] at hv2
  obtain ⟨rfl, rfl, rfl⟩ := hv2
  clear hA0 hval0
  refine (walk a0 len0 cap0 S0 a1 len1 cap1 S1 a2 X2.length cap2 X2 W hS0 hl0 hq0 hS1 hl1 hq1 hI2 rfl hq2).mono fun e W' ⟨he, hext⟩ => ?_
  subst he
  have bel := hext.below
  exact ⟨_, rfl, _, _, _, [], _, [], hW', trodAll_mk1 (shut_bool Try.underlying4 _), (trodAll_cons_mk (Below.trod laidOut (by kernel_rfl) (of_decide_eq_true (by kernel_rfl)) k0 bel lt0) (trodAll_cons_mk (Below.trod laidOut (by kernel_rfl) (of_decide_eq_true (by kernel_rfl)) k1 bel lt1) (trodAll_cons_mk (Below.trod laidOut (by kernel_rfl) (of_decide_eq_true (by kernel_rfl)) k2 bel lt2) trodAll_mk0))), rfl, bel.frame _, fun h => by cases h⟩

theorem over : Rows.colorSafeUptoRow.holds Try.pinned (Rows.OpenSpec.upto Rows.colorSafeSpec) :=
  OpenClaim.holds_of_cond 4 Try.f4 rfl rfl rfl rfl rfl rfl rfl ⟨rfl, rfl, rfl, rfl, rfl⟩ rfl rfl rfl rfl rfl (by kernel_rfl) Try.func4 (by kernel_rfl)
    (of_decide_eq_true (by kernel_rfl)) (by unfold Func.isWrapper; first | (rw [if_pos (by decide +kernel)]; kernel_rfl) | (rw [if_neg (by decide +kernel)]; exact ⟨rfl, rfl⟩))
    (fun os started H enc _ F => lifted os started H enc F)

end Go.Proofs.Ytfgdoehiocgkhaa.colorSafe

namespace Go.Proofs.Ytfgdoehiocgkhaa
theorem colorSafe_holds : Rows.ColorSafeUptoSaid := colorSafe.over
#print axioms colorSafe_holds
end Go.Proofs.Ytfgdoehiocgkhaa
