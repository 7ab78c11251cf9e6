/-
  A cycle in which nothing is written frees just what the roots did not reach, however the work is cut: the function ColorFrees answers true and leaves its arguments as they were, where its arguments hold together at most 1048576 values.
-/
import Derived.Test.YtfgdoehiocgkhaaMathG
import Derived.Deep.CondSized
namespace Go.Proofs.Ytfgdoehiocgkhaa
open Go.RowKit

namespace colorFrees

/-- How far the pieces of work are. -/
structure Ck (w6 : World) (D : Nat → Prop) (p : Nat) (G1 : Gs) (wr : World) : Prop where
  go : ∃ Gk, (∃ u, Gk = (work u G1).2.2) ∧ Gr wr p Gk (Nw D w6) ∧ Fx D w6 wr

theorem lives_filter {G G' : Gs} {t : Nat → Bool} (hl : G'.ns.length = G.ns.length) (h : ∀ i, lvN G' i ↔ lvN G i ∧ t i = true) : lives G' = (lives G).filter t := by
  unfold lives
  rw [hl, List.filter_filter]
  congr 1
  funext i
  rw [Bool.eq_iff_iff]
  simp only [decide_eq_true_eq, Bool.and_eq_true]
  rw [h i]
  exact And.comm
theorem filter_take {l : List Nat} {t : Nat → Bool} {k : Nat} (h : k < l.length) : ((l.take (k + 1)).filter t).length = ((l.take k).filter t).length + if t (l.getD k 0) then 1 else 0 := by
  have e : l.take (k + 1) = l.take k ++ [l.getD k 0] := by rw [List.take_add_one]; simp [h]
  rw [e, List.filter_append, List.length_append]
  generalize l.getD k 0 = x
  cases hb : t x <;> simp [hb]

set_option maxRecDepth 100000 in
set_option maxHeartbeats 2000000 in
theorem walk (a : Option Addr) (n c : Nat) (S : List Oq) (ra : Option Addr) (rn rc : Nat) (R : List Int) (ua : Option Addr) (un uc : Nat) (L : List Nat) (w : World) (hS : Sc w a S) (hn : S.length = n) (_hnb : n ≤ 1048576) (hR : Is w ra R) (hrn : R.length = rn) (hrb : rn ≤ 1048576) (hU : Us w ua L) (hun : L.length = un) (hub : un ≤ 140737488351232) :
    Calls Try.prog 3 #[.slice a n c, .slice ra rn rc, .slice ua un uc] w (SayPost w (.bool true)) := by
  subst hrn
  have hsl := hS.len
  have K1 := grown_any a n c S w hS hn
  have HR := hid hR
  have HU := hid hU
  have HUn := hid hun
  clear hS hn hR hU hun
  go_enter Try.func3, Try.ntmps3
  go_wp2_with fail
  refine K1.mono ?_
  clear K1
  rintro e w1 ⟨p, G, rfl, hf, hI, hcy, hg1, hE1⟩
  have HI := hid hI
  have hlenG := hI.len
  have hph : G.ph = 0 := hf.1
  have Hg1 := hid hg1
  have HE1 := hid hE1
  clear hf hI hg1 hE1
  go_wp2_with fail
  refine (awake_any w1).mono ?_
  rintro e w2 ⟨rfl, hE2⟩
  have Hg2 := hid (Hg1.out.keep0 hE2)
  have HE2 := hid (HE1.out.trans hE2)
  have KP := phase_any p G _ w2 Hg2.out
  rw [hph] at KP
  clear hE2 Hg1 HE1
  have K3 := told_any p G _ w2 Hg2.out hlenG
  go_wp2_with (go_at_call 11; refine met KP ?_)
  clear KP
  refine K3.mono ?_
  clear K3
  rintro e w3 ⟨v3, rfl, hL3, hn3, hE3⟩
  have HgT := hid (Hg2.out.there.keep0 hE3)
  have HE3 := hid (HE2.out.trans hE3)
  obtain ⟨a3, c3, rfl, hI3⟩ := lst_is hL3
  have HI3 := hid hI3
  have hz3 := hE3.size
  have hz2 := HE2.out.size
  have Hn3 : Hid (∀ ad, a3 = some ad → w2.heap.size ≤ ad.block) := fun ad had => hn3 ad.block (by rw [had]; rfl)
  have hll : (lives G).length ≤ 65536 := Nat.le_trans (livK_len G G.ns.length) hlenG
  have K4 := net_any p G _ a3 (lives G).length c3 w3 HgT.out HI.out hI3 rfl
  clear hL3 hI3 hE3 Hg2 HE2 hn3
  rw [li_len]
  go_wp2_with fail
  refine K4.mono ?_
  clear K4
  rintro e w4 ⟨a4, c4, H4, rfl, _, hNb, hE4⟩
  have HNb := hid hNb
  have HE4 := hid (HE3.out.trans hE4)
  have HgT4 := hid (HgT.out.keep0 hE4)
  have HI4 := hid (HI3.out.keep0 hE4)
  have hz4 := hE4.size
  clear hNb hE4 HgT HI3 HE3
  obtain ⟨a5, c5, w5, hr5, hI5, hn5, hE5⟩ := app_copy w4 ra R rc (HR.out.keep0 HE4.out) (by omega)
  have HE5 := hid (HE4.out.trans hE5)
  have HI6 := hid (HI4.out.keep0 hE5)
  have HNb5 := hid (HNb.out.keep0 hE5)
  have hz5 := hE5.size
  obtain ⟨D, hD⟩ : ∃ D : Nat → Prop, D = fun k => w.heap.size ≤ k ∧ k < w2.heap.size := ⟨_, rfl⟩
  have HD : Hid (∀ k, D k → w.heap.size ≤ k ∧ k < w2.heap.size) := fun k hk => by rw [hD] at hk; exact hk
  have hg5 : Gr w5 p G D := by rw [hD]; exact HgT4.out.keep0 hE5
  have K5 := start_any p G D a5 R.length c5 R w5 hg5 HI.out hI5 rfl (by omega) (fun ad had q => by
    have := hn5 ad had
    have := (HD.out _ q).2
    omega)
  have hcyS := start_cy G R
  have HIv := hid (iv_start HI.out R)
  have hlS := start_len G R
  clear hI5 hn5 hE5 HgT4 hg5 hD HI4 HE4 HNb
  go_wp2_with (at_builtin; refine wpList_append_run rfl _ _ 23 rfl _ _ _ rfl rfl hr5 ?_)
  refine K5.mono ?_
  clear K5 hr5
  rintro e w6 ⟨rfl, hg6, hx6⟩
  have Hg6 := hid hg6
  have HX6 := hid hx6
  have hnD : ∀ g, w2.heap.size ≤ g → ¬ D g := fun g hg q => by have := (HD.out g q).2; omega
  have HnD := hid hnD
  have HI7 := hid (is_keepF HI6.out hx6 (fun ad had => hnD _ (Hn3.out ad had)))
  have HE6 := hid (hx6.on HE5.out (fun k q => (HD.out k q).1))
  have HRb := hid (fun (h : R.all (lvB G) = false) => show start G R = (G, 4) by simp [start, hph, h])
  have HRg := hid (fun (h : R.all (lvB G) = true) => show (start G R).2 = 0 by simp [start, hph, h])
  clear hg6 hx6 hnD
  generalize hs2 : (start G R).2 = er at *
  have HS2 := hid hs2
  clear hs2
  go_wp2_with fail
  go_loop [12] (fun q => ∃ k : Nat, q = .int .i64 k ∧ k ≤ R.length ∧ (R.take k).all (lvB G) = true) (fun q => (R.length - (intOf q)).toNat)
  case atStart => exact ⟨0, rfl, Nat.zero_le _, by simp⟩
  case round =>
    obtain ⟨k, rfl, hk, hal⟩ := hrel
    have HAl := hid hal
    clear hal
    by_cases hlt : k < R.length
    · obtain ⟨b, o, rfl, c0⟩ := (HR.out.keep0 HE6.out).cell (j := k) hlt
      have K := in_any a3 (lives G).length c3 (li (lives G)) (R.getD k 0) w6 HI7.out (li_len _) (by omega)
      rw [in_lives] at K
      have HT : Hid ((R.take (k + 1)).all (lvB G) = ((R.take k).all (lvB G) && lvB G (R.getD k 0))) := by
        show _ = _
        have e : R.take (k + 1) = R.take k ++ [R.getD k 0] := by rw [List.take_add_one]; simp [hlt]
        rw [e]
        simp
      have HF : Hid (lvB G (R.getD k 0) = false → R.all (lvB G) = false) := fun hb => by
        rw [List.all_eq_false]
        exact ⟨R.getD k 0, by simp [List.getD, hlt], by rw [hb]; simp⟩
      generalize R.getD k 0 = x at *
      generalize lvB G x = bx at *
      cases bx
      · have hst := HRb.out (HF.out rfl)
        have her : er = 4 := by rw [← HS2.out, hst]
        have hg := Hg6.out
        rw [hst] at hg
        have KP := phase_any p G _ w6 hg
        rw [hph] at KP
        subst her
        clear hst hg HF HRb HRg HT
        go_wp2_with (first | (go_at_call 15; refine met K ?_) | (go_at_call 11; refine met KP ?_))
        go_ret
        exact ⟨rfl, HE6.out⟩
      · clear HF
        go_wp2_with (go_at_call 15; refine met K ?_)
        go_round
        case rel => exact ⟨k + 1, by go_num, by omega, by rw [HT.out, HAl.out]; rfl⟩
        case measure => simp [intOf]; omega
    · obtain rfl : k = R.length := by omega
      have hall : R.all (lvB G) = true := by have := HAl.out; rwa [List.take_length] at this
      have her := HRg.out hall
      have hRl : ∀ r ∈ R, lvB G r = true := List.all_eq_true.1 hall
      have HRl := hid hRl
      subst her
      have HC0 : Hid (Ck w5 D p (start G R).1 w6) := ⟨_, ⟨0, rfl⟩, Hg6.out, HX6.out⟩
      clear HRb HRg HAl hall hRl Hg6 HX6 HE6
      go_wp2_with fail
      go_loopw [13] (fun q wr => ∃ k : Nat, q = .int .i64 k ∧ k ≤ un ∧ Ck w5 D p (start G R).1 wr) (fun q _ => (un - (intOf q)).toNat)
      case atStart => exact ⟨0, rfl, Nat.zero_le _, HC0.out⟩
      case round =>
        clear HC0
        obtain ⟨k, rfl, hk, hC⟩ := hrel
        have HC := hid hC
        clear hC
        obtain ⟨Gk, ⟨u, hu⟩, hgk, hxk⟩ := HC.out.go
        have hEk : Ext [] w wr := hxk.on HE5.out (fun k q => (HD.out k q).1)
        have hIk : Iv Gk := by rw [hu]; exact iv_work u HIv.out
        have hck : Gk.cy ≤ (start G R).1.cy + 1 := by rw [hu]; exact work_cy u _
        by_cases hlt : k < un
        · have hkL : k < L.length := by rw [HUn.out]; exact hlt
          rcases HU.out.keep0 hEk with h0 | ⟨b, o, rfl, hcs⟩
          · rw [h0] at hkL; simp at hkL
          obtain ⟨c0, hx256⟩ := hcs k hkL
          have K := work_any p Gk _ ((L.getD k 0 : Nat) : Int) wr hgk hIk (by omega) (by omega)
          have HST : Hid (∀ e w8, WkPost wr p (Nw D w5) Gk ((L.getD k 0 : Nat) : Int).toNat e w8 → (∃ v v', e = .returned (.tuple #[v, v'])) ∧ Ck w5 D p (start G R).1 w8) := by
            rintro e w8 ⟨v, C, rfl, _, hg8, hC8, _, hx8⟩
            refine ⟨⟨_, _, rfl⟩, _, ⟨u + ((L.getD k 0 : Nat) : Int).toNat, ?_⟩, hg8.mono (fun j hj => nw_nw hxk.size j (hC8 j hj)), hxk.trans hx8 (fun _ q => q)⟩
            rw [work_add, ← hu]
          generalize L.getD k 0 = xk at *
          clear hcs hkL hEk hIk hck hgk hxk hu HC
          go_wp2_with fail
          refine K.mono ?_
          clear K
          intro e w8 hq
          obtain ⟨⟨v, v', rfl⟩, hC8⟩ := HST.out e w8 hq
          have HC8 := hid hC8
          clear hq hC8 HST
          go_wp2_with fail
          go_roundw
          case rel => exact ⟨k + 1, by go_num, by omega, HC8.out⟩
          case measure => simp [intOf]; omega
        · have K := finish_any p Gk _ wr hgk hIk (by omega)
          have HST : Hid (∀ e w8, FnPost wr p (Nw D w5) Gk e w8 → e = .returned (.tuple #[]) ∧ ∃ G', (∀ i, lvN G' i ↔ lvN G i ∧ Rch (netN G) (tn R) (-1) i) ∧ G'.ns.length = G.ns.length ∧ G'.ph = 0 ∧ Iv G' ∧ Gr w8 p G' (Nw D w5) ∧ Fx D w5 w8) := by
            rintro e w8 ⟨G', rfl, hf, hg8, hx8⟩
            refine ⟨rfl, G', fun i => frees HI.out (cls_net HI.out) HS2.out ⟨u, hu⟩ hf i, ?_, hf.1, hf.iv hIk, hg8.mono (nw_nw hxk.size), hxk.trans hx8 (fun _ q => q)⟩
            rw [hf.len, hu, work_len, hlS]
          clear hEk hIk hck hgk hxk hu HC
          go_wp2_with fail
          refine K.mono ?_
          clear K
          intro e w8 hq
          obtain ⟨rfl, G', hlv, hl8, hp8, hI8, hg8, hx8⟩ := HST.out e w8 hq
          have hE8 : Ext [] w w8 := hx8.on HE5.out (fun k q => (HD.out k q).1)
          have HI8 := hid (is_keepF HI6.out hx8 (fun ad had => HnD.out _ (Hn3.out ad had)))
          have HNb8 := hid (HNb5.out.keepF hx8 (fun g hg => HnD.out g (by omega)))
          have HLv := hid hlv
          have HL8 := hid hl8
          have Hg8 := hid hg8
          have HE8 := hid hE8
          have hlen8 := hI8.len
          have K9 := told_any p G' _ w8 hg8 hlen8
          clear hq HST hlv hl8 hI8 hg8 hx8 hE8
          go_wp2_with fail
          refine K9.mono ?_
          clear K9
          rintro e w9 ⟨v9, rfl, hL9, _, hE9⟩
          obtain ⟨a9, c9, rfl, hI9⟩ := lst_is hL9
          have HI9 := hid hI9
          have HE9 := hid (HE8.out.trans hE9)
          have HIb9 := hid (HI8.out.keep0 hE9)
          have HNb9 := hid (HNb8.out.keep0 hE9)
          have Hg9 := hid (Hg8.out.keep0 hE9)
          have hll9 : (lives G').length ≤ 65536 := Nat.le_trans (livK_len G' G'.ns.length) hlen8
          have K10 := kept_any ra R.length rc R (nK G (lives G).length) w9 (HR.out.keep0 HE9.out) rfl hrb
          rw [kept_all HRl.out] at K10
          have hnk : nK G (lives G).length ≤ 65536 := Nat.le_trans nK_len hlenG
          clear hL9 hI9 hE9 HI8 HNb8 Hg8 HE8
          rw [li_len, netM_len]
          go_wp2_with fail
          refine K10.mono ?_
          clear K10
          rintro e w10 ⟨a10, c10, rfl, hI10, hE10⟩
          have hnt : Nt w10 a4 (netM G (nK G (lives G).length)) := by
            refine (HNb9.out.keep0 hE10).nt (by rw [netM_len]; omega) (fun i hi => ?_)
            rw [netM_len] at hi
            rw [netM_at hi]
            have := nbr_len HI.out i
            omega
          have K11 := rreached_any (netN G) (tn R) (-1) a4 (nK G (lives G).length) c4 a10 R.length c10 w10 (by rw [cn_netN HI.out]; exact hnt) (netN_len G) (good_net HI.out HRl.out) (by rw [ci_tn (fun x hx => (lvB_iff.1 (HRl.out x hx)).1)]; exact hI10) (tn_len R) hrb
          have HE10 := hid (HE9.out.trans hE10)
          have HI10 := hid (HI9.out.keep0 hE10)
          have HIb10 := hid (HIb9.out.keep0 hE10)
          have Hg10 := hid (Hg9.out.keep0 hE10)
          clear hI10 hE10 hnt HI9 HE9 HIb9 HNb9 Hg9
          go_wp2_with fail
          refine K11.mono ?_
          clear K11
          rintro e w11 ⟨v11, Bs, rfl, hB11, ho11, hE11⟩
          have HE11 := hid (HE10.out.trans hE11)
          have HI11 := hid (HI10.out.keep0 hE11)
          have HIb11 := hid (HIb10.out.keep0 hE11)
          have Hg11 := hid (Hg10.out.keep0 hE11)
          rw [netN_len] at ho11
          obtain ⟨a11, c11, e11, _⟩ := own_slice ho11
          subst e11
          have HOs : Hid (Os w11 a11 Bs) := own_vs ho11
          have hBlen : Bs.length = nK G (lives G).length := by rw [hB11.len, netN_len]
          have HBlen := hid hBlen
          have HT : Hid (∀ i, lvN G i → (Bs.getD i false = true ↔ Rch (netN G) (tn R) (-1) i)) := fun i hi => hB11.mem i (by rw [netN_len]; exact nK_all hi)
          have HLF : Hid (lives G' = (lives G).filter fun i => Bs.getD i false) := lives_filter HL8.out (fun i => by
            rw [HLv.out i]
            exact ⟨fun q => ⟨q.1, (HT.out i q.1).2 q.2⟩, fun q => ⟨q.1, (HT.out i q.1).1 q.2⟩⟩)
          have HLt : Hid (∀ i, lvN G i → lvB G' (i : Nat) = Bs.getD i false) := fun i hi => by
            rw [lvB_nat, Bool.eq_iff_iff, decide_eq_true_eq, HLv.out i, HT.out i hi]
            exact ⟨fun q => q.2, fun q => ⟨hi, q⟩⟩
          have HRt : Hid (∀ i : Nat, lvN G i → (i : Int) ∈ R → Bs.getD i false = true) := fun i hi hr => (HT.out i hi).2 (.root (List.mem_map.2 ⟨_, hr, by simp⟩) (by omega))
          have HNka : Hid (∀ i, lvN G i → i < nK G (lives G).length) := fun i hi => nK_all hi
          have KPf := phase_any p G' _ w11 Hg11.out
          rw [hp8] at KPf
          have HLg := hid (fun k (h : k < (lives G).length) => show lvN G ((lives G).getD k 0) from mem_lives.1 (by simp [List.getD, h]))
          clear hB11 ho11 hE11 hBlen HE10 HI10 HIb10 Hg10 Hg11
          generalize nK G (lives G).length = nk at *
          generalize hnl : (lives G).length = nl at *
          have HNL := hid hnl
          clear hnl
          go_wp2_with fail
          go_loop [16, 17] (fun q16 q17 => ∃ k : Nat, q17 = .int .i64 k ∧ k ≤ nl ∧ q16 = .int .i64 ((((lives G).take k).filter fun i => Bs.getD i false).length : Nat)) (fun _ q => (nl - (intOf q)).toNat)
          case atStart => exact ⟨0, rfl, Nat.zero_le _, rfl⟩
          case round =>
            obtain ⟨j, rfl, hj, rfl⟩ := hrel
            have hfl : (((lives G).take j).filter fun i => Bs.getD i false).length ≤ j := by
              have h1 := List.length_filter_le (fun i => Bs.getD i false) ((lives G).take j)
              rw [List.length_take] at h1
              omega
            by_cases hjl : j < nl
            · have hjL : j < (lives G).length := by rw [HNL.out]; exact hjl
              obtain ⟨b, o, hab, c0⟩ := HIb11.out.cell (j := j) (by rw [li_len]; exact hjL)
              have hgl : (li (lives G)).getD j 0 = (((lives G).getD j 0 : Nat) : Int) := by simp [li, hjL]
              rw [hgl] at c0
              have hlv := HLg.out j (by rw [← HNL.out]; exact hjL)
              have HFt := hid (filter_take (t := fun i => Bs.getD i false) hjL)
              have hyk := HNka.out _ hlv
              have KA := in_any a9 (lives G').length c9 (li (lives G')) (((lives G).getD j 0 : Nat) : Int) w11 HI11.out (li_len _) (by omega)
              rw [in_lives, HLt.out _ hlv] at KA
              have KR := in_any ra R.length rc R (((lives G).getD j 0 : Nat) : Int) w11 (HR.out.keep0 HE11.out) rfl (by omega)
              have HRt2 := hid (HRt.out _ hlv)
              obtain ⟨b2, o2, hab2, c2⟩ := HOs.out.cell (j := (lives G).getD j 0) (by rw [HBlen.out]; exact hyk)
              subst hab hab2
              clear hgl hjL
              generalize (lives G).getD j 0 = y at *
              generalize (((lives G).take j).filter fun i => Bs.getD i false).length = m at *
              have hyi : (y : Int) < nk := by omega
              have hd1 : decide ((y : Int) < nk) = true := by simp [hyk]
              have hd2 : decide (y < nk) = true := by simp [hyk]
              by_cases hin : (y : Int) ∈ R
              · rw [decide_eq_true hin] at KR
                have ht := HRt2.out hin
                rw [ht] at KA c2
                simp only [ht, if_true] at HFt
                clear ht hin HRt2
                go_wp2_with fail
                refine met KR ?_
                go_wp2_with fail
                refine met KA ?_
                go_wp2_with fail
                go_round
                case rel => exact ⟨j + 1, by go_num, by omega, by rw [HFt.out]; go_num⟩
                case measure => simp [intOf]; omega
              · rw [decide_eq_false hin] at KR
                clear hin HRt2
                cases ht : Bs.getD y false
                · rw [ht] at KA c2
                  simp only [ht, Bool.false_eq_true, if_false, Nat.add_zero] at HFt
                  clear ht
                  go_wp2_with fail
                  refine met KR ?_
                  go_wp2_with fail
                  refine met KA ?_
                  go_wp2_with fail
                  go_round
                  case rel => exact ⟨j + 1, by go_num, by omega, by rw [HFt.out]⟩
                  case measure => simp [intOf]; omega
                · rw [ht] at KA c2
                  simp only [ht, if_true] at HFt
                  clear ht
                  go_wp2_with fail
                  refine met KR ?_
                  go_wp2_with fail
                  refine met KA ?_
                  go_wp2_with fail
                  go_round
                  case rel => exact ⟨j + 1, by go_num, by omega, by rw [HFt.out]; go_num⟩
                  case measure => simp [intOf]; omega
            · obtain rfl : j = nl := by omega
              have hend : (((lives G).take j).filter fun i => Bs.getD i false).length = (lives G').length := by
                rw [HLF.out, ← HNL.out, List.take_length]
              rw [hend] at *
              have hbe : (((lives G').length : Int) == ((lives G').length : Int)) = true := by simp
              clear hend
              generalize (lives G').length = m9 at *
              go_wp2_with (go_at_call 11; refine met KPf ?_)
              go_ret
              exact ⟨rfl, HE11.out⟩

end colorFrees
end Go.Proofs.Ytfgdoehiocgkhaa

namespace Go.Proofs.Ytfgdoehiocgkhaa.colorFrees
open Go.ChangeShapes Go.WideShapes Go.ChangeAt Go.RowKit

theorem some_bulk {H : Type} (d : DataW H) : 0 < Rows.uptoBulk d := by
  cases d
  case lit l => cases l <;> simp [Rows.uptoBulk]
  all_goals simp [Rows.uptoBulk]
theorem count_bulk {H : Type} : ∀ l : List (DataW H), l.length ≤ Rows.uptoBulkAll l
  | [] => Nat.zero_le _
  | d :: r => by
    have h1 := some_bulk d
    have h2 := count_bulk r
    simp only [Rows.uptoBulkAll, List.length_cons]
    omega
theorem slice_bulk {H : Type} {enc : TypeId × Value → H} {W : World} {fuel : Nat} {t e : TypeId} (hu : Try.prog.underlying t = some (.slice e)) {a : Option Addr} {n c : Nat} {d : DataW H} {ps : List MemPlace} (h : DataW.trod enc Try.prog W 0 (fun _ => true) true fuel t [.slice a n c] = some (d, ps)) : n ≤ Rows.uptoBulk d := by
  rcases DataW.trod_slice hu h with ⟨hcs, _⟩ | ⟨ad, len, cap, elems, rest, fu, rfl, hcs, hx, _, hlc, _, hel, hE, _, _⟩
  · simp at hcs
    obtain ⟨_, rfl, rfl⟩ := hcs
    exact Nat.zero_le _
  · simp only [List.cons.injEq, Value.slice.injEq, and_true] at hcs
    obtain ⟨rfl, rfl, rfl⟩ := hcs
    simp only [Prod.mk.injEq] at hx
    obtain ⟨rfl, _⟩ := hx
    have := count_bulk (elems.map (·.1))
    simp only [Rows.uptoBulk, List.length_map] at this ⊢
    omega

set_option maxRecDepth 100000 in
theorem lifted (os : Go.Os) (started : os.Started) (H : Type) (enc : TypeId × Value → H) (F : Stop.Interp) :
    ReturnsInHanded {} Try.checked os 3 .any ((Rows.OpenSpec.upto Rows.colorFreesSpec).pre6 enc Try.prog Try.f3 Rows.colorFreesUptoRow.domain false) (((Rows.OpenSpec.upto Rows.colorFreesSpec).at F).post enc Try.prog Try.f3 false true false false) := by
  refine returnsInHanded_of_cond_sized (C := Try.checked) (s := Rows.OpenSpec.upto Rows.colorFreesSpec) (k := Rows.uptoSmall) rfl own started (by kernel_rfl) Try.func3
    (OpenSpec.witness (enc := enc) (C := Try.checked) (s := Rows.OpenSpec.upto Rows.colorFreesSpec) (k := Rows.uptoSmall) rfl false ⟨#[], #[.slice none 0 0, .slice none 0 0, .slice none 0 0], []⟩ 8 (by kernel_rfl) (by kernel_rfl) (by kernel_rfl)
      (x := ([.nil, .nil, .nil], [], [])) (by kernel_rfl) rfl (by kernel_rfl)) ?_
  intro W base args ds gs before hval0 hW hcnd hk hsz0 _
  have hval : ∀ (j : Nat) t v, Try.f3.params[j]? = some t → args[j]? = some v → Value.okWide Try.prog W .any base t v := hval0
  have hW' := hW
  obtain ⟨p, q, hA0, hV, rfl, hfz, hnd⟩ := hW
  have hA : DataW.TrodAll enc Try.prog W 0 (fun _ => true) true Try.f3.params.toList args.toList ds p := hA0
  rw [Try.params3] at hA hval
  obtain ⟨v0, vs0, d0, ds0, p0, q0, hargs, rfl, rfl, h0, r0⟩ := trodAll_cons hA
  obtain ⟨v1, vs1, d1, ds1, p1, q1, rfl, rfl, rfl, h1, r1⟩ := trodAll_cons r0
  obtain ⟨v2, vs2, d2, ds2, p2, q2, rfl, rfl, rfl, h2, r2⟩ := trodAll_cons r1
  obtain ⟨rfl, rfl, rfl⟩ := trodAll_nil r2
  obtain rfl : args = #[v0, v1, v2] := by cases args; simp_all
  obtain ⟨rfl, rfl⟩ := trodVars_none hV
  obtain ⟨a0, len0, cap0, rfl⟩ := okWide_slice Try.underlying22 (hval 0 22 v0 rfl rfl)
  have k0 := h0
  have lt0 : ∀ x ∈ p0, x.block < W.heap.size := by obtain ⟨m, hm⟩ := k0; exact DataW.trod_lt m _ _ _ hm
  obtain ⟨a1, len1, cap1, rfl⟩ := okWide_slice Try.underlying23 (hval 1 23 v1 rfl rfl)
  have k1 := h1
  have lt1 : ∀ x ∈ p1, x.block < W.heap.size := by obtain ⟨m, hm⟩ := k1; exact DataW.trod_lt m _ _ _ hm
  obtain ⟨a2, len2, cap2, rfl⟩ := okWide_slice Try.underlying24 (hval 2 24 v2 rfl rfl)
  have k2 := h2
  have lt2 : ∀ x ∈ p2, x.block < W.heap.size := by obtain ⟨m, hm⟩ := k2; exact DataW.trod_lt m _ _ _ hm
  have hsz : (DataW.weightsEach Try.prog [22, 23, 24] [d0, d1, d2]).all (· ≤ reachBytes) = true := hsz0
  have hbk : Rows.uptoBulkAll ([d0, d1, d2] ++ []) ≤ 1048576 := of_decide_eq_true hk
  have hwd0 : ∀ y ∈ d0.weights Try.prog 22, y ≤ 140737488351232 := by
    intro y hy
    have := List.all_eq_true.1 hsz y (DataW.weights_mem_each (j := 0) (t := 22) rfl rfl y hy)
    have h2 := of_decide_eq_true this
    simpa [reachBytes] using h2
  obtain ⟨fuel0, hf0⟩ := h0
  have hlb0 := slice_bulk Try.underlying22 hf0
  have hq0 : len0 ≤ 1048576 := by
    simp only [List.append_nil, Rows.uptoBulkAll] at hbk
    omega
  obtain ⟨S0, hS0, hl0⟩ := open_script (n := len0) (c := cap0) hf0 hwd0
  have hwd1 : ∀ y ∈ d1.weights Try.prog 23, y ≤ 140737488351232 := by
    intro y hy
    have := List.all_eq_true.1 hsz y (DataW.weights_mem_each (j := 1) (t := 23) rfl rfl y hy)
    have h2 := of_decide_eq_true this
    simpa [reachBytes] using h2
  obtain ⟨fuel1, hf1⟩ := h1
  have hlb1 := slice_bulk Try.underlying23 hf1
  have hq1 : len1 ≤ 1048576 := by
    simp only [List.append_nil, Rows.uptoBulkAll] at hbk
    omega
  obtain ⟨b1, c1, X1, hv1, hI1, hx1, hb1, hd1⟩ := open_list (v := .slice a1 len1 cap1) hf1 hwd1
  simp only [Value.slice.injEq] at hv1
  obtain ⟨rfl, rfl, rfl⟩ := hv1
  have hwd2 : ∀ y ∈ d2.weights Try.prog 24, y ≤ 140737488351232 := by
    intro y hy
    have := List.all_eq_true.1 hsz y (DataW.weights_mem_each (j := 2) (t := 24) rfl rfl y hy)
    have h2 := of_decide_eq_true this
    simpa [reachBytes] using h2
  obtain ⟨fuel2, hf2⟩ := h2
  have hlb2 := slice_bulk Try.underlying24 hf2
  have hq2 : len2 ≤ 1048576 := by
    simp only [List.append_nil, Rows.uptoBulkAll] at hbk
    omega
  obtain ⟨L2, hU2, hl2, hb2⟩ := open_u8s (n := len2) (c := cap2) hf2 hwd2
  clear hA0 hval0
  refine (walk a0 len0 cap0 S0 a1 X1.length cap1 X1 a2 len2 cap2 L2 W hS0 hl0 hq0 hI1 rfl hq1 hU2 hl2 hb2).mono fun e W' ⟨he, hext⟩ => ?_
  subst he
  have bel := hext.below
  exact ⟨_, rfl, _, _, _, [], _, [], hW', trodAll_mk1 (shut_bool Try.underlying4 _), (trodAll_cons_mk (Below.trod laidOut (by kernel_rfl) (of_decide_eq_true (by kernel_rfl)) k0 bel lt0) (trodAll_cons_mk (Below.trod laidOut (by kernel_rfl) (of_decide_eq_true (by kernel_rfl)) k1 bel lt1) (trodAll_cons_mk (Below.trod laidOut (by kernel_rfl) (of_decide_eq_true (by kernel_rfl)) k2 bel lt2) trodAll_mk0))), rfl, bel.frame _, fun h => by cases h⟩

theorem over : Rows.colorFreesUptoRow.holds Try.pinned (Rows.OpenSpec.upto Rows.colorFreesSpec) :=
  OpenClaim.holds_of_cond 3 Try.f3 rfl rfl rfl rfl rfl rfl rfl ⟨rfl, rfl, rfl, rfl, rfl⟩ rfl rfl rfl rfl rfl (by kernel_rfl) Try.func3 (by kernel_rfl)
    (of_decide_eq_true (by kernel_rfl)) (by unfold Func.isWrapper; first | (rw [if_pos (by decide +kernel)]; kernel_rfl) | (rw [if_neg (by decide +kernel)]; exact ⟨rfl, rfl⟩))
    (fun os started H enc _ F => lifted os started H enc F)

end Go.Proofs.Ytfgdoehiocgkhaa.colorFrees

namespace Go.Proofs.Ytfgdoehiocgkhaa
theorem colorFrees_holds : Rows.ColorFreesUptoSaid := colorFrees.over
#print axioms colorFrees_holds
end Go.Proofs.Ytfgdoehiocgkhaa
