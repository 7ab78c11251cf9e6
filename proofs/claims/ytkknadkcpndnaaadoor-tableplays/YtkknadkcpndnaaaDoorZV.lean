/-
  RfS: joined by program; no statement is proved here.
-/
import Derived.Test.YtkknadkcpndnaaaDoorZT
import Derived.Test.YtkknadkcpndnaaaDoorZU
/-
  The walk of TablePlays; no statement is proved here.
-/
namespace Go.Proofs.YtkknadkcpndnaaaDoor.Rf
open Go.RowKit Go.Shelf
open Pr (Gp GpI sq)
attribute [local go_sem] Oper.semAt_some run_store_func

set_option maxRecDepth 100000 in
set_option maxHeartbeats 4000000 in
theorem plays_bad (G0 : Int) (hG : ¬ GpI G0) (a : Option Addr) (n c : Nat) (w : World) : Calls Tryd.prog 4 #[.int .i64 G0, .slice a n c] w (SayPost w (.bool true)) := by
  have K0 := awake_any w
  have K1 := fun u => tnew_bad G0 hG u
  have K2 := fun u => rnew_bad G0 hG u
  clear hG
  go_enter Tryd.func4, Tryd.ntmps4
  go_wp2_with fail
  refine K0.mono ?_
  clear K0
  rintro _ w1 ⟨rfl, hX1⟩
  have HX1 := hid hX1
  clear hX1
  go_wp2_with fail
  refine met (K1 _) ?_
  go_wp2_with fail
  refine met (K2 _) ?_
  clear K1 K2
  go_wp2
  go_ret
  exact ⟨rfl, HX1.out⟩
set_option maxRecDepth 100000 in
set_option maxHeartbeats 4000000 in
theorem plays_ok (G0 : Nat) (hG : Gp G0) (a : Option Addr) (n c : Nat) (S : List Opr) (w : World) (hS : ScrG w a S) (hn : S.length = n) (hnb : n ≤ 17592186044416) (hTb : Tb w) :
    Calls Tryd.prog 4 #[.int .i64 (G0 : Nat), .slice a n c] w (SayPost w (.bool true)) := by
  have hGl := hG.le
  have K0 := awake_any w
  have K1 := fun u => tnew_ok G0 hG u
  have K2 := fun u => rnew_ok G0 hG u
  have HS := hid hS
  have HN := hid hn
  have HTb := hid hTb
  have HG := hid hG
  clear hS hn hTb hG
  go_enter Tryd.func4, Tryd.ntmps4
  go_wp2_with fail
  refine K0.mono ?_
  clear K0
  rintro _ w1 ⟨rfl, hX1⟩
  have HX1 := hid hX1
  clear hX1
  go_wp2_with fail
  refine (K1 _).mono ?_
  clear K1
  rintro _ w2 ⟨g, cg, rfl, hT2, hg2, hX2⟩
  have HT2 := hid hT2
  have HX2 := hid (HX1.out.trans hX2)
  have hg2' : w.heap.size ≤ g := Nat.le_trans HX1.out.size hg2
  clear hX2 hT2 hg2 HX1
  go_wp2_with fail
  refine (K2 _).mono ?_
  clear K2
  rintro _ w3 ⟨p, q, rfl, hR3, hp3, hq3, hX3⟩
  have HT3 := hid (HT2.out.keep0 hX3)
  have HR3 := hid hR3
  have hp3' : w.heap.size ≤ p := Nat.le_trans HX2.out.size hp3
  have hq3' : w.heap.size ≤ q := Nat.le_trans HX2.out.size hq3
  have HX3 := hid (HX2.out.trans hX3)
  clear hX3 hR3 hp3 hq3 HT2 HX2
  go_wp2_with fail
  go_loopw [5, 7, 9] (fun t u r wr => ∃ (k : Nat) (T : List Nat) (G g cg p q cq : Nat), r = .int .i64 k ∧ k ≤ n ∧ t = .slice (some ⟨g, 0, none⟩) (3 + 17 * G) cg ∧ u = .pointer (some ⟨p, 0, none⟩) ∧ Sd T G ∧ Tw wr g T ∧ Rt wr p q cq G T ∧ w.heap.size ≤ g ∧ w.heap.size ≤ p ∧ w.heap.size ≤ q ∧ Ext [] w wr) (fun _ _ r _ => (n - (intOf r)).toNat)
  case atStart => exact ⟨0, newT G0, G0, g, cg, p, q, _, rfl, Nat.zero_le _, rfl, rfl, sd_new HG.out, HT3.out, HR3.out, hg2', hp3', hq3', HX3.out⟩
  case round =>
    clear HT3 HR3 HX3 hp3' hq3' hg2'
    obtain ⟨k, T, G, g, cg, p, q, cq, rfl, hk, rfl, rfl, hSd, hTw, hRt, hgw, hpw, hqw, hX⟩ := hrel
    by_cases hkn : k < n
    · have hki : (k : Int) < n := by omega
      obtain ⟨hlt, hsc⟩ := HS.out.keep0 hX
      obtain ⟨x, hx⟩ : ∃ x, S[k]? = some x := ⟨_, List.getElem?_eq_getElem (by rw [HN.out]; exact hkn)⟩
      obtain ⟨hxh, hxd0⟩ := hlt x (List.mem_of_getElem? hx)
      rcases hsc with rfl | ⟨b, o, rfl, hc⟩
      · simp at hx
      obtain ⟨c0, c1, c2, c3⟩ := hc k x hx
      have KS := fun u (hu : Ext [] wr u) => step_any T G g cg p q cq x.k x.g x.h x.d hSd hxh hxd0 u (hTw.keep0 hu) (hRt.keep0 hu) (HTb.out.keep0 (hX.trans hu))
      have HX := hid hX
      clear hX hSd hTw hRt hlt hc hx
      generalize x.k = xk at *
      generalize x.g = xg at *
      generalize x.h = xh at *
      generalize x.d = xd at *
      go_wp2_with fail
      refine (KS _ (Ext.refl _ _)).mono ?_
      clear KS c0 c1 c2 c3 hxh hxd0
      rintro _ w5 ⟨hX5, T', G', g', cg', p', q', cq', rfl, hS', hT', hR', hgc, hpc, hqc⟩
      have h5 := HX.out.size
      have HX5 := hid (HX.out.on hX5 (by simpa using hqw))
      have hg5 : w.heap.size ≤ g' := by omega
      have hp5 : w.heap.size ≤ p' := by omega
      have hq5 : w.heap.size ≤ q' := by omega
      have hGl' := hS'.shp.gp.le
      have KW := rwords_any p' q' cq' G' T' w5 hR' hS'.shp (by rw [knt_full]; exact hS'.cnt) (by rw [knt_used hS']; exact hS'.use)
      have HS' := hid hS'
      have HT' := hid hT'
      have HR' := hid hR'
      clear hX5 hS' hT' hR' hgc hpc hqc hgw hpw hqw h5 HX
      go_wp2_with fail
      refine KW.mono ?_
      clear KW
      rintro _ w6 ⟨v, rfl, ho, hX6⟩
      obtain ⟨va, vc, rfl, _⟩ := own_slice ho
      have hlen := HS'.out.shp.len
      rw [hlen] at ho ⊢
      have K2 := sameWords_true (some ⟨g', 0, none⟩) va (3 + 17 * G') cg' vc T' w6 (HT'.out.keep0 hX6).wd (own_vs ho) hlen (by omega)
      have HT6 := hid (HT'.out.keep0 hX6)
      have HR6 := hid (HR'.out.keep0 hX6)
      have HX6 := hid (HX5.out.trans hX6)
      clear ho hX6 hlen HT' HR' HX5
      go_wp2_with fail
      refine K2.mono ?_
      clear K2
      rintro _ w7 ⟨rfl, hX7⟩
      have HF := hid (And.intro (HT6.out.keep0 hX7) (And.intro (HR6.out.keep0 hX7) (HX6.out.trans hX7)))
      clear hX7
      go_wp2_with fail
      go_roundw
      case rel => exact ⟨k + 1, T', G', g', cg', p', q', cq', by go_num, by omega, rfl, rfl, HS'.out, HF.out.1, HF.out.2.1, hg5, hp5, hq5, HF.out.2.2⟩
      case measure => simp [intOf]; omega
    · obtain rfl : k = n := by omega
      have HF : Hid (SayPost w (.bool true) (.returned (.bool true)) wr) := ⟨rfl, hX⟩
      clear hX hSd hTw hRt
      go_wp2
      go_ret
      exact HF.out
theorem playsWalk (G0 : Int) (a : Option Addr) (n c : Nat) (S : List Opr) (w : World) (hS : ScrG w a S) (hn : S.length = n) (hnb : n ≤ 17592186044416) (hTb : Tb w) :
    Calls Tryd.prog 4 #[.int .i64 G0, .slice a n c] w (SayPost w (.bool true)) := by
  by_cases hG : GpI G0
  · obtain ⟨G, rfl, hG⟩ := hG
    exact plays_ok G hG a n c S w hS hn hnb hTb
  · exact plays_bad G0 hG a n c w
end Go.Proofs.YtkknadkcpndnaaaDoor.Rf
