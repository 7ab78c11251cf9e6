/-
  Work in pieces does what the same work does at one time: the function ColorCuts answers true and leaves its arguments as they were, for every script, all roots and all cuts; no condition.
-/
import Derived.Test.YtfgdoehiocgkhaaTwo
namespace Go.Proofs.Ytfgdoehiocgkhaa
open Go.RowKit

namespace colorCuts

/-- How far the pieces are. -/
structure Cu (w0 wr : World) (p1 p2 : Nat) (Gs : Gs) (L : List Nat) (k : Nat) (lf : Nat) (v : Value) : Prop where
  go : ∃ C1 C2 G1, Two w0 wr p1 G1 C1 p2 Gs C2 ∧ Iv G1 ∧ (work (L.take k).sum Gs).1 = lf ∧ (work (L.take k).sum Gs).2.2 = G1 ∧ wr.ownsRow 0 3 1 v (work (L.take k).sum Gs).2.1.length (ints (work (L.take k).sum Gs).2.1) ∧ ∀ g, v.ownBlock = some g → ¬ C1 g ∧ ¬ C2 g ∧ w0.heap.size ≤ g

theorem sum_le {L : List Nat} (h : ∀ x ∈ L, x < 256) : L.sum ≤ L.length * 255 := by
  induction L with
  | nil => simp
  | cons x L ih =>
    have := ih (fun y hy => h y (by simp [hy]))
    have := h x (by simp)
    simp only [List.sum_cons, List.length_cons]
    omega

theorem take_sum {L : List Nat} {k : Nat} (h : k < L.length) : (L.take (k + 1)).sum = (L.take k).sum + L.getD k 0 := by
  have e : L.take (k + 1) = L.take k ++ [L.getD k 0] := by rw [List.take_add_one]; simp [h]
  rw [e, List.sum_append]
  simp

set_option maxRecDepth 100000 in
set_option maxHeartbeats 2000000 in
theorem walk (a : Option Addr) (n c : Nat) (S : List Oq) (ra : Option Addr) (rn rc : Nat) (R : List Int) (ua : Option Addr) (un uc : Nat) (L : List Nat) (w : World) (hS : Sc w a S) (hn : S.length = n) (hR : Is w ra R) (hrn : R.length = rn) (hrb : rn ≤ 17592186044416) (hU : Us w ua L) (hun : L.length = un) (hub : un ≤ 140737488351232) :
    Calls Try.prog 8 #[.slice a n c, .slice ra rn rc, .slice ua un uc] w (SayPost w (.bool true)) := by
  have hsl := hS.len
  subst hrn
  have K1 := grown_any a n c S w hS hn
  have HS := hid hS
  have HN := hid hn
  have HR := hid hR
  have HU := hid hU
  have HUn := hid hun
  clear hS hn hR hU hun
  go_enter Try.func8, Try.ntmps8
  go_wp2_with fail
  refine K1.mono ?_
  clear K1
  rintro e w1 ⟨p1, G, rfl, hf, hI, hcy, hg1, hE1⟩
  have K2 := grown_any a n c S w1 (HS.out.keep0 hE1) HN.out
  have HF := hid hf
  have HI := hid hI
  have Hg1 := hid hg1
  have HE1 := hid hE1
  clear hf hI hg1 hE1
  go_wp2_with fail
  refine K2.mono ?_
  clear K2
  rintro e w2 ⟨p2, G2, rfl, hf2, _, _, hg2, hE2⟩
  obtain rfl : G = G2 := HF.out.det hf2
  have HT := hid (two_new Hg1.out HE1.out hg2 hE2)
  clear hg2 hE2 hf2 Hg1 HE1 HF
  go_wp2_with fail
  refine (awake_any w2).mono ?_
  rintro e w3 ⟨rfl, hE3⟩
  have HT3 := hid (HT.out.keep0 hE3)
  clear HT hE3
  obtain ⟨a4, c4, w4, hr4, hI4, hn4, hE4⟩ := app_copy w3 ra R rc (HR.out.keep0 HT3.out.ext) hrb
  have HT4 := hid (HT3.out.keep0 hE4)
  have K4 := start_any p1 G _ a4 R.length c4 R w4 HT4.out.a HI.out hI4 rfl hrb (fun ad had q => by
    have := hn4 ad had
    have := (HT3.out.la _ q).2
    omega)
  clear hI4 hn4 hE4 HT3
  go_wp2_with (at_builtin; refine wpList_append_run rfl _ _ 23 rfl _ _ _ rfl rfl hr4 ?_)
  refine K4.mono ?_
  clear K4 hr4
  rintro e w5 ⟨rfl, hg5, hx5⟩
  have HT5 := hid (HT4.out.op hg5 (fun _ q => q) hx5).swap
  clear hg5 hx5 HT4
  obtain ⟨a6, c6, w6, hr6, hI6, hn6, hE6⟩ := app_copy w5 ra R rc (HR.out.keep0 HT5.out.ext) hrb
  have HT6 := hid (HT5.out.keep0 hE6)
  have K6 := start_any p2 G _ a6 R.length c6 R w6 HT6.out.a HI.out hI6 rfl hrb (fun ad had q => by
    have := hn6 ad had
    have := (HT5.out.la _ q).2
    omega)
  clear hI6 hn6 hE6 HT5
  go_wp2_with (at_builtin; refine wpList_append_run rfl _ _ 23 rfl _ _ _ rfl rfl hr6 ?_)
  refine K6.mono ?_
  clear K6 hr6
  rintro e w7 ⟨rfl, hg7, hx7⟩
  have HT7 := hid (HT6.out.op hg7 (fun _ q => q) hx7).swap
  have HI7 := hid (iv_start HI.out R)
  have hc7 := start_cy G R
  clear hg7 hx7 HT6
  have HC0 : Hid (Cu w w7 p1 p2 (start G R).1 L 0 0 (.slice none 0 0)) := ⟨_, _, _, HT7.out, HI7.out, rfl, rfl, own_nil _ _ _ _, by simp [Value.ownBlock]⟩
  generalize (start G R).2 = er at *
  generalize (start G R).1 = Gs at *
  clear HT7 HR
  go_wp2_with fail
  go_loopw [9, 10, 11, 12] (fun q9 q10 q11 q12 wr => ∃ (k lf : Nat), q12 = .int .i64 k ∧ k ≤ un ∧ q9 = .int .i64 ((L.take k).sum : Nat) ∧ q10 = .int .i64 lf ∧ (∃ ad m d, q11 = .slice ad m d) ∧ Cu w wr p1 p2 Gs L k lf q11) (fun _ _ _ q _ => (un - (intOf q)).toNat)
  case atStart => exact ⟨0, 0, rfl, Nat.zero_le _, rfl, rfl, ⟨_, _, _, rfl⟩, HC0.out⟩
  case round =>
    clear HC0
    obtain ⟨k, lf, rfl, hk, rfl, rfl, ⟨ad, m, d, rfl⟩, hC⟩ := hrel
    have HC := hid hC
    clear hC
    obtain ⟨C1, C2, G1, hT, hIg, hlf, hG1, ho, hd⟩ := HC.out.go
    have hsum : ∀ j, j ≤ un → (L.take j).sum ≤ j * 255 := fun j hj => by
      have h1 := sum_le (L := L.take j) (fun x hx => by
        have hx2 := List.mem_of_mem_take hx
        obtain ⟨i, hi, rfl⟩ := List.getElem_of_mem hx2
        rcases HU.out with h0 | ⟨b, o, _, hc⟩
        · rw [h0] at hi; simp at hi
        · have := (hc i hi).2; simpa [List.getD, hi] using this)
      rw [List.length_take, Nat.min_eq_left (by rw [HUn.out]; exact hj)] at h1
      exact h1
    have hsk := hsum k hk
    have hlt' := work_left (L.take k).sum Gs
    rw [hlf] at hlt'
    have hgone := swept_max (L.take k).sum HI7.out
    have hcy1 := work_cy (L.take k).sum Gs
    rw [hG1] at hcy1
    by_cases hlt : k < un
    · have hkL : k < L.length := by rw [HUn.out]; exact hlt
      rcases HU.out.keep0 hT.ext with h0 | ⟨b, o, rfl, hcs⟩
      · rw [h0] at hkL; simp at hkL
      obtain ⟨c0, hx256⟩ := hcs k hkL
      have hxi : 0 ≤ ((L.getD k 0 : Nat) : Int) := by omega
      have hxi2 : ((L.getD k 0 : Nat) : Int) < 256 := by omega
      have K := work_any p1 G1 C1 ((L.getD k 0 : Nat) : Int) wr hT.a hIg (by omega) (by omega)
      have htk := take_sum hkL
      have hsk1 := hsum (k + 1) (by omega)
      have hwa := work_add (L.take k).sum (L.getD k 0) Gs
      rw [hlf, hG1, ← htk] at hwa
      have hsw := swept_max (L.getD k 0) hIg
      have hlx := work_left (L.getD k 0) G1
      have HST : Hid (∀ e w2, WkPost wr p1 C1 G1 (L.getD k 0) e w2 → ∃ a2 c2 v3 w3, e = .returned (.tuple #[.int .i64 ((work (L.getD k 0) G1).1 : Nat), .slice a2 (work (L.getD k 0) G1).2.1.length c2]) ∧ Us w2 (some ⟨b, o, none⟩) L ∧
          (Builtin.append_ #[23, 23] 23 #[.slice ad m d, .slice a2 (work (L.getD k 0) G1).2.1.length c2]).run Try.prog w2 = .ok v3 w3 ∧ (∃ ad m d, v3 = .slice ad m d) ∧ Cu w w3 p1 p2 Gs L (k + 1) (lf + (work (L.getD k 0) G1).1) v3) := by
        rintro e w2 ⟨v2, D, rfl, ho2, hg2, hD, hv2, hx2⟩
        have hT2 := hT.op hg2 hD hx2
        obtain ⟨a2, c2, rfl, _⟩ := own_slice ho2
        have ho2' : w2.ownsRow 0 3 1 (.slice ad m d) _ _ := own_keepF ho hx2 (fun g hg => (hd g hg).1)
        have hgsz : ∀ g, (Value.slice ad m d).ownBlock = some g → g < wr.heap.size := fun g hg => (own_lt ho g hg).2
        have hnot : ∀ g, (Value.slice ad m d).ownBlock = some g → ¬ (D g ∧ g < w2.heap.size) ∧ ¬ C2 g ∧ w.heap.size ≤ g := fun g hg => by
          refine ⟨fun q => ?_, (hd g hg).2⟩
          rcases hD g q.1 with r | r
          · exact (hd g hg).1 r
          · have := hgsz g hg; omega
        have hwsz := hT.ext.size
        have hxsz := hx2.size
        have key : ∃ v3 w3, (Builtin.append_ #[23, 23] 23 #[.slice ad m d, .slice a2 (work (L.getD k 0) G1).2.1.length c2]).run Try.prog w2 = .ok v3 w3 ∧ w3.ownsRow 0 3 1 v3 ((work (L.take k).sum Gs).2.1.length + (work (L.getD k 0) G1).2.1.length) (ints (work (L.take k).sum Gs).2.1 ++ ints (work (L.getD k 0) G1).2.1) ∧ Ext (Value.slice ad m d).ownBlock.toList w2 w3 ∧ (v3.ownBlock = (Value.slice ad m d).ownBlock ∨ ∀ g, v3.ownBlock = some g → w2.heap.size ≤ g) := by
          rcases ho2.2 with ⟨h1, h2⟩ | ⟨g, cap, cur, h0, h1, h2, h3⟩
          · have hnil : (work (L.getD k 0) G1).2.1 = [] := List.length_eq_zero_iff.1 h2
            rw [hnil]
            simp only [Value.slice.injEq] at h1
            obtain ⟨rfl, _, rfl⟩ := h1
            obtain ⟨i3, hi3, _⟩ := info_parts info3
            refine ⟨_, _, run_append_none w2 0 23 23 3 i3 1 Try.underlying23 hi3 _ _ _ ho2' 0, by simpa [ints] using ho2', Ext.refl _ _, .inl rfl⟩
          · simp only [Value.slice.injEq, true_and] at h0
            obtain ⟨rfl, rfl⟩ := h0
            obtain ⟨i3, hi3, hz3, hs3, hy3⟩ := info_parts info3
            obtain ⟨v3, w3, hr3, ho3, hg3, _, hat⟩ := run_append_own_at (P := Try.prog) w2 0 23 23 3 i3 _ 1 8 Try.underlying23 hi3 hz3 hs3 hy3 rfl (by decide) (.slice ad m d) _ _ ho2' ⟨g, 0, none⟩ (work (L.getD k 0) G1).2.1.length c2 (ints (work (L.getD k 0) G1).2.1) (by rw [ints_len]; omega) (fun j u hj => World.ownsRow.cells ho2 (g := g) rfl j u hj) (fun u hu => by obtain ⟨y, _, rfl⟩ := List.mem_map.1 hu; rfl) (by unfold maxLen; omega) (by omega) (Nat.zero_le _)
            refine ⟨v3, w3, hr3, ho3, ext_grown hg3, ?_⟩
            rcases hat with q | q
            · exact .inl q
            · right; intro g' hg'; rw [hg'] at q; simp at q; omega
        obtain ⟨v3, w3, hr3, ho3, hX3, hat⟩ := key
        have hX3' : Fx (fun k => (Value.slice ad m d).ownBlock = some k) w2 w3 := Fx.of_ext hX3 (fun x hx => .inl (by simpa using hx))
        refine ⟨a2, c2, v3, w3, rfl, ?_, hr3, ?_, ?_⟩
        · exact HU.out.keep0 hT2.ext
        · obtain ⟨a3, c3, e3, _⟩ := own_slice ho3
          exact ⟨a3, _, c3, e3⟩
        · refine ⟨_, _, _, ⟨hT2.a.keep hX3' (fun g q r => (hnot g r).1 q), hT2.b.keep hX3' (fun g q r => (hnot g r).2.1 q), fun k hk => ⟨(hT2.la k hk).1, Nat.lt_of_lt_of_le (hT2.la k hk).2 hX3.size⟩, fun k hk => ⟨(hT2.lb k hk).1, Nat.lt_of_lt_of_le (hT2.lb k hk).2 hX3.size⟩, hT2.ap, hX3'.on hT2.ext (fun g hg => (hnot g hg).2.2)⟩, iv_work _ hIg, ?_, ?_, ?_, ?_⟩
          · rw [hwa]
          · rw [hwa]
          · rw [hwa]; simpa [ints] using ho3
          · intro g hg
            rcases hat with q | q
            · exact hnot g (by rw [← q]; exact hg)
            · have := q g hg
              exact ⟨fun r => by omega, fun r => by have := (hT.lb g r).2; omega, by omega⟩
      simp only [Int.toNat_natCast] at K
      clear hcs hT hIg hlf hG1 ho hd hwa hsw htk hsum HC hgone hcy1 hkL
      generalize (work (L.getD k 0) G1).1 = r1 at *
      generalize (work (L.getD k 0) G1).2.1.length = m1 at *
      have HTk : Hid ((L.take (k + 1)).sum = (L.take k).sum + L.getD k 0) := by
        show _ = _
        exact take_sum (by rw [HUn.out]; exact hlt)
      have hLk : L.getD k 0 < 256 := hx256
      generalize hxk : L.getD k 0 = xk at *
      generalize hsk' : (L.take k).sum = sk at *
      have HXk := hid hxk
      clear hxk hsk'
      go_wp2_with fail
      refine K.mono ?_
      clear K
      intro e w2 hq
      obtain ⟨a2, c2, v3, w3, rfl, hU2, hr3, ⟨a3, m3, c3, rfl⟩, hC3⟩ := HST.out e w2 hq
      have HC3 := hid hC3
      have c0' : w2.cell? ⟨b, o + k, none⟩ = some (.int .u8 (xk : Nat)) := by
        have hkL : k < L.length := by rw [HUn.out]; exact hlt
        rcases hU2 with h0 | ⟨b', o', hbo, hcs⟩
        · rw [h0] at hkL; simp at hkL
        · simp only [Option.some.injEq, Addr.mk.injEq, and_true] at hbo
          obtain ⟨rfl, rfl⟩ := hbo
          rw [← HXk.out]
          exact (hcs k hkL).1
      clear hU2 hC3 hq HST c0
      go_wp2_with (at_builtin; refine wpList_append_run rfl _ _ 23 rfl _ _ _ rfl rfl hr3 ?_)
      go_roundw
      case rel => exact ⟨k + 1, lf + r1, by go_num, by omega, by rw [HTk.out]; go_num, by go_num, ⟨_, _, _, rfl⟩, HC3.out⟩
      case measure => simp [intOf]; omega
    · obtain rfl : k = un := by omega
      have hsk2 : (((L.take k).sum : Nat) : Int) ≤ 1000000000000000000 := by omega
      have K := work_any p2 Gs C2 (((L.take k).sum : Nat) : Int) wr hT.b HI7.out hsk2 (by omega)
      simp only [Int.toNat_natCast] at K
      have HST : Hid (∀ e w2, WkPost wr p2 C2 Gs (L.take k).sum e w2 → ∃ a2 c2, e = .returned (.tuple #[.int .i64 lf, .slice a2 (work (L.take k).sum Gs).2.1.length c2]) ∧ Is w2 a2 (li (work (L.take k).sum Gs).2.1) ∧ Is w2 ad (li (work (L.take k).sum Gs).2.1) ∧ m = (work (L.take k).sum Gs).2.1.length ∧ Gr w2 p1 G1 (fun _ => True) ∧ Gr w2 p2 G1 (fun _ => True) ∧ Ext [] w w2) := by
        rintro e w2 ⟨v2, D, rfl, ho2, hg2, hD, hv2, hx2⟩
        have hT2 := hT.swap.op hg2 hD hx2
        have ho1 := own_keepF ho hx2 (fun g hg => (hd g hg).2.1)
        obtain ⟨a2, c2, rfl, _⟩ := own_slice ho2
        obtain ⟨a3, c3, e3, _⟩ := own_slice ho1
        simp only [Value.slice.injEq] at e3
        rw [ints_li] at ho1 ho2
        rw [hG1] at hT2
        rw [hlf]
        exact ⟨a2, c2, rfl, own_vs ho2, own_vs ho1, e3.2.1, hT2.b.mono (fun _ _ => trivial), hT2.a.mono (fun _ _ => trivial), hT2.ext⟩
      clear hT hlf hG1 ho hd hsum HC hcy1 hsk2
      have hl1 := hIg.len
      generalize (work (L.take k).sum Gs).2.1 = gone at *
      generalize (L.take k).sum = sk at *
      go_wp2_with fail
      refine K.mono ?_
      clear K
      intro e w2 hq
      obtain ⟨a2, c2, rfl, hI2, hIg2, rfl, hg1, hg2, hE2⟩ := HST.out e w2 hq
      have K1 := told_any p1 G1 _ w2 hg1 hl1
      have HI2 := hid hI2
      have HIg2 := hid hIg2
      have Hg1 := hid hg1
      have Hg2 := hid hg2
      have HE2 := hid hE2
      clear hI2 hIg2 hg1 hg2 hE2 hq HST
      go_wp2_with fail
      refine K1.mono ?_
      clear K1
      rintro e w3 ⟨v3, rfl, hL3, _, hE3⟩
      have K2 := told_any p2 G1 _ w3 (Hg2.out.keep0 hE3) hl1
      have HL3 := hid hL3
      have HE3 := hid hE3
      obtain ⟨a3, c3, rfl, hI3⟩ := lst_is hL3
      clear hL3 hE3
      go_wp2_with fail
      refine K2.mono ?_
      clear K2
      rintro e w4 ⟨v4, rfl, hL4, _, hE4⟩
      obtain ⟨a4, c4, rfl, hI4⟩ := lst_is hL4
      have hE24 := HE3.out.trans hE4
      have hll : (lives G1).length ≤ 65536 := Nat.le_trans (livK_len G1 G1.ns.length) hl1
      have KS1 := sameInts_true a2 ad gone.length c2 d (li gone) w4 (HI2.out.keep0 hE24) (HIg2.out.keep0 hE24) (li_len _) (by omega)
      have HE4 := hid (HE2.out.trans hE24)
      have HKS2 : Hid (∀ W, Ext [] w4 W → Calls Try.prog 29 #[.slice a3 (li (lives G1)).length c3, .slice a4 (li (lives G1)).length c4] W (SayPost W (.bool true))) := fun W hW => sameInts_true a3 a4 _ c3 c4 (li (lives G1)) W ((hI3.keep0 hE4).keep0 hW) (hI4.keep0 hW) rfl (by rw [li_len]; omega)
      have HG1 := hid (Hg1.out.keep0 hE24)
      have HG2 := hid (Hg2.out.keep0 hE24)
      clear hL4 hE4 hE24 hI3 hI4 HI2 HIg2 Hg1 Hg2 HE2 HL3 HE3
      have hbeq : ((lf : Int) == (lf : Int)) = true := by simp
      generalize (li (lives G1)).length = nl at *
      go_wp2_with fail
      refine KS1.mono ?_
      clear KS1
      rintro e w5 ⟨rfl, hE5⟩
      have KS2 := HKS2.out w5 hE5
      have HE5 := hid (HE4.out.trans hE5)
      have HG3 := hid (HG1.out.keep0 hE5)
      have HG4 := hid (HG2.out.keep0 hE5)
      clear hE5 HE4 HG1 HG2 HKS2
      go_wp2_with fail
      refine KS2.mono ?_
      clear KS2
      rintro e w6 ⟨rfl, hE6⟩
      have HE6 := hid (HE5.out.trans hE6)
      have KP1 := phase_any p1 G1 _ w6 (HG3.out.keep0 hE6)
      have KP2 := phase_any p2 G1 _ w6 (HG4.out.keep0 hE6)
      have KC1 := cycles_any p1 G1 _ w6 (HG3.out.keep0 hE6)
      have KC2 := cycles_any p2 G1 _ w6 (HG4.out.keep0 hE6)
      clear hE6 HG3 HG4 HE5
      go_wp2_with fail
      refine met KP1 ?_
      go_wp2_with fail
      refine met KP2 ?_
      go_wp2_with fail
      refine met KC1 ?_
      go_wp2_with fail
      refine met KC2 ?_
      go_wp2_with fail
      go_ret
      exact ⟨rfl, HE6.out⟩

end colorCuts
end Go.Proofs.Ytfgdoehiocgkhaa

namespace Go.Proofs.Ytfgdoehiocgkhaa.colorCuts
open Go.ChangeShapes Go.WideShapes Go.ChangeAt Go.RowKit

set_option maxRecDepth 100000 in
theorem lifted (os : Go.Os) (started : os.Started) (H : Type) (enc : TypeId × Value → H) :
    ReturnsInHanded {} Try.checked os 8 .any (Rows.colorCutsSpec.pre6 enc Try.prog Try.f8 Rows.colorCutsRow.domain false) (Rows.colorCutsSpec.post enc Try.prog Try.f8 false true false false) := by
  refine returnsInHanded_of_change_sized (C := Try.checked) own started (by kernel_rfl) Try.func8
    (ChangeSpec.witness6 (enc := enc) (C := Try.checked) false ⟨#[], #[.slice none 0 0, .slice none 0 0, .slice none 0 0], []⟩ 8 (by kernel_rfl) (by kernel_rfl) (by kernel_rfl) (by kernel_rfl)) ?_
  intro W base args ds gs before hval0 hW hcnd hsz0 _
  have hval : ∀ (j : Nat) t v, Try.f8.params[j]? = some t → args[j]? = some v → Value.okWide Try.prog W .any base t v := hval0
  have hW' := hW
  obtain ⟨p, q, hA0, hV, rfl, hfz, hnd⟩ := hW
  have hA : DataW.TrodAll enc Try.prog W 0 (fun _ => true) true Try.f8.params.toList args.toList ds p := hA0
  rw [Try.params8] at hA hval
  obtain ⟨v0, vs0, d0, ds0, p0, q0, hargs, rfl, rfl, h0, r0⟩ := trodAll_cons hA
  obtain ⟨v1, vs1, d1, ds1, p1, q1, rfl, rfl, rfl, h1, r1⟩ := trodAll_cons r0
  obtain ⟨v2, vs2, d2, ds2, p2, q2, rfl, rfl, rfl, h2, r2⟩ := trodAll_cons r1
  obtain ⟨rfl, rfl, rfl⟩ := trodAll_nil r2
  obtain rfl : args = #[v0, v1, v2] := by cases args; simp_all
  obtain ⟨rfl, rfl⟩ := trodVars_none hV
  obtain ⟨a0, len0, cap0, rfl⟩ := okWide_slice Try.underlying22 (hval 0 22 v0 rfl rfl)
  have k0 := h0
  have lt0 : ∀ x ∈ p0, x.block < W.heap.size := by obtain ⟨m, hm⟩ := k0; exact DataW.trod_lt m _ _ _ hm
  obtain ⟨a1, len1, cap1, rfl⟩ := okWide_slice Try.underlying23 (hval 1 23 v1 rfl rfl)
  have k1 := h1
  have lt1 : ∀ x ∈ p1, x.block < W.heap.size := by obtain ⟨m, hm⟩ := k1; exact DataW.trod_lt m _ _ _ hm
  obtain ⟨a2, len2, cap2, rfl⟩ := okWide_slice Try.underlying24 (hval 2 24 v2 rfl rfl)
  have k2 := h2
  have lt2 : ∀ x ∈ p2, x.block < W.heap.size := by obtain ⟨m, hm⟩ := k2; exact DataW.trod_lt m _ _ _ hm
  have hsz : (DataW.weightsEach Try.prog [22, 23, 24] [d0, d1, d2]).all (· ≤ reachBytes) = true := hsz0
  have hwd0 : ∀ y ∈ d0.weights Try.prog 22, y ≤ 140737488351232 := by
    intro y hy
    have := List.all_eq_true.1 hsz y (DataW.weights_mem_each (j := 0) (t := 22) rfl rfl y hy)
    have h2 := of_decide_eq_true this
    simpa [reachBytes] using h2
  obtain ⟨fuel0, hf0⟩ := h0
  obtain ⟨S0, hS0, hl0⟩ := open_script (n := len0) (c := cap0) hf0 hwd0
  have hwd1 : ∀ y ∈ d1.weights Try.prog 23, y ≤ 140737488351232 := by
    intro y hy
    have := List.all_eq_true.1 hsz y (DataW.weights_mem_each (j := 1) (t := 23) rfl rfl y hy)
    have h2 := of_decide_eq_true this
    simpa [reachBytes] using h2
  obtain ⟨fuel1, hf1⟩ := h1
  obtain ⟨b1, c1, X1, hv1, hI1, hx1, hb1, hd1⟩ := open_list (v := .slice a1 len1 cap1) hf1 hwd1
  simp only [Value.slice.injEq] at hv1
  obtain ⟨rfl, rfl, rfl⟩ := hv1
  have hwd2 : ∀ y ∈ d2.weights Try.prog 24, y ≤ 140737488351232 := by
    intro y hy
    have := List.all_eq_true.1 hsz y (DataW.weights_mem_each (j := 2) (t := 24) rfl rfl y hy)
    have h2 := of_decide_eq_true this
    simpa [reachBytes] using h2
  obtain ⟨fuel2, hf2⟩ := h2
  obtain ⟨L2, hU2, hl2, hb2⟩ := open_u8s (n := len2) (c := cap2) hf2 hwd2
  clear hA0 hval0
  refine (walk a0 len0 cap0 S0 a1 X1.length cap1 X1 a2 len2 cap2 L2 W hS0 hl0 hI1 rfl (by omega) hU2 hl2 hb2).mono fun e W' ⟨he, hext⟩ => ?_
  subst he
  have bel := hext.below
  exact ⟨_, rfl, _, _, _, [], _, [], hW', trodAll_mk1 (shut_bool Try.underlying4 _), (trodAll_cons_mk (Below.trod laidOut (by kernel_rfl) (of_decide_eq_true (by kernel_rfl)) k0 bel lt0) (trodAll_cons_mk (Below.trod laidOut (by kernel_rfl) (of_decide_eq_true (by kernel_rfl)) k1 bel lt1) (trodAll_cons_mk (Below.trod laidOut (by kernel_rfl) (of_decide_eq_true (by kernel_rfl)) k2 bel lt2) trodAll_mk0))), rfl, bel.frame _, fun h => by cases h⟩

theorem over : Rows.colorCutsRow.holds Try.pinned (OpenSpec.ofChange Rows.colorCutsSpec) :=
  OpenClaim.holds_of_wide 8 Try.f8 rfl rfl rfl rfl rfl rfl rfl ⟨rfl, rfl, rfl, rfl, rfl⟩ rfl rfl rfl rfl rfl (by kernel_rfl) Try.func8 (by kernel_rfl)
    (of_decide_eq_true (by kernel_rfl)) (by unfold Func.isWrapper; first | (rw [if_pos (by decide +kernel)]; kernel_rfl) | (rw [if_neg (by decide +kernel)]; exact ⟨rfl, rfl⟩))
    (fun os started H enc _ => lifted os started H enc)

end Go.Proofs.Ytfgdoehiocgkhaa.colorCuts

namespace Go.Proofs.Ytfgdoehiocgkhaa
theorem colorCuts_holds : Rows.ColorCutsSaid := colorCuts.over
#print axioms colorCuts_holds
end Go.Proofs.Ytfgdoehiocgkhaa
