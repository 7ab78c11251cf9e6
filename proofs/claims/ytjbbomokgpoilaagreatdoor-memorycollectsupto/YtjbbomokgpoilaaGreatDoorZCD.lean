/-
  CSetB, CStart, CNode: joined by program; no statement is proved here.
-/
import Derived.Test.YtjbbomokgpoilaaGreatDoorZCC
import Derived.Test.YtjbbomokgpoilaaGreatDoorZCB
import Derived.Deep.RegionLaw
/-
  The program's Set and Start; no statement is proved here.
-/
namespace Go.Proofs.YtjbbomokgpoilaaGreatDoor.Co
open Go.RowKit

theorem nw_nw {B : Nat → Prop} {w w1 : World} (h : w.heap.size ≤ w1.heap.size) : ∀ k, Nw (Nw B w) w1 k → Nw B w k := by
  rintro k (q | q)
  · exact q
  · exact .inr (by omega)

set_option maxHeartbeats 2000000 in
theorem set_any (p : Nat) (G : Gs) (B : Nat → Prop) (n j x : Int) (w : World) (h : Gr w p G B) (hI : Iv G) : Calls Tryz.prog 83 #[.pointer (some ⟨p, 0, none⟩), .int .i64 n, .int .i64 j, .int .i64 x] w (GPost w p (set G n j x).1 B (.int .i64 (set G n j x).2)) := by
  have K := fault_any p G B n w h hI.len
  have K2 := live_any p G B x w h hI.len
  have hlln := hI.lln
  have hlen := hI.len
  unfold fl at *
  cases hb : lvB G n
  · rw [hb] at K
    simp only [Bool.false_eq_true, if_false] at K
    have HF := hid (gr_same h (.int .i64 4))
    rw [show set G n j x = (G, 4) by simp [set, hb]]
    clear h hb hI K2
    go_enter Tryz.func83, Tryz.ntmps83
    go_wp2_with (go_at_call 97; refine met K ?_)
    go_ret
    exact HF.out
  · rw [hb] at K
    simp only [if_true] at K
    obtain ⟨hn0, hl⟩ := lvB_iff.1 hb
    obtain ⟨i, rfl⟩ : ∃ i : Nat, n = i := ⟨n.toNat, by omega⟩
    simp only [Int.toNat_natCast] at hl
    have hi := lvN_lt hl
    by_cases hx : x ≠ -1 ∧ lvB G x = false
    · have HF := hid (gr_same h (.int .i64 4))
      rw [show set G i j x = (G, 4) by simp only [set, hb]; rw [if_neg (by simp), if_pos hx]]
      rw [hx.2] at K2
      have hx1 : (x != -1) = true := by simpa using hx.1
      clear h hb hI hx hl
      go_enter Tryz.func83, Tryz.ntmps83
      go_wp2_with (first | (go_at_call 97; refine met K ?_) | (go_at_call 99; refine met K2 ?_))
      go_ret
      exact HF.out
    · have hx' : x = -1 ∨ lvB G x = true := by
        by_cases q : x = -1
        · exact .inl q
        · right
          simp only [ne_eq, q, not_false_eq_true, true_and, Bool.not_eq_false] at hx
          exact hx
      have hGr := h
      obtain ⟨vn, vl, SV, hm, ft⟩ := h
      obtain ⟨g, c, rfl, hc, hgp, hgl, _, c1, _, _⟩ := hm.node hi
      obtain ⟨f0, _⟩ := hm.flds
      have hil : (i : Int) < G.ns.length := by omega
      obtain ⟨sa, hsv, hIs⟩ := (hm.slo i hi).is
      have hsl := hI.sl i
      rw [hsv] at c1
      by_cases hj : j < 0 ∨ ((ndAt G.ns i).s.length : Int) ≤ j
      · have HF := hid (gr_same hGr (.int .i64 5))
        rw [show set G i j x = (G, 5) by simp only [set, hb, Int.toNat_natCast]; rw [if_neg (by simp), if_neg hx, if_pos hj]]
        clear hGr hm ft hb hI hl hIs hsv hx
        generalize (ndAt G.ns i).s.length = ls at *
        generalize G.ns.length = n at *
        rcases hx' with rfl | hx'
        · rcases hj with hj | hj
          · go_enter Tryz.func83, Tryz.ntmps83
            go_wp2_with (first | (go_at_call 97; refine met K ?_) | (go_at_call 99; refine met K2 ?_))
            go_ret
            exact HF.out
          · have hj0 : ¬ j < 0 := by omega
            go_enter Tryz.func83, Tryz.ntmps83
            go_wp2_with (first | (go_at_call 97; refine met K ?_) | (go_at_call 99; refine met K2 ?_))
            go_ret
            exact HF.out
        · rw [hx'] at K2
          have hx1 : (x != -1) = true := by
            have := (lvB_iff.1 hx').1
            simp; omega
          clear hx'
          rcases hj with hj | hj
          · go_enter Tryz.func83, Tryz.ntmps83
            go_wp2_with (first | (go_at_call 97; refine met K ?_) | (go_at_call 99; refine met K2 ?_))
            go_ret
            exact HF.out
          · have hj0 : ¬ j < 0 := by omega
            go_enter Tryz.func83, Tryz.ntmps83
            go_wp2_with (first | (go_at_call 97; refine met K ?_) | (go_at_call 99; refine met K2 ?_))
            go_ret
            exact HF.out
      · obtain ⟨q, rfl⟩ : ∃ q : Nat, j = q := ⟨j.toNat, by omega⟩
        have hq : q < (ndAt G.ns i).s.length := by omega
        have HS : Hid (set G i q x = (setG G i q x, 0)) := by
          show _ = _
          simp only [set, hb, Int.toNat_natCast]
          rw [if_neg (by simp), if_neg hx, if_neg hj]
        rcases hm.slo i hi with ⟨_, hs0⟩ | ⟨gs, hsv2, hrow⟩
        · rw [hs0] at hq; simp at hq
        rw [hsv] at hsv2
        simp only [Value.slice.injEq, and_true] at hsv2
        subst hsv2
        have cs : w.cell? ⟨gs, q, none⟩ = some (.int .i64 ((ndAt G.ns i).s.getD q 0)) := by
          rw [cell_of_row _ _ _ _ _ _ hrow]; simp [hq]
        have hold : (ndAt G.ns i).s.getD q 0 ∈ (ndAt G.ns i).s := by simp [List.getD, hq]
        have hold2 := hI.cl i hl _ hold
        have KA := shade_gm p G B ((ndAt G.ns i).s.getD q 0) w _ _ _ hm ft (by
          rcases hold2 with r | r
          · exact .inl r
          · exact .inr ⟨(lvB_iff.1 r).1, lvN_lt (lvB_iff.1 r).2⟩) (by omega) hlen
        have HB : Hid (∀ w1, (∃ vl', Gm w1 p (.slice (some ⟨g, 0, none⟩) G.ns.length c) vl' SV (sh G ((ndAt G.ns i).s.getD q 0)) ∧ Ft (Nw B w) p (.slice (some ⟨g, 0, none⟩) G.ns.length c) vl' SV) → Fx B w w1 →
            Calls Tryz.prog 98 #[.pointer (some ⟨p, 0, none⟩), .int .i64 x] w1 (fun e w2 => e = .returned (.tuple #[]) ∧ (∃ u, w2.cell? ⟨gs, q, none⟩ = some (.int .i64 u)) ∧ w2.frozen? ⟨gs, q, none⟩ = false ∧ GPost w p (setG G i q x) B (.int .i64 0) (.returned (.int .i64 0)) (w2.setCell ⟨gs, q, none⟩ (.int .i64 x)))) := by
          rintro w1 ⟨vl1, h1, f1⟩ hX1
          have hI1 := iv_sh hI ((ndAt G.ns i).s.getD q 0)
          have hl1 := hI1.lln
          refine (shade_gm p _ (Nw B w) x w1 _ _ _ h1 f1 ?_ (by rw [sh_len] at hl1; omega) (by rw [sh_len]; exact hlen)).mono ?_
          · rcases hx' with r | r
            · exact .inl r
            · refine .inr ⟨(lvB_iff.1 r).1, ?_⟩
              rw [sh_len]; exact lvN_lt (lvB_iff.1 r).2
          · rintro e w2 ⟨rfl, ⟨vl2, h2, f2⟩, hX2⟩
            have hs2 : (ndAt (sh (sh G ((ndAt G.ns i).s.getD q 0)) x).ns i).s = (ndAt G.ns i).s := by rw [sh_s, sh_s]
            have hi2 : i < (sh (sh G ((ndAt G.ns i).s.getD q 0)) x).ns.length := by rw [sh_len, sh_len]; exact hi
            have hr2 : w2.heap[gs]? = some (.cells (((ndAt G.ns i).s.map (Value.int .i64))).toArray 3 (0, 0)) := by
              rcases h2.slo i hi2 with ⟨r, _⟩ | ⟨g', r, r2⟩
              · rw [hsv] at r; simp at r
              · rw [hsv] at r; simp at r; rw [hs2] at r2; rw [r.1]; exact r2
            refine ⟨rfl, ⟨(ndAt G.ns i).s.getD q 0, by rw [cell_of_row _ _ _ _ _ _ hr2]; simp [hq]⟩, frozen_of_row _ _ _ _ _ hr2, rfl, ⟨_, _, _, h2.slot i q x hi2 (by rw [hs2]; exact hsv), f2.mono (nw_nw hX1.size)⟩, ?_⟩
            refine (hX1.trans hX2 (fun k r => r)).trans (C := fun k => k = gs) (Fx.of_ext (S := [gs]) (Ext.setCell [gs] w2 _ _ (by simp)) (by simp)) ?_
            rintro k rfl
            exact .inl (ft.s i _ (by rw [hsv]; rfl))
        have hqi : (q : Int) < (ndAt G.ns i).s.length := by omega
        clear hGr hm ft hb hI hl hIs hsv hx hrow hold hold2 hj
        generalize (ndAt G.ns i).s.getD q 0 = old at *
        generalize (ndAt G.ns i).s.length = ls at *
        generalize G.ns.length = nn at *
        rcases hx' with rfl | hx'
        · go_enter Tryz.func83, Tryz.ntmps83
          go_wp2_with (first | (go_at_call 97; refine met K ?_) | (go_at_call 99; refine met K2 ?_))
          refine KA.mono ?_
          clear KA
          rintro e w1 ⟨rfl, hg1, hx1⟩
          have KB := HB.out w1 hg1 hx1
          clear HB hg1 hx1
          go_wp2_with fail
          refine KB.mono ?_
          clear KB
          rintro e w2 ⟨rfl, ⟨u, d0⟩, d1, hF⟩
          have HF := hid hF
          clear hF
          go_wp2_with fail
          go_ret
          rw [HS.out]
          exact HF.out
        · rw [hx'] at K2
          have hx1 : (x != -1) = true := by
            have := (lvB_iff.1 hx').1
            simp; omega
          clear hx'
          go_enter Tryz.func83, Tryz.ntmps83
          go_wp2_with (first | (go_at_call 97; refine met K ?_) | (go_at_call 99; refine met K2 ?_))
          refine KA.mono ?_
          clear KA
          rintro e w1 ⟨rfl, hg1, hx1⟩
          have KB := HB.out w1 hg1 hx1
          clear HB hg1 hx1
          go_wp2_with fail
          refine KB.mono ?_
          clear KB
          rintro e w2 ⟨rfl, ⟨u, d0⟩, d1, hF⟩
          have HF := hid hF
          clear hF
          go_wp2_with fail
          go_ret
          rw [HS.out]
          exact HF.out

end Go.Proofs.YtjbbomokgpoilaaGreatDoor.Co

/-
  The program's Start; no statement is proved here.
-/
namespace Go.Proofs.YtjbbomokgpoilaaGreatDoor.Co
open Go.RowKit

/-- The first k live nodes are white. -/
def wn (l : List Nd) (k : Nat) : List Nd := (l.take k).map wh ++ l.drop k
theorem wn_len (l : List Nd) (k : Nat) : (wn l k).length = l.length := by simp [wn]; omega
theorem wn_zero (l : List Nd) : wn l 0 = l := by simp [wn]
theorem wn_all (l : List Nd) : wn l l.length = l.map wh := by simp [wn]
theorem wn_at (l : List Nd) (k i : Nat) (h : k ≤ i) : ndAt (wn l k) i = ndAt l i := by
  by_cases hi : i < l.length
  · simp only [ndAt, List.getD, wn]
    rw [List.getElem?_append_right (by simp; omega)]
    simp only [List.length_map, List.length_take, List.getElem?_drop]
    congr 2
    congr 1
    omega
  · rw [ndAt_out (by rw [wn_len]; omega), ndAt_out (by omega)]
theorem wn_succ (l : List Nd) (k : Nat) (h : k < l.length) : wn l (k + 1) = (wn l k).set k (wh (ndAt l k)) := by
  simp only [wn]
  rw [List.take_add_one, ndAt_get h, List.map_append, List.set_append_right _ _ (by simp; omega)]
  simp only [List.length_map, List.length_take, Nat.min_eq_left (Nat.le_of_lt h), Nat.sub_self, Option.toList_some, List.map_cons, List.map_nil, List.append_assoc]
  congr 1
  rw [List.drop_eq_getElem_cons h, List.set_cons_zero]
  rfl
theorem wn_same (l : List Nd) (k : Nat) (h : k < l.length) (hc : ¬ ((ndAt l k).c ≠ 0 ∧ (ndAt l k).c ≠ 4)) : wn l (k + 1) = wn l k := by
  rw [wn_succ l k h]
  refine set_self ?_
  rw [ndAt_get (by rw [wn_len]; exact h), wn_at _ _ _ (Nat.le_refl _)]
  simp only [wh, if_neg hc]

theorem shs_len (R : List Int) : ∀ G : Gs, (R.foldl sh G).ns.length = G.ns.length := by
  induction R with
  | nil => intro G; rfl
  | cons x R ih => intro G; simp only [List.foldl_cons]; rw [ih, sh_len]

set_option maxHeartbeats 4000000 in
theorem start_any (p : Nat) (G : Gs) (B : Nat → Prop) (ra : Option Addr) (rn rc : Nat) (R : List Int) (w : World) (h : Gr w p G B) (hI : Iv G) (hR : Is w ra R) (hrn : R.length = rn) (hrb : rn ≤ 17592186044416) (hrB : ∀ ad, ra = some ad → ¬ B ad.block) :
    Calls Tryz.prog 66 #[.pointer (some ⟨p, 0, none⟩), .slice ra rn rc] w (GPost w p (start G R).1 B (.int .i64 (start G R).2)) := by
  have hlen := hI.len
  have f3 : w.cell? ⟨p, 3, none⟩ = some (.int .i64 G.ph) := by
    obtain ⟨vn, vl, SV, hm, _⟩ := h
    exact hm.flds.2.2.2.1
  by_cases hph : G.ph ≠ 0
  · have HF := hid (gr_same h (.int .i64 14))
    rw [show start G R = (G, 14) by simp [start, hph]]
    have hb : ((G.ph : Int) != 0) = true := by simp; omega
    clear h hI hR hrB hph
    generalize G.ph = ph at *
    go_enter Tryz.func66, Tryz.ntmps66
    go_wp2_with fail
    go_ret
    exact HF.out
  replace hph : G.ph = 0 := by omega
  have HH := hid h
  have HR := hid hR
  have HRn := hid hrn
  have HrB := hid hrB
  have HI := hid hI
  have KL := fun x : Int => live_any p G B x w h hlen
  have HBad : Hid (∀ k, k < rn → lvB G (R.getD k 0) = false → start G R = (G, 4)) := fun k hk hb => by
    have : R.all (lvB G) = false := by
      rw [List.all_eq_false]
      exact ⟨R.getD k 0, by simp [List.getD, show k < R.length by omega], by rw [hb]; simp⟩
    simp [start, hph, this]
  have HOk : Hid (R.all (lvB G) = true → start G R = (R.foldl sh (begin G), 0)) := fun h0 => by simp [start, hph, h0, begin]
  have hb0 : ((G.ph : Int) != 0) = false := by simp [hph]
  have HPh := hid hph
  clear h hI hR hrn hrB hph
  generalize hGph : G.ph = ph0 at f3 hb0
  clear hGph
  go_enter Tryz.func66, Tryz.ntmps66
  go_wp2_with fail
  go_loop [19] (fun q => ∃ k : Nat, q = .int .i64 k ∧ k ≤ rn ∧ (R.take k).all (lvB G) = true) (fun q => (rn - (intOf q)).toNat)
  case atStart => exact ⟨0, rfl, Nat.zero_le _, by simp⟩
  case round =>
    obtain ⟨k, rfl, hk, hal⟩ := hrel
    have HAl := hid hal
    clear hal
    by_cases hlt : k < rn
    · obtain ⟨b, o, rfl, c0⟩ := HR.out.cell (j := k) (by rw [HRn.out]; exact hlt)
      have HT : Hid ((R.take (k + 1)).all (lvB G) = ((R.take k).all (lvB G) && lvB G (R.getD k 0))) := by
        show _ = _
        have hkR : k < R.length := by rw [HRn.out]; exact hlt
        have e : R.take (k + 1) = R.take k ++ [R.getD k 0] := by rw [List.take_add_one]; simp [hkR]
        rw [e]
        simp
      have HBk := hid (HBad.out k hlt)
      have K := KL (R.getD k 0)
      generalize R.getD k 0 = x at *
      generalize lvB G x = bx at *
      cases bx
      · have HF := hid (gr_same HH.out (.int .i64 4))
        have HB2 := hid (HBk.out rfl)
        clear KL HBad HOk HBk
        go_wp2_with (go_at_call 99; refine met K ?_)
        go_ret
        rw [HB2.out]
        exact HF.out
      · clear KL
        go_wp2_with (go_at_call 99; refine met K ?_)
        go_round
        case rel => exact ⟨k + 1, by go_num, by omega, by rw [HT.out, HAl.out]; rfl⟩
        case measure => simp [intOf]; omega
    · obtain rfl : k = rn := by omega
      have hall : R.all (lvB G) = true := by have := HAl.out; rwa [← HRn.out, List.take_length] at this
      have HS := hid (HOk.out hall)
      have HAll := hid hall
      clear HOk HBad HAl hall KL
      obtain ⟨vn, vl, SV, h, ft⟩ := HH.out
      obtain ⟨an, cn, rfl, hcn⟩ := own_slice h.row
      obtain ⟨f0, _⟩ := h.flds
      have z3 := h.froz 3
      have HM0 : Hid (Gm (w.setCell ⟨p, 3, none⟩ (.int .i64 1)) p (.slice an G.ns.length cn) vl SV { G with ph := 1 }) := h.fld 3 (.int .i64 1) { G with ph := 1 } rfl rfl rfl
      have HX0 : Hid (Fx B w (w.setCell ⟨p, 3, none⟩ (.int .i64 1))) := Fx.of_ext (S := [p]) (Ext.setCell [p] w _ _ (by simp)) (by simp; exact .inl ft.p)
      have HT := hid ft
      have HWz := hid (wn_zero G.ns)
      have HWa := hid (wn_all G.ns)
      have HWl := hid (wn_len G.ns)
      have HWt := hid (wn_at G.ns)
      have HWs := hid (wn_succ G.ns)
      have HWe := hid (wn_same G.ns)
      obtain ⟨n, hn⟩ : ∃ n, n = G.ns.length := ⟨_, rfl⟩
      have HN := hid hn
      rw [← hn] at f0 hcn hlen
      clear h ft hn
      go_upto_region 12 with fail
      generalize hW1 : w.setCell ⟨p, 3, none⟩ _ = W1 at *
      have f0' : W1.cell? ⟨p, 0, none⟩ = some (.slice an n cn) := by have := HM0.out.flds.1; rwa [← HN.out] at this
      clear hW1 f0 f3 z3
      go_wp2_with fail
      go_loopw [36] (fun q wr => ∃ k : Nat, q = .int .i64 k ∧ k ≤ n ∧ Gm wr p (.slice an n cn) vl SV { G with ph := 1, ns := wn G.ns k } ∧ Fx B w wr) (fun q _ => (n - (intOf q)).toNat)
      case atStart => exact ⟨0, rfl, Nat.zero_le _, by rw [HWz.out, HN.out]; exact HM0.out, HX0.out⟩
      case round =>
        clear HM0 HX0
        obtain ⟨i, rfl, hi, hG, hX⟩ := hrel
        have HG := hid hG
        have HX := hid hX
        clear hX
        by_cases hin : i < n
        · have hlk : i < G.ns.length := by rw [← HN.out]; exact hin
          have hft : Ft B p (.slice an n cn) vl SV := by have := HT.out; rwa [← HN.out] at this
          have K := live_nat p { G with ph := 1, ns := wn G.ns i } B i wr ⟨_, _, _, hG, hft⟩ (by simp only [HWl.out, ← HN.out]; exact hlen) (by simp only [HWl.out]; exact hlk)
          obtain ⟨g, c, hv, hc, hgp, hgl, c0, c1, c2, cf⟩ := hG.node (i := i) (by simp only [HWl.out]; exact hlk)
          simp only [HWl.out, Value.slice.injEq] at hv
          obtain ⟨rfl, hnn, rfl⟩ := hv
          clear hnn
          have fp := hG.flds.1
          simp only [HWt.out i i (Nat.le_refl _)] at c0 c2
          have hln : (wn G.ns i).length = n := by rw [HWl.out, HN.out]
          have hii : (i : Int) < n := by omega
          have HD : Hid (lvN { G with ph := 1, ns := wn G.ns i } i ↔ ((ndAt G.ns i).c ≠ 0 ∧ (ndAt G.ns i).c ≠ 4)) := by
            show _ ↔ _
            unfold lvN
            simp only [HWt.out i i (Nat.le_refl _)]
          clear hc hG
          by_cases hcl : (ndAt G.ns i).c ≠ 0 ∧ (ndAt G.ns i).c ≠ 4
          · have hdt : decide (lvN { G with ph := 1, ns := wn G.ns i } i) = true := decide_eq_true (HD.out.2 hcl)
            rw [hdt] at K
            have HM : Hid (Gm (wr.setCell ⟨g, i * 3, none⟩ (.int .i64 1)) p (.slice (some ⟨g, 0, none⟩) n cn) vl SV { G with ph := 1, ns := wn G.ns (i + 1) }) := by
              have h2 := HG.out
              have e1 : n = ({ G with ph := 1, ns := wn G.ns i } : Gs).ns.length := hln.symm
              rw [e1] at h2
              have h3 := Gm.setc (G := { G with ph := 1, ns := wn G.ns i }) h2 i 1 (by simp only [hln]; exact hin)
              rw [← e1] at h3
              have e2 : wn G.ns (i + 1) = (wn G.ns i).set i ⟨1, (ndAt (wn G.ns i) i).s, (ndAt (wn G.ns i) i).k⟩ := by rw [HWs.out i hlk, HWt.out i i (Nat.le_refl _)]; simp only [wh, if_pos hcl]
              rw [e2]
              exact h3
            have cf0 := cf (i * 3)
            clear HG cf hln HD hcl hdt c1 c2
            generalize (ndAt G.ns i).c = cc at *
            go_wp2_with (go_at_call 99; refine met K ?_)
            go_roundw
            case rel => exact ⟨i + 1, by go_num, by omega, HM.out, HX.out.trans (C := B) (Fx.of_ext (S := [g]) (Ext.setCell [g] wr _ _ (by simp)) (by simp; exact .inl (hft.n g rfl))) (fun _ q => .inl q)⟩
            case measure => simp [intOf]; omega
          · have hdt : decide (lvN { G with ph := 1, ns := wn G.ns i } i) = false := decide_eq_false (fun q => hcl (HD.out.1 q))
            rw [hdt] at K
            have HM : Hid (Gm wr p (.slice (some ⟨g, 0, none⟩) n cn) vl SV { G with ph := 1, ns := wn G.ns (i + 1) }) := by
              have h2 := HG.out
              rw [← HWe.out i hlk hcl] at h2
              exact h2
            clear HG cf hln HD hcl hdt c1 c2 c0
            go_wp2_with (go_at_call 99; refine met K ?_)
            go_roundw
            case rel => exact ⟨i + 1, by go_num, by omega, HM.out, HX.out⟩
            case measure => simp [intOf]; omega
        · obtain rfl : i = n := by omega
          have HG2 : Hid (Gr wr p (begin G) (Nw B w)) := by
            refine ⟨_, _, _, ?_, HT.out.mono (fun _ q => .inl q)⟩
            have h2 := HG.out
            rw [show wn G.ns i = G.ns.map wh by rw [HN.out]; exact HWa.out, HN.out] at h2
            exact h2
          have HI2 : Hid (Iv (begin G)) := iv_begin HI.out HPh.out
          have HLv : Hid (∀ x, lvB (begin G) x = lvB G x) := fun y => by simp only [lvB, begin, wh_lv]
          clear hG HG HWz HWa HWl HWt HWs HWe HT
          go_wp2_with fail
          go_loopw [52] (fun q w3 => ∃ j : Nat, q = .int .i64 j ∧ j ≤ k ∧ Gr w3 p ((R.take j).foldl sh (begin G)) (Nw B w) ∧ Fx B w w3) (fun q _ => (k - (intOf q)).toNat)
          case atStart => exact ⟨0, rfl, Nat.zero_le _, HG2.out, HX.out⟩
          case round =>
            clear HG2 HX
            obtain ⟨j, rfl, hj, hG3, hX3⟩ := hrel
            have HG3 := hid hG3
            have HX3 := hid hX3
            clear hG3 hX3
            by_cases hjn : j < k
            · have hjR : j < R.length := by rw [HRn.out]; exact hjn
              obtain ⟨b, o, rfl, c0⟩ := (is_keepF HR.out HX3.out HrB.out).cell (j := j) hjR
              have hIv := iv_shs (R.take j) HI2.out
              have hll := hIv.lln
              have hle := hIv.len
              have hxl : lvB G (R.getD j 0) = true := List.all_eq_true.1 HAll.out _ (by simp [List.getD, hjR])
              have hxb : lvB (begin G) (R.getD j 0) = true := by rw [HLv.out]; exact hxl
              have K := shade_any p ((R.take j).foldl sh (begin G)) (Nw B w) (R.getD j 0) wr HG3.out (.inr ⟨(lvB_iff.1 hxl).1, by rw [shs_len]; exact lvN_lt (lvB_iff.1 hxb).2⟩) (by omega) hle
              have HN3 : Hid (∀ w4, Gr w4 p (sh ((R.take j).foldl sh (begin G)) (R.getD j 0)) (Nw (Nw B w) wr) → Fx (Nw B w) wr w4 → Gr w4 p ((R.take (j + 1)).foldl sh (begin G)) (Nw B w) ∧ Fx B w w4) := fun w4 g4 x4 => by
                have e1 : (R.take (j + 1)).foldl sh (begin G) = sh ((R.take j).foldl sh (begin G)) (R.getD j 0) := by
                  rw [List.take_add_one, List.foldl_append]; simp [List.getD, hjR]
                rw [e1]
                exact ⟨g4.mono (nw_nw HX3.out.size), HX3.out.trans x4 (fun k q => q)⟩
              clear hIv hll hle hxl hxb hjR HG3 HX3
              generalize R.getD j 0 = x at *
              go_wp2_with fail
              refine K.mono ?_
              clear K
              rintro e w4 ⟨rfl, g4, x4⟩
              have HN4 := hid (HN3.out w4 g4 x4)
              clear g4 x4 HN3
              go_wp2_with fail
              go_roundw
              case rel => exact ⟨j + 1, by go_num, by omega, HN4.out⟩
              case measure => simp [intOf]; omega
            · obtain rfl : j = k := by omega
              go_wp2_with fail
              go_ret
              rw [HS.out]
              refine ⟨rfl, ?_, HX3.out⟩
              have := HG3.out
              rwa [← HRn.out, List.take_length] at this

end Go.Proofs.YtjbbomokgpoilaaGreatDoor.Co

/-
  The program's free and Node; no statement is proved here.
-/
namespace Go.Proofs.YtjbbomokgpoilaaGreatDoor.Co
open Go.RowKit

theorem fr_eq {G : Gs} {k : Nat} (h1 : G.le ≤ k) (h2 : ∀ i, G.le ≤ i → i < k → (ndAt G.ns i).c ≠ 0) (h3 : (ndAt G.ns k).c = 0) : fr G = k := by
  rcases Nat.lt_trichotomy k (fr G) with h | h | h
  · exact absurd h3 (fr_lo h1 h)
  · exact h.symm
  · refine absurd fr_free (h2 (fr G) ?_ h)
    unfold fr; omega

set_option maxHeartbeats 4000000 in
theorem free_any (p : Nat) (G : Gs) (B : Nat → Prop) (w : World) (h : Gr w p G B) (hle : G.le ≤ G.ns.length) (hlen : G.ns.length ≤ 65536) :
    Calls Tryz.prog 100 #[.pointer (some ⟨p, 0, none⟩)] w (GPost w p { G with le := fr G } B (.int .i64 (fr G))) := by
  obtain ⟨vn, vl, SV, h, ft⟩ := h
  obtain ⟨an, cn, rfl, hcn⟩ := own_slice h.row
  have HH := hid h
  have HT := hid ft
  obtain ⟨n, hn⟩ : ∃ n, n = G.ns.length := ⟨_, rfl⟩
  have HN := hid hn
  rw [← hn] at hle hlen hcn
  clear h ft hn
  have HE : Hid (∀ k, G.le ≤ k → (∀ i, G.le ≤ i → i < k → (ndAt G.ns i).c ≠ 0) → (ndAt G.ns k).c = 0 → fr G = k) := fun k => fr_eq
  go_enter Tryz.func100, Tryz.ntmps100
  go_wp2_with fail
  go_loopg [] (n - G.le) (fun q wr => ∃ k : Nat, G.le ≤ k ∧ k ≤ n ∧ n - k ≤ q ∧ (∀ i, G.le ≤ i → i < k → (ndAt G.ns i).c ≠ 0) ∧ Gm wr p (.slice an n cn) vl SV { G with le := k } ∧ Fx B w wr)
  case atStart => exact ⟨G.le, Nat.le_refl _, hle, Nat.le_refl _, fun i h1 h2 => by omega, by rw [HN.out]; exact HH.out, Fx.refl _ _⟩
  case round =>
    clear HH
    obtain ⟨k, hk1, hk2, hkq, hno, hG, hX⟩ := hrel
    have HNo := hid hno
    have HG := hid hG
    have HX := hid hX
    have f0 := hG.flds.1
    have f1 := hG.flds.2.1
    have z1 := hG.froz 1
    clear hno hX
    have HF : Hid (∀ m, (ndAt G.ns k).c = 0 → GPost w p { G with le := fr G } B (.int .i64 (fr G)) (.returned (.int .i64 k)) (wr.drewN m)) := fun m hc => by
      rw [HE.out k hk1 HNo.out hc]
      refine ⟨rfl, ⟨_, _, _, HG.out.keepD (B := B) (by have := HT.out; rw [← HN.out] at this; exact this) (Ext.drewN [] _ _), (by have := HT.out; rw [← HN.out] at this; exact this.mono (fun _ q => .inl q))⟩, HX.out.trans (C := B) (Fx.of_ext0 (Ext.drewN [] _ _)) (fun _ q => .inl q)⟩
    by_cases hlt : k < n
    · obtain ⟨g, c, hv, hc, hgp, hgl, c0, c1, c2, cf⟩ := hG.node (i := k) (by simp only; rw [← HN.out]; exact hlt)
      simp only [Value.slice.injEq] at hv
      obtain ⟨rfl, hnn, rfl⟩ := hv
      clear hnn
      simp only at c0
      have hil : (k : Int) < n := by omega
      have hd1 : decide ((k : Int) < n) = true := by simp [hlt]
      have hd2 : decide (k < n) = true := by simp [hlt]
      clear hG c1 c2 cf hc
      by_cases hc0 : (ndAt G.ns k).c = 0
      · have HF1 := hid (fun m => HF.out m hc0)
        have hb : (((ndAt G.ns k).c : Int) != 0) = false := by simp [hc0]
        clear HF hc0
        generalize (ndAt G.ns k).c = cc at *
        go_wp2_with fail
        go_quiet (fail)
        go_wp2_with fail
        go_ret
        exact HF1.out _
      · have hb : (((ndAt G.ns k).c : Int) != 0) = true := by simp; omega
        have HM : Hid (∀ m, Gm ((wr.drewN m).setCell ⟨p, 1, none⟩ (.int .i64 ((k : Int) + 1))) p (.slice (some ⟨g, 0, none⟩) n cn) vl SV { G with le := k + 1 }) := fun m => by
          have h0 := HG.out.keepD (B := B) (by have := HT.out; rw [← HN.out] at this; exact this) (Ext.drewN [] wr m)
          exact h0.fld 1 (.int .i64 ((k : Int) + 1)) { G with le := k + 1 } rfl rfl rfl
        have HNo2 : Hid (∀ i, G.le ≤ i → i < k + 1 → (ndAt G.ns i).c ≠ 0) := fun i h1 h2 => by
          by_cases e : i = k
          · rw [e]; exact hc0
          · exact HNo.out i h1 (by omega)
        clear HF hc0 HG HNo
        generalize (ndAt G.ns k).c = cc at *
        cases gk with
        | zero => omega
        | succ q =>
          go_wp2_with fail
          go_quiet (fail)
          go_wp2_with fail
          go_roundg q
          case measure => omega
          case rel => exact ⟨k + 1, by omega, by omega, by omega, HNo2.out, HM.out _, HX.out.trans (C := B) (Fx.of_ext (S := [p]) ((Ext.drewN [p] wr _).trans (Ext.setCell [p] _ _ _ (by simp))) (by simp; exact .inl HT.out.p)) (fun _ q => .inl q)⟩
    · obtain rfl : k = n := by omega
      have hc0 : (ndAt G.ns k).c = 0 := by rw [HN.out, ndAt_out (Nat.le_refl _)]; rfl
      have HF1 := hid (fun m => HF.out m hc0)
      have hd1 : decide ((k : Int) < k) = false := by simp
      clear HF hc0 hG HG
      go_wp2_with fail
      go_quiet (fail)
      go_wp2_with fail
      go_ret
      exact HF1.out _

theorem info154 : (Tryz.prog.info? 154).map (fun i => (i.zero, i.size, i.bytes)) = some (some (.agg #[.int .i64 0, .slice none 0 0, .int .i64 0]), 3, 40) := by kernel_rfl

/-- The graph ahead of the node's laying. -/
def pre (G : Gs) : Gs := { G with le := fr G, ns := if fr G = G.ns.length then G.ns ++ [nz] else G.ns }
theorem node_pre {G : Gs} (hf : fr G ≠ 65536) (m : Nat) : nodeG G m = { pre G with ns := (pre G).ns.set (fr G) ⟨3, List.replicate m (-1), 0⟩ } := by simp only [nodeG, hf, if_false, pre]
theorem pre_lt {G : Gs} (h : G.le ≤ G.ns.length) : fr G < (pre G).ns.length := by
  have := (fr_le h).2
  simp only [pre]
  split <;> simp <;> omega

theorem node_fin {w W1 W2 : World} {p g c m gq : Nat} {G : Gs} {B : Nat → Prop} {vl : Value} {SV : List Value} (hle : G.le ≤ G.ns.length) (hf : fr G ≠ 65536) (h1 : Gm W1 p (.slice (some ⟨g, 0, none⟩) (pre G).ns.length c) vl SV (pre G)) (ft : Ft (Nw B w) p (.slice (some ⟨g, 0, none⟩) (pre G).ns.length c) vl SV) (hX : Fx B w W1)
    (hE : Ext [] W1 W2) (hq : W1.heap.size ≤ gq) (hr : W2.heap[gq]? = some (.cells (List.replicate m (Value.int .i64 (-1))).toArray 3 (0, 0))) :
    GPost w p (nodeG G m) B (.tuple #[.int .i64 (fr G : Nat), .int .i64 0]) (.returned (.tuple #[.int .i64 (fr G : Nat), .int .i64 0])) (((W2.setCell ⟨g, fr G * 3, none⟩ (.int .i64 3)).setCell ⟨g, fr G * 3 + 1, none⟩ (.slice (some ⟨gq, 0, none⟩) m m)).setCell ⟨g, fr G * 3 + 2, none⟩ (.int .i64 0)) := by
  have h2 := h1.keepD ft hE
  have h3 := h2.setn (fr G) ⟨3, List.replicate m (-1), 0⟩ (.slice (some ⟨gq, 0, none⟩) m m) (pre_lt hle) (.inr ⟨gq, by simp, by simpa using hr⟩) (fun k hk => by
    simp [Value.ownBlock] at hk
    subst hk
    refine ⟨fun q => ?_, fun j q => ?_⟩
    · have := h1.lin.lt _ q; omega
    · have := (h1.slAll j).lt _ q; omega)
  rw [node_pre hf]
  have hXs := hX.size
  refine ⟨rfl, ⟨_, _, _, h3, ft.p, ft.n, ft.l, fun j k => ?_⟩, ?_⟩
  · rw [svAt_set (by rw [h1.svl]; exact pre_lt hle)]
    split
    · intro q; simp [Value.ownBlock] at q; subst q; exact .inr (by omega)
    · exact ft.s j k
  · refine (hX.trans (C := Nw B w) (Fx.of_ext0 hE) (fun k q => q)).trans (C := Nw B w) (Fx.of_ext (S := [g]) (((Ext.setCell [g] W2 _ _ (by simp)).trans (Ext.setCell [g] _ _ _ (by simp))).trans (Ext.setCell [g] _ _ _ (by simp))) (by simp; exact .inl (ft.n g rfl))) (fun k q => q)

set_option maxHeartbeats 4000000 in
theorem node_any (p : Nat) (G : Gs) (B : Nat → Prop) (x : Int) (w : World) (h : Gr w p G B) (hI : Iv G) :
    Calls Tryz.prog 68 #[.pointer (some ⟨p, 0, none⟩), .int .i64 x] w (GPost w p (node G x).1 B (.tuple #[.int .i64 (node G x).2.1, .int .i64 (node G x).2.2])) := by
  have hlen := hI.len
  have hle := hI.le
  by_cases hx : x < 0
  · rw [show node G x = (G, 0, 2) by simp [node, hx]]
    have HF := hid (gr_same h (.tuple #[.int .i64 0, .int .i64 2]))
    clear h hI
    go_enter Tryz.func68, Tryz.ntmps68
    go_wp2_with fail
    go_ret2
    exact HF.out
  by_cases hx2 : 8192 < x
  · rw [show node G x = (G, 0, 2) by simp [node, hx2]]
    have HF := hid (gr_same h (.tuple #[.int .i64 0, .int .i64 2]))
    clear h hI
    go_enter Tryz.func68, Tryz.ntmps68
    go_wp2_with fail
    go_ret2
    exact HF.out
  obtain ⟨m, rfl⟩ : ∃ m : Nat, x = m := ⟨x.toNat, by omega⟩
  have K := free_any p G B w h hle hlen
  have hfl := fr_le hle
  by_cases hf : fr G = 65536
  · rw [show node G m = ({ G with le := fr G }, 0, 7) by simp only [node, nodeG]; rw [if_neg (by omega), if_pos hf, if_pos hf]]
    have hf' : ((fr G : Int) == 65536) = true := by simp [hf]
    clear h hI hf
    go_enter Tryz.func68, Tryz.ntmps68
    go_wp2_with fail
    refine K.mono ?_
    clear K
    rintro e w1 ⟨rfl, hG, hX⟩
    have HG := hid hG
    have HX := hid hX
    clear hG hX
    go_wp2_with fail
    go_ret2
    exact ⟨rfl, HG.out, HX.out⟩
  · rw [show node G m = (nodeG G m, (fr G : Int), 0) by simp only [node]; rw [if_neg (by omega), if_neg hf]; simp]
    have hf' : ((fr G : Int) == 65536) = false := by simp; omega
    have HFin : Hid (∀ {W1 W2 : World} {g c gq : Nat} {vl : Value} {SV : List Value}, Gm W1 p (.slice (some ⟨g, 0, none⟩) (pre G).ns.length c) vl SV (pre G) → Ft (Nw B w) p (.slice (some ⟨g, 0, none⟩) (pre G).ns.length c) vl SV → Fx B w W1 → Ext [] W1 W2 → W1.heap.size ≤ gq → W2.heap[gq]? = some (.cells (List.replicate m (Value.int .i64 (-1))).toArray 3 (0, 0)) →
      GPost w p (nodeG G m) B (.tuple #[.int .i64 (fr G : Nat), .int .i64 0]) (.returned (.tuple #[.int .i64 (fr G : Nat), .int .i64 0])) (((W2.setCell ⟨g, fr G * 3, none⟩ (.int .i64 3)).setCell ⟨g, fr G * 3 + 1, none⟩ (.slice (some ⟨gq, 0, none⟩) m m)).setCell ⟨g, fr G * 3 + 2, none⟩ (.int .i64 0))) := fun h1 ft hX hE hq hr => node_fin hle hf h1 ft hX hE hq hr
    have hplt := pre_lt hle
    have HP : Hid ((pre G).le = fr G ∧ (pre G).ns = if fr G = G.ns.length then G.ns ++ [nz] else G.ns) := ⟨rfl, rfl⟩
    have HPre : Hid (pre G = { G with le := fr G, ns := if fr G = G.ns.length then G.ns ++ [nz] else G.ns }) := rfl
    have hm : m ≤ 8192 := by omega
    have hpl2 : (pre G).ns.length ≤ 65536 := by
      simp only [pre]
      split
      · simp; omega
      · exact hlen
    clear h hI
    go_enter Tryz.func68, Tryz.ntmps68
    go_wp2_with fail
    refine K.mono ?_
    clear K
    rintro e w1 ⟨rfl, ⟨vn, vl, SV, hm1, ft⟩, hX⟩
    have f0 := hm1.flds.1
    obtain ⟨an, cn, rfl, hcn⟩ := own_slice hm1.row
    simp only at f0 hcn
    by_cases hfe : fr G = G.ns.length
    · have hfe' : ((fr G : Int) == (G.ns.length : Int)) = true := by simp [hfe]
      have hpe : pre G = { G with le := fr G, ns := G.ns ++ [nz] } := by rw [HPre.out, if_pos hfe]
      have z0 := hm1.froz 0
      obtain ⟨i72, hi72, hz72, hs72, hy72⟩ := info_parts info154
      have hEa := Ext.alloc [] w1 (.cells #[.int .i64 0, .slice none 0 0, .int .i64 0] 154)
      obtain ⟨v', w2, hr, ho2, hg2, _, hat⟩ := run_append_own_at (P := Tryz.prog) (w1.alloc (.cells #[.int .i64 0, .slice none 0 0, .int .i64 0] 154)) 0 72 72 154 i72 _ 3 40 Tryz.underlying72 hi72 hz72 hs72 hy72 rfl (by decide) _ _ _ (own_keep0 hm1.row hEa) ⟨w1.heap.size, 0, none⟩ 1 1 [.int .i64 0, .slice none 0 0, .int .i64 0] rfl (fun j u hu => by rw [Addr.add_lit, cell_of_row _ _ _ _ _ _ (heap_alloc_new w1 _), Nat.zero_add, ← hu]; simp) (by simp [Value.oneCell']) (by unfold maxLen; simp only; omega) (by simp only; omega) (Nat.zero_le _)
      have hX2 := ext_grown hg2
      have hE12 : Ext (Value.slice an G.ns.length cn).ownBlock.toList w1 w2 := (hEa.mono (by simp)).trans hX2
      simp only at ho2
      rw [show ncs G.ns SV ++ [Value.int .i64 0, .slice none 0 0, .int .i64 0] = ncs (G.ns ++ [nz]) (SV ++ [.slice none 0 0]) by rw [ncs_snoc _ _ _ _ hm1.svl]; rfl] at ho2
      have hm2 := hm1.rown (G := { G with le := fr G }) hE12 ho2
      have hb2 : w2.heap[p]? = _ := hE12.keep hm1.blk (by simpa using hm1.np)
      have k0 : w2.cell? ⟨p, 0, none⟩ = some (.slice an G.ns.length cn) := by rw [cell_of_row _ _ _ _ _ _ hb2]; rfl
      have zz : w2.frozen? ⟨p, 0, none⟩ = false := frozen_of_row _ _ _ _ _ hb2
      obtain ⟨g, c2, rfl, _⟩ := ho2.form (by omega)
      rw [← hpe] at hm2
      have hpn : (pre G).ns.length = G.ns.length + 1 := by rw [hpe]; simp
      have HM : Hid (Gm (w2.setCell ⟨p, 0, none⟩ (.slice (some ⟨g, 0, none⟩) (G.ns.length + 1) c2)) p (.slice (some ⟨g, 0, none⟩) (pre G).ns.length c2) vl (SV ++ [.slice none 0 0]) (pre G)) := by rw [hpn]; exact hm2
      have HT : Hid (Ft (Nw B w) p (.slice (some ⟨g, 0, none⟩) (pre G).ns.length c2) vl (SV ++ [.slice none 0 0])) := by
        refine ⟨ft.p, fun k hk => ?_, ft.l, fun j k hk => ?_⟩
        · simp [Value.ownBlock] at hk
          subst hk
          rcases hat with q | q
          · exact ft.n g (by rw [← q]; rfl)
          · simp [Value.ownBlock] at q
            have := hX.size
            exact .inr (by omega)
        · by_cases q : j < SV.length
          · refine ft.s j k ?_
            rw [← hk]; simp [svAt, List.getD, List.getElem?_append_left q]
          · exfalso
            by_cases e : j = SV.length
            · subst e; simp [svAt, List.getD, Value.ownBlock] at hk
            · rw [svAt_out (by simp; omega)] at hk; simp [Value.ownBlock] at hk
      have HXX : Hid (Fx B w (w2.setCell ⟨p, 0, none⟩ (.slice (some ⟨g, 0, none⟩) (G.ns.length + 1) c2))) := by
        refine hX.trans (C := Nw B w) (Fx.of_ext (S := p :: (Value.slice an G.ns.length cn).ownBlock.toList) ((hE12.mono (by simp; intro a ha; exact .inr ha)).trans (Ext.setCell _ _ _ _ (by simp))) ?_) (fun k q => q)
        intro k hk
        simp only [List.mem_cons, Option.mem_toList] at hk
        rcases hk with rfl | hk
        · exact .inl ft.p
        · exact .inl (ft.n k hk)
      have hlt : (fr G : Int) < ((G.ns.length + 1 : Nat) : Int) := by omega
      have hbnd : G.ns.length < 65536 := by omega
      clear hm1 hm2 ft hX hEa ho2 hg2 hat hX2 hE12 hb2 hi72 hz72 hs72 hy72 hpe HP HPre hpn hfe
      go_upto_region 8 with (at_builtin; refine wpList_append_run rfl _ _ 72 rfl _ _ _ rfl rfl hr ?_)
      generalize hW1 : w2.setCell ⟨p, 0, none⟩ _ = W1 at *
      clear hW1 hr k0 zz f0 z0
      obtain ⟨f0, _⟩ := HM.out.flds
      obtain ⟨g', c', hv, hc, hgp, hgl, c0, c1, c2', cf⟩ := HM.out.node hplt
      simp only [Value.slice.injEq, Option.some.injEq, Addr.mk.injEq, and_true, true_and] at hv
      obtain ⟨rfl, rfl⟩ := hv
      have cf0 := cf (fr G * 3)
      have cf1 := cf (fr G * 3 + 1)
      have cf2 := cf (fr G * 3 + 2)
      have hlt2 : (fr G : Int) < (pre G).ns.length := by omega
      have hpW : p < W1.heap.size := lt_of_heap HM.out.blk
      generalize svAt _ (fr G) = sv0 at *
      generalize (ndAt (pre G).ns (fr G)).c = cc0 at *
      generalize (ndAt (pre G).ns (fr G)).k = kk0 at *
      have HFin2 := hid (fun (W2 : World) (gq : Nat) (hE : Ext [] W1 W2) (hq : W1.heap.size ≤ gq) (hr : W2.heap[gq]? = some (.cells (List.replicate m (Value.int .i64 (-1))).toArray 3 (0, 0))) => HFin.out HM.out HT.out HXX.out hE hq hr)
      have KR := repeat_any W1.heap.size m (W1.alloc (.cells #[.int .i64 (-1)] 3)).drew (cell_of_row _ W1.heap.size 0 _ _ _ (heap_alloc_new W1 (.cells #[.int .i64 (-1)] 3))) (by omega)
      have hEW : Ext [] W1 (W1.alloc (.cells #[.int .i64 (-1)] 3)).drew := (Ext.alloc [] _ _).trans (Ext.drew [] _)
      clear HM HT HXX HFin cf hc
      generalize (pre G).ns.length = n1 at *
      generalize fr G = fn at *
      have HC : Hid (∀ W2, Ext [] (W1.alloc (.cells #[.int .i64 (-1)] 3)).drew W2 → W2.cell? ⟨g, fn * 3, none⟩ = some (.int .i64 cc0) ∧ W2.cell? ⟨g, fn * 3 + 1, none⟩ = some sv0 ∧ W2.cell? ⟨g, fn * 3 + 2, none⟩ = some (.int .i64 kk0) ∧ W2.frozen? ⟨g, fn * 3, none⟩ = false ∧ W2.frozen? ⟨g, fn * 3 + 1, none⟩ = false ∧ W2.frozen? ⟨g, fn * 3 + 2, none⟩ = false) := fun W2 hE2 => by
        have hE3 := hEW.trans hE2
        have hbk := hE3.block g hgl (by simp)
        exact ⟨hE3.cell c0 (by simp), hE3.cell c1 (by simp), hE3.cell c2' (by simp), (World.frozen?_of_block (a := ⟨g, fn * 3, none⟩) hbk).trans cf0, (World.frozen?_of_block (a := ⟨g, fn * 3 + 1, none⟩) hbk).trans cf1, (World.frozen?_of_block (a := ⟨g, fn * 3 + 2, none⟩) hbk).trans cf2⟩
      go_region_held3 (fun w' => w'.cell? ⟨p, 0, none⟩ = some (.slice (some ⟨g, 0, none⟩) n1 c2))
        (first | exact hE2.cell (hEW.cell f0 (by simp)) (by simp) | go_keep)
        (first | (go_at_call 101; refine KR.mono ?_; rintro e W2 ⟨gq, rfl, hgq, hrow, hE2⟩; obtain ⟨d0, d1, d2, e0, e1, e2⟩ := HC.out W2 hE2) | fail "no arm")
      have HF := hid (HFin2.out W2 gq (hEW.trans hE2) (Nat.le_trans hEW.size hgq) hrow)
      clear hrow hE2 HFin2 HC d0 d1 d2 e0 e1 e2 hEW KR
      go_wp2_with fail
      go_ret2
      exact HF.out
    · have hfe' : ((fr G : Int) == (G.ns.length : Int)) = false := by simp; omega
      have hpe : pre G = { G with le := fr G } := by rw [HPre.out, if_neg hfe]
      have hpn : (pre G).ns.length = G.ns.length := by rw [hpe]
      obtain ⟨g, c2, hv, _⟩ := hm1.row.form (by simp only; omega)
      simp only [Value.slice.injEq, true_and] at hv
      obtain ⟨rfl, rfl⟩ := hv
      have HM : Hid (Gm w1 p (.slice (some ⟨g, 0, none⟩) (pre G).ns.length cn) vl SV (pre G)) := by rw [hpn, hpe]; exact hm1
      have HT : Hid (Ft (Nw B w) p (.slice (some ⟨g, 0, none⟩) (pre G).ns.length cn) vl SV) := by rw [hpn]; exact ft
      have HXX := hid hX
      rw [← hpn] at f0 hcn hfe'
      clear hm1 ft hX hpe HP HPre hfe hpn
      go_upto_region 8 with fail
      generalize hW1 : w1 = W1 at *
      clear hW1 f0
      obtain ⟨f0, _⟩ := HM.out.flds
      obtain ⟨g', c', hv, hc, hgp, hgl, c0, c1, c2', cf⟩ := HM.out.node hplt
      simp only [Value.slice.injEq, Option.some.injEq, Addr.mk.injEq, and_true, true_and] at hv
      obtain ⟨rfl, rfl⟩ := hv
      have cf0 := cf (fr G * 3)
      have cf1 := cf (fr G * 3 + 1)
      have cf2 := cf (fr G * 3 + 2)
      have hlt2 : (fr G : Int) < (pre G).ns.length := by omega
      have hpW : p < W1.heap.size := lt_of_heap HM.out.blk
      generalize svAt _ (fr G) = sv0 at *
      generalize (ndAt (pre G).ns (fr G)).c = cc0 at *
      generalize (ndAt (pre G).ns (fr G)).k = kk0 at *
      have HFin2 := hid (fun (W2 : World) (gq : Nat) (hE : Ext [] W1 W2) (hq : W1.heap.size ≤ gq) (hr : W2.heap[gq]? = some (.cells (List.replicate m (Value.int .i64 (-1))).toArray 3 (0, 0))) => HFin.out HM.out HT.out HXX.out hE hq hr)
      have KR := repeat_any W1.heap.size m (W1.alloc (.cells #[.int .i64 (-1)] 3)).drew (cell_of_row _ W1.heap.size 0 _ _ _ (heap_alloc_new W1 (.cells #[.int .i64 (-1)] 3))) (by omega)
      have hEW : Ext [] W1 (W1.alloc (.cells #[.int .i64 (-1)] 3)).drew := (Ext.alloc [] _ _).trans (Ext.drew [] _)
      clear HM HT HXX HFin cf hc
      generalize (pre G).ns.length = n1 at *
      generalize fr G = fn at *
      have HC : Hid (∀ W2, Ext [] (W1.alloc (.cells #[.int .i64 (-1)] 3)).drew W2 → W2.cell? ⟨g, fn * 3, none⟩ = some (.int .i64 cc0) ∧ W2.cell? ⟨g, fn * 3 + 1, none⟩ = some sv0 ∧ W2.cell? ⟨g, fn * 3 + 2, none⟩ = some (.int .i64 kk0) ∧ W2.frozen? ⟨g, fn * 3, none⟩ = false ∧ W2.frozen? ⟨g, fn * 3 + 1, none⟩ = false ∧ W2.frozen? ⟨g, fn * 3 + 2, none⟩ = false) := fun W2 hE2 => by
        have hE3 := hEW.trans hE2
        have hbk := hE3.block g hgl (by simp)
        exact ⟨hE3.cell c0 (by simp), hE3.cell c1 (by simp), hE3.cell c2' (by simp), (World.frozen?_of_block (a := ⟨g, fn * 3, none⟩) hbk).trans cf0, (World.frozen?_of_block (a := ⟨g, fn * 3 + 1, none⟩) hbk).trans cf1, (World.frozen?_of_block (a := ⟨g, fn * 3 + 2, none⟩) hbk).trans cf2⟩
      go_region_held3 (fun w' => w'.cell? ⟨p, 0, none⟩ = some (.slice (some ⟨g, 0, none⟩) n1 cn))
        (first | exact hE2.cell (hEW.cell f0 (by simp)) (by simp) | go_keep)
        (first | (go_at_call 101; refine KR.mono ?_; rintro e W2 ⟨gq, rfl, hgq, hrow, hE2⟩; obtain ⟨d0, d1, d2, e0, e1, e2⟩ := HC.out W2 hE2) | fail "no arm")
      have HF := hid (HFin2.out W2 gq (hEW.trans hE2) (Nat.le_trans hEW.size hgq) hrow)
      clear hrow hE2 HFin2 HC d0 d1 d2 e0 e1 e2 hEW KR
      go_wp2_with fail
      go_ret2
      exact HF.out

end Go.Proofs.YtjbbomokgpoilaaGreatDoor.Co
