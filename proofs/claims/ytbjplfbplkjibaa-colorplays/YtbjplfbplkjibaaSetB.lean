/-
  The program's Set and Start; no statement is proved here.
-/
import Derived.Test.YtbjplfbplkjibaaSets
namespace Go.Proofs.Ytbjplfbplkjibaa
open Go.RowKit

theorem nw_nw {B : Nat → Prop} {w w1 : World} (h : w.heap.size ≤ w1.heap.size) : ∀ k, Nw (Nw B w) w1 k → Nw B w k := by
  rintro k (q | q)
  · exact q
  · exact .inr (by omega)

set_option maxHeartbeats 2000000 in
theorem set_any (p : Nat) (G : Gs) (B : Nat → Prop) (n j x : Int) (w : World) (h : Gr w p G B) (hI : Iv G) : Calls Try.prog 14 #[.pointer (some ⟨p, 0, none⟩), .int .i64 n, .int .i64 j, .int .i64 x] w (GPost w p (set G n j x).1 B (.int .i64 (set G n j x).2)) := by
  have K := fault_any p G B n w h hI.len
  have K2 := live_any p G B x w h hI.len
  have hlln := hI.lln
  have hlen := hI.len
  unfold fl at *
  cases hb : lvB G n
  · rw [hb] at K
    simp only [Bool.false_eq_true, if_false] at K
    have HF := hid (gr_same h (.int .i64 4))
    rw [show set G n j x = (G, 4) by simp [set, hb]]
    clear h hb hI K2
    go_enter Try.func14, Try.ntmps14
    go_wp2_with (go_at_call 31; refine met K ?_)
    go_ret
    exact HF.out
  · rw [hb] at K
    simp only [if_true] at K
    obtain ⟨hn0, hl⟩ := lvB_iff.1 hb
    obtain ⟨i, rfl⟩ : ∃ i : Nat, n = i := ⟨n.toNat, by omega⟩
    simp only [Int.toNat_natCast] at hl
    have hi := lvN_lt hl
    by_cases hx : x ≠ -1 ∧ lvB G x = false
    · have HF := hid (gr_same h (.int .i64 4))
      rw [show set G i j x = (G, 4) by simp only [set, hb]; rw [if_neg (by simp), if_pos hx]]
      rw [hx.2] at K2
      have hx1 : (x != -1) = true := by simpa using hx.1
      clear h hb hI hx hl
      go_enter Try.func14, Try.ntmps14
      go_wp2_with (first | (go_at_call 31; refine met K ?_) | (go_at_call 32; refine met K2 ?_))
      go_ret
      exact HF.out
    · have hx' : x = -1 ∨ lvB G x = true := by
        by_cases q : x = -1
        · exact .inl q
        · right
          simp only [ne_eq, q, not_false_eq_true, true_and, Bool.not_eq_false] at hx
          exact hx
      have hGr := h
      obtain ⟨vn, vl, SV, hm, ft⟩ := h
      obtain ⟨g, c, rfl, hc, hgp, hgl, _, c1, _, _⟩ := hm.node hi
      obtain ⟨f0, _⟩ := hm.flds
      have hil : (i : Int) < G.ns.length := by omega
      obtain ⟨sa, hsv, hIs⟩ := (hm.slo i hi).is
      have hsl := hI.sl i
      rw [hsv] at c1
      by_cases hj : j < 0 ∨ ((ndAt G.ns i).s.length : Int) ≤ j
      · have HF := hid (gr_same hGr (.int .i64 5))
        rw [show set G i j x = (G, 5) by simp only [set, hb, Int.toNat_natCast]; rw [if_neg (by simp), if_neg hx, if_pos hj]]
        clear hGr hm ft hb hI hl hIs hsv hx
        generalize (ndAt G.ns i).s.length = ls at *
        generalize G.ns.length = n at *
        rcases hx' with rfl | hx'
        · rcases hj with hj | hj
          · go_enter Try.func14, Try.ntmps14
            go_wp2_with (first | (go_at_call 31; refine met K ?_) | (go_at_call 32; refine met K2 ?_))
            go_ret
            exact HF.out
          · have hj0 : ¬ j < 0 := by omega
            go_enter Try.func14, Try.ntmps14
            go_wp2_with (first | (go_at_call 31; refine met K ?_) | (go_at_call 32; refine met K2 ?_))
            go_ret
            exact HF.out
        · rw [hx'] at K2
          have hx1 : (x != -1) = true := by
            have := (lvB_iff.1 hx').1
            simp; omega
          clear hx'
          rcases hj with hj | hj
          · go_enter Try.func14, Try.ntmps14
            go_wp2_with (first | (go_at_call 31; refine met K ?_) | (go_at_call 32; refine met K2 ?_))
            go_ret
            exact HF.out
          · have hj0 : ¬ j < 0 := by omega
            go_enter Try.func14, Try.ntmps14
            go_wp2_with (first | (go_at_call 31; refine met K ?_) | (go_at_call 32; refine met K2 ?_))
            go_ret
            exact HF.out
      · obtain ⟨q, rfl⟩ : ∃ q : Nat, j = q := ⟨j.toNat, by omega⟩
        have hq : q < (ndAt G.ns i).s.length := by omega
        have HS : Hid (set G i q x = (setG G i q x, 0)) := by
          show _ = _
          simp only [set, hb, Int.toNat_natCast]
          rw [if_neg (by simp), if_neg hx, if_neg hj]
        rcases hm.slo i hi with ⟨_, hs0⟩ | ⟨gs, hsv2, hrow⟩
        · rw [hs0] at hq; simp at hq
        rw [hsv] at hsv2
        simp only [Value.slice.injEq, and_true] at hsv2
        subst hsv2
        have cs : w.cell? ⟨gs, q, none⟩ = some (.int .i64 ((ndAt G.ns i).s.getD q 0)) := by
          rw [cell_of_row _ _ _ _ _ _ hrow]; simp [hq]
        have hold : (ndAt G.ns i).s.getD q 0 ∈ (ndAt G.ns i).s := by simp [List.getD, hq]
        have hold2 := hI.cl i hl _ hold
        have KA := shade_gm p G B ((ndAt G.ns i).s.getD q 0) w _ _ _ hm ft (by
          rcases hold2 with r | r
          · exact .inl r
          · exact .inr ⟨(lvB_iff.1 r).1, lvN_lt (lvB_iff.1 r).2⟩) (by omega) hlen
        have HB : Hid (∀ w1, (∃ vl', Gm w1 p (.slice (some ⟨g, 0, none⟩) G.ns.length c) vl' SV (sh G ((ndAt G.ns i).s.getD q 0)) ∧ Ft (Nw B w) p (.slice (some ⟨g, 0, none⟩) G.ns.length c) vl' SV) → Fx B w w1 →
            Calls Try.prog 33 #[.pointer (some ⟨p, 0, none⟩), .int .i64 x] w1 (fun e w2 => e = .returned (.tuple #[]) ∧ (∃ u, w2.cell? ⟨gs, q, none⟩ = some (.int .i64 u)) ∧ w2.frozen? ⟨gs, q, none⟩ = false ∧ GPost w p (setG G i q x) B (.int .i64 0) (.returned (.int .i64 0)) (w2.setCell ⟨gs, q, none⟩ (.int .i64 x)))) := by
          rintro w1 ⟨vl1, h1, f1⟩ hX1
          have hI1 := iv_sh hI ((ndAt G.ns i).s.getD q 0)
          have hl1 := hI1.lln
          refine (shade_gm p _ (Nw B w) x w1 _ _ _ h1 f1 ?_ (by rw [sh_len] at hl1; omega) (by rw [sh_len]; exact hlen)).mono ?_
          · rcases hx' with r | r
            · exact .inl r
            · refine .inr ⟨(lvB_iff.1 r).1, ?_⟩
              rw [sh_len]; exact lvN_lt (lvB_iff.1 r).2
          · rintro e w2 ⟨rfl, ⟨vl2, h2, f2⟩, hX2⟩
            have hs2 : (ndAt (sh (sh G ((ndAt G.ns i).s.getD q 0)) x).ns i).s = (ndAt G.ns i).s := by rw [sh_s, sh_s]
            have hi2 : i < (sh (sh G ((ndAt G.ns i).s.getD q 0)) x).ns.length := by rw [sh_len, sh_len]; exact hi
            have hr2 : w2.heap[gs]? = some (.cells (((ndAt G.ns i).s.map (Value.int .i64))).toArray 3 (0, 0)) := by
              rcases h2.slo i hi2 with ⟨r, _⟩ | ⟨g', r, r2⟩
              · rw [hsv] at r; simp at r
              · rw [hsv] at r; simp at r; rw [hs2] at r2; rw [r.1]; exact r2
            refine ⟨rfl, ⟨(ndAt G.ns i).s.getD q 0, by rw [cell_of_row _ _ _ _ _ _ hr2]; simp [hq]⟩, frozen_of_row _ _ _ _ _ hr2, rfl, ⟨_, _, _, h2.slot i q x hi2 (by rw [hs2]; exact hsv), f2.mono (nw_nw hX1.size)⟩, ?_⟩
            refine (hX1.trans hX2 (fun k r => r)).trans (C := fun k => k = gs) (Fx.of_ext (S := [gs]) (Ext.setCell [gs] w2 _ _ (by simp)) (by simp)) ?_
            rintro k rfl
            exact .inl (ft.s i _ (by rw [hsv]; rfl))
        have hqi : (q : Int) < (ndAt G.ns i).s.length := by omega
        clear hGr hm ft hb hI hl hIs hsv hx hrow hold hold2 hj
        generalize (ndAt G.ns i).s.getD q 0 = old at *
        generalize (ndAt G.ns i).s.length = ls at *
        generalize G.ns.length = nn at *
        rcases hx' with rfl | hx'
        · go_enter Try.func14, Try.ntmps14
          go_wp2_with (first | (go_at_call 31; refine met K ?_) | (go_at_call 32; refine met K2 ?_))
          refine KA.mono ?_
          clear KA
          rintro e w1 ⟨rfl, hg1, hx1⟩
          have KB := HB.out w1 hg1 hx1
          clear HB hg1 hx1
          go_wp2_with fail
          refine KB.mono ?_
          clear KB
          rintro e w2 ⟨rfl, ⟨u, d0⟩, d1, hF⟩
          have HF := hid hF
          clear hF
          go_wp2_with fail
          go_ret
          rw [HS.out]
          exact HF.out
        · rw [hx'] at K2
          have hx1 : (x != -1) = true := by
            have := (lvB_iff.1 hx').1
            simp; omega
          clear hx'
          go_enter Try.func14, Try.ntmps14
          go_wp2_with (first | (go_at_call 31; refine met K ?_) | (go_at_call 32; refine met K2 ?_))
          refine KA.mono ?_
          clear KA
          rintro e w1 ⟨rfl, hg1, hx1⟩
          have KB := HB.out w1 hg1 hx1
          clear HB hg1 hx1
          go_wp2_with fail
          refine KB.mono ?_
          clear KB
          rintro e w2 ⟨rfl, ⟨u, d0⟩, d1, hF⟩
          have HF := hid hF
          clear hF
          go_wp2_with fail
          go_ret
          rw [HS.out]
          exact HF.out

end Go.Proofs.Ytbjplfbplkjibaa
