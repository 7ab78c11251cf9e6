/-
  The reference's Set; no statement is proved here.
-/
import Derived.Test.YtbjplfbplkjibaaRShade
namespace Go.Proofs.Ytbjplfbplkjibaa
open Go.RowKit

/-- A node's color is another. -/
theorem Rm.col {w : World} {p : Nat} {vl : Value} {KV SV : List Value} {G : Gs} {g c : Nat} (h : Rm w p (.slice (some ⟨g, 0, none⟩) G.ns.length c) vl KV SV G) (i : Nat) (y : Nd) (hi : i < G.ns.length) (hy : y.c ≠ 4 → (ndAt G.ns i).c ≠ 4 ∧ y.s = (ndAt G.ns i).s ∧ y.k = (ndAt G.ns i).k) :
    Rm (w.setCell ⟨g, i * 3, none⟩ (.int .i64 y.c)) p (.slice (some ⟨g, 0, none⟩) G.ns.length c) vl KV SV { G with ns := G.ns.set i y } := by
  have hr := (h.row.stored (i * 3) (.int .i64 y.c)).1
  rw [tri_set0 _ _ _ _ _ (by rw [cols_len]; exact h.kvl) (by rw [cols_len]; exact h.svl)] at hr
  refine h.cells (l := G.ns.set i y) (Ext.setCell [g] w _ _ (by simp)) (by simp) h.kvl (by rw [cols_set]; exact hr) (fun j hj => ?_) (fun j hj hc => ?_)
  · obtain ⟨q, h1, h2⟩ := h.kvo j hj
    refine ⟨q, h1, ?_⟩
    rw [ndAt_set hi]
    split
    · rename_i e; subst e
      intro hc
      rw [(hy hc).2.2]; exact h2 (hy hc).1
    · exact h2
  · rw [ndAt_set hi] at hc ⊢
    split
    · rename_i e; subst e; rw [if_pos rfl] at hc; exact ⟨(hy hc).1, (hy hc).2.1⟩
    · rename_i e; rw [if_neg e] at hc; exact ⟨hc, rfl⟩
/-- How far a node was looked at is another. -/
theorem Rm.look {w : World} {p : Nat} {vl : Value} {KV SV : List Value} {G : Gs} {g c : Nat} (h : Rm w p (.slice (some ⟨g, 0, none⟩) G.ns.length c) vl KV SV G) (i b : Nat) (hi : i < G.ns.length) (hc4 : (ndAt G.ns i).c ≠ 4) :
    Rm (w.setCell ⟨g, i * 3 + 1, none⟩ (.int .i64 b)) p (.slice (some ⟨g, 0, none⟩) G.ns.length c) vl (KV.set i (.int .i64 b)) SV { G with ns := G.ns.set i ⟨(ndAt G.ns i).c, (ndAt G.ns i).s, b⟩ } := by
  have hr := (h.row.stored (i * 3 + 1) (.int .i64 b)).1
  rw [tri_set1 _ _ _ _ _ (by rw [cols_len]; exact h.kvl) (by rw [cols_len]; exact h.svl)] at hr
  have hcol : cols (G.ns.set i ⟨(ndAt G.ns i).c, (ndAt G.ns i).s, b⟩) = cols G.ns := by
    rw [cols_set]
    refine set_self ?_
    rw [cols_get hi]
  refine h.cells (l := G.ns.set i ⟨(ndAt G.ns i).c, (ndAt G.ns i).s, b⟩) (Ext.setCell [g] w _ _ (by simp)) (by simp) (by simpa using h.kvl) (by rw [hcol]; exact hr) (fun j hj => ?_) (fun j hj hc => ?_)
  · rw [kvAt_set (by rw [h.kvl]; exact hi), ndAt_set hi]
    split
    · exact ⟨b, rfl, fun _ => rfl⟩
    · exact h.kvo j hj
  · rw [ndAt_set hi] at hc ⊢
    split
    · rename_i e; subst e; exact ⟨hc4, rfl⟩
    · rename_i e; rw [if_neg e] at hc; exact ⟨hc, rfl⟩

/-- A live node's slots, as a walk reads them. -/
theorem Rm.slots {w : World} {p : Nat} {vn vl : Value} {KV SV : List Value} {G : Gs} (h : Rm w p vn vl KV SV G) {i : Nat} (hi : i < G.ns.length) (hc : (ndAt G.ns i).c ≠ 4) : Lo w (svAt SV i) (ndAt G.ns i).s := by
  obtain ⟨s, h1, h2⟩ := h.slo i hi
  rw [← h2 hc]; exact h1

set_option maxHeartbeats 2000000 in
theorem rset_any (p : Nat) (G : Gs) (B : Nat → Prop) (n j x : Int) (w : World) (h : Rg w p G B) (hI : Iv G) : Calls Try.prog 15 #[.pointer (some ⟨p, 0, none⟩), .int .i64 n, .int .i64 j, .int .i64 x] w (RPost w p (set G n j x).1 B (.int .i64 (set G n j x).2)) := by
  have K := rlive_any p G B n w h hI.len hI.col
  have K2 := rlive_any p G B x w h hI.len hI.col
  have hlln := hI.lln
  have hlen := hI.len
  cases hb : lvB G n
  · rw [hb] at K
    have HF := hid (rg_same h (.int .i64 4))
    rw [show set G n j x = (G, 4) by simp [set, hb]]
    clear h hb hI K2
    go_enter Try.func15, Try.ntmps15
    go_wp2_with (go_at_call 28; refine met K ?_)
    go_ret
    exact HF.out
  · rw [hb] at K
    obtain ⟨hn0, hl⟩ := lvB_iff.1 hb
    obtain ⟨i, rfl⟩ : ∃ i : Nat, n = i := ⟨n.toNat, by omega⟩
    simp only [Int.toNat_natCast] at hl
    have hi := lvN_lt hl
    by_cases hx : x ≠ -1 ∧ lvB G x = false
    · have HF := hid (rg_same h (.int .i64 4))
      rw [show set G i j x = (G, 4) by simp only [set, hb]; rw [if_neg (by simp), if_pos hx]]
      rw [hx.2] at K2
      have hx1 : (x != -1) = true := by simpa using hx.1
      clear h hb hI hx hl
      go_enter Try.func15, Try.ntmps15
      go_wp2_with (first | (go_at_call 28; (with_reducible refine met K ?_)) | (go_at_call 28; (with_reducible refine met K2 ?_)))
      go_ret
      exact HF.out
    · have hx' : x = -1 ∨ lvB G x = true := by
        by_cases q : x = -1
        · exact .inl q
        · right
          simp only [ne_eq, q, not_false_eq_true, true_and, Bool.not_eq_false] at hx
          exact hx
      have hRg := h
      obtain ⟨vn, vl, KV, SV, hm, ft⟩ := h
      obtain ⟨g, c, rfl, hc, hgp, hgl, _, _, c1, _⟩ := hm.node hi
      obtain ⟨f0, _⟩ := hm.flds
      have hil : (i : Int) < G.ns.length := by omega
      have hLo := hm.slots hi hl.2
      obtain ⟨sa, sc, hsv, hsc⟩ := own_slice hLo
      have hsl := hI.sl i
      rw [hsv] at c1
      by_cases hj : j < 0 ∨ ((ndAt G.ns i).s.length : Int) ≤ j
      · have HF := hid (rg_same hRg (.int .i64 5))
        rw [show set G i j x = (G, 5) by simp only [set, hb, Int.toNat_natCast]; rw [if_neg (by simp), if_neg hx, if_pos hj]]
        clear hRg hm ft hb hI hl hLo hsv hx hsc
        generalize (ndAt G.ns i).s.length = ls at *
        generalize G.ns.length = n at *
        rcases hx' with rfl | hx'
        · clear K2
          rcases hj with hj | hj
          · go_enter Try.func15, Try.ntmps15
            go_wp2_with (go_at_call 28; refine met K ?_)
            go_ret
            exact HF.out
          · have hj0 : ¬ j < 0 := by omega
            go_enter Try.func15, Try.ntmps15
            go_wp2_with (go_at_call 28; refine met K ?_)
            go_ret
            exact HF.out
        · rw [hx'] at K2
          have hx1 : (x != -1) = true := by
            have := (lvB_iff.1 hx').1
            simp; omega
          clear hx'
          rcases hj with hj | hj
          · go_enter Try.func15, Try.ntmps15
            go_wp2_with (first | (go_at_call 28; (with_reducible refine met K ?_)) | (go_at_call 28; (with_reducible refine met K2 ?_)))
            go_ret
            exact HF.out
          · have hj0 : ¬ j < 0 := by omega
            go_enter Try.func15, Try.ntmps15
            go_wp2_with (first | (go_at_call 28; (with_reducible refine met K ?_)) | (go_at_call 28; (with_reducible refine met K2 ?_)))
            go_ret
            exact HF.out
      · obtain ⟨q, rfl⟩ : ∃ q : Nat, j = q := ⟨j.toNat, by omega⟩
        have hq : q < (ndAt G.ns i).s.length := by omega
        have HS : Hid (set G i q x = (setG G i q x, 0)) := by
          show _ = _
          simp only [set, hb, Int.toNat_natCast]
          rw [if_neg (by simp), if_neg hx, if_neg hj]
        obtain ⟨gs, cap, hform⟩ : ∃ gs cap, svAt SV i = .slice (some ⟨gs, 0, none⟩) (ndAt G.ns i).s.length cap := by
          rcases hLo.2 with ⟨_, h0⟩ | ⟨g', cap, cur, r, _⟩
          · omega
          · exact ⟨g', cap, r⟩
        rw [hsv] at hform
        simp only [Value.slice.injEq, true_and] at hform
        obtain ⟨rfl, rfl⟩ := hform
        have hcl : ∀ {w2 : World}, w2.ownsRow 0 3 1 (svAt SV i) (ndAt G.ns i).s.length ((ndAt G.ns i).s.map (Value.int .i64)) → w2.cell? ⟨gs, q, none⟩ = some (.int .i64 ((ndAt G.ns i).s.getD q 0)) ∧ w2.frozen? ⟨gs, q, none⟩ = false := fun {w2} ho => by
          rw [hsv] at ho
          refine ⟨?_, ho.frozenAt q⟩
          rw [World.ownsRow.cellAt ho q (by simpa using hq)]
          simp [hq]
        have cs := (hcl hLo).1
        have hold : (ndAt G.ns i).s.getD q 0 ∈ (ndAt G.ns i).s := by simp [List.getD, hq]
        have hold2 := hI.cl i hl _ hold
        have KA := rshade_gm p G B ((ndAt G.ns i).s.getD q 0) w _ _ _ _ hm ft (by
          rcases hold2 with r | r
          · exact .inl r
          · exact .inr ⟨(lvB_iff.1 r).1, lvN_lt (lvB_iff.1 r).2⟩) (by omega) hlen (idle_w hI)
        have HB : Hid (∀ w1, (∃ vl' KV', Rm w1 p (.slice (some ⟨g, 0, none⟩) G.ns.length c) vl' KV' SV (sh G ((ndAt G.ns i).s.getD q 0)) ∧ Ft (Nw B w) p (.slice (some ⟨g, 0, none⟩) G.ns.length c) vl' SV) → Fx B w w1 →
            Calls Try.prog 34 #[.pointer (some ⟨p, 0, none⟩), .int .i64 x] w1 (fun e w2 => e = .returned (.tuple #[]) ∧ w2.cell? ⟨p, 0, none⟩ = some (.slice (some ⟨g, 0, none⟩) G.ns.length c) ∧ w2.cell? ⟨g, i * 3 + 2, none⟩ = some (.slice (some ⟨gs, 0, none⟩) (ndAt G.ns i).s.length sc) ∧ (∃ u, w2.cell? ⟨gs, q, none⟩ = some (.int .i64 u)) ∧ w2.frozen? ⟨gs, q, none⟩ = false ∧ RPost w p (setG G i q x) B (.int .i64 0) (.returned (.int .i64 0)) (w2.setCell ⟨gs, q, none⟩ (.int .i64 x)))) := by
          rintro w1 ⟨vl1, KV1, h1, f1⟩ hX1
          have hI1 := iv_sh hI ((ndAt G.ns i).s.getD q 0)
          have hl1 := hI1.lln
          refine (rshade_gm p _ (Nw B w) x w1 _ _ _ _ h1 f1 ?_ (by rw [sh_len] at hl1; omega) (by rw [sh_len]; exact hlen) (idle_w hI1)).mono ?_
          · rcases hx' with r | r
            · exact .inl r
            · refine .inr ⟨(lvB_iff.1 r).1, ?_⟩
              rw [sh_len]; exact lvN_lt (lvB_iff.1 r).2
          · rintro e w2 ⟨rfl, ⟨vl2, KV2, h2, f2⟩, hX2⟩
            have hs2 : (ndAt (sh (sh G ((ndAt G.ns i).s.getD q 0)) x).ns i).s = (ndAt G.ns i).s := by rw [sh_s, sh_s]
            have hi2 : i < (sh (sh G ((ndAt G.ns i).s.getD q 0)) x).ns.length := by rw [sh_len, sh_len]; exact hi
            have hlv2 : lvN (sh (sh G ((ndAt G.ns i).s.getD q 0)) x) i := (sh_lv _ x i).2 ((sh_lv _ _ i).2 hl)
            have hLo2 := h2.slots hi2 hlv2.2
            rw [hs2] at hLo2
            obtain ⟨d0, d1⟩ := hcl hLo2
            obtain ⟨g', c', hv', _, _, _, _, _, e2, _⟩ := h2.node hi2
            rw [sh_len, sh_len] at hv'
            simp only [Value.slice.injEq, Option.some.injEq, Addr.mk.injEq, and_true, true_and] at hv'
            obtain ⟨rfl, rfl⟩ := hv'
            rw [hsv] at e2
            refine ⟨rfl, h2.flds.1, e2, ⟨_, d0⟩, d1, rfl, ⟨_, _, _, _, h2.slot i q x hi2 hlv2.2 (g := gs) (by rw [hsv]; rfl), f2.mono (nw_nw hX1.size)⟩, ?_⟩
            refine (hX1.trans hX2 (fun k r => r)).trans (C := fun k => k = gs) (Fx.of_ext (S := [gs]) (Ext.setCell [gs] w2 _ _ (by simp)) (by simp)) ?_
            rintro k rfl
            exact .inl (ft.s i _ (by rw [hsv]; rfl))
        have hqi : (q : Int) < (ndAt G.ns i).s.length := by omega
        clear hRg hm ft hb hI hl hLo hsv hx hold hold2 hj hcl
        generalize (ndAt G.ns i).s.getD q 0 = old at *
        generalize (ndAt G.ns i).s.length = ls at *
        generalize G.ns.length = nn at *
        rcases hx' with rfl | hx'
        · clear K2
          go_enter Try.func15, Try.ntmps15
          go_wp2_with (go_at_call 28; refine met K ?_)
          refine KA.mono ?_
          clear KA
          rintro e w1 ⟨rfl, hg1, hx1⟩
          have KB := HB.out w1 hg1 hx1
          clear HB hg1 hx1
          go_wp2_with fail
          refine KB.mono ?_
          clear KB
          rintro e w2 ⟨rfl, b0, b1, ⟨u, d0⟩, d1, hF⟩
          have HF := hid hF
          clear hF f0 c1 cs
          go_wp2_with fail
          go_ret
          rw [HS.out]
          exact HF.out
        · rw [hx'] at K2
          have hx1 : (x != -1) = true := by
            have := (lvB_iff.1 hx').1
            simp; omega
          clear hx'
          go_enter Try.func15, Try.ntmps15
          go_wp2_with (first | (go_at_call 28; (with_reducible refine met K ?_)) | (go_at_call 28; (with_reducible refine met K2 ?_)))
          refine KA.mono ?_
          clear KA
          rintro e w1 ⟨rfl, hg1, hx1⟩
          have KB := HB.out w1 hg1 hx1
          clear HB hg1 hx1
          go_wp2_with fail
          refine KB.mono ?_
          clear KB
          rintro e w2 ⟨rfl, b0, b1, ⟨u, d0⟩, d1, hF⟩
          have HF := hid hF
          clear hF f0 c1 cs
          go_wp2_with fail
          go_ret
          rw [HS.out]
          exact HF.out

end Go.Proofs.Ytbjplfbplkjibaa
