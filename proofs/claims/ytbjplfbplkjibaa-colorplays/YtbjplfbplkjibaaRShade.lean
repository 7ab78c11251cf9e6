/-
  The reference's Live, shade, Slots, Color, Shade; no statement is proved here.
-/
import Derived.Test.YtbjplfbplkjibaaRMem
import Derived.Test.YtbjplfbplkjibaaSetB
namespace Go.Proofs.Ytbjplfbplkjibaa
open Go.RowKit

theorem rlive_any (p : Nat) (G : Gs) (B : Nat → Prop) (x : Int) (w : World) (h : Rg w p G B) (_hlen : G.ns.length ≤ 65536) (hcol : ∀ i, (ndAt G.ns i).c ≤ 4) : Calls Try.prog 28 #[.pointer (some ⟨p, 0, none⟩), .int .i64 x] w fun e w' => e = .returned (.bool (lvB G x)) ∧ w' = w := by
  obtain ⟨vn, vl, KV, SV, h, _⟩ := h
  by_cases h1 : x < 0
  · have HL : Hid (lvB G x = false) := by show _ = _; simp [lvB]; omega
    have hx0 : ¬ 0 ≤ x := by omega
    clear h
    go_enter Try.func28, Try.ntmps28
    go_wp2
    go_ret
    exact ⟨by rw [HL.out]; rfl, rfl⟩
  · obtain ⟨i, rfl⟩ : ∃ i : Nat, x = i := ⟨x.toNat, by omega⟩
    have hx0 : (0 : Int) ≤ i := by omega
    by_cases h2 : i < G.ns.length
    · obtain ⟨g, c, rfl, hc, hgp, hgl, c0, _, _, _⟩ := h.node h2
      obtain ⟨f0, _⟩ := h.flds
      have hq := hcol i
      have HL : Hid (lvB G i = (decide (1 ≤ (ndAt G.ns i).c) && decide ((ndAt G.ns i).c ≤ 3))) := by
        show _ = _
        rw [lvB_nat, Bool.eq_iff_iff]
        simp only [decide_eq_true_eq, Bool.and_eq_true]
        unfold lvN
        constructor
        · rintro ⟨a, b⟩
          exact ⟨by omega, by omega⟩
        · rintro ⟨a, b⟩
          exact ⟨by omega, by omega⟩
      have hil : (i : Int) < G.ns.length := by omega
      clear h hcol
      generalize (ndAt G.ns i).c = q at *
      generalize G.ns.length = n at *
      by_cases h3 : 1 ≤ q
      · have h3' : (1 : Int) ≤ q := by omega
        by_cases h4 : q ≤ 3
        · have h4' : (q : Int) ≤ 3 := by omega
          have HT : Hid (lvB G i = true) := by show _ = _; rw [HL.out]; simp [h3, h4]
          clear HL h3 h4
          go_enter Try.func28, Try.ntmps28
          go_wp2
          go_ret
          exact ⟨by rw [HT.out]; rfl, rfl⟩
        · have h4' : ¬ (q : Int) ≤ 3 := by omega
          have HT : Hid (lvB G i = false) := by show _ = _; rw [HL.out]; simp [h4]
          clear HL h3 h4
          go_enter Try.func28, Try.ntmps28
          go_wp2
          go_ret
          exact ⟨by rw [HT.out]; rfl, rfl⟩
      · have h3' : ¬ (1 : Int) ≤ q := by omega
        have HT : Hid (lvB G i = false) := by show _ = _; rw [HL.out]; simp [h3]
        clear HL h3
        go_enter Try.func28, Try.ntmps28
        go_wp2
        go_ret
        exact ⟨by rw [HT.out]; rfl, rfl⟩
    · have HL : Hid (lvB G i = false) := by
        show _ = _
        rw [lvB_nat]
        simp only [decide_eq_false_iff_not]
        exact fun q => h2 (lvN_lt q)
      obtain ⟨f0, _⟩ := h.flds
      obtain ⟨a, c, rfl, _⟩ := own_slice h.row
      have h3 : ¬ (i : Int) < G.ns.length := by omega
      clear h
      generalize G.ns.length = n at *
      go_enter Try.func28, Try.ntmps28
      go_wp2
      go_ret
      exact ⟨by rw [HL.out]; rfl, rfl⟩

/-- How the reference's graph has turned, and what was answered. -/
def RPost (w : World) (p : Nat) (G' : Gs) (B : Nat → Prop) (r : Value) (e : Ending) (w' : World) : Prop := e = .returned r ∧ Rg w' p G' (Nw B w) ∧ Fx B w w'
theorem rg_same {w : World} {p : Nat} {G : Gs} {B : Nat → Prop} (h : Rg w p G B) (r : Value) : RPost w p G B r (.returned r) w := ⟨rfl, h.mono (fun _ q => .inl q), Fx.refl _ _⟩
def RsPost (w : World) (p : Nat) (vn : Value) (SV : List Value) (G' : Gs) (B : Nat → Prop) (e : Ending) (w' : World) : Prop :=
  e = .returned (.tuple #[]) ∧ (∃ vl' KV', Rm w' p vn vl' KV' SV G' ∧ Ft (Nw B w) p vn vl' SV) ∧ Fx B w w'
theorem rs_same {w : World} {p : Nat} {vn vl : Value} {KV SV : List Value} {G : Gs} {B : Nat → Prop} (h : Rm w p vn vl KV SV G) (f : Ft B p vn vl SV) : RsPost w p vn SV G B (.returned (.tuple #[])) w := ⟨rfl, ⟨vl, KV, h, f.mono (fun _ q => .inl q)⟩, Fx.refl _ _⟩

/-- A node's color and how far it was looked at are others. -/
theorem Rm.ck {w : World} {p : Nat} {vl : Value} {KV SV : List Value} {G : Gs} {g c : Nat} (h : Rm w p (.slice (some ⟨g, 0, none⟩) G.ns.length c) vl KV SV G) (i a b : Nat) (hi : i < G.ns.length) (hc4 : (ndAt G.ns i).c ≠ 4) :
    Rm ((w.setCell ⟨g, i * 3, none⟩ (.int .i64 a)).setCell ⟨g, i * 3 + 1, none⟩ (.int .i64 b)) p (.slice (some ⟨g, 0, none⟩) G.ns.length c) vl (KV.set i (.int .i64 b)) SV { G with ns := G.ns.set i ⟨a, (ndAt G.ns i).s, b⟩ } := by
  have hr := ((h.row.stored (i * 3) (.int .i64 a)).1.stored (i * 3 + 1) (.int .i64 b)).1
  rw [tri_set0 _ _ _ _ _ (by rw [cols_len]; exact h.kvl) (by rw [cols_len]; exact h.svl), tri_set1 _ _ _ _ _ (by rw [List.length_set, cols_len]; exact h.kvl) (by rw [List.length_set, cols_len]; exact h.svl)] at hr
  refine h.cells (l := G.ns.set i ⟨a, (ndAt G.ns i).s, b⟩) ((Ext.setCell [g] w _ _ (by simp)).trans (Ext.setCell [g] _ _ _ (by simp))) (by simp) (by simpa using h.kvl) (by rw [cols_set]; exact hr) (fun j hj => ?_) (fun j hj hc => ?_)
  · rw [kvAt_set (by rw [h.kvl]; exact hi), ndAt_set hi]
    split
    · exact ⟨b, rfl, fun _ => rfl⟩
    · exact h.kvo j hj
  · rw [ndAt_set hi] at hc ⊢
    split
    · rename_i e; subst e; exact ⟨hc4, rfl⟩
    · rename_i e; rw [if_neg e] at hc; exact ⟨hc, rfl⟩

set_option maxHeartbeats 1000000 in
theorem rshade_gm (p : Nat) (G : Gs) (B : Nat → Prop) (x : Int) (w : World) (vn vl : Value) (KV SV : List Value) (h : Rm w p vn vl KV SV G) (hft : Ft B p vn vl SV) (hx : x = -1 ∨ 0 ≤ x ∧ x.toNat < G.ns.length) (hln : G.ln.length ≤ 1000000) (_hlen : G.ns.length ≤ 65536) (hid0 : G.ph ≠ 1 → ∀ i, (ndAt G.ns i).c ≠ 1) :
    Calls Try.prog 34 #[.pointer (some ⟨p, 0, none⟩), .int .i64 x] w (RsPost w p vn SV (sh G x) B) := by
  obtain ⟨f0, f1, f2, _⟩ := h.flds
  have HF := hid (rs_same h hft)
  by_cases hp : G.ph = 1
  · have hpb : ((G.ph : Int) == 1) = true := by simp [hp]
    rcases hx with rfl | ⟨hx0, hxl⟩
    · clear h hft f0 f1
      generalize G.ph = ph at *
      go_enter Try.func34, Try.ntmps34
      go_wp2
      go_end0
      exact HF.out
    · obtain ⟨i, rfl⟩ : ∃ i : Nat, x = i := ⟨x.toNat, by omega⟩
      have hsh : sh G i = shN G i := by
        have : ((i : Int)) ≠ -1 := by omega
        simp [sh, this]
      rw [hsh]
      simp only [Int.toNat_natCast] at hxl
      obtain ⟨g, c, rfl, hc, hgp, hgl, c0, c1, c2, cf⟩ := h.node hxl
      have hil : (i : Int) < G.ns.length := by omega
      by_cases h1 : (ndAt G.ns i).c = 1
      · have HS : Hid (shN G i = { G with ns := G.ns.set i ⟨2, (ndAt G.ns i).s, 0⟩, ln := G.ln ++ [i] }) := by show _ = _; simp only [shN, h1, if_true]
        have HM := hid (h.ck i 2 0 hxl (by omega))
        have HX : Hid (Fx B w ((w.setCell ⟨g, i * 3, none⟩ (.int .i64 (2 : Nat))).setCell ⟨g, i * 3 + 1, none⟩ (.int .i64 (0 : Nat)))) := Fx.of_ext (S := [g]) ((Ext.setCell [g] w _ _ (by simp)).trans (Ext.setCell [g] _ _ _ (by simp))) (by simp; exact .inl (hft.n g rfl))
        have HT := hid hft
        rw [h1] at c0
        have cf0 := cf (i * 3)
        have cf2 := cf (i * 3 + 1)
        obtain ⟨kq, hkq, _⟩ := h.kvo i hxl
        rw [hkq] at c1
        clear h HF cf hft h1 hp hid0 hkq
        generalize hph : G.ph = ph at *
        clear hph
        go_enter Try.func34, Try.ntmps34
        go_upto_region 3 with fail
        generalize hW2 : (w.setCell ⟨g, i * 3, none⟩ (.int .i64 2)).setCell ⟨g, i * 3 + 1, none⟩ (.int .i64 0) = W2 at *
        have HM2 := HM
        have HX2 := HX
        clear hW2 c0 c1 c2 cf0 cf2 f0 f1 f2 HM HX
        have hna := cell_of_row _ W2.heap.size 0 _ _ _ (heap_alloc_new W2 (.cells #[.int .i64 i] 3))
        have hEa := Ext.alloc [] W2 (.cells #[.int .i64 (i : Int)] 3)
        obtain ⟨v', W3, hr, hq, hE3, hv'⟩ := HM2.out.lin.push _ hEa ⟨W2.heap.size, 0, none⟩ i hna hln 28
        have hE23 : Ext vl.ownBlock.toList W2 W3 := (hEa.mono (by simp)).trans hE3
        have HM3 := hid (HM2.out.line hE23 _ hq (hv'.imp id (fun q k hk => by have := q k hk; simp at this; omega)))
        have HX3 : Hid (Fx B w (W3.setCell ⟨p, 1, none⟩ v')) := by
          refine HX2.out.trans (C := B) (Fx.of_ext (S := p :: vl.ownBlock.toList) ((hE23.mono (by simp; intro a ha; exact .inr ha)).trans (Ext.setCell _ _ _ _ (by simp))) ?_) (fun _ q => .inl q)
          intro k hk
          simp only [List.mem_cons, Option.mem_toList] at hk
          rcases hk with rfl | hk
          · exact .inl HT.out.p
          · exact .inl (HT.out.l k hk)
        have HF3 : Hid (Ft (Nw B w) p (.slice (some ⟨g, 0, none⟩) G.ns.length c) v' SV) := by
          refine ⟨.inl HT.out.p, fun k hk => .inl (HT.out.n k hk), fun k hk => ?_, fun j k hk => .inl (HT.out.s j k hk)⟩
          rcases hv' with q | q
          · exact .inl (HT.out.l k (q ▸ hk))
          · right; have := q k hk; have := HX2.out.size; simp at *; omega
        obtain ⟨fa0, fa2, _⟩ := HM2.out.flds
        have hb3 : W3.heap[p]? = _ := hE23.keep HM2.out.blk (by simpa using HM2.out.lp)
        have fb := frozen_of_row W3 p 1 _ _ hb3
        have fc : W3.cell? ⟨p, 1, none⟩ = some vl := by rw [cell_of_row _ _ _ _ _ _ hb3]; rfl
        obtain ⟨av, cv, rfl, _⟩ := HM2.out.lin.slice
        obtain ⟨av', cv', hv2, _⟩ := hq.slice
        rw [List.length_append, List.length_singleton] at hv2
        subst hv2
        clear hEa hna hq hE3 hE23 hv' HM2 HX2 hb3
        go_upto_region 4 with (at_builtin; refine wpList_append_run rfl _ _ 28 rfl _ _ _ rfl rfl hr ?_)
        go_end0
        refine ⟨rfl, ⟨_, KV.set i (.int .i64 (0 : Nat)), ?_, HF3.out⟩, HX3.out⟩
        rw [HS.out]
        exact HM3.out
      · have HS : Hid (shN G i = G) := by show _ = _; simp only [shN, h1, if_false]
        have h1' : (((ndAt G.ns i).c : Int) == 1) = false := by simp; omega
        clear h h1 cf c1 c2 f1 hft hp hid0
        generalize hph : G.ph = ph at *
        clear hph
        go_enter Try.func34, Try.ntmps34
        go_wp2
        go_end0
        rw [HS.out]
        exact HF.out
  · have hpb : ((G.ph : Int) == 1) = false := by simp; omega
    have hno := hid0 hp
    have HS : Hid (sh G x = G) := by
      show _ = _
      unfold sh shN
      split
      · rfl
      · rw [if_neg (hno _)]
    clear h hft f0 f1 hp hid0 hno hx
    generalize hph : G.ph = ph at *
    clear hph
    go_enter Try.func34, Try.ntmps34
    go_wp2
    go_end0
    rw [HS.out]
    exact HF.out

theorem rshade_any (p : Nat) (G : Gs) (B : Nat → Prop) (x : Int) (w : World) (h : Rg w p G B) (hx : x = -1 ∨ 0 ≤ x ∧ x.toNat < G.ns.length) (hln : G.ln.length ≤ 1000000) (hlen : G.ns.length ≤ 65536) (hid0 : G.ph ≠ 1 → ∀ i, (ndAt G.ns i).c ≠ 1) :
    Calls Try.prog 34 #[.pointer (some ⟨p, 0, none⟩), .int .i64 x] w (RPost w p (sh G x) B (.tuple #[])) := by
  obtain ⟨vn, vl, KV, SV, h, ft⟩ := h
  refine (rshade_gm p G B x w vn vl KV SV h ft hx hln hlen hid0).mono ?_
  rintro e w' ⟨rfl, ⟨vl', KV', h1, h2⟩, hX⟩
  exact ⟨rfl, ⟨_, _, _, _, h1, h2⟩, hX⟩

/-- The reference's slots: its own list. -/
def RlPost (w : World) (s : List Int) (er : Int) (e : Ending) (w' : World) : Prop := ∃ a c, e = .returned (.tuple #[.slice a s.length c, .int .i64 er]) ∧ Is w a s ∧ w' = w
theorem rslots_any (p : Nat) (G : Gs) (B : Nat → Prop) (x : Int) (w : World) (h : Rg w p G B) (hI : Iv G) : Calls Try.prog 22 #[.pointer (some ⟨p, 0, none⟩), .int .i64 x] w (RlPost w (slV G x) (fl G x)) := by
  have K := rlive_any p G B x w h hI.len hI.col
  unfold fl slV
  cases hb : lvB G x
  · rw [hb] at K
    simp only [Bool.false_eq_true, if_false]
    clear h
    go_enter Try.func22, Try.ntmps22
    go_wp2_with (go_at_call 28; refine met K ?_)
    go_ret2
    exact ⟨none, 0, rfl, .inl rfl, rfl⟩
  · rw [hb] at K
    simp only [if_true]
    obtain ⟨hx0, hxl⟩ := lvB_iff.1 hb
    obtain ⟨i, rfl⟩ : ∃ i : Nat, x = i := ⟨x.toNat, by omega⟩
    simp only [Int.toNat_natCast] at hxl ⊢
    have hil := lvN_lt hxl
    obtain ⟨vn, vl, KV, SV, h, _⟩ := h
    obtain ⟨g, c, rfl, hc, hgp, hgl, c0, c1, c2, cf⟩ := h.node hil
    obtain ⟨f0, _⟩ := h.flds
    obtain ⟨s, hs, hse⟩ := h.slo i hil
    rw [← hse hxl.2]
    obtain ⟨av, cv, hv, _⟩ := own_slice hs
    rw [hv] at c2 hs
    have HI := hid (show Is w av s from own_vs hs)
    have hil2 : (i : Int) < G.ns.length := by omega
    clear h hs hse cf c1 hv
    generalize (ndAt G.ns i).c = q at *
    generalize G.ns.length = n at *
    go_enter Try.func22, Try.ntmps22
    go_wp2_with (go_at_call 28; refine met K ?_)
    go_ret2
    exact ⟨_, _, rfl, HI.out, rfl⟩

theorem rcolor_any (p : Nat) (G : Gs) (B : Nat → Prop) (x : Int) (w : World) (h : Rg w p G B) (hI : Iv G) : Calls Try.prog 23 #[.pointer (some ⟨p, 0, none⟩), .int .i64 x] w fun e w' => e = .returned (.tuple #[.int .i64 (if lvB G x then ((ndAt G.ns x.toNat).c : Int) else 0), .int .i64 (fl G x)]) ∧ w' = w := by
  have K := rlive_any p G B x w h hI.len hI.col
  unfold fl
  cases hb : lvB G x
  · rw [hb] at K
    simp only [Bool.false_eq_true, if_false]
    clear h
    go_enter Try.func23, Try.ntmps23
    go_wp2_with (go_at_call 28; refine met K ?_)
    go_ret2
    exact ⟨rfl, rfl⟩
  · rw [hb] at K
    simp only [if_true]
    obtain ⟨hx0, hxl⟩ := lvB_iff.1 hb
    obtain ⟨i, rfl⟩ : ∃ i : Nat, x = i := ⟨x.toNat, by omega⟩
    simp only [Int.toNat_natCast] at hxl ⊢
    have hil := lvN_lt hxl
    obtain ⟨vn, vl, KV, SV, h, _⟩ := h
    obtain ⟨g, c, rfl, hc, hgp, hgl, c0, c1, c2, cf⟩ := h.node hil
    obtain ⟨f0, _⟩ := h.flds
    have hil2 : (i : Int) < G.ns.length := by omega
    clear h cf c1
    generalize (ndAt G.ns i).c = q at *
    generalize G.ns.length = n at *
    go_enter Try.func23, Try.ntmps23
    go_wp2_with (go_at_call 28; refine met K ?_)
    go_ret2
    exact ⟨rfl, rfl⟩

theorem idle_w {G : Gs} (hI : Iv G) : G.ph ≠ 1 → ∀ i, (ndAt G.ns i).c ≠ 1 := fun h i => ((hI.idle h).2 i).1
theorem rshadeC_any (p : Nat) (G : Gs) (B : Nat → Prop) (x : Int) (w : World) (h : Rg w p G B) (hI : Iv G) : Calls Try.prog 25 #[.pointer (some ⟨p, 0, none⟩), .int .i64 x] w (RPost w p (shade G x).1 B (.int .i64 (shade G x).2)) := by
  have K := rlive_any p G B x w h hI.len hI.col
  unfold shade
  cases hb : lvB G x
  · rw [hb] at K
    simp only [if_true]
    have HF := hid (rg_same h (.int .i64 4))
    clear h
    go_enter Try.func25, Try.ntmps25
    go_wp2_with (go_at_call 28; refine met K ?_)
    go_ret
    exact HF.out
  · rw [hb] at K
    simp only [Bool.true_eq_false, if_false]
    have hl := lvB_iff.1 hb
    have K2 := rshade_any p G B x w h (.inr ⟨hl.1, lvN_lt hl.2⟩) (by have := hI.lln; have := hI.len; omega) hI.len (idle_w hI)
    clear h hb hl
    go_enter Try.func25, Try.ntmps25
    go_wp2_with (go_at_call 28; refine met K ?_)
    refine K2.mono ?_
    clear K2 K
    rintro e w1 ⟨rfl, h1, h2⟩
    have HF : Hid (RPost w p (sh G x) B (.int .i64 0) (.returned (.int .i64 0)) w1) := ⟨rfl, h1, h2⟩
    clear h1 h2
    go_wp2_with fail
    go_ret
    exact HF.out

end Go.Proofs.Ytbjplfbplkjibaa
