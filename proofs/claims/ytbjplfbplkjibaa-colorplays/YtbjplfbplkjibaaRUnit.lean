/-
  A unit of the reference's work; no statement is proved here.
-/
import Derived.Test.YtbjplfbplkjibaaRSet
import Derived.Test.YtbjplfbplkjibaaSweep
namespace Go.Proofs.Ytbjplfbplkjibaa
open Go.RowKit

theorem Rm.le {w : World} {p : Nat} {vn vl : Value} {KV SV : List Value} {G : Gs} (h : Rm w p vn vl KV SV G) (q : Nat) : Rm w p vn vl KV SV { G with le := q } := ⟨h.blk, h.row, h.lin, h.kvl, h.svl, h.kvo, h.slo, h.sep, h.sel⟩
theorem Rm.gr {w w' : World} {p : Nat} {vn vl : Value} {KV SV : List Value} {G : Gs} {B : Nat → Prop} (h : Rm w' p vn vl KV SV G) (f : Ft B p vn vl SV) (x : Fx B w w') (r : Value) : RPost w p G B r (.returned r) w' := ⟨rfl, ⟨_, _, _, _, h, f.mono (fun _ q => .inl q)⟩, x⟩

/-- A node is none any more. -/
theorem Rm.gone {w : World} {p : Nat} {vl : Value} {KV SV : List Value} {G : Gs} {g c : Nat} (h : Rm w p (.slice (some ⟨g, 0, none⟩) G.ns.length c) vl KV SV G) (i : Nat) (hi : i < G.ns.length) :
    Rm (((w.setCell ⟨g, i * 3, none⟩ (.int .i64 0)).setCell ⟨g, i * 3 + 1, none⟩ (.int .i64 0)).setCell ⟨g, i * 3 + 2, none⟩ (.slice none 0 0)) p (.slice (some ⟨g, 0, none⟩) G.ns.length c) vl (KV.set i (.int .i64 0)) (SV.set i (.slice none 0 0)) { G with ns := G.ns.set i nz } := by
  have hE : Fx (fun k => k = g) w (((w.setCell ⟨g, i * 3, none⟩ (.int .i64 0)).setCell ⟨g, i * 3 + 1, none⟩ (.int .i64 0)).setCell ⟨g, i * 3 + 2, none⟩ (.slice none 0 0)) :=
    Fx.of_ext (S := [g]) (((Ext.setCell [g] w _ _ (by simp)).trans (Ext.setCell [g] _ _ _ (by simp))).trans (Ext.setCell [g] _ _ _ (by simp))) (by simp)
  have hr := (((h.row.stored (i * 3) (.int .i64 0)).1.stored (i * 3 + 1) (.int .i64 0)).1.stored (i * 3 + 2) (.slice none 0 0)).1
  rw [tri_set0 _ _ _ _ _ (by rw [cols_len]; exact h.kvl) (by rw [cols_len]; exact h.svl), tri_set1 _ _ _ _ _ (by rw [List.length_set, cols_len]; exact h.kvl) (by rw [List.length_set, cols_len]; exact h.svl), tri_set2 _ _ _ _ _ (by rw [List.length_set, List.length_set, cols_len]; exact h.kvl) (by rw [List.length_set, cols_len]; exact h.svl)] at hr
  have sv := fun j => svAt_set (l := SV) (i := i) (j := j) (x := .slice none 0 0) (by rw [h.svl]; exact hi)
  refine ⟨hE.keep h.blk (fun e => h.np (by simp [Value.ownBlock, e])), ?_, h.lin.keep hE (fun k hk e => h.nl g rfl (e ▸ hk)), by simpa using h.kvl, by simpa using h.svl, fun j hj => ?_, fun j hj => ?_, fun a b hab k => ?_, fun j k => ?_⟩
  · simp only [List.length_set]
    rw [cols_set]; exact hr
  · simp only [List.length_set] at hj
    simp only
    rw [kvAt_set (by rw [h.kvl]; exact hi), ndAt_set hi]
    split
    · exact ⟨0, rfl, fun _ => rfl⟩
    · exact h.kvo j hj
  · simp only [List.length_set] at hj
    simp only
    rw [sv, ndAt_set hi]
    split
    · exact ⟨[], own_nil _ _ _ _, fun _ => rfl⟩
    · obtain ⟨s, hs, h3⟩ := h.slo j hj
      exact ⟨s, own_keepF hs hE (fun k hk e => h.nsl g rfl j (e ▸ hk)), h3⟩
  · rw [sv, sv]
    split
    · intro q; simp [Value.ownBlock] at q
    · split
      · intro _ r; simp [Value.ownBlock] at r
      · exact h.sep a b hab k
  · rw [sv]
    split
    · intro q; simp [Value.ownBlock] at q
    · exact h.sel j k

set_option maxRecDepth 100000 in
set_option maxHeartbeats 2000000 in
theorem rsweep_any (p : Nat) (G : Gs) (B : Nat → Prop) (w : World) (h : Rg w p G B) (hI : Iv G) (h2 : G.ph = 2) (hcy : G.cy < 1000000000000000000) :
    Calls Try.prog 37 #[.pointer (some ⟨p, 0, none⟩)] w (RPost w p (sweep G).1 B (.int .i64 (swN (sweep G).2))) := by
  obtain ⟨vn, vl, KV, SV, h, ft⟩ := h
  have hpe := hI.pe h2
  have hlen := hI.len
  obtain ⟨f0, f1, f2, f3, f4, f5⟩ := h.flds
  have z2 := h.froz 2
  have z3 := h.froz 3
  have z5 := h.froz 5
  have hp2 : ((G.ph : Int) == 2) = true := by simp [h2]
  by_cases he : G.pl = G.en
  · have HS : Hid (sweep G = ({ G with ph := 0, cy := G.cy + 1 }, [])) := by show _ = _; simp only [sweep, he, if_true]
    have HF : Hid (RPost w p { G with ph := 0, cy := G.cy + 1 } B (.int .i64 (-1)) (.returned (.int .i64 (-1))) ((w.setCell ⟨p, 2, none⟩ (.int .i64 0)).setCell ⟨p, 5, none⟩ (.int .i64 ((G.cy : Int) + 1)))) := by
      have h1 := h.fld 2 (.int .i64 0) { G with ph := 0 } rfl rfl rfl
      have h2 := h1.fld 5 (.int .i64 ((G.cy : Int) + 1)) { G with ph := 0, cy := G.cy + 1 } rfl rfl rfl
      exact h2.gr ft (Fx.of_ext (S := [p]) ((Ext.setCell [p] _ _ _ (by simp)).trans (Ext.setCell [p] _ _ _ (by simp))) (by simp; exact .inl ft.p)) _
    have he' : ((G.pl : Int) == (G.en : Int)) = true := by simp [he]
    clear h ft f0 f1 hpe he h2
    generalize hGp : G.pl = pl at *
    generalize hGe : G.en = en at *
    generalize hGc : G.cy = cy at *
    generalize hGh : G.ph = ph at *
    clear hGp hGe hGc hGh
    go_enter Try.func37, Try.ntmps37
    go_wp2_with fail
    go_ret
    rw [HS.out]
    exact HF.out
  · have he' : ((G.pl : Int) == (G.en : Int)) = false := by simp; omega
    have hpl : G.pl < G.ns.length := by omega
    obtain ⟨g, c, rfl, hc, hgp, hgl, c0, c1, c2, cf⟩ := h.node hpl
    have cf0 := cf (G.pl * 3)
    have cf1 := cf (G.pl * 3 + 1)
    have cf2 := cf (G.pl * 3 + 2)
    have hil : (G.pl : Int) < G.ns.length := by omega
    by_cases h4 : (ndAt G.ns G.pl).c = 4
    · have HS : Hid (sweep G = ({ G with ns := G.ns.set G.pl nz, le := min G.le G.pl, pl := G.pl + 1 }, [G.pl])) := by show _ = _; simp only [sweep, he, if_false, h4, if_true]
      have HF : Hid (RPost w p { G with ns := G.ns.set G.pl nz, le := min G.le G.pl, pl := G.pl + 1 } B (.int .i64 G.pl) (.returned (.int .i64 G.pl)) ((((w.setCell ⟨p, 3, none⟩ (.int .i64 ((G.pl : Int) + 1))).setCell ⟨g, G.pl * 3, none⟩ (.int .i64 0)).setCell ⟨g, G.pl * 3 + 1, none⟩ (.int .i64 0)).setCell ⟨g, G.pl * 3 + 2, none⟩ (.slice none 0 0))) := by
        have h1 := h.fld 3 (.int .i64 ((G.pl : Int) + 1)) { G with pl := G.pl + 1 } rfl rfl rfl
        have h2 := Rm.gone (G := { G with pl := G.pl + 1 }) h1 G.pl hpl
        exact (h2.le (min G.le G.pl)).gr ft.nil (Fx.of_ext (S := [p, g]) ((((Ext.setCell [p, g] _ _ _ (by simp)).trans (Ext.setCell [p, g] _ _ _ (by simp))).trans (Ext.setCell [p, g] _ _ _ (by simp))).trans (Ext.setCell [p, g] _ _ _ (by simp))) (by simp; exact ⟨.inl ft.p, .inl (ft.n g rfl)⟩)) _
      rw [h4] at c0
      obtain ⟨kq, hkq, _⟩ := h.kvo G.pl hpl
      rw [hkq] at c1
      clear h ft f1 hpe he h4 cf h2 hkq
      generalize svAt SV G.pl = sv0 at *
      generalize hGn : G.ns.length = n at *
      generalize hGp : G.pl = pl at *
      generalize hGe : G.en = en at *
      generalize hGh : G.ph = ph at *
      clear hGn hGp hGe hGh
      go_enter Try.func37, Try.ntmps37
      go_wp2_with fail
      go_ret
      rw [HS.out]
      exact HF.out
    · have HS : Hid (sweep G = ({ G with pl := G.pl + 1 }, [])) := by show _ = _; simp only [sweep, he, if_false, h4]
      have HF : Hid (RPost w p { G with pl := G.pl + 1 } B (.int .i64 (-1)) (.returned (.int .i64 (-1))) (w.setCell ⟨p, 3, none⟩ (.int .i64 ((G.pl : Int) + 1)))) := by
        have h1 := h.fld 3 (.int .i64 ((G.pl : Int) + 1)) { G with pl := G.pl + 1 } rfl rfl rfl
        exact h1.gr ft (Fx.of_ext (S := [p]) (Ext.setCell [p] _ _ _ (by simp)) (by simp; exact .inl ft.p)) _
      have h4' : (((ndAt G.ns G.pl).c : Int) == 4) = false := by simp; omega
      clear h ft f1 hpe he h4 cf c1 c2 cf0 cf1 cf2 h2
      generalize (ndAt G.ns G.pl).c = cc at *
      generalize hGn : G.ns.length = n at *
      generalize hGp : G.pl = pl at *
      generalize hGe : G.en = en at *
      generalize hGh : G.ph = ph at *
      clear hGn hGp hGe hGh
      go_enter Try.func37, Try.ntmps37
      go_wp2_with fail
      go_ret
      rw [HS.out]
      exact HF.out

set_option maxRecDepth 100000 in
set_option maxHeartbeats 4000000 in
theorem rmark_any (p : Nat) (G : Gs) (B : Nat → Prop) (w : World) (h : Rg w p G B) (hI : Iv G) (hph : G.ph = 1) :
    Calls Try.prog 37 #[.pointer (some ⟨p, 0, none⟩)] w (RPost w p (mark G) B (.int .i64 (-1))) := by
  have hlen := hI.len
  have hll := hI.lln
  have hp2 : ((G.ph : Int) == 2) = false := by simp [hph]
  cases hl : G.ln with
  | nil =>
    have HM : Hid (mark G = { G with ns := G.ns.map die, ln := [], ph := 2, pl := 0, en := G.ns.length }) := by show _ = _; simp only [mark, hl]
    obtain ⟨vn, vl, KV, SV, h, ft⟩ := h
    obtain ⟨al, cl, rfl, _⟩ := h.lin.slice
    obtain ⟨f0, f1, f2, _⟩ := h.flds
    rw [hl, List.length_nil] at f1
    obtain ⟨an, cn, rfl, hcn⟩ := own_slice h.row
    have HH := hid h
    have HT := hid ft
    have HLn := hid hl
    have HDz := hid (dn_zero G.ns)
    have HDa := hid (dn_all G.ns)
    have HDl := hid (dn_len G.ns)
    have HDt := hid (dn_at G.ns)
    have HDs := hid (dn_succ G.ns)
    have HDe := hid (dn_same G.ns)
    obtain ⟨n, hn⟩ : ∃ n, n = G.ns.length := ⟨_, rfl⟩
    have HN := hid hn
    rw [← hn] at f0 hcn hlen
    clear h ft hn hl hll hph hI
    generalize hGh : (G.ph : Int) = ph at f2 hp2
    clear hGh
    generalize G.ln.length = lln at *
    go_enter Try.func37, Try.ntmps37
    go_wp2_with fail
    go_loopw [4] (fun q wr => ∃ k : Nat, q = .int .i64 k ∧ k ≤ n ∧ Rm wr p (.slice an n cn) (.slice al lln cl) KV SV { G with ns := dn G.ns k } ∧ Fx B w wr) (fun q _ => (n - (intOf q)).toNat)
    case atStart => exact ⟨0, rfl, Nat.zero_le _, by rw [HDz.out, HN.out]; exact HH.out, Fx.refl _ _⟩
    case round =>
      clear HH f0 f1 f2
      obtain ⟨k, rfl, hk, hG, hX⟩ := hrel
      have HG := hid hG
      have HX := hid hX
      clear hX
      have fp := hG.flds.1
      by_cases hlt : k < n
      · have hlk : k < G.ns.length := by rw [← HN.out]; exact hlt
        obtain ⟨g, c, hv, hc, hgp, hgl, c0, c1, c2, cf⟩ := hG.node (i := k) (by rw [HDl.out]; exact hlk)
        simp only [HDl.out, Value.slice.injEq] at hv
        obtain ⟨rfl, hnn, rfl⟩ := hv
        clear hnn
        rw [HDt.out k k (Nat.le_refl _)] at c0
        have hln : (dn G.ns k).length = n := by rw [HDl.out, HN.out]
        clear hc hG c1 c2
        have hil : (k : Int) < n := by omega
        by_cases h1 : (ndAt G.ns k).c = 1
        · have HM2 : Hid (Rm (wr.setCell ⟨g, k * 3, none⟩ (.int .i64 4)) p (.slice (some ⟨g, 0, none⟩) n cn) (.slice al lln cl) KV SV { G with ns := dn G.ns (k + 1) }) := by
            have h2 := HG.out
            have e1 : n = ({ G with ns := dn G.ns k } : Gs).ns.length := hln.symm
            rw [e1] at h2
            have h3 := Rm.col (G := { G with ns := dn G.ns k }) h2 k ⟨4, [], 0⟩ (by simp only [hln]; exact hlt) (fun q => absurd rfl q)
            rw [← e1] at h3
            have e2 : dn G.ns (k + 1) = (dn G.ns k).set k ⟨4, [], 0⟩ := by rw [HDs.out k hlk]; simp [die, h1]
            rw [e2]
            exact h3
          rw [h1] at c0
          have cf0 := cf (k * 3)
          have HB1 : Hid (B g) := by have := HT.out.n g rfl; exact this
          clear h1 HG cf hln
          go_wp2_with fail
          go_roundw
          case rel => exact ⟨k + 1, by go_num, by omega, HM2.out, HX.out.trans (C := B) (Fx.of_ext (S := [g]) (Ext.setCell [g] wr _ _ (by simp)) (by simp; exact .inl HB1.out)) (fun _ q => .inl q)⟩
          case measure => simp [intOf]; omega
        · have HM2 : Hid (Rm wr p (.slice (some ⟨g, 0, none⟩) n cn) (.slice al lln cl) KV SV { G with ns := dn G.ns (k + 1) }) := by
            have h2 := HG.out
            rw [← HDe.out k hlk h1] at h2
            exact h2
          have h1' : (((ndAt G.ns k).c : Int) == 1) = false := by simp; omega
          clear h1 HG cf hln
          generalize (ndAt G.ns k).c = kc at *
          go_wp2_with fail
          go_roundw
          case rel => exact ⟨k + 1, by go_num, by omega, HM2.out, HX.out⟩
          case measure => simp [intOf]; omega
      · obtain rfl : k = n := by omega
        have hd : dn G.ns k = G.ns.map die := by rw [HN.out]; exact HDa.out
        rw [hd] at hG HG
        have z2 := hG.froz 2
        have z3 := hG.froz 3
        have z4 := hG.froz 4
        obtain ⟨_, _, f2, f3, f4, _⟩ := hG.flds
        have HF : Hid (RPost w p { G with ns := G.ns.map die, ln := [], ph := 2, pl := 0, en := G.ns.length } B (.int .i64 (-1)) (.returned (.int .i64 (-1))) (((wr.setCell ⟨p, 2, none⟩ (.int .i64 2)).setCell ⟨p, 3, none⟩ (.int .i64 0)).setCell ⟨p, 4, none⟩ (.int .i64 k))) := by
          have h2 := hG.fld 2 (.int .i64 2) { G with ns := G.ns.map die, ph := 2 } rfl rfl rfl
          have h3 := h2.fld 3 (.int .i64 0) { G with ns := G.ns.map die, ph := 2, pl := 0 } rfl rfl rfl
          have h4 := h3.fld 4 (.int .i64 k) { G with ns := G.ns.map die, ph := 2, pl := 0, en := k } rfl rfl rfl
          have e1 : ({ G with ns := G.ns.map die, ph := 2, pl := 0, en := k } : Gs) = { G with ns := G.ns.map die, ln := [], ph := 2, pl := 0, en := G.ns.length } := by rw [← HN.out, ← HLn.out]
          rw [e1] at h4
          have hft : Ft B p (.slice an k cn) (.slice al lln cl) SV := by have := HT.out; rwa [← HN.out] at this
          exact h4.gr hft (HX.out.trans (C := B) (Fx.of_ext (S := [p]) (((Ext.setCell [p] wr _ _ (by simp)).trans (Ext.setCell [p] _ _ _ (by simp))).trans (Ext.setCell [p] _ _ _ (by simp))) (by simp; exact .inl HT.out.p)) (fun _ q => .inl q)) _
        clear hG HG HT HX
        simp only at f2 f3 f4
        go_wp2_with fail
        go_ret
        rw [HM.out]
        exact HF.out
  | cons x t =>
    have hx := (hI.grey x).2 (by simp [hl])
    have hxl : x < G.ns.length := lvN_lt (G := G) ⟨by rw [hx]; decide, by rw [hx]; decide⟩
    have hx4 : (ndAt G.ns x).c ≠ 4 := by omega
    have hlo := hI.lo x
    have hsl := hI.sl x
    obtain ⟨vn, vl, KV, SV, h, ft⟩ := h
    obtain ⟨g, c, rfl, hc, hgp, hgl, c0, c1, c2, cf⟩ := h.node hxl
    obtain ⟨f0, f1, f2, _⟩ := h.flds
    have hq := h.lin
    rw [hl] at hq
    obtain ⟨gl, ol, cl, rfl, htc, cx, hqt, hqe⟩ := hq.head
    have hLo := h.slots hxl hx4
    obtain ⟨sa, sc, hsv, hsc⟩ := own_slice hLo
    rw [hsv] at c2
    obtain ⟨kq, hkq, hkq2⟩ := h.kvo x hxl
    rw [hkq, hkq2 hx4] at c1
    have hxi : (x : Int) < G.ns.length := by omega
    have htl : t.length ≤ 65536 := by rw [hl] at hll; simp at hll; omega
    have cf0 := cf (x * 3)
    have cf1 := cf (x * 3 + 1)
    have z1 := h.froz 1
    have hglp : gl ≠ p := fun e => h.lp (by simp [Value.ownBlock, e])
    have hglg : g ≠ gl := fun e => h.nl g rfl (by simp [Value.ownBlock, e])
    have hgll : gl < w.heap.size := h.lin.lt gl rfl
    have hpl : p < w.heap.size := lt_of_heap h.blk
    by_cases hk : (ndAt G.ns x).k = (ndAt G.ns x).s.length
    · have HM : Hid (mark G = { G with ns := G.ns.set x ⟨3, (ndAt G.ns x).s, (ndAt G.ns x).k⟩, ln := t }) := by show _ = _; simp only [mark, hl, if_pos hk]
      have HF : Hid (∀ o2, Qu w (.slice (some ⟨gl, o2, none⟩) t.length cl) t → RPost w p { G with ns := G.ns.set x ⟨3, (ndAt G.ns x).s, (ndAt G.ns x).k⟩, ln := t } B (.int .i64 (-1)) (.returned (.int .i64 (-1))) ((w.setCell ⟨g, x * 3, none⟩ (.int .i64 3)).setCell ⟨p, 1, none⟩ (.slice (some ⟨gl, o2, none⟩) t.length cl))) := fun o2 hqt => by
        have h1 := h.col x ⟨3, (ndAt G.ns x).s, (ndAt G.ns x).k⟩ hxl (fun _ => ⟨hx4, rfl, rfl⟩)
        have hq1 : Qu (w.setCell ⟨g, x * 3, none⟩ (.int .i64 (3 : Nat))) (.slice (some ⟨gl, o2, none⟩) t.length cl) t :=
          hqt.keep (B := fun k => k = g) (Fx.of_ext (Ext.setCell [g] _ _ _ (by simp)) (by simp)) (by simp [Value.ownBlock]; exact fun e => hglg e.symm)
        have h2 := h1.line (Ext.refl _ _) t hq1 (.inl rfl)
        refine h2.gr ⟨ft.p, ft.n, fun k hk => ft.l k hk, ft.s⟩ (Fx.of_ext (S := [p, g]) ((Ext.setCell [p, g] _ _ _ (by simp)).trans (Ext.setCell [p, g] _ _ _ (by simp))) (by simp; exact ⟨.inl ft.p, .inl (ft.n g rfl)⟩)) _
      have hk' : ¬ ((ndAt G.ns x).k : Int) < ((ndAt G.ns x).s.length : Int) := by omega
      rw [hx] at c0
      by_cases hcl : cl = 0
      · subst hcl
        have ht0 : t = [] := List.length_eq_zero_iff.1 (by omega)
        subst ht0
        have HQ := hid hqe
        clear h ft hq hqt hqe hsv hLo hx hl hk cf hlo hsl hll hkq hkq2 hx4 hI hph hsc
        simp only [List.length_nil, Nat.zero_add] at f1 HF
        generalize hGh : (G.ph : Int) = ph at f2 hp2
        clear hGh
        generalize (ndAt G.ns x).k = kk at *
        generalize (ndAt G.ns x).s.length = ls at *
        generalize G.ns.length = n at *
        go_enter Try.func37, Try.ntmps37
        go_wp2_with fail
        go_ret
        rw [HM.out]
        exact HF.out _ HQ.out
      · have hcl1 : 1 < cl + 1 := by omega
        have hcl2 : (1 : Int) < ((cl + 1 : Nat) : Int) := by omega
        have HQ := hid hqt
        clear h ft hq hqt hqe hsv hLo hx hl hk cf hlo hsl hll hkq hkq2 hx4 hI hph hsc
        generalize hGh : (G.ph : Int) = ph at f2 hp2
        clear hGh
        generalize (ndAt G.ns x).k = kk at *
        generalize (ndAt G.ns x).s.length = ls at *
        generalize G.ns.length = n at *
        generalize t.length = tl at *
        go_enter Try.func37, Try.ntmps37
        go_wp2_with fail
        go_ret
        rw [HM.out]
        exact HF.out _ HQ.out
    · have hkl : (ndAt G.ns x).k < (ndAt G.ns x).s.length := by omega
      have hkl2 : ((ndAt G.ns x).k : Int) < (ndAt G.ns x).s.length := by omega
      have HM : Hid (mark G = sh (bump G x) ((ndAt G.ns x).s.getD (ndAt G.ns x).k 0)) := by show _ = _; simp only [mark, hl, if_neg hk, bump]
      have h1 := h.look x ((ndAt G.ns x).k + 1) hxl hx4
      have hF : Fx B w (w.setCell ⟨g, x * 3 + 1, none⟩ (.int .i64 (((ndAt G.ns x).k : Int) + 1))) := Fx.of_ext (S := [g]) (Ext.setCell [g] _ _ _ (by simp)) (by simp; exact .inl (ft.n g rfl))
      have hLo1 : Lo (w.setCell ⟨g, x * 3 + 1, none⟩ (.int .i64 (((ndAt G.ns x).k : Int) + 1))) (svAt SV x) (ndAt G.ns x).s := by
        have := Rm.slots (G := { G with ns := G.ns.set x ⟨(ndAt G.ns x).c, (ndAt G.ns x).s, (ndAt G.ns x).k + 1⟩ }) h1 (i := x) (by simpa using hxl) (by simp only [ndAt_set hxl, if_true]; exact hx4)
        simp only [ndAt_set hxl, if_true] at this
        exact this
      rw [hsv] at hLo1
      obtain ⟨sb, so, rfl, cs⟩ := Is.cell (show Is _ sa (ndAt G.ns x).s from own_vs hLo1) hkl
      have hy : (ndAt G.ns x).s.getD (ndAt G.ns x).k 0 ∈ (ndAt G.ns x).s := by simp [List.getD, hkl]
      have hyc := hI.cl x ⟨by omega, by omega⟩ _ hy
      have hg : Rg (w.setCell ⟨g, x * 3 + 1, none⟩ (.int .i64 (((ndAt G.ns x).k : Int) + 1))) p (bump G x) B := ⟨_, _, _, _, h1, ft⟩
      have e0 := h1.flds.1
      have e2 : (w.setCell ⟨g, x * 3 + 1, none⟩ (.int .i64 (((ndAt G.ns x).k : Int) + 1))).cell? ⟨g, x * 3 + 2, none⟩ = some (.slice (some ⟨sb, so, none⟩) (ndAt G.ns x).s.length sc) := by
        obtain ⟨g', c', hv', _, _, _, _, _, d2, _⟩ := h1.node (i := x) (by simpa using hxl)
        simp only [List.length_set, Value.slice.injEq, Option.some.injEq, Addr.mk.injEq, and_true, true_and] at hv'
        obtain ⟨rfl, _⟩ := hv'
        rw [hsv] at d2
        exact d2
      have K := rshade_any p (bump G x) B ((ndAt G.ns x).s.getD (ndAt G.ns x).k 0) _ hg (by
        rcases hyc with r | r
        · exact .inl r
        · right; rw [lvB_iff] at r; exact ⟨r.1, by simp only [bump, List.length_set]; exact lvN_lt r.2⟩) (by simp only [bump]; omega) (by simp only [bump, List.length_set]; exact hlen) (fun q => absurd hph (by simpa [bump] using q))
      have HK : Hid (∀ e w', RPost (w.setCell ⟨g, x * 3 + 1, none⟩ (.int .i64 (((ndAt G.ns x).k : Int) + 1))) p (sh (bump G x) ((ndAt G.ns x).s.getD (ndAt G.ns x).k 0)) B (.tuple #[]) e w' → e = .returned (.tuple #[]) ∧ RPost w p (mark G) B (.int .i64 (-1)) (.returned (.int .i64 (-1))) w') := by
        rintro e w' ⟨rfl, hq, hX⟩
        rw [HM.out]
        refine ⟨rfl, rfl, hq.mono (fun k hk => ?_), hF.trans hX (fun _ r => .inl r)⟩
        rcases hk with r | r
        · exact .inl r
        · exact .inr (by simpa using r)
      rw [hx] at c0
      have hgW : (w.setCell ⟨g, x * 3 + 1, none⟩ (.int .i64 (((ndAt G.ns x).k : Int) + 1))).cell? ⟨p, 0, none⟩ = some (.slice (some ⟨g, 0, none⟩) G.ns.length c) := e0
      clear h ft hq hqt hqe hsv hLo hLo1 hx hl hk cf hlo hll hy hyc h1 hF hg hkq hkq2 hx4 hI hph e0
      generalize hGh : (G.ph : Int) = ph at f2 hp2
      clear hGh
      generalize (ndAt G.ns x).s.getD (ndAt G.ns x).k 0 = y at *
      generalize (ndAt G.ns x).k = kk at *
      generalize (ndAt G.ns x).s.length = ls at *
      generalize G.ns.length = n at *
      generalize t.length = tl at *
      go_enter Try.func37, Try.ntmps37
      go_wp2_with fail
      refine K.mono ?_
      clear K
      intro e w1 hq
      obtain ⟨rfl, hq2⟩ := HK.out e w1 hq
      have HQ := hid hq2
      clear hq hq2 HK
      go_wp2_with fail
      go_ret
      exact HQ.out

theorem runit_any (p : Nat) (G : Gs) (B : Nat → Prop) (w : World) (h : Rg w p G B) (hI : Iv G) (hph : G.ph ≠ 0) (hcy : G.cy < 1000000000000000000) :
    Calls Try.prog 37 #[.pointer (some ⟨p, 0, none⟩)] w (RPost w p (unit G).1 B (.int .i64 (swN (unit G).2))) := by
  unfold unit
  by_cases h1 : G.ph = 1
  · simp only [h1, if_true]
    exact rmark_any p G B w h hI h1
  · simp only [h1, if_false]
    exact rsweep_any p G B w h hI (by have := hI.ph; omega) hcy

end Go.Proofs.Ytbjplfbplkjibaa
