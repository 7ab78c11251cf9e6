/-
  The program's sweep, endMark and mark; no statement is proved here.
-/
import Derived.Test.YtbjplfbplkjibaaShade
import Derived.Deep.LoopGhost
namespace Go.Proofs.Ytbjplfbplkjibaa
open Go.RowKit

/-- The number that sweep answers. -/
def swN (l : List Nat) : Int := match l with
  | [] => -1
  | x :: _ => x

theorem Gm.gr {w w' : World} {p : Nat} {vn vl : Value} {SV : List Value} {G : Gs} {B : Nat → Prop} (h : Gm w' p vn vl SV G) (f : Ft B p vn vl SV) (x : Fx B w w') (r : Value) : GPost w p G B r (.returned r) w' :=
  ⟨rfl, ⟨vn, vl, SV, h, f.mono (fun _ q => .inl q)⟩, x⟩
theorem Gm.keepD {B : Nat → Prop} {w w' : World} {p : Nat} {vn vl : Value} {SV : List Value} {G : Gs} (h : Gm w p vn vl SV G) (f : Ft B p vn vl SV) (x : Ext [] w w') : Gm w' p vn vl SV G := h.keep f (C := fun _ => False) (Fx.of_ext0 x) (fun _ _ q => q)
theorem Ft.nil {B : Nat → Prop} {p i : Nat} {vn vl : Value} {SV : List Value} (f : Ft B p vn vl SV) : Ft B p vn vl (SV.set i (.slice none 0 0)) := by
  refine ⟨f.p, f.n, f.l, fun j g => ?_⟩
  by_cases h : i < SV.length
  · rw [svAt_set h]
    split
    · intro q; simp [Value.ownBlock] at q
    · exact f.s j g
  · rw [List.set_eq_of_length_le (by omega)]; exact f.s j g

set_option maxHeartbeats 1000000 in
theorem sweep_any (p : Nat) (G : Gs) (B : Nat → Prop) (w : World) (h : Gr w p G B) (hI : Iv G) (h2 : G.ph = 2) (hcy : G.cy < 1000000000000000000) :
    Calls Try.prog 36 #[.pointer (some ⟨p, 0, none⟩)] w (GPost w p (sweep G).1 B (.int .i64 (swN (sweep G).2))) := by
  obtain ⟨vn, vl, SV, h, ft⟩ := h
  have hpe := hI.pe h2
  have hlen := hI.len
  have hle := hI.le
  obtain ⟨f0, f1, f2, f3, f4, f5, f6⟩ := h.flds
  have z1 := h.froz 1
  have z3 := h.froz 3
  have z4 := h.froz 4
  have z5 := h.froz 5
  by_cases he : G.pl = G.en
  · have HS : Hid (sweep G = ({ G with ph := 0, cy := G.cy + 1 }, [])) := by show _ = _; simp only [sweep, he, if_true]
    have HF : Hid (∀ q, GPost w p { G with ph := 0, cy := G.cy + 1 } B (.int .i64 (-1)) (.returned (.int .i64 (-1))) (((w.drewN q).setCell ⟨p, 3, none⟩ (.int .i64 0)).setCell ⟨p, 4, none⟩ (.int .i64 ((G.cy : Int) + 1)))) := fun q => by
      have h0 := h.keepD ft (Ext.drewN [] w q)
      have h1 := h0.fld 3 (.int .i64 0) { G with ph := 0 } rfl rfl rfl
      have h2 := h1.fld 4 (.int .i64 ((G.cy : Int) + 1)) { G with ph := 0, cy := G.cy + 1 } rfl rfl rfl
      exact h2.gr ft (Fx.of_ext (S := [p]) (((Ext.drewN [p] w q).trans (Ext.setCell [p] _ _ _ (by simp))).trans (Ext.setCell [p] _ _ _ (by simp))) (by simp; exact .inl ft.p)) _
    have he' : ((G.pl : Int) == (G.en : Int)) = true := by simp [he]
    clear h ft f0 f1 f2 hpe he
    generalize hGp : G.pl = pl at *
    generalize hGe : G.en = en at *
    generalize hGc : G.cy = cy at *
    generalize hGh : G.ph = ph at *
    clear hGp hGe hGc hGh
    go_enter Try.func36, Try.ntmps36
    go_wp2_with fail
    go_quiet (fail)
    go_wp2_with fail
    go_ret
    rw [HS.out]
    exact HF.out _
  · have he' : ((G.pl : Int) == (G.en : Int)) = false := by simp; omega
    have hpl : G.pl < G.ns.length := by omega
    obtain ⟨g, c, rfl, hc, hgp, hgl, c0, c1, c2, cf⟩ := h.node hpl
    have cf0 := cf (G.pl * 3)
    have cf1 := cf (G.pl * 3 + 1)
    have cf2 := cf (G.pl * 3 + 2)
    by_cases h4 : (ndAt G.ns G.pl).c = 4
    · have HS : Hid (sweep G = ({ G with ns := G.ns.set G.pl nz, le := min G.le G.pl, pl := G.pl + 1 }, [G.pl])) := by show _ = _; simp only [sweep, he, if_false, h4, if_true]
      have HF : Hid (∀ q, GPost w p { G with ns := G.ns.set G.pl nz, le := min G.le G.pl, pl := G.pl + 1 } B (.int .i64 G.pl) (.returned (.int .i64 G.pl)) ((((((w.drewN q).setCell ⟨p, 5, none⟩ (.int .i64 ((G.pl : Int) + 1))).setCell ⟨g, G.pl * 3, none⟩ (.int .i64 0)).setCell ⟨g, G.pl * 3 + 1, none⟩ (.slice none 0 0)).setCell ⟨g, G.pl * 3 + 2, none⟩ (.int .i64 0)).setCell ⟨p, 1, none⟩ (.int .i64 ((min G.le G.pl : Nat) : Int)))) := fun q => by
        have h0 := h.keepD ft (Ext.drewN [] w q)
        have h1 := h0.fld 5 (.int .i64 ((G.pl : Int) + 1)) { G with pl := G.pl + 1 } rfl rfl rfl
        have h2 := Gm.setn (G := { G with pl := G.pl + 1 }) h1 G.pl nz (.slice none 0 0) hpl (.inl ⟨rfl, rfl⟩) (by simp [Value.ownBlock])
        have h3 := h2.fld 1 (.int .i64 ((min G.le G.pl : Nat) : Int)) { G with ns := G.ns.set G.pl nz, le := min G.le G.pl, pl := G.pl + 1 } rfl rfl rfl
        exact h3.gr ft.nil (Fx.of_ext (S := [p, g]) ((((((Ext.drewN [p, g] w q).trans (Ext.setCell [p, g] _ _ _ (by simp))).trans (Ext.setCell [p, g] _ _ _ (by simp))).trans (Ext.setCell [p, g] _ _ _ (by simp))).trans (Ext.setCell [p, g] _ _ _ (by simp))).trans (Ext.setCell [p, g] _ _ _ (by simp))) (by simp; exact ⟨.inl ft.p, .inl (ft.n g rfl)⟩)) _
      rw [h4] at c0
      have hil : (G.pl : Int) < G.ns.length := by omega
      by_cases hm : G.le ≤ G.pl
      · have hm1 : (G.le : Int) ≤ G.pl := by omega
        have hm2 : min G.le G.pl = G.le := by omega
        rw [hm2] at HF HS
        clear h ft f2 hpe he h4 cf hm2
        generalize hGn : G.ns.length = n at *
        generalize hGp : G.pl = pl at *
        generalize hGe : G.en = en at *
        generalize hGl : G.le = le at *
        clear hGn hGp hGe hGl
        go_enter Try.func36, Try.ntmps36
        go_wp2_with fail
        go_quiet (fail)
        go_wp2_with fail
        go_ret
        rw [HS.out]
        exact HF.out _
      · have hm1 : (G.pl : Int) ≤ G.le := by omega
        have hm0 : ¬ (G.le : Int) ≤ G.pl := by omega
        have hm2 : min G.le G.pl = G.pl := by omega
        rw [hm2] at HF HS
        clear h ft f2 hpe he h4 cf hm2
        generalize hGn : G.ns.length = n at *
        generalize hGp : G.pl = pl at *
        generalize hGe : G.en = en at *
        generalize hGl : G.le = le at *
        clear hGn hGp hGe hGl
        go_enter Try.func36, Try.ntmps36
        go_wp2_with fail
        go_quiet (fail)
        go_wp2_with fail
        go_ret
        rw [HS.out]
        exact HF.out _
    · have HS : Hid (sweep G = ({ G with pl := G.pl + 1 }, [])) := by show _ = _; simp only [sweep, he, if_false, h4]
      have HF : Hid (∀ q, GPost w p { G with pl := G.pl + 1 } B (.int .i64 (-1)) (.returned (.int .i64 (-1))) ((w.drewN q).setCell ⟨p, 5, none⟩ (.int .i64 ((G.pl : Int) + 1)))) := fun q => by
        have h0 := h.keepD ft (Ext.drewN [] w q)
        have h1 := h0.fld 5 (.int .i64 ((G.pl : Int) + 1)) { G with pl := G.pl + 1 } rfl rfl rfl
        exact h1.gr ft (Fx.of_ext (S := [p]) ((Ext.drewN [p] w q).trans (Ext.setCell [p] _ _ _ (by simp))) (by simp; exact .inl ft.p)) _
      have h4' : (((ndAt G.ns G.pl).c : Int) != 4) = true := by simp; omega
      have hil : (G.pl : Int) < G.ns.length := by omega
      clear h ft f1 f2 hpe he h4 cf c1 c2 cf0 cf1 cf2
      generalize (ndAt G.ns G.pl).c = cc at *
      generalize hGn : G.ns.length = n at *
      generalize hGp : G.pl = pl at *
      generalize hGe : G.en = en at *
      clear hGn hGp hGe
      go_enter Try.func36, Try.ntmps36
      go_wp2_with fail
      go_quiet (fail)
      go_wp2_with fail
      go_ret
      rw [HS.out]
      exact HF.out _

/-! ### the end of Mark -/

/-- The first k nodes have died, if they were white. -/
def dn (l : List Nd) (k : Nat) : List Nd := (l.take k).map die ++ l.drop k
theorem dn_len (l : List Nd) (k : Nat) : (dn l k).length = l.length := by simp [dn]; omega
theorem dn_zero (l : List Nd) : dn l 0 = l := by simp [dn]
theorem dn_all (l : List Nd) : dn l l.length = l.map die := by simp [dn]
theorem dn_at (l : List Nd) (k i : Nat) (h : k ≤ i) : ndAt (dn l k) i = ndAt l i := by
  by_cases hi : i < l.length
  · simp only [ndAt, List.getD, dn]
    rw [List.getElem?_append_right (by simp; omega)]
    simp only [List.length_map, List.length_take, List.getElem?_drop]
    congr 2
    congr 1
    omega
  · rw [ndAt_out (by rw [dn_len]; omega), ndAt_out (by omega)]
theorem dn_succ (l : List Nd) (k : Nat) (h : k < l.length) : dn l (k + 1) = (dn l k).set k (die (ndAt l k)) := by
  simp only [dn]
  rw [List.take_add_one, ndAt_get h, List.map_append, List.set_append_right _ _ (by simp; omega)]
  simp only [List.length_map, List.length_take, Nat.min_eq_left (Nat.le_of_lt h), Nat.sub_self, Option.toList_some, List.map_cons, List.map_nil, List.append_assoc]
  congr 1
  rw [List.drop_eq_getElem_cons h, List.set_cons_zero]
  rfl
theorem dn_same (l : List Nd) (k : Nat) (h : k < l.length) (hc : (ndAt l k).c ≠ 1) : dn l (k + 1) = dn l k := by
  rw [dn_succ l k h]
  refine set_self ?_
  rw [ndAt_get (by rw [dn_len]; exact h), dn_at _ _ _ (Nat.le_refl _)]
  simp [die, hc]

set_option maxHeartbeats 2000000 in
theorem endMark_any (p : Nat) (G : Gs) (B : Nat → Prop) (w : World) (h : Gr w p G B) (hlen : G.ns.length ≤ 65536) :
    Calls Try.prog 41 #[.pointer (some ⟨p, 0, none⟩)] w (GPost w p { G with ns := G.ns.map die, ln := [], ph := 2, pl := 0, en := G.ns.length } B (.tuple #[])) := by
  obtain ⟨vn, vl, SV, h, ft⟩ := h
  have f0 := h.flds.1
  obtain ⟨an, cn, rfl, hcn⟩ := own_slice h.row
  have HH := hid h
  have HT := hid ft
  have HDz := hid (dn_zero G.ns)
  have HDa := hid (dn_all G.ns)
  have HDl := hid (dn_len G.ns)
  have HDt := hid (dn_at G.ns)
  have HDs := hid (dn_succ G.ns)
  have HDe := hid (dn_same G.ns)
  obtain ⟨n, hn⟩ : ∃ n, n = G.ns.length := ⟨_, rfl⟩
  have HN := hid hn
  rw [← hn] at f0 hcn hlen
  clear h ft hn
  go_enter Try.func41, Try.ntmps41
  go_wp2_with fail
  go_loopw [8] (fun q wr => ∃ (k : Nat) (SV' : List Value), q = .int .i64 k ∧ k ≤ n ∧ Gm wr p (.slice an n cn) vl SV' { G with ns := dn G.ns k } ∧ Ft B p (.slice an n cn) vl SV' ∧ Fx B w wr) (fun q _ => (n - (intOf q)).toNat)
  case atStart => exact ⟨0, SV, rfl, Nat.zero_le _, by rw [HDz.out, HN.out]; exact HH.out, by rw [HN.out]; exact HT.out, Fx.refl _ _⟩
  case round =>
    clear HH HT
    obtain ⟨k, SV', rfl, hk, hG, hT, hX⟩ := hrel
    have HG := hid hG
    have HT := hid hT
    have HX := hid hX
    clear hT hX
    by_cases hlt : k < n
    · have hlk : k < G.ns.length := by rw [← HN.out]; exact hlt
      obtain ⟨g, c, hv, hc, hgp, hgl, c0, c1, c2, cf⟩ := hG.node (i := k) (by rw [HDl.out]; exact hlk)
      simp only [HDl.out, Value.slice.injEq] at hv
      obtain ⟨rfl, _, rfl⟩ := hv
      have fp := hG.flds.1
      rw [HDt.out k k (Nat.le_refl _)] at c0 c2
      have hln : (dn G.ns k).length = n := by rw [HDl.out, HN.out]
      clear hc hG
      have hil : (k : Int) < n := by omega
      by_cases h1 : (ndAt G.ns k).c = 1
      · have HM : Hid (Gm (((wr.setCell ⟨g, k * 3, none⟩ (.int .i64 4)).setCell ⟨g, k * 3 + 1, none⟩ (.slice none 0 0)).setCell ⟨g, k * 3 + 2, none⟩ (.int .i64 0)) p (.slice (some ⟨g, 0, none⟩) n cn) vl (SV'.set k (.slice none 0 0)) { G with ns := dn G.ns (k + 1) }) := by
          have h2 := HG.out
          have e1 : n = ({ G with ns := dn G.ns k } : Gs).ns.length := hln.symm
          rw [e1] at h2
          have h3 := Gm.setn (G := { G with ns := dn G.ns k }) h2 k ⟨4, [], 0⟩ (.slice none 0 0) (by simp only [hln]; exact hlt) (.inl ⟨rfl, rfl⟩) (by simp [Value.ownBlock])
          rw [← e1] at h3
          have e2 : dn G.ns (k + 1) = (dn G.ns k).set k ⟨4, [], 0⟩ := by rw [HDs.out k hlk]; simp [die, h1]
          rw [e2]
          exact h3
        rw [h1] at c0
        have cf0 := cf (k * 3)
        have cf1 := cf (k * 3 + 1)
        have cf2 := cf (k * 3 + 2)
        clear h1 HG cf hln
        generalize (ndAt G.ns k).k = kk at *
        go_wp2_with fail
        go_roundw
        case rel => exact ⟨k + 1, _, by go_num, by omega, HM.out, HT.out.nil, HX.out.trans (C := B) (Fx.of_ext (S := [g]) (((Ext.setCell [g] wr _ _ (by simp)).trans (Ext.setCell [g] _ _ _ (by simp))).trans (Ext.setCell [g] _ _ _ (by simp))) (by simp; exact .inl (HT.out.n g rfl))) (fun _ q => .inl q)⟩
        case measure => simp [intOf]; omega
      · have HM : Hid (Gm wr p (.slice (some ⟨g, 0, none⟩) n cn) vl SV' { G with ns := dn G.ns (k + 1) }) := by
          have h2 := HG.out
          rw [← HDe.out k hlk h1] at h2
          exact h2
        have h1' : (((ndAt G.ns k).c : Int) == 1) = false := by simp; omega
        clear h1 HG cf hln
        generalize (ndAt G.ns k).k = kk at *
        generalize (ndAt G.ns k).c = kc at *
        go_wp2_with fail
        go_roundw
        case rel => exact ⟨k + 1, _, by go_num, by omega, HM.out, HT.out, HX.out⟩
        case measure => simp [intOf]; omega
    · obtain rfl : k = n := by omega
      have hd : dn G.ns k = G.ns.map die := by rw [HN.out]; exact HDa.out
      rw [hd] at hG HG
      have f0 := hG.flds.1
      have z2 := hG.froz 2
      have z3 := hG.froz 3
      have z5 := hG.froz 5
      have z6 := hG.froz 6
      obtain ⟨_, _, f2, f3, _, f5, f6⟩ := hG.flds
      have HF : Hid (GPost w p { G with ns := G.ns.map die, ln := [], ph := 2, pl := 0, en := G.ns.length } B (.tuple #[]) (.returned (.tuple #[])) ((((wr.setCell ⟨p, 2, none⟩ (.slice none 0 0)).setCell ⟨p, 3, none⟩ (.int .i64 2)).setCell ⟨p, 5, none⟩ (.int .i64 0)).setCell ⟨p, 6, none⟩ (.int .i64 k))) := by
        have h1 := hG.line (vl' := .slice none 0 0) (Ext.refl _ _) [] (.inl ⟨rfl, rfl⟩) (.inr (by simp [Value.ownBlock]))
        have h2 := h1.fld 3 (.int .i64 2) { G with ns := G.ns.map die, ln := [], ph := 2 } rfl rfl rfl
        have h3 := h2.fld 5 (.int .i64 0) { G with ns := G.ns.map die, ln := [], ph := 2, pl := 0 } rfl rfl rfl
        have h4 := h3.fld 6 (.int .i64 k) { G with ns := G.ns.map die, ln := [], ph := 2, pl := 0, en := k } rfl rfl rfl
        rw [HN.out] at h4 ⊢
        refine h4.gr (B := B) ?_ (HX.out.trans (C := B) (Fx.of_ext (S := [p]) ((((Ext.setCell [p] wr _ _ (by simp)).trans (Ext.setCell [p] _ _ _ (by simp))).trans (Ext.setCell [p] _ _ _ (by simp))).trans (Ext.setCell [p] _ _ _ (by simp))) (by simp; exact .inl HT.out.p)) (fun _ q => .inl q)) _
        have := HT.out
        rw [HN.out] at this
        exact ⟨this.p, this.n, by simp [Value.ownBlock], this.s⟩
      obtain ⟨al, cl, rfl, _⟩ := hG.lin.slice
      clear hG HG HT HX
      simp only at f3 f5 f6
      go_wp2_with fail
      go_end0
      exact HF.out

/-! ### mark -/

set_option maxHeartbeats 2000000 in
theorem mark_any (p : Nat) (G : Gs) (B : Nat → Prop) (w : World) (h : Gr w p G B) (hI : Iv G) :
    Calls Try.prog 35 #[.pointer (some ⟨p, 0, none⟩)] w (GPost w p (mark G) B (.tuple #[])) := by
  have hlen := hI.len
  have hll := hI.lln
  cases hl : G.ln with
  | nil =>
    have K := endMark_any p G B w h hlen
    have HM : Hid (mark G = { G with ns := G.ns.map die, ln := [], ph := 2, pl := 0, en := G.ns.length }) := by show _ = _; simp only [mark, hl]
    obtain ⟨vn, vl, SV, h, ft⟩ := h
    obtain ⟨al, cl, rfl, _⟩ := h.lin.slice
    have f2 := h.flds.2.2.1
    rw [hl, List.length_nil] at f2
    clear h ft hl hll
    go_enter Try.func35, Try.ntmps35
    go_wp2_with (go_at_call 41; refine K.mono ?_; intro e w1 hq; obtain ⟨he, hq⟩ := hq; subst he)
    go_end0
    rw [HM.out]
    exact ⟨rfl, hq⟩
  | cons x t =>
    have hx := (hI.grey x).2 (by simp [hl])
    have hxl : x < G.ns.length := lvN_lt (G := G) ⟨by rw [hx]; decide, by rw [hx]; decide⟩
    have hlo := hI.lo x
    have hsl := hI.sl x
    have HI := hid hI
    obtain ⟨vn, vl, SV, h, ft⟩ := h
    obtain ⟨g, c, rfl, hc, hgp, hgl, c0, c1, c2, cf⟩ := h.node hxl
    obtain ⟨f0, _, f2, _⟩ := h.flds
    have hq := h.lin
    rw [hl] at hq
    obtain ⟨gl, ol, cl, rfl, htc, cx, hqt, hqe⟩ := hq.head
    obtain ⟨sa, hsv, hIs⟩ := (h.slo x hxl).is
    rw [hsv] at c1
    have hxi : (x : Int) < G.ns.length := by omega
    have htl : t.length ≤ 65536 := by rw [hl] at hll; simp at hll; omega
    have cf0 := cf (x * 3)
    have cf2 := cf (x * 3 + 2)
    have z2 := h.froz 2
    have hglp : gl ≠ p := fun e => h.lp (by simp [Value.ownBlock, e])
    have hglg : g ≠ gl := fun e => h.nl g rfl (by simp [Value.ownBlock, e])
    have hgll : gl < w.heap.size := h.lin.lt gl rfl
    have hpl : p < w.heap.size := lt_of_heap h.blk
    by_cases hk : (ndAt G.ns x).k = (ndAt G.ns x).s.length
    · have HM : Hid (mark G = { G with ns := G.ns.set x ⟨3, (ndAt G.ns x).s, (ndAt G.ns x).k⟩, ln := t }) := by show _ = _; simp only [mark, hl, if_pos hk]
      have HF : Hid (∀ q o2, Qu w (.slice (some ⟨gl, o2, none⟩) t.length cl) t → GPost w p { G with ns := G.ns.set x ⟨3, (ndAt G.ns x).s, (ndAt G.ns x).k⟩, ln := t } B (.tuple #[]) (.returned (.tuple #[])) (((w.drewN q).setCell ⟨g, x * 3, none⟩ (.int .i64 3)).setCell ⟨p, 2, none⟩ (.slice (some ⟨gl, o2, none⟩) t.length cl))) := fun q o2 hqt => by
        have h0 := h.keepD ft (Ext.drewN [] w q)
        have h1 := h0.setc x 3 hxl
        have hq1 : Qu ((w.drewN q).setCell ⟨g, x * 3, none⟩ (.int .i64 (3 : Nat))) (.slice (some ⟨gl, o2, none⟩) t.length cl) t :=
          (hqt.keep (B := fun k => k = g) ((Fx.of_ext0 (Ext.drewN [] w q)).trans (C := fun k => k = g) (Fx.of_ext (Ext.setCell [g] _ _ _ (by simp)) (by simp)) (fun _ r => .inl r)) (by simp [Value.ownBlock]; exact fun e => hglg e.symm))
        have h2 := h1.line (Ext.refl _ _) t hq1 (.inl rfl)
        refine h2.gr ⟨ft.p, ft.n, fun k hk => ft.l k hk, ft.s⟩ (Fx.of_ext (S := [p, g]) (((Ext.drewN [p, g] w q).trans (Ext.setCell [p, g] _ _ _ (by simp))).trans (Ext.setCell [p, g] _ _ _ (by simp))) (by simp; exact ⟨.inl ft.p, .inl (ft.n g rfl)⟩)) _
      have hk' : (((ndAt G.ns x).k : Int) == ((ndAt G.ns x).s.length : Int)) = true := by simp [hk]
      rw [hx] at c0
      by_cases hcl : cl = 0
      · subst hcl
        have ht0 : t = [] := List.length_eq_zero_iff.1 (by omega)
        subst ht0
        have HQ := hid hqe
        clear h ft hq hqt hqe hsv hIs hx hl hk cf hlo hsl hll
        simp only [List.length_nil, Nat.zero_add] at f2 HF
        generalize (ndAt G.ns x).k = kk at *
        generalize (ndAt G.ns x).s.length = ls at *
        generalize G.ns.length = n at *
        go_enter Try.func35, Try.ntmps35
        go_wp2_with fail
        go_quiet (fail)
        go_wp2_with fail
        go_quiet (fail)
        go_wp2_with fail
        go_end0
        rw [HM.out]
        exact HF.out _ _ HQ.out
      · have hcl1 : 1 < cl + 1 := by omega
        have hcl2 : (1 : Int) < ((cl + 1 : Nat) : Int) := by omega
        have HQ := hid hqt
        clear h ft hq hqt hqe hsv hIs hx hl hk cf hlo hsl hll
        generalize (ndAt G.ns x).k = kk at *
        generalize (ndAt G.ns x).s.length = ls at *
        generalize G.ns.length = n at *
        generalize t.length = tl at *
        go_enter Try.func35, Try.ntmps35
        go_wp2_with fail
        go_quiet (fail)
        go_wp2_with fail
        go_quiet (fail)
        go_wp2_with fail
        go_end0
        rw [HM.out]
        exact HF.out _ _ HQ.out
    · have hkl : (ndAt G.ns x).k < (ndAt G.ns x).s.length := by omega
      have hkl2 : ((ndAt G.ns x).k : Int) < (ndAt G.ns x).s.length := by omega
      have HM : Hid (mark G = sh (bump G x) ((ndAt G.ns x).s.getD (ndAt G.ns x).k 0)) := by show _ = _; simp only [mark, hl, if_neg hk, bump]
      have hk' : (((ndAt G.ns x).k : Int) == ((ndAt G.ns x).s.length : Int)) = false := by simp; omega
      obtain ⟨sb, so, rfl, cs⟩ := hIs.cell hkl
      have hy : (ndAt G.ns x).s.getD (ndAt G.ns x).k 0 ∈ (ndAt G.ns x).s := by simp [List.getD, hkl]
      have hyc := hI.cl x ⟨by omega, by omega⟩ _ hy
      have HK : Hid (∀ q, Calls Try.prog 33 #[.pointer (some ⟨p, 0, none⟩), .int .i64 ((ndAt G.ns x).s.getD (ndAt G.ns x).k 0)] ((w.drewN q).setCell ⟨g, x * 3 + 2, none⟩ (.int .i64 (((ndAt G.ns x).k : Int) + 1))) (GPost w p (mark G) B (.tuple #[]))) := fun q => by
        have h0 := h.keepD ft (Ext.drewN [] w q)
        have h1 := h0.setk x ((ndAt G.ns x).k + 1) hxl
        have hg : Gr ((w.drewN q).setCell ⟨g, x * 3 + 2, none⟩ (.int .i64 (((ndAt G.ns x).k : Int) + 1))) p (bump G x) B := ⟨_, _, _, h1, ft⟩
        have hF : Fx B w ((w.drewN q).setCell ⟨g, x * 3 + 2, none⟩ (.int .i64 (((ndAt G.ns x).k : Int) + 1))) := Fx.of_ext (S := [g]) ((Ext.drewN [g] w q).trans (Ext.setCell [g] _ _ _ (by simp))) (by simp; exact .inl (ft.n g rfl))
        refine (shade_any p (bump G x) B _ _ hg ?_ (by simp only [bump]; omega) (by simp only [bump, List.length_set]; exact hlen)).mono ?_
        · rcases hyc with r | r
          · exact .inl r
          · right; rw [lvB_iff] at r; exact ⟨r.1, by simp only [bump, List.length_set]; exact lvN_lt r.2⟩
        · rintro e w' ⟨rfl, hq, hX⟩
          rw [HM.out]
          refine ⟨rfl, hq.mono (fun k hk => ?_), hF.trans hX (fun _ r => .inl r)⟩
          rcases hk with r | r
          · exact .inl r
          · exact .inr (by simpa using r)
      rw [hx] at c0
      clear h ft hq hqt hqe hsv hIs hx hl hk cf hlo hll hy hyc
      generalize (ndAt G.ns x).s.getD (ndAt G.ns x).k 0 = y at *
      generalize (ndAt G.ns x).k = kk at *
      generalize (ndAt G.ns x).s.length = ls at *
      generalize G.ns.length = n at *
      generalize t.length = tl at *
      go_enter Try.func35, Try.ntmps35
      go_wp2_with fail
      go_quiet (fail)
      go_wp2_with fail
      go_quiet (fail)
      go_wp2_with fail
      go_quiet (fail)
      go_wp2_with fail
      refine (HK.out _).mono ?_
      clear HK
      intro e w1 hq
      obtain ⟨he, hq⟩ := hq
      subst he
      go_wp2_with fail
      go_end0
      exact ⟨rfl, hq⟩

end Go.Proofs.Ytbjplfbplkjibaa
