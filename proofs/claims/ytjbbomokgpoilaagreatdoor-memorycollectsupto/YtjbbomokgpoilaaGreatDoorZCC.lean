/-
  CSweep, CWork, CSets: joined by program; no statement is proved here.
-/
import Derived.Test.YtjbbomokgpoilaaGreatDoorZCB
import Derived.Deep.LoopGhost
import Derived.Test.YtjbbomokgpoilaaGreatDoorZCA
import Derived.Lib.SliceRun
/-
  The program's sweep, endMark and mark; no statement is proved here.
-/
namespace Go.Proofs.YtjbbomokgpoilaaGreatDoor.Co
open Go.RowKit

/-- The number that sweep answers. -/
def swN (l : List Nat) : Int := match l with
  | [] => -1
  | x :: _ => x

theorem Gm.gr {w w' : World} {p : Nat} {vn vl : Value} {SV : List Value} {G : Gs} {B : Nat → Prop} (h : Gm w' p vn vl SV G) (f : Ft B p vn vl SV) (x : Fx B w w') (r : Value) : GPost w p G B r (.returned r) w' :=
  ⟨rfl, ⟨vn, vl, SV, h, f.mono (fun _ q => .inl q)⟩, x⟩
theorem Gm.keepD {B : Nat → Prop} {w w' : World} {p : Nat} {vn vl : Value} {SV : List Value} {G : Gs} (h : Gm w p vn vl SV G) (f : Ft B p vn vl SV) (x : Ext [] w w') : Gm w' p vn vl SV G := h.keep f (C := fun _ => False) (Fx.of_ext0 x) (fun _ _ q => q)
theorem Ft.nil {B : Nat → Prop} {p i : Nat} {vn vl : Value} {SV : List Value} (f : Ft B p vn vl SV) : Ft B p vn vl (SV.set i (.slice none 0 0)) := by
  refine ⟨f.p, f.n, f.l, fun j g => ?_⟩
  by_cases h : i < SV.length
  · rw [svAt_set h]
    split
    · intro q; simp [Value.ownBlock] at q
    · exact f.s j g
  · rw [List.set_eq_of_length_le (by omega)]; exact f.s j g

set_option maxHeartbeats 1000000 in
theorem sweep_any (p : Nat) (G : Gs) (B : Nat → Prop) (w : World) (h : Gr w p G B) (hI : Iv G) (h2 : G.ph = 2) (hcy : G.cy < 1000000000000000000) :
    Calls Tryz.prog 88 #[.pointer (some ⟨p, 0, none⟩)] w (GPost w p (sweep G).1 B (.int .i64 (swN (sweep G).2))) := by
  obtain ⟨vn, vl, SV, h, ft⟩ := h
  have hpe := hI.pe h2
  have hlen := hI.len
  have hle := hI.le
  obtain ⟨f0, f1, f2, f3, f4, f5, f6⟩ := h.flds
  have z1 := h.froz 1
  have z3 := h.froz 3
  have z4 := h.froz 4
  have z5 := h.froz 5
  by_cases he : G.pl = G.en
  · have HS : Hid (sweep G = ({ G with ph := 0, cy := G.cy + 1 }, [])) := by show _ = _; simp only [sweep, he, if_true]
    have HF : Hid (∀ q, GPost w p { G with ph := 0, cy := G.cy + 1 } B (.int .i64 (-1)) (.returned (.int .i64 (-1))) (((w.drewN q).setCell ⟨p, 3, none⟩ (.int .i64 0)).setCell ⟨p, 4, none⟩ (.int .i64 ((G.cy : Int) + 1)))) := fun q => by
      have h0 := h.keepD ft (Ext.drewN [] w q)
      have h1 := h0.fld 3 (.int .i64 0) { G with ph := 0 } rfl rfl rfl
      have h2 := h1.fld 4 (.int .i64 ((G.cy : Int) + 1)) { G with ph := 0, cy := G.cy + 1 } rfl rfl rfl
      exact h2.gr ft (Fx.of_ext (S := [p]) (((Ext.drewN [p] w q).trans (Ext.setCell [p] _ _ _ (by simp))).trans (Ext.setCell [p] _ _ _ (by simp))) (by simp; exact .inl ft.p)) _
    have he' : ((G.pl : Int) == (G.en : Int)) = true := by simp [he]
    clear h ft f0 f1 f2 hpe he
    generalize hGp : G.pl = pl at *
    generalize hGe : G.en = en at *
    generalize hGc : G.cy = cy at *
    generalize hGh : G.ph = ph at *
    clear hGp hGe hGc hGh
    go_enter Tryz.func88, Tryz.ntmps88
    go_wp2_with fail
    go_quiet (fail)
    go_wp2_with fail
    go_ret
    rw [HS.out]
    exact HF.out _
  · have he' : ((G.pl : Int) == (G.en : Int)) = false := by simp; omega
    have hpl : G.pl < G.ns.length := by omega
    obtain ⟨g, c, rfl, hc, hgp, hgl, c0, c1, c2, cf⟩ := h.node hpl
    have cf0 := cf (G.pl * 3)
    have cf1 := cf (G.pl * 3 + 1)
    have cf2 := cf (G.pl * 3 + 2)
    by_cases h4 : (ndAt G.ns G.pl).c = 4
    · have HS : Hid (sweep G = ({ G with ns := G.ns.set G.pl nz, le := min G.le G.pl, pl := G.pl + 1 }, [G.pl])) := by show _ = _; simp only [sweep, he, if_false, h4, if_true]
      have HF : Hid (∀ q, GPost w p { G with ns := G.ns.set G.pl nz, le := min G.le G.pl, pl := G.pl + 1 } B (.int .i64 G.pl) (.returned (.int .i64 G.pl)) ((((((w.drewN q).setCell ⟨p, 5, none⟩ (.int .i64 ((G.pl : Int) + 1))).setCell ⟨g, G.pl * 3, none⟩ (.int .i64 0)).setCell ⟨g, G.pl * 3 + 1, none⟩ (.slice none 0 0)).setCell ⟨g, G.pl * 3 + 2, none⟩ (.int .i64 0)).setCell ⟨p, 1, none⟩ (.int .i64 ((min G.le G.pl : Nat) : Int)))) := fun q => by
        have h0 := h.keepD ft (Ext.drewN [] w q)
        have h1 := h0.fld 5 (.int .i64 ((G.pl : Int) + 1)) { G with pl := G.pl + 1 } rfl rfl rfl
        have h2 := Gm.setn (G := { G with pl := G.pl + 1 }) h1 G.pl nz (.slice none 0 0) hpl (.inl ⟨rfl, rfl⟩) (by simp [Value.ownBlock])
        have h3 := h2.fld 1 (.int .i64 ((min G.le G.pl : Nat) : Int)) { G with ns := G.ns.set G.pl nz, le := min G.le G.pl, pl := G.pl + 1 } rfl rfl rfl
        exact h3.gr ft.nil (Fx.of_ext (S := [p, g]) ((((((Ext.drewN [p, g] w q).trans (Ext.setCell [p, g] _ _ _ (by simp))).trans (Ext.setCell [p, g] _ _ _ (by simp))).trans (Ext.setCell [p, g] _ _ _ (by simp))).trans (Ext.setCell [p, g] _ _ _ (by simp))).trans (Ext.setCell [p, g] _ _ _ (by simp))) (by simp; exact ⟨.inl ft.p, .inl (ft.n g rfl)⟩)) _
      rw [h4] at c0
      have hil : (G.pl : Int) < G.ns.length := by omega
      by_cases hm : G.le ≤ G.pl
      · have hm1 : (G.le : Int) ≤ G.pl := by omega
        have hm2 : min G.le G.pl = G.le := by omega
        rw [hm2] at HF HS
        clear h ft f2 hpe he h4 cf hm2
        generalize hGn : G.ns.length = n at *
        generalize hGp : G.pl = pl at *
        generalize hGe : G.en = en at *
        generalize hGl : G.le = le at *
        clear hGn hGp hGe hGl
        go_enter Tryz.func88, Tryz.ntmps88
        go_wp2_with fail
        go_quiet (fail)
        go_wp2_with fail
        go_ret
        rw [HS.out]
        exact HF.out _
      · have hm1 : (G.pl : Int) ≤ G.le := by omega
        have hm0 : ¬ (G.le : Int) ≤ G.pl := by omega
        have hm2 : min G.le G.pl = G.pl := by omega
        rw [hm2] at HF HS
        clear h ft f2 hpe he h4 cf hm2
        generalize hGn : G.ns.length = n at *
        generalize hGp : G.pl = pl at *
        generalize hGe : G.en = en at *
        generalize hGl : G.le = le at *
        clear hGn hGp hGe hGl
        go_enter Tryz.func88, Tryz.ntmps88
        go_wp2_with fail
        go_quiet (fail)
        go_wp2_with fail
        go_ret
        rw [HS.out]
        exact HF.out _
    · have HS : Hid (sweep G = ({ G with pl := G.pl + 1 }, [])) := by show _ = _; simp only [sweep, he, if_false, h4]
      have HF : Hid (∀ q, GPost w p { G with pl := G.pl + 1 } B (.int .i64 (-1)) (.returned (.int .i64 (-1))) ((w.drewN q).setCell ⟨p, 5, none⟩ (.int .i64 ((G.pl : Int) + 1)))) := fun q => by
        have h0 := h.keepD ft (Ext.drewN [] w q)
        have h1 := h0.fld 5 (.int .i64 ((G.pl : Int) + 1)) { G with pl := G.pl + 1 } rfl rfl rfl
        exact h1.gr ft (Fx.of_ext (S := [p]) ((Ext.drewN [p] w q).trans (Ext.setCell [p] _ _ _ (by simp))) (by simp; exact .inl ft.p)) _
      have h4' : (((ndAt G.ns G.pl).c : Int) != 4) = true := by simp; omega
      have hil : (G.pl : Int) < G.ns.length := by omega
      clear h ft f1 f2 hpe he h4 cf c1 c2 cf0 cf1 cf2
      generalize (ndAt G.ns G.pl).c = cc at *
      generalize hGn : G.ns.length = n at *
      generalize hGp : G.pl = pl at *
      generalize hGe : G.en = en at *
      clear hGn hGp hGe
      go_enter Tryz.func88, Tryz.ntmps88
      go_wp2_with fail
      go_quiet (fail)
      go_wp2_with fail
      go_ret
      rw [HS.out]
      exact HF.out _

/-! ### the end of Mark -/

/-- The first k nodes have died, if they were white. -/
def dn (l : List Nd) (k : Nat) : List Nd := (l.take k).map die ++ l.drop k
theorem dn_len (l : List Nd) (k : Nat) : (dn l k).length = l.length := by simp [dn]; omega
theorem dn_zero (l : List Nd) : dn l 0 = l := by simp [dn]
theorem dn_all (l : List Nd) : dn l l.length = l.map die := by simp [dn]
theorem dn_at (l : List Nd) (k i : Nat) (h : k ≤ i) : ndAt (dn l k) i = ndAt l i := by
  by_cases hi : i < l.length
  · simp only [ndAt, List.getD, dn]
    rw [List.getElem?_append_right (by simp; omega)]
    simp only [List.length_map, List.length_take, List.getElem?_drop]
    congr 2
    congr 1
    omega
  · rw [ndAt_out (by rw [dn_len]; omega), ndAt_out (by omega)]
theorem dn_succ (l : List Nd) (k : Nat) (h : k < l.length) : dn l (k + 1) = (dn l k).set k (die (ndAt l k)) := by
  simp only [dn]
  rw [List.take_add_one, ndAt_get h, List.map_append, List.set_append_right _ _ (by simp; omega)]
  simp only [List.length_map, List.length_take, Nat.min_eq_left (Nat.le_of_lt h), Nat.sub_self, Option.toList_some, List.map_cons, List.map_nil, List.append_assoc]
  congr 1
  rw [List.drop_eq_getElem_cons h, List.set_cons_zero]
  rfl
theorem dn_same (l : List Nd) (k : Nat) (h : k < l.length) (hc : (ndAt l k).c ≠ 1) : dn l (k + 1) = dn l k := by
  rw [dn_succ l k h]
  refine set_self ?_
  rw [ndAt_get (by rw [dn_len]; exact h), dn_at _ _ _ (Nat.le_refl _)]
  simp [die, hc]

set_option maxHeartbeats 2000000 in
theorem endMark_any (p : Nat) (G : Gs) (B : Nat → Prop) (w : World) (h : Gr w p G B) (hlen : G.ns.length ≤ 65536) :
    Calls Tryz.prog 115 #[.pointer (some ⟨p, 0, none⟩)] w (GPost w p { G with ns := G.ns.map die, ln := [], ph := 2, pl := 0, en := G.ns.length } B (.tuple #[])) := by
  obtain ⟨vn, vl, SV, h, ft⟩ := h
  have f0 := h.flds.1
  obtain ⟨an, cn, rfl, hcn⟩ := own_slice h.row
  have HH := hid h
  have HT := hid ft
  have HDz := hid (dn_zero G.ns)
  have HDa := hid (dn_all G.ns)
  have HDl := hid (dn_len G.ns)
  have HDt := hid (dn_at G.ns)
  have HDs := hid (dn_succ G.ns)
  have HDe := hid (dn_same G.ns)
  obtain ⟨n, hn⟩ : ∃ n, n = G.ns.length := ⟨_, rfl⟩
  have HN := hid hn
  rw [← hn] at f0 hcn hlen
  clear h ft hn
  go_enter Tryz.func115, Tryz.ntmps115
  go_wp2_with fail
  go_loopw [8] (fun q wr => ∃ (k : Nat) (SV' : List Value), q = .int .i64 k ∧ k ≤ n ∧ Gm wr p (.slice an n cn) vl SV' { G with ns := dn G.ns k } ∧ Ft B p (.slice an n cn) vl SV' ∧ Fx B w wr) (fun q _ => (n - (intOf q)).toNat)
  case atStart => exact ⟨0, SV, rfl, Nat.zero_le _, by rw [HDz.out, HN.out]; exact HH.out, by rw [HN.out]; exact HT.out, Fx.refl _ _⟩
  case round =>
    clear HH HT
    obtain ⟨k, SV', rfl, hk, hG, hT, hX⟩ := hrel
    have HG := hid hG
    have HT := hid hT
    have HX := hid hX
    clear hT hX
    by_cases hlt : k < n
    · have hlk : k < G.ns.length := by rw [← HN.out]; exact hlt
      obtain ⟨g, c, hv, hc, hgp, hgl, c0, c1, c2, cf⟩ := hG.node (i := k) (by rw [HDl.out]; exact hlk)
      simp only [HDl.out, Value.slice.injEq] at hv
      obtain ⟨rfl, _, rfl⟩ := hv
      have fp := hG.flds.1
      rw [HDt.out k k (Nat.le_refl _)] at c0 c2
      have hln : (dn G.ns k).length = n := by rw [HDl.out, HN.out]
      clear hc hG
      have hil : (k : Int) < n := by omega
      by_cases h1 : (ndAt G.ns k).c = 1
      · have HM : Hid (Gm (((wr.setCell ⟨g, k * 3, none⟩ (.int .i64 4)).setCell ⟨g, k * 3 + 1, none⟩ (.slice none 0 0)).setCell ⟨g, k * 3 + 2, none⟩ (.int .i64 0)) p (.slice (some ⟨g, 0, none⟩) n cn) vl (SV'.set k (.slice none 0 0)) { G with ns := dn G.ns (k + 1) }) := by
          have h2 := HG.out
          have e1 : n = ({ G with ns := dn G.ns k } : Gs).ns.length := hln.symm
          rw [e1] at h2
          have h3 := Gm.setn (G := { G with ns := dn G.ns k }) h2 k ⟨4, [], 0⟩ (.slice none 0 0) (by simp only [hln]; exact hlt) (.inl ⟨rfl, rfl⟩) (by simp [Value.ownBlock])
          rw [← e1] at h3
          have e2 : dn G.ns (k + 1) = (dn G.ns k).set k ⟨4, [], 0⟩ := by rw [HDs.out k hlk]; simp [die, h1]
          rw [e2]
          exact h3
        rw [h1] at c0
        have cf0 := cf (k * 3)
        have cf1 := cf (k * 3 + 1)
        have cf2 := cf (k * 3 + 2)
        clear h1 HG cf hln
        generalize (ndAt G.ns k).k = kk at *
        go_wp2_with fail
        go_roundw
        case rel => exact ⟨k + 1, _, by go_num, by omega, HM.out, HT.out.nil, HX.out.trans (C := B) (Fx.of_ext (S := [g]) (((Ext.setCell [g] wr _ _ (by simp)).trans (Ext.setCell [g] _ _ _ (by simp))).trans (Ext.setCell [g] _ _ _ (by simp))) (by simp; exact .inl (HT.out.n g rfl))) (fun _ q => .inl q)⟩
        case measure => simp [intOf]; omega
      · have HM : Hid (Gm wr p (.slice (some ⟨g, 0, none⟩) n cn) vl SV' { G with ns := dn G.ns (k + 1) }) := by
          have h2 := HG.out
          rw [← HDe.out k hlk h1] at h2
          exact h2
        have h1' : (((ndAt G.ns k).c : Int) == 1) = false := by simp; omega
        clear h1 HG cf hln
        generalize (ndAt G.ns k).k = kk at *
        generalize (ndAt G.ns k).c = kc at *
        go_wp2_with fail
        go_roundw
        case rel => exact ⟨k + 1, _, by go_num, by omega, HM.out, HT.out, HX.out⟩
        case measure => simp [intOf]; omega
    · obtain rfl : k = n := by omega
      have hd : dn G.ns k = G.ns.map die := by rw [HN.out]; exact HDa.out
      rw [hd] at hG HG
      have f0 := hG.flds.1
      have z2 := hG.froz 2
      have z3 := hG.froz 3
      have z5 := hG.froz 5
      have z6 := hG.froz 6
      obtain ⟨_, _, f2, f3, _, f5, f6⟩ := hG.flds
      have HF : Hid (GPost w p { G with ns := G.ns.map die, ln := [], ph := 2, pl := 0, en := G.ns.length } B (.tuple #[]) (.returned (.tuple #[])) ((((wr.setCell ⟨p, 2, none⟩ (.slice none 0 0)).setCell ⟨p, 3, none⟩ (.int .i64 2)).setCell ⟨p, 5, none⟩ (.int .i64 0)).setCell ⟨p, 6, none⟩ (.int .i64 k))) := by
        have h1 := hG.line (vl' := .slice none 0 0) (Ext.refl _ _) [] (.inl ⟨rfl, rfl⟩) (.inr (by simp [Value.ownBlock]))
        have h2 := h1.fld 3 (.int .i64 2) { G with ns := G.ns.map die, ln := [], ph := 2 } rfl rfl rfl
        have h3 := h2.fld 5 (.int .i64 0) { G with ns := G.ns.map die, ln := [], ph := 2, pl := 0 } rfl rfl rfl
        have h4 := h3.fld 6 (.int .i64 k) { G with ns := G.ns.map die, ln := [], ph := 2, pl := 0, en := k } rfl rfl rfl
        rw [HN.out] at h4 ⊢
        refine h4.gr (B := B) ?_ (HX.out.trans (C := B) (Fx.of_ext (S := [p]) ((((Ext.setCell [p] wr _ _ (by simp)).trans (Ext.setCell [p] _ _ _ (by simp))).trans (Ext.setCell [p] _ _ _ (by simp))).trans (Ext.setCell [p] _ _ _ (by simp))) (by simp; exact .inl HT.out.p)) (fun _ q => .inl q)) _
        have := HT.out
        rw [HN.out] at this
        exact ⟨this.p, this.n, by simp [Value.ownBlock], this.s⟩
      obtain ⟨al, cl, rfl, _⟩ := hG.lin.slice
      clear hG HG HT HX
      simp only at f3 f5 f6
      go_wp2_with fail
      go_end0
      exact HF.out

/-! ### mark -/

set_option maxHeartbeats 2000000 in
theorem mark_any (p : Nat) (G : Gs) (B : Nat → Prop) (w : World) (h : Gr w p G B) (hI : Iv G) :
    Calls Tryz.prog 87 #[.pointer (some ⟨p, 0, none⟩)] w (GPost w p (mark G) B (.tuple #[])) := by
  have hlen := hI.len
  have hll := hI.lln
  cases hl : G.ln with
  | nil =>
    have K := endMark_any p G B w h hlen
    have HM : Hid (mark G = { G with ns := G.ns.map die, ln := [], ph := 2, pl := 0, en := G.ns.length }) := by show _ = _; simp only [mark, hl]
    obtain ⟨vn, vl, SV, h, ft⟩ := h
    obtain ⟨al, cl, rfl, _⟩ := h.lin.slice
    have f2 := h.flds.2.2.1
    rw [hl, List.length_nil] at f2
    clear h ft hl hll
    go_enter Tryz.func87, Tryz.ntmps87
    go_wp2_with (go_at_call 115; refine K.mono ?_; intro e w1 hq; obtain ⟨he, hq⟩ := hq; subst he)
    go_end0
    rw [HM.out]
    exact ⟨rfl, hq⟩
  | cons x t =>
    have hx := (hI.grey x).2 (by simp [hl])
    have hxl : x < G.ns.length := lvN_lt (G := G) ⟨by rw [hx]; decide, by rw [hx]; decide⟩
    have hlo := hI.lo x
    have hsl := hI.sl x
    have HI := hid hI
    obtain ⟨vn, vl, SV, h, ft⟩ := h
    obtain ⟨g, c, rfl, hc, hgp, hgl, c0, c1, c2, cf⟩ := h.node hxl
    obtain ⟨f0, _, f2, _⟩ := h.flds
    have hq := h.lin
    rw [hl] at hq
    obtain ⟨gl, ol, cl, rfl, htc, cx, hqt, hqe⟩ := hq.head
    obtain ⟨sa, hsv, hIs⟩ := (h.slo x hxl).is
    rw [hsv] at c1
    have hxi : (x : Int) < G.ns.length := by omega
    have htl : t.length ≤ 65536 := by rw [hl] at hll; simp at hll; omega
    have cf0 := cf (x * 3)
    have cf2 := cf (x * 3 + 2)
    have z2 := h.froz 2
    have hglp : gl ≠ p := fun e => h.lp (by simp [Value.ownBlock, e])
    have hglg : g ≠ gl := fun e => h.nl g rfl (by simp [Value.ownBlock, e])
    have hgll : gl < w.heap.size := h.lin.lt gl rfl
    have hpl : p < w.heap.size := lt_of_heap h.blk
    by_cases hk : (ndAt G.ns x).k = (ndAt G.ns x).s.length
    · have HM : Hid (mark G = { G with ns := G.ns.set x ⟨3, (ndAt G.ns x).s, (ndAt G.ns x).k⟩, ln := t }) := by show _ = _; simp only [mark, hl, if_pos hk]
      have HF : Hid (∀ q o2, Qu w (.slice (some ⟨gl, o2, none⟩) t.length cl) t → GPost w p { G with ns := G.ns.set x ⟨3, (ndAt G.ns x).s, (ndAt G.ns x).k⟩, ln := t } B (.tuple #[]) (.returned (.tuple #[])) (((w.drewN q).setCell ⟨g, x * 3, none⟩ (.int .i64 3)).setCell ⟨p, 2, none⟩ (.slice (some ⟨gl, o2, none⟩) t.length cl))) := fun q o2 hqt => by
        have h0 := h.keepD ft (Ext.drewN [] w q)
        have h1 := h0.setc x 3 hxl
        have hq1 : Qu ((w.drewN q).setCell ⟨g, x * 3, none⟩ (.int .i64 (3 : Nat))) (.slice (some ⟨gl, o2, none⟩) t.length cl) t :=
          (hqt.keep (B := fun k => k = g) ((Fx.of_ext0 (Ext.drewN [] w q)).trans (C := fun k => k = g) (Fx.of_ext (Ext.setCell [g] _ _ _ (by simp)) (by simp)) (fun _ r => .inl r)) (by simp [Value.ownBlock]; exact fun e => hglg e.symm))
        have h2 := h1.line (Ext.refl _ _) t hq1 (.inl rfl)
        refine h2.gr ⟨ft.p, ft.n, fun k hk => ft.l k hk, ft.s⟩ (Fx.of_ext (S := [p, g]) (((Ext.drewN [p, g] w q).trans (Ext.setCell [p, g] _ _ _ (by simp))).trans (Ext.setCell [p, g] _ _ _ (by simp))) (by simp; exact ⟨.inl ft.p, .inl (ft.n g rfl)⟩)) _
      have hk' : (((ndAt G.ns x).k : Int) == ((ndAt G.ns x).s.length : Int)) = true := by simp [hk]
      rw [hx] at c0
      by_cases hcl : cl = 0
      · subst hcl
        have ht0 : t = [] := List.length_eq_zero_iff.1 (by omega)
        subst ht0
        have HQ := hid hqe
        clear h ft hq hqt hqe hsv hIs hx hl hk cf hlo hsl hll
        simp only [List.length_nil, Nat.zero_add] at f2 HF
        generalize (ndAt G.ns x).k = kk at *
        generalize (ndAt G.ns x).s.length = ls at *
        generalize G.ns.length = n at *
        go_enter Tryz.func87, Tryz.ntmps87
        go_wp2_with fail
        go_quiet (fail)
        go_wp2_with fail
        go_quiet (fail)
        go_wp2_with fail
        go_end0
        rw [HM.out]
        exact HF.out _ _ HQ.out
      · have hcl1 : 1 < cl + 1 := by omega
        have hcl2 : (1 : Int) < ((cl + 1 : Nat) : Int) := by omega
        have HQ := hid hqt
        clear h ft hq hqt hqe hsv hIs hx hl hk cf hlo hsl hll
        generalize (ndAt G.ns x).k = kk at *
        generalize (ndAt G.ns x).s.length = ls at *
        generalize G.ns.length = n at *
        generalize t.length = tl at *
        go_enter Tryz.func87, Tryz.ntmps87
        go_wp2_with fail
        go_quiet (fail)
        go_wp2_with fail
        go_quiet (fail)
        go_wp2_with fail
        go_end0
        rw [HM.out]
        exact HF.out _ _ HQ.out
    · have hkl : (ndAt G.ns x).k < (ndAt G.ns x).s.length := by omega
      have hkl2 : ((ndAt G.ns x).k : Int) < (ndAt G.ns x).s.length := by omega
      have HM : Hid (mark G = sh (bump G x) ((ndAt G.ns x).s.getD (ndAt G.ns x).k 0)) := by show _ = _; simp only [mark, hl, if_neg hk, bump]
      have hk' : (((ndAt G.ns x).k : Int) == ((ndAt G.ns x).s.length : Int)) = false := by simp; omega
      obtain ⟨sb, so, rfl, cs⟩ := hIs.cell hkl
      have hy : (ndAt G.ns x).s.getD (ndAt G.ns x).k 0 ∈ (ndAt G.ns x).s := by simp [List.getD, hkl]
      have hyc := hI.cl x ⟨by omega, by omega⟩ _ hy
      have HK : Hid (∀ q, Calls Tryz.prog 98 #[.pointer (some ⟨p, 0, none⟩), .int .i64 ((ndAt G.ns x).s.getD (ndAt G.ns x).k 0)] ((w.drewN q).setCell ⟨g, x * 3 + 2, none⟩ (.int .i64 (((ndAt G.ns x).k : Int) + 1))) (GPost w p (mark G) B (.tuple #[]))) := fun q => by
        have h0 := h.keepD ft (Ext.drewN [] w q)
        have h1 := h0.setk x ((ndAt G.ns x).k + 1) hxl
        have hg : Gr ((w.drewN q).setCell ⟨g, x * 3 + 2, none⟩ (.int .i64 (((ndAt G.ns x).k : Int) + 1))) p (bump G x) B := ⟨_, _, _, h1, ft⟩
        have hF : Fx B w ((w.drewN q).setCell ⟨g, x * 3 + 2, none⟩ (.int .i64 (((ndAt G.ns x).k : Int) + 1))) := Fx.of_ext (S := [g]) ((Ext.drewN [g] w q).trans (Ext.setCell [g] _ _ _ (by simp))) (by simp; exact .inl (ft.n g rfl))
        refine (shade_any p (bump G x) B _ _ hg ?_ (by simp only [bump]; omega) (by simp only [bump, List.length_set]; exact hlen)).mono ?_
        · rcases hyc with r | r
          · exact .inl r
          · right; rw [lvB_iff] at r; exact ⟨r.1, by simp only [bump, List.length_set]; exact lvN_lt r.2⟩
        · rintro e w' ⟨rfl, hq, hX⟩
          rw [HM.out]
          refine ⟨rfl, hq.mono (fun k hk => ?_), hF.trans hX (fun _ r => .inl r)⟩
          rcases hk with r | r
          · exact .inl r
          · exact .inr (by simpa using r)
      rw [hx] at c0
      clear h ft hq hqt hqe hsv hIs hx hl hk cf hlo hll hy hyc
      generalize (ndAt G.ns x).s.getD (ndAt G.ns x).k 0 = y at *
      generalize (ndAt G.ns x).k = kk at *
      generalize (ndAt G.ns x).s.length = ls at *
      generalize G.ns.length = n at *
      generalize t.length = tl at *
      go_enter Tryz.func87, Tryz.ntmps87
      go_wp2_with fail
      go_quiet (fail)
      go_wp2_with fail
      go_quiet (fail)
      go_wp2_with fail
      go_quiet (fail)
      go_wp2_with fail
      refine (HK.out _).mono ?_
      clear HK
      intro e w1 hq
      obtain ⟨he, hq⟩ := hq
      subst he
      go_wp2_with fail
      go_end0
      exact ⟨rfl, hq⟩

end Go.Proofs.YtjbbomokgpoilaaGreatDoor.Co

/-
  The program's Work; no statement is proved here.
-/
namespace Go.Proofs.YtjbbomokgpoilaaGreatDoor.Co
open Go.RowKit

def ints (l : List Nat) : List Value := l.map fun (x : Nat) => Value.int .i64 x
theorem ints_len (l : List Nat) : (ints l).length = l.length := by simp [ints]

/-- What Work answers: how many units are left, and which nodes were swept, in a list of its own. -/
def WkPost (w : World) (p : Nat) (B : Nat → Prop) (G : Gs) (u : Nat) (e : Ending) (w' : World) : Prop :=
  ∃ v C, e = .returned (.tuple #[.int .i64 ((work u G).1 : Nat), v]) ∧ w'.ownsRow w.heap.size 3 1 v (work u G).2.1.length (ints (work u G).2.1) ∧ Gr w' p (work u G).2.2 C ∧ (∀ k, C k → Nw B w k) ∧ (∀ g, v.ownBlock = some g → ¬ C g) ∧ Fx B w w'

/-- How far Work is. -/
structure Wr (w : World) (p : Nat) (B : Nat → Prop) (G0 : Gs) (u0 : Nat) (u : Nat) (v : Value) (wr : World) : Prop where
  go : ∃ G C l, Iv G ∧ Gr wr p G C ∧ (∀ k, C k → Nw B w k) ∧ (∀ g, v.ownBlock = some g → ¬ C g) ∧ Fx B w wr ∧ wr.ownsRow w.heap.size 3 1 v l.length (ints l) ∧ G.cy ≤ G0.cy + 1 ∧ (G.cy ≤ G0.cy ∨ G.ph = 0) ∧ (l.length ≤ 65536 ∧ (G.ph = 2 → l.length ≤ G.pl) ∧ (G.ph = 1 → l = [])) ∧
    (work u0 G0) = ((work u G).1, l ++ (work u G).2.1, (work u G).2.2)

set_option maxHeartbeats 4000000 in
theorem work_any (p : Nat) (G : Gs) (B : Nat → Prop) (x : Int) (w : World) (h : Gr w p G B) (hI : Iv G) (hx : x ≤ 9223372036854775807) (hcy : G.cy < 900000000000000000) :
    Calls Tryz.prog 52 #[.pointer (some ⟨p, 0, none⟩), .int .i64 x] w (WkPost w p B G x.toNat) := by
  have hu : x.toNat ≤ 9223372036854775807 := by omega
  have HS : Hid (Wr w p B G x.toNat x.toNat (.slice none 0 0) w) := ⟨G, B, [], hI, h, fun _ q => .inl q, by simp [Value.ownBlock], Fx.refl _ _, own_nil _ _ _ _, by omega, .inl (Nat.le_refl _), by simp, by simp⟩
  have HE : Hid (∀ v wr u, Wr w p B G x.toNat u v wr → (u = 0 ∨ ∃ f, wr.cell? ⟨p, 3, none⟩ = some (.int .i64 f) ∧ f = 0) → WkPost w p B G x.toNat (.returned (.tuple #[.int .i64 (u : Nat), v])) wr) := by
    rintro v wr u ⟨G', C, l, hI', hG', hC, hv, hX, ho, _, _, _, hw⟩ hstop
    have h0 : u = 0 ∨ G'.ph = 0 := by
      rcases hstop with q | ⟨f, q, r⟩
      · exact .inl q
      · right
        obtain ⟨vn, vl, SV, hm, _⟩ := hG'
        have := hm.flds.2.2.2.1
        rw [q] at this
        simp at this
        omega
    have h1 : work u G' = (u, [], G') := by
      rcases h0 with rfl | q
      · rfl
      · exact work_idle q u
    rw [h1] at hw
    simp only [List.append_nil] at hw
    refine ⟨v, C, ?_, ?_, ?_, hC, hv, hX⟩
    · rw [hw]
    · rw [hw]; exact ho
    · rw [hw]; exact hG'
  have HCY := hid hcy
  by_cases hx0 : x ≤ 0
  · have hu0 : x.toNat = 0 := by omega
    rw [hu0] at HS HE ⊢
    clear h hI hcy hu
    by_cases hz : x = 0
    · subst hz
      go_enter Tryz.func52, Tryz.ntmps52
      go_wp2_with fail
      go_loopg [6, 7] 0 (fun _ a b wr => a = .int .i64 0 ∧ b = .slice none 0 0 ∧ wr = w)
      case atStart => exact ⟨rfl, rfl, rfl⟩
      case round =>
        obtain ⟨rfl, rfl, rfl⟩ := hrel
        go_wp2_with fail
        go_ret2
        exact HE.out _ _ 0 HS.out (.inl rfl)
    · have hx1 : x < 0 := by omega
      have hx2 : ¬ (0 < x) := by omega
      have hx3 : ¬ (0 ≤ x) := by omega
      go_enter Tryz.func52, Tryz.ntmps52
      go_wp2_with fail
      go_loopg [6, 7] 0 (fun _ a b wr => a = .int .i64 0 ∧ b = .slice none 0 0 ∧ wr = w)
      case atStart => exact ⟨rfl, rfl, rfl⟩
      case round =>
        obtain ⟨rfl, rfl, rfl⟩ := hrel
        go_wp2_with fail
        go_ret2
        exact HE.out _ _ 0 HS.out (.inl rfl)
  · obtain ⟨u0, rfl⟩ : ∃ u0 : Nat, x = u0 := ⟨x.toNat, by omega⟩
    simp only [Int.toNat_natCast] at HS HE hu ⊢
    clear h hI hcy
    have hx1 : 0 < (u0 : Int) := by omega
    go_enter Tryz.func52, Tryz.ntmps52
    go_wp2_with fail
    go_loopg [6, 7] u0 (fun q a b wr => a = .int .i64 q ∧ q ≤ u0 ∧ (∃ ad n c, b = .slice ad n c) ∧ Wr w p B G u0 q b wr)
    case atStart => exact ⟨rfl, Nat.le_refl _, ⟨_, _, _, rfl⟩, HS.out⟩
    case round =>
      clear HS
      obtain ⟨rfl, hq, ⟨ad, vn, vc, rfl⟩, hW⟩ := hrel
      have HW := hid hW
      clear hW
      cases gk with
      | zero =>
        go_wp2_with fail
        go_ret2
        exact HE.out _ _ 0 HW.out (.inl rfl)
      | succ q =>
        obtain ⟨G', C, l, hI', hG', hC, hv, hX, ho, hc1, hc2, hlu, hw⟩ := HW.out.go
        have c3 : wr.cell? ⟨p, 3, none⟩ = some (.int .i64 G'.ph) := by
          obtain ⟨vn, vl, SV, hm, _⟩ := hG'
          exact hm.flds.2.2.2.1
        have hq1 : 0 < ((q + 1 : Nat) : Int) := by omega
        by_cases hp0 : G'.ph = 0
        · have hb0 : ((G'.ph : Int) != 0) = false := by simp [hp0]
          have HF := hid (HE.out _ _ _ HW.out (.inr ⟨_, c3, by simp [hp0]⟩))
          clear hI' hG' hC hv hX ho hc1 hc2 hlu hw hp0 HE HW
          generalize G'.ph = ph at *
          go_wp2_with fail
          go_ret2
          exact HF.out
        · have hb0 : ((G'.ph : Int) != 0) = true := by simp; omega
          have hcy' : G'.cy < 1000000000000000000 := by have := HCY.out; omega
          have hun : work (q + 1) G' = ((work q (unit G').1).1, (unit G').2 ++ (work q (unit G').1).2.1, (work q (unit G').1).2.2) := by simp only [work, hp0, if_false]
          rw [hun] at hw
          have hIu := iv_unit hI' hp0
          have hcu := unit_cy G'
          by_cases h1 : G'.ph = 1
          · have hb1 : ((G'.ph : Int) == 1) = true := by simp [h1]
            have K := mark_any p G' C wr hG' hI'
            have hU : unit G' = (mark G', []) := by simp only [unit, h1, if_true]
            rw [hU] at hw hIu hcu
            have HN : Hid (∀ w1, Gr w1 p (mark G') (Nw C wr) → Fx C wr w1 → Wr w p B G u0 q (.slice ad vn vc) w1) := fun w1 g1 x1 => by
              refine ⟨mark G', Nw C wr, l, hIu, g1, fun k hk => ?_, fun g hg => ?_, hX.trans x1 (fun k hk => hC k hk), own_keepF ho x1 hv, ?_, ?_, ⟨hlu.1, fun _ => by rw [hlu.2.2 h1]; simp, fun _ => hlu.2.2 h1⟩, by simpa using hw⟩
              · rcases hk with r | r
                · exact hC k r
                · exact .inr (Nat.le_trans hX.size r)
              · rintro (r | r)
                · exact hv g hg r
                · have := (own_lt ho g hg).2; omega
              · rcases hcu with r | r
                · simp only at r; omega
                · simp only at r; omega
              · rcases hcu with r | r
                · simp only at r; left; omega
                · exact .inr r.2
            clear hI' hG' hC hv hX ho hc1 hc2 hlu hw hp0 HE HW hIu hcu hun hU h1
            generalize G'.ph = ph at *
            go_wp2_with fail
            refine K.mono ?_
            clear K
            rintro e w1 ⟨rfl, g1, x1⟩
            have HN1 := hid (HN.out w1 g1 x1)
            clear g1 x1 HN
            go_wp2_with fail
            go_roundg q
            case measure => omega
            case rel => exact ⟨by go_num, by omega, ⟨_, _, _, rfl⟩, HN1.out⟩
          · have hb1 : ((G'.ph : Int) == 1) = false := by simp; omega
            have K := sweep_any p G' C wr hG' hI' (by have := hI'.ph; omega) hcy'
            have hU : unit G' = sweep G' := by simp only [unit, h1, if_false]
            rw [hU] at hw hIu hcu
            have hsw : (sweep G').2 = [] ∨ ∃ y, (sweep G').2 = [y] ∧ y ≤ 65536 ∧ G'.pl < G'.en := by
              unfold sweep
              split
              · exact .inl rfl
              · split
                · right
                  rename_i hpen _
                  refine ⟨_, rfl, ?_⟩
                  have := hI'.pe (by have := hI'.ph; omega)
                  have := hI'.len
                  omega
                · exact .inl rfl
            have hsp : (sweep G').1.ph ≠ 1 ∧ ((sweep G').1.ph = 2 → G'.pl + 1 ≤ (sweep G').1.pl) := by
              unfold sweep
              split
              · simp
              · split
                · exact ⟨h1, fun _ => Nat.le_refl _⟩
                · exact ⟨h1, fun _ => Nat.le_refl _⟩
            have hph2 : G'.ph = 2 := by have := hI'.ph; omega
            have hlu2 := hlu.2.1 hph2
            have hpe := hI'.pe hph2
            have hln := hI'.len
            have hcy1 : (sweep G').1.cy ≤ G.cy + 1 ∧ ((sweep G').1.cy ≤ G.cy ∨ (sweep G').1.ph = 0) := by
              rcases hcu with r | r
              · exact ⟨by omega, .inl (by omega)⟩
              · exact ⟨by omega, .inr r.2⟩
            have hC1 : ∀ k, Nw C wr k → Nw B w k := fun k hk => by
              rcases hk with r | r
              · exact hC k r
              · exact .inr (Nat.le_trans hX.size r)
            have hv1 : ∀ g, (Value.slice ad vn vc).ownBlock = some g → ¬ Nw C wr g := fun g hg => by
              rintro (r | r)
              · exact hv g hg r
              · have := (own_lt ho g hg).2; omega
            rcases hsw with hs | ⟨y, hs, hy, hple⟩
            · rw [hs] at hw K
              have HN : Hid (∀ w1, Gr w1 p (sweep G').1 (Nw C wr) → Fx C wr w1 → Wr w p B G u0 q (.slice ad vn vc) w1) := fun w1 g1 x1 =>
                ⟨(sweep G').1, Nw C wr, l, hIu, g1, hC1, hv1, hX.trans x1 (fun k hk => hC k hk), own_keepF ho x1 hv, hcy1.1, hcy1.2, ⟨hlu.1, fun q => by have := hsp.2 q; omega, fun q => absurd q hsp.1⟩, by simpa using hw⟩
              clear hI' hG' hC hv hX ho hc1 hc2 hlu hw hp0 HE HW hIu hcu hun hU h1 hC1 hv1 hcy1 hs hsp hph2 hlu2 hpe hln
              generalize G'.ph = ph at *
              rw [show swN [] = -1 from rfl] at K
              go_wp2_with fail
              refine K.mono ?_
              clear K
              rintro e w1 ⟨rfl, g1, x1⟩
              have HN1 := hid (HN.out w1 g1 x1)
              clear g1 x1 HN
              go_wp2_with fail
              go_roundg q
              case measure => omega
              case rel => exact ⟨by go_num, by omega, ⟨_, _, _, rfl⟩, HN1.out⟩
            · rw [hs] at hw K
              rw [show swN [y] = (y : Int) from rfl] at K
              have hy1 : ((y : Int) != -1) = true := by simp
              have HA : Hid (∀ w1, Gr w1 p (sweep G').1 (Nw C wr) → Fx C wr w1 → ∃ v' w2, (Builtin.append_ #[32, 32] 32 #[.slice ad vn vc, .slice (some ⟨w1.heap.size, 0, none⟩) 1 1]).run Tryz.prog (w1.alloc (.cells #[.int .i64 y] 3)) = .ok v' w2 ∧ (∃ ad n c, v' = .slice ad n c) ∧ Wr w p B G u0 q v' w2) := fun w1 g1 x1 => by
                have ho1 := own_keepF ho x1 hv
                have hEa := Ext.alloc [] w1 (.cells #[.int .i64 (y : Int)] 3)
                obtain ⟨i3, hi3, hz3, hs3, hy3⟩ := info_parts info3
                have hXs := hX.size
                have hxs := x1.size
                obtain ⟨v', w2, hr, ho2, hg2, _, hat⟩ := run_append_own_at (P := Tryz.prog) (w1.alloc (.cells #[.int .i64 y] 3)) w.heap.size 32 32 3 i3 _ 1 8 Tryz.underlying32 hi3 hz3 hs3 hy3 rfl (by decide) (.slice ad vn vc) l.length (ints l) (own_keep0 ho1 hEa) ⟨w1.heap.size, 0, none⟩ 1 1 [.int .i64 y] rfl (fun j u hu => by rw [Addr.add_lit, cell_of_row _ _ _ _ _ _ (heap_alloc_new w1 _), Nat.zero_add, ← hu]; simp) (by simp [Value.oneCell']) (by unfold maxLen; omega) (by omega) (by simp; omega)
                have hX2 := ext_grown hg2
                refine ⟨v', w2, hr, ?_, ⟨(sweep G').1, fun k => Nw C wr k ∧ k < w1.heap.size, l ++ [y], hIu, ?_, fun k hk => hC1 k hk.1, fun g hg => ?_, ?_, ?_, hcy1.1, hcy1.2, ⟨by simp; omega, fun q => by have := hsp.2 q; simp; omega, fun q => absurd q hsp.1⟩, by simpa using hw⟩⟩
                · obtain ⟨a2, c2, e2, _⟩ := own_slice ho2
                  exact ⟨a2, _, c2, e2⟩
                · exact (g1.there.keep0 hEa).keep (Fx.of_ext hX2 (fun k hk => .inl (by simpa using hk : (Value.slice ad vn vc).ownBlock = some k))) (fun k hk q => hv1 k q hk.1)
                · rintro ⟨r1, r2⟩
                  rcases Nat.lt_or_ge g w1.heap.size with r | r
                  · by_cases e : (Value.slice ad vn vc).ownBlock = some g
                    · exact hv1 g e r1
                    · rcases hat with q | q
                      · exact e (by rw [← q]; exact hg)
                      · rw [hg] at q; simp at q; omega
                  · omega
                · exact (hX.trans x1 (fun k hk => hC k hk)).trans (C := fun k => (Value.slice ad vn vc).ownBlock = some k) ((Fx.of_ext0 hEa).trans (Fx.of_ext hX2 (fun k hk => .inl (by simpa using hk))) (fun _ r => .inl r)) (fun k hk => .inr (own_lt ho k hk).1)
                · simpa [ints] using ho2
              clear hI' hG' hC hv hX ho hc1 hc2 hlu hw hp0 HE HW hIu hcu hun hU h1 hC1 hv1 hcy1 hs hsp hph2 hlu2 hpe hln
              generalize G'.ph = ph at *
              go_wp2_with fail
              refine K.mono ?_
              clear K
              rintro e w1 ⟨rfl, g1, x1⟩
              obtain ⟨v', w2, hr, ⟨a2, n2, c2, rfl⟩, hN1⟩ := HA.out w1 g1 x1
              clear hple
              have HN1 := hid hN1
              clear g1 x1 HA hN1
              go_wp2_with (at_builtin; refine wpList_append_run rfl _ _ 32 rfl _ _ _ rfl rfl hr ?_)
              go_roundg q
              case measure => omega
              case rel => exact ⟨by go_num, by omega, ⟨_, _, _, rfl⟩, HN1.out⟩

end Go.Proofs.YtjbbomokgpoilaaGreatDoor.Co

/-
  The program's Clone, Slots, Shade, Set, Start, Color, Phase and Cycles; no statement is proved here.
-/
namespace Go.Proofs.YtjbbomokgpoilaaGreatDoor.Co
open Go.RowKit

theorem phase_any (p : Nat) (G : Gs) (B : Nat → Prop) (w : World) (h : Gr w p G B) : Calls Tryz.prog 54 #[.pointer (some ⟨p, 0, none⟩)] w fun e w' => e = .returned (.int .i64 G.ph) ∧ w' = w := by
  obtain ⟨vn, vl, SV, h, _⟩ := h
  obtain ⟨_, _, _, f3, _⟩ := h.flds
  clear h
  go_enter Tryz.func54, Tryz.ntmps54
  go_wp2
  go_ret
  exact ⟨rfl, rfl⟩
theorem cycles_any (p : Nat) (G : Gs) (B : Nat → Prop) (w : World) (h : Gr w p G B) : Calls Tryz.prog 55 #[.pointer (some ⟨p, 0, none⟩)] w fun e w' => e = .returned (.int .i64 G.cy) ∧ w' = w := by
  obtain ⟨vn, vl, SV, h, _⟩ := h
  obtain ⟨_, _, _, _, f4, _⟩ := h.flds
  clear h
  go_enter Tryz.func55, Tryz.ntmps55
  go_wp2
  go_ret
  exact ⟨rfl, rfl⟩
theorem color_any (p : Nat) (G : Gs) (B : Nat → Prop) (x : Int) (w : World) (h : Gr w p G B) (hlen : G.ns.length ≤ 65536) : Calls Tryz.prog 72 #[.pointer (some ⟨p, 0, none⟩), .int .i64 x] w fun e w' => e = .returned (.tuple #[.int .i64 (if lvB G x then ((ndAt G.ns x.toNat).c : Int) else 0), .int .i64 (fl G x)]) ∧ w' = w := by
  have K := fault_any p G B x w h hlen
  unfold fl at *
  cases hb : lvB G x
  · rw [hb] at K
    simp only [Bool.false_eq_true, if_false] at K
    clear h hb
    go_enter Tryz.func72, Tryz.ntmps72
    go_wp2_with (go_at_call 97; refine met K ?_)
    go_ret2
    exact ⟨rfl, rfl⟩
  · rw [hb] at K
    simp only [if_true] at K
    obtain ⟨hx0, hl⟩ := lvB_iff.1 hb
    obtain ⟨i, rfl⟩ : ∃ i : Nat, x = i := ⟨x.toNat, by omega⟩
    simp only [Int.toNat_natCast] at hl
    have hi := lvN_lt hl
    obtain ⟨vn, vl, SV, h, _⟩ := h
    obtain ⟨g, c, rfl, hc, hgp, hgl, c0, _, _, _⟩ := h.node hi
    obtain ⟨f0, _⟩ := h.flds
    have hil : (i : Int) < G.ns.length := by omega
    clear h hb hl
    simp only [Int.toNat_natCast]
    generalize (ndAt G.ns i).c = q at *
    generalize G.ns.length = n at *
    go_enter Tryz.func72, Tryz.ntmps72
    go_wp2_with (go_at_call 97; refine met K ?_)
    go_ret2
    exact ⟨rfl, rfl⟩

/-- A list of its own, and an error. -/
def SlPost (w : World) (L : List Int) (er : Int) (e : Ending) (w' : World) : Prop :=
  ∃ v, e = .returned (.tuple #[v, .int .i64 er]) ∧ w'.ownsRow w.heap.size 3 1 v L.length (L.map (Value.int .i64)) ∧ Ext [] w w'
def ClPost (w : World) (L : List Int) (e : Ending) (w' : World) : Prop :=
  ∃ v, e = .returned v ∧ w'.ownsRow w.heap.size 3 1 v L.length (L.map (Value.int .i64)) ∧ Ext [] w w'

theorem clone_any (v : Value) (L : List Int) (w : World) (hL : Sl w v L) (hlen : L.length ≤ 1000000) : Calls Tryz.prog 107 #[v] w (ClPost w L) := by
  rcases hL with ⟨rfl, rfl⟩ | ⟨g, rfl, hr0⟩
  · clear hlen
    have heq : ∀ w, Sem.run Tryz.prog (binOp .eql 32 (.slice none 0 0) (.slice none 0 0)) w = .ok (.bool true) w := fun w => Lib.run_eql_slice_nil w 32 3 none 0 0 0 0 Tryz.underlying32
    go_enter Tryz.func107, Tryz.ntmps107
    go_wp2
    go_ret
    exact ⟨_, rfl, own_nil _ _ _ _, Ext.refl _ _⟩
  · have hE0 := Ext.alloc [] w (.cells #[] 3)
    obtain ⟨i, hi0, hz0, hz1, hz2⟩ := info_parts info3
    have hown : (w.alloc (.cells #[] 3)).ownsRow w.heap.size 3 1 (.slice (some ⟨w.heap.size, 0, none⟩) 0 0) 0 [] := World.ownsRow_made w #[] 0 (Nat.le_refl _) (Nat.zero_le _) rfl
    have hL0 := hE0.keep hr0 (by simp)
    obtain ⟨v', w', hr, ho, hg, _⟩ := run_append_own (P := Tryz.prog) (w.alloc (.cells #[] 3)) w.heap.size 32 32 3 i _ 1 8 Tryz.underlying32 hi0 hz0 hz1 hz2 rfl (by decide) _ 0 [] hown ⟨g, 0, none⟩ L.length L.length (L.map (Value.int .i64)) (by simp) (fun j u hj => by rw [Addr.add_lit, cell_of_row _ _ _ _ _ _ hL0, Nat.zero_add, List.getElem?_toArray]; exact hj) (fun u hu => by obtain ⟨y, _, rfl⟩ := List.mem_map.1 hu; rfl) (by unfold maxLen; omega) (by omega) (by simp)
    rw [Nat.zero_add, List.nil_append] at ho
    have HF : Hid (ClPost w L (.returned v') w') := ⟨v', rfl, ho, (hE0.on (ext_grown hg) (by simp [Value.ownBlock]))⟩
    clear hr0 hE0 hown hL0 ho hg hz0 hz1 hz2 hi0
    generalize L.length = len at *
    have heq : ∀ w, Sem.run Tryz.prog (binOp .eql 32 (.slice (some ⟨g, 0, none⟩) len len) (.slice none 0 0)) w = .ok (.bool false) w := fun w => Lib.run_eql_slice_nil w 32 3 (some ⟨g, 0, none⟩) len len 0 0 Tryz.underlying32
    go_enter Tryz.func107, Tryz.ntmps107
    go_wp2_with (at_builtin; refine wpList_append_run rfl _ _ 32 rfl _ _ _ rfl rfl hr ?_)
    go_ret
    exact HF.out

/-- What the slots of a number are. -/
def slV (G : Gs) (x : Int) : List Int := if lvB G x then (ndAt G.ns x.toNat).s else []
theorem slots_any (p : Nat) (G : Gs) (B : Nat → Prop) (x : Int) (w : World) (h : Gr w p G B) (hI : Iv G) : Calls Tryz.prog 76 #[.pointer (some ⟨p, 0, none⟩), .int .i64 x] w (SlPost w (slV G x) (fl G x)) := by
  have K := fault_any p G B x w h hI.len
  unfold fl slV at *
  cases hb : lvB G x
  · rw [hb] at K
    simp only [Bool.false_eq_true, if_false] at K ⊢
    clear h hb hI
    go_enter Tryz.func76, Tryz.ntmps76
    go_wp2_with (go_at_call 97; refine met K ?_)
    go_ret2
    exact ⟨_, rfl, own_nil _ _ _ _, Ext.refl _ _⟩
  · rw [hb] at K
    simp only [if_true] at K ⊢
    obtain ⟨hx0, hl⟩ := lvB_iff.1 hb
    obtain ⟨i, rfl⟩ : ∃ i : Nat, x = i := ⟨x.toNat, by omega⟩
    simp only [Int.toNat_natCast] at hl ⊢
    have hi := lvN_lt hl
    have hsl := hI.sl i
    obtain ⟨vn, vl, SV, h, _⟩ := h
    obtain ⟨g, c, rfl, hc, hgp, hgl, _, c1, _, _⟩ := h.node hi
    obtain ⟨f0, _⟩ := h.flds
    have hil : (i : Int) < G.ns.length := by omega
    have K2 := clone_any _ _ w (h.slo i hi) (by omega)
    clear h hb hl hI
    generalize (ndAt G.ns i).s = L at *
    generalize svAt SV i = sv at *
    generalize G.ns.length = n at *
    go_enter Tryz.func76, Tryz.ntmps76
    go_wp2_with (first | (go_at_call 97; refine met K ?_) | (go_at_call 107; refine K2.mono ?_; intro e w1 hq; obtain ⟨v, he, hq1, hq2⟩ := hq; subst he))
    go_ret2
    exact ⟨v, rfl, hq1, hq2⟩

theorem shadeC_any (p : Nat) (G : Gs) (B : Nat → Prop) (x : Int) (w : World) (h : Gr w p G B) (hI : Iv G) : Calls Tryz.prog 65 #[.pointer (some ⟨p, 0, none⟩), .int .i64 x] w (GPost w p (shade G x).1 B (.int .i64 (shade G x).2)) := by
  have K := fault_any p G B x w h hI.len
  have hlln := hI.lln
  have hlen := hI.len
  unfold fl at *
  unfold shade
  cases hb : lvB G x
  · rw [hb] at K
    simp only [Bool.false_eq_true, if_false, if_true] at K ⊢
    have HF := hid (gr_same h (.int .i64 4))
    clear h hb hI
    go_enter Tryz.func65, Tryz.ntmps65
    go_wp2_with (go_at_call 97; refine met K ?_)
    go_ret
    exact HF.out
  · rw [hb] at K
    simp only [Bool.true_eq_false, if_true, if_false] at K ⊢
    obtain ⟨hx0, hl⟩ := lvB_iff.1 hb
    have K2 := shade_any p G B x w h (.inr ⟨hx0, lvN_lt hl⟩) (by omega) hlen
    clear h hb hl hI
    go_enter Tryz.func65, Tryz.ntmps65
    go_wp2_with (first | (go_at_call 97; refine met K ?_) | (go_at_call 98; refine K2.mono ?_; intro e w1 hq; obtain ⟨he, hq⟩ := hq; subst he))
    go_ret
    exact ⟨rfl, hq⟩

end Go.Proofs.YtjbbomokgpoilaaGreatDoor.Co
