/-
  CSweep, CWork, MMem: joined by program; no statement is proved here.
-/
import Derived.Test.YtbpjmcjjambdkaaGreatDoorZAR
import Derived.Deep.LoopGhost
import Derived.Test.YtbpjmcjjambdkaaGreatDoorZAI
import Derived.Test.YtbpjmcjjambdkaaGreatDoorZAQ
/-
  The program's sweep, endMark and mark; no statement is proved here.
-/
namespace Go.Proofs.YtbpjmcjjambdkaaGreatDoor.Co
open Go.RowKit

/-- The number that sweep answers. -/
def swN (l : List Nat) : Int := match l with
  | [] => -1
  | x :: _ => x

theorem Gm.gr {w w' : World} {p : Nat} {vn vl : Value} {SV : List Value} {G : Gs} {B : Nat → Prop} (h : Gm w' p vn vl SV G) (f : Ft B p vn vl SV) (x : Fx B w w') (r : Value) : GPost w p G B r (.returned r) w' :=
  ⟨rfl, ⟨vn, vl, SV, h, f.mono (fun _ q => .inl q)⟩, x⟩
theorem Gm.keepD {B : Nat → Prop} {w w' : World} {p : Nat} {vn vl : Value} {SV : List Value} {G : Gs} (h : Gm w p vn vl SV G) (f : Ft B p vn vl SV) (x : Ext [] w w') : Gm w' p vn vl SV G := h.keep f (C := fun _ => False) (Fx.of_ext0 x) (fun _ _ q => q)
theorem Ft.nil {B : Nat → Prop} {p i : Nat} {vn vl : Value} {SV : List Value} (f : Ft B p vn vl SV) : Ft B p vn vl (SV.set i (.slice none 0 0)) := by
  refine ⟨f.p, f.n, f.l, fun j g => ?_⟩
  by_cases h : i < SV.length
  · rw [svAt_set h]
    split
    · intro q; simp [Value.ownBlock] at q
    · exact f.s j g
  · rw [List.set_eq_of_length_le (by omega)]; exact f.s j g

set_option maxHeartbeats 1000000 in
theorem sweep_any (p : Nat) (G : Gs) (B : Nat → Prop) (w : World) (h : Gr w p G B) (hI : Iv G) (h2 : G.ph = 2) (hcy : G.cy < 1000000000000000000) :
    Calls Tryz.prog 113 #[.pointer (some ⟨p, 0, none⟩)] w (GPost w p (sweep G).1 B (.int .i64 (swN (sweep G).2))) := by
  obtain ⟨vn, vl, SV, h, ft⟩ := h
  have hpe := hI.pe h2
  have hlen := hI.len
  have hle := hI.le
  obtain ⟨f0, f1, f2, f3, f4, f5, f6⟩ := h.flds
  have z1 := h.froz 1
  have z3 := h.froz 3
  have z4 := h.froz 4
  have z5 := h.froz 5
  by_cases he : G.pl = G.en
  · have HS : Hid (sweep G = ({ G with ph := 0, cy := G.cy + 1 }, [])) := by show _ = _; simp only [sweep, he, if_true]
    have HF : Hid (∀ q, GPost w p { G with ph := 0, cy := G.cy + 1 } B (.int .i64 (-1)) (.returned (.int .i64 (-1))) (((w.drewN q).setCell ⟨p, 3, none⟩ (.int .i64 0)).setCell ⟨p, 4, none⟩ (.int .i64 ((G.cy : Int) + 1)))) := fun q => by
      have h0 := h.keepD ft (Ext.drewN [] w q)
      have h1 := h0.fld 3 (.int .i64 0) { G with ph := 0 } rfl rfl rfl
      have h2 := h1.fld 4 (.int .i64 ((G.cy : Int) + 1)) { G with ph := 0, cy := G.cy + 1 } rfl rfl rfl
      exact h2.gr ft (Fx.of_ext (S := [p]) (((Ext.drewN [p] w q).trans (Ext.setCell [p] _ _ _ (by simp))).trans (Ext.setCell [p] _ _ _ (by simp))) (by simp; exact .inl ft.p)) _
    have he' : ((G.pl : Int) == (G.en : Int)) = true := by simp [he]
    clear h ft f0 f1 f2 hpe he
    generalize hGp : G.pl = pl at *
    generalize hGe : G.en = en at *
    generalize hGc : G.cy = cy at *
    generalize hGh : G.ph = ph at *
    clear hGp hGe hGc hGh
    go_enter Tryz.func113, Tryz.ntmps113
    go_wp2_with fail
    go_quiet (fail)
    go_wp2_with fail
    go_ret
    rw [HS.out]
    exact HF.out _
  · have he' : ((G.pl : Int) == (G.en : Int)) = false := by simp; omega
    have hpl : G.pl < G.ns.length := by omega
    obtain ⟨g, c, rfl, hc, hgp, hgl, c0, c1, c2, cf⟩ := h.node hpl
    have cf0 := cf (G.pl * 3)
    have cf1 := cf (G.pl * 3 + 1)
    have cf2 := cf (G.pl * 3 + 2)
    by_cases h4 : (ndAt G.ns G.pl).c = 4
    · have HS : Hid (sweep G = ({ G with ns := G.ns.set G.pl nz, le := min G.le G.pl, pl := G.pl + 1 }, [G.pl])) := by show _ = _; simp only [sweep, he, if_false, h4, if_true]
      have HF : Hid (∀ q, GPost w p { G with ns := G.ns.set G.pl nz, le := min G.le G.pl, pl := G.pl + 1 } B (.int .i64 G.pl) (.returned (.int .i64 G.pl)) ((((((w.drewN q).setCell ⟨p, 5, none⟩ (.int .i64 ((G.pl : Int) + 1))).setCell ⟨g, G.pl * 3, none⟩ (.int .i64 0)).setCell ⟨g, G.pl * 3 + 1, none⟩ (.slice none 0 0)).setCell ⟨g, G.pl * 3 + 2, none⟩ (.int .i64 0)).setCell ⟨p, 1, none⟩ (.int .i64 ((min G.le G.pl : Nat) : Int)))) := fun q => by
        have h0 := h.keepD ft (Ext.drewN [] w q)
        have h1 := h0.fld 5 (.int .i64 ((G.pl : Int) + 1)) { G with pl := G.pl + 1 } rfl rfl rfl
        have h2 := Gm.setn (G := { G with pl := G.pl + 1 }) h1 G.pl nz (.slice none 0 0) hpl (.inl ⟨rfl, rfl⟩) (by simp [Value.ownBlock])
        have h3 := h2.fld 1 (.int .i64 ((min G.le G.pl : Nat) : Int)) { G with ns := G.ns.set G.pl nz, le := min G.le G.pl, pl := G.pl + 1 } rfl rfl rfl
        exact h3.gr ft.nil (Fx.of_ext (S := [p, g]) ((((((Ext.drewN [p, g] w q).trans (Ext.setCell [p, g] _ _ _ (by simp))).trans (Ext.setCell [p, g] _ _ _ (by simp))).trans (Ext.setCell [p, g] _ _ _ (by simp))).trans (Ext.setCell [p, g] _ _ _ (by simp))).trans (Ext.setCell [p, g] _ _ _ (by simp))) (by simp; exact ⟨.inl ft.p, .inl (ft.n g rfl)⟩)) _
      rw [h4] at c0
      have hil : (G.pl : Int) < G.ns.length := by omega
      by_cases hm : G.le ≤ G.pl
      · have hm1 : (G.le : Int) ≤ G.pl := by omega
        have hm2 : min G.le G.pl = G.le := by omega
        rw [hm2] at HF HS
        clear h ft f2 hpe he h4 cf hm2
        generalize hGn : G.ns.length = n at *
        generalize hGp : G.pl = pl at *
        generalize hGe : G.en = en at *
        generalize hGl : G.le = le at *
        clear hGn hGp hGe hGl
        go_enter Tryz.func113, Tryz.ntmps113
        go_wp2_with fail
        go_quiet (fail)
        go_wp2_with fail
        go_ret
        rw [HS.out]
        exact HF.out _
      · have hm1 : (G.pl : Int) ≤ G.le := by omega
        have hm0 : ¬ (G.le : Int) ≤ G.pl := by omega
        have hm2 : min G.le G.pl = G.pl := by omega
        rw [hm2] at HF HS
        clear h ft f2 hpe he h4 cf hm2
        generalize hGn : G.ns.length = n at *
        generalize hGp : G.pl = pl at *
        generalize hGe : G.en = en at *
        generalize hGl : G.le = le at *
        clear hGn hGp hGe hGl
        go_enter Tryz.func113, Tryz.ntmps113
        go_wp2_with fail
        go_quiet (fail)
        go_wp2_with fail
        go_ret
        rw [HS.out]
        exact HF.out _
    · have HS : Hid (sweep G = ({ G with pl := G.pl + 1 }, [])) := by show _ = _; simp only [sweep, he, if_false, h4]
      have HF : Hid (∀ q, GPost w p { G with pl := G.pl + 1 } B (.int .i64 (-1)) (.returned (.int .i64 (-1))) ((w.drewN q).setCell ⟨p, 5, none⟩ (.int .i64 ((G.pl : Int) + 1)))) := fun q => by
        have h0 := h.keepD ft (Ext.drewN [] w q)
        have h1 := h0.fld 5 (.int .i64 ((G.pl : Int) + 1)) { G with pl := G.pl + 1 } rfl rfl rfl
        exact h1.gr ft (Fx.of_ext (S := [p]) ((Ext.drewN [p] w q).trans (Ext.setCell [p] _ _ _ (by simp))) (by simp; exact .inl ft.p)) _
      have h4' : (((ndAt G.ns G.pl).c : Int) != 4) = true := by simp; omega
      have hil : (G.pl : Int) < G.ns.length := by omega
      clear h ft f1 f2 hpe he h4 cf c1 c2 cf0 cf1 cf2
      generalize (ndAt G.ns G.pl).c = cc at *
      generalize hGn : G.ns.length = n at *
      generalize hGp : G.pl = pl at *
      generalize hGe : G.en = en at *
      clear hGn hGp hGe
      go_enter Tryz.func113, Tryz.ntmps113
      go_wp2_with fail
      go_quiet (fail)
      go_wp2_with fail
      go_ret
      rw [HS.out]
      exact HF.out _

/-! ### the end of Mark -/

/-- The first k nodes have died, if they were white. -/
def dn (l : List Nd) (k : Nat) : List Nd := (l.take k).map die ++ l.drop k
theorem dn_len (l : List Nd) (k : Nat) : (dn l k).length = l.length := by simp [dn]; omega
theorem dn_zero (l : List Nd) : dn l 0 = l := by simp [dn]
theorem dn_all (l : List Nd) : dn l l.length = l.map die := by simp [dn]
theorem dn_at (l : List Nd) (k i : Nat) (h : k ≤ i) : ndAt (dn l k) i = ndAt l i := by
  by_cases hi : i < l.length
  · simp only [ndAt, List.getD, dn]
    rw [List.getElem?_append_right (by simp; omega)]
    simp only [List.length_map, List.length_take, List.getElem?_drop]
    congr 2
    congr 1
    omega
  · rw [ndAt_out (by rw [dn_len]; omega), ndAt_out (by omega)]
theorem dn_succ (l : List Nd) (k : Nat) (h : k < l.length) : dn l (k + 1) = (dn l k).set k (die (ndAt l k)) := by
  simp only [dn]
  rw [List.take_add_one, ndAt_get h, List.map_append, List.set_append_right _ _ (by simp; omega)]
  simp only [List.length_map, List.length_take, Nat.min_eq_left (Nat.le_of_lt h), Nat.sub_self, Option.toList_some, List.map_cons, List.map_nil, List.append_assoc]
  congr 1
  rw [List.drop_eq_getElem_cons h, List.set_cons_zero]
  rfl
theorem dn_same (l : List Nd) (k : Nat) (h : k < l.length) (hc : (ndAt l k).c ≠ 1) : dn l (k + 1) = dn l k := by
  rw [dn_succ l k h]
  refine set_self ?_
  rw [ndAt_get (by rw [dn_len]; exact h), dn_at _ _ _ (Nat.le_refl _)]
  simp [die, hc]

set_option maxHeartbeats 2000000 in
theorem endMark_any (p : Nat) (G : Gs) (B : Nat → Prop) (w : World) (h : Gr w p G B) (hlen : G.ns.length ≤ 65536) :
    Calls Tryz.prog 155 #[.pointer (some ⟨p, 0, none⟩)] w (GPost w p { G with ns := G.ns.map die, ln := [], ph := 2, pl := 0, en := G.ns.length } B (.tuple #[])) := by
  obtain ⟨vn, vl, SV, h, ft⟩ := h
  have f0 := h.flds.1
  obtain ⟨an, cn, rfl, hcn⟩ := own_slice h.row
  have HH := hid h
  have HT := hid ft
  have HDz := hid (dn_zero G.ns)
  have HDa := hid (dn_all G.ns)
  have HDl := hid (dn_len G.ns)
  have HDt := hid (dn_at G.ns)
  have HDs := hid (dn_succ G.ns)
  have HDe := hid (dn_same G.ns)
  obtain ⟨n, hn⟩ : ∃ n, n = G.ns.length := ⟨_, rfl⟩
  have HN := hid hn
  rw [← hn] at f0 hcn hlen
  clear h ft hn
  go_enter Tryz.func155, Tryz.ntmps155
  go_wp2_with fail
  go_loopw [8] (fun q wr => ∃ (k : Nat) (SV' : List Value), q = .int .i64 k ∧ k ≤ n ∧ Gm wr p (.slice an n cn) vl SV' { G with ns := dn G.ns k } ∧ Ft B p (.slice an n cn) vl SV' ∧ Fx B w wr) (fun q _ => (n - (intOf q)).toNat)
  case atStart => exact ⟨0, SV, rfl, Nat.zero_le _, by rw [HDz.out, HN.out]; exact HH.out, by rw [HN.out]; exact HT.out, Fx.refl _ _⟩
  case round =>
    clear HH HT
    obtain ⟨k, SV', rfl, hk, hG, hT, hX⟩ := hrel
    have HG := hid hG
    have HT := hid hT
    have HX := hid hX
    clear hT hX
    by_cases hlt : k < n
    · have hlk : k < G.ns.length := by rw [← HN.out]; exact hlt
      obtain ⟨g, c, hv, hc, hgp, hgl, c0, c1, c2, cf⟩ := hG.node (i := k) (by rw [HDl.out]; exact hlk)
      simp only [HDl.out, Value.slice.injEq] at hv
      obtain ⟨rfl, _, rfl⟩ := hv
      have fp := hG.flds.1
      rw [HDt.out k k (Nat.le_refl _)] at c0 c2
      have hln : (dn G.ns k).length = n := by rw [HDl.out, HN.out]
      clear hc hG
      have hil : (k : Int) < n := by omega
      by_cases h1 : (ndAt G.ns k).c = 1
      · have HM : Hid (Gm (((wr.setCell ⟨g, k * 3, none⟩ (.int .i64 4)).setCell ⟨g, k * 3 + 1, none⟩ (.slice none 0 0)).setCell ⟨g, k * 3 + 2, none⟩ (.int .i64 0)) p (.slice (some ⟨g, 0, none⟩) n cn) vl (SV'.set k (.slice none 0 0)) { G with ns := dn G.ns (k + 1) }) := by
          have h2 := HG.out
          have e1 : n = ({ G with ns := dn G.ns k } : Gs).ns.length := hln.symm
          rw [e1] at h2
          have h3 := Gm.setn (G := { G with ns := dn G.ns k }) h2 k ⟨4, [], 0⟩ (.slice none 0 0) (by simp only [hln]; exact hlt) (.inl ⟨rfl, rfl⟩) (by simp [Value.ownBlock])
          rw [← e1] at h3
          have e2 : dn G.ns (k + 1) = (dn G.ns k).set k ⟨4, [], 0⟩ := by rw [HDs.out k hlk]; simp [die, h1]
          rw [e2]
          exact h3
        rw [h1] at c0
        have cf0 := cf (k * 3)
        have cf1 := cf (k * 3 + 1)
        have cf2 := cf (k * 3 + 2)
        clear h1 HG cf hln
        generalize (ndAt G.ns k).k = kk at *
        go_wp2_with fail
        go_roundw
        case rel => exact ⟨k + 1, _, by go_num, by omega, HM.out, HT.out.nil, HX.out.trans (C := B) (Fx.of_ext (S := [g]) (((Ext.setCell [g] wr _ _ (by simp)).trans (Ext.setCell [g] _ _ _ (by simp))).trans (Ext.setCell [g] _ _ _ (by simp))) (by simp; exact .inl (HT.out.n g rfl))) (fun _ q => .inl q)⟩
        case measure => simp [intOf]; omega
      · have HM : Hid (Gm wr p (.slice (some ⟨g, 0, none⟩) n cn) vl SV' { G with ns := dn G.ns (k + 1) }) := by
          have h2 := HG.out
          rw [← HDe.out k hlk h1] at h2
          exact h2
        have h1' : (((ndAt G.ns k).c : Int) == 1) = false := by simp; omega
        clear h1 HG cf hln
        generalize (ndAt G.ns k).k = kk at *
        generalize (ndAt G.ns k).c = kc at *
        go_wp2_with fail
        go_roundw
        case rel => exact ⟨k + 1, _, by go_num, by omega, HM.out, HT.out, HX.out⟩
        case measure => simp [intOf]; omega
    · obtain rfl : k = n := by omega
      have hd : dn G.ns k = G.ns.map die := by rw [HN.out]; exact HDa.out
      rw [hd] at hG HG
      have f0 := hG.flds.1
      have z2 := hG.froz 2
      have z3 := hG.froz 3
      have z5 := hG.froz 5
      have z6 := hG.froz 6
      obtain ⟨_, _, f2, f3, _, f5, f6⟩ := hG.flds
      have HF : Hid (GPost w p { G with ns := G.ns.map die, ln := [], ph := 2, pl := 0, en := G.ns.length } B (.tuple #[]) (.returned (.tuple #[])) ((((wr.setCell ⟨p, 2, none⟩ (.slice none 0 0)).setCell ⟨p, 3, none⟩ (.int .i64 2)).setCell ⟨p, 5, none⟩ (.int .i64 0)).setCell ⟨p, 6, none⟩ (.int .i64 k))) := by
        have h1 := hG.line (vl' := .slice none 0 0) (Ext.refl _ _) [] (.inl ⟨rfl, rfl⟩) (.inr (by simp [Value.ownBlock]))
        have h2 := h1.fld 3 (.int .i64 2) { G with ns := G.ns.map die, ln := [], ph := 2 } rfl rfl rfl
        have h3 := h2.fld 5 (.int .i64 0) { G with ns := G.ns.map die, ln := [], ph := 2, pl := 0 } rfl rfl rfl
        have h4 := h3.fld 6 (.int .i64 k) { G with ns := G.ns.map die, ln := [], ph := 2, pl := 0, en := k } rfl rfl rfl
        rw [HN.out] at h4 ⊢
        refine h4.gr (B := B) ?_ (HX.out.trans (C := B) (Fx.of_ext (S := [p]) ((((Ext.setCell [p] wr _ _ (by simp)).trans (Ext.setCell [p] _ _ _ (by simp))).trans (Ext.setCell [p] _ _ _ (by simp))).trans (Ext.setCell [p] _ _ _ (by simp))) (by simp; exact .inl HT.out.p)) (fun _ q => .inl q)) _
        have := HT.out
        rw [HN.out] at this
        exact ⟨this.p, this.n, by simp [Value.ownBlock], this.s⟩
      obtain ⟨al, cl, rfl, _⟩ := hG.lin.slice
      clear hG HG HT HX
      simp only at f3 f5 f6
      go_wp2_with fail
      go_end0
      exact HF.out

/-! ### mark -/

set_option maxHeartbeats 2000000 in
theorem mark_any (p : Nat) (G : Gs) (B : Nat → Prop) (w : World) (h : Gr w p G B) (hI : Iv G) :
    Calls Tryz.prog 112 #[.pointer (some ⟨p, 0, none⟩)] w (GPost w p (mark G) B (.tuple #[])) := by
  have hlen := hI.len
  have hll := hI.lln
  cases hl : G.ln with
  | nil =>
    have K := endMark_any p G B w h hlen
    have HM : Hid (mark G = { G with ns := G.ns.map die, ln := [], ph := 2, pl := 0, en := G.ns.length }) := by show _ = _; simp only [mark, hl]
    obtain ⟨vn, vl, SV, h, ft⟩ := h
    obtain ⟨al, cl, rfl, _⟩ := h.lin.slice
    have f2 := h.flds.2.2.1
    rw [hl, List.length_nil] at f2
    clear h ft hl hll
    go_enter Tryz.func112, Tryz.ntmps112
    go_wp2_with (go_at_call 155; refine K.mono ?_; intro e w1 hq; obtain ⟨he, hq⟩ := hq; subst he)
    go_end0
    rw [HM.out]
    exact ⟨rfl, hq⟩
  | cons x t =>
    have hx := (hI.grey x).2 (by simp [hl])
    have hxl : x < G.ns.length := lvN_lt (G := G) ⟨by rw [hx]; decide, by rw [hx]; decide⟩
    have hlo := hI.lo x
    have hsl := hI.sl x
    have HI := hid hI
    obtain ⟨vn, vl, SV, h, ft⟩ := h
    obtain ⟨g, c, rfl, hc, hgp, hgl, c0, c1, c2, cf⟩ := h.node hxl
    obtain ⟨f0, _, f2, _⟩ := h.flds
    have hq := h.lin
    rw [hl] at hq
    obtain ⟨gl, ol, cl, rfl, htc, cx, hqt, hqe⟩ := hq.head
    obtain ⟨sa, hsv, hIs⟩ := (h.slo x hxl).is
    rw [hsv] at c1
    have hxi : (x : Int) < G.ns.length := by omega
    have htl : t.length ≤ 65536 := by rw [hl] at hll; simp at hll; omega
    have cf0 := cf (x * 3)
    have cf2 := cf (x * 3 + 2)
    have z2 := h.froz 2
    have hglp : gl ≠ p := fun e => h.lp (by simp [Value.ownBlock, e])
    have hglg : g ≠ gl := fun e => h.nl g rfl (by simp [Value.ownBlock, e])
    have hgll : gl < w.heap.size := h.lin.lt gl rfl
    have hpl : p < w.heap.size := lt_of_heap h.blk
    by_cases hk : (ndAt G.ns x).k = (ndAt G.ns x).s.length
    · have HM : Hid (mark G = { G with ns := G.ns.set x ⟨3, (ndAt G.ns x).s, (ndAt G.ns x).k⟩, ln := t }) := by show _ = _; simp only [mark, hl, if_pos hk]
      have HF : Hid (∀ q o2, Qu w (.slice (some ⟨gl, o2, none⟩) t.length cl) t → GPost w p { G with ns := G.ns.set x ⟨3, (ndAt G.ns x).s, (ndAt G.ns x).k⟩, ln := t } B (.tuple #[]) (.returned (.tuple #[])) (((w.drewN q).setCell ⟨g, x * 3, none⟩ (.int .i64 3)).setCell ⟨p, 2, none⟩ (.slice (some ⟨gl, o2, none⟩) t.length cl))) := fun q o2 hqt => by
        have h0 := h.keepD ft (Ext.drewN [] w q)
        have h1 := h0.setc x 3 hxl
        have hq1 : Qu ((w.drewN q).setCell ⟨g, x * 3, none⟩ (.int .i64 (3 : Nat))) (.slice (some ⟨gl, o2, none⟩) t.length cl) t :=
          (hqt.keep (B := fun k => k = g) ((Fx.of_ext0 (Ext.drewN [] w q)).trans (C := fun k => k = g) (Fx.of_ext (Ext.setCell [g] _ _ _ (by simp)) (by simp)) (fun _ r => .inl r)) (by simp [Value.ownBlock]; exact fun e => hglg e.symm))
        have h2 := h1.line (Ext.refl _ _) t hq1 (.inl rfl)
        refine h2.gr ⟨ft.p, ft.n, fun k hk => ft.l k hk, ft.s⟩ (Fx.of_ext (S := [p, g]) (((Ext.drewN [p, g] w q).trans (Ext.setCell [p, g] _ _ _ (by simp))).trans (Ext.setCell [p, g] _ _ _ (by simp))) (by simp; exact ⟨.inl ft.p, .inl (ft.n g rfl)⟩)) _
      have hk' : (((ndAt G.ns x).k : Int) == ((ndAt G.ns x).s.length : Int)) = true := by simp [hk]
      rw [hx] at c0
      by_cases hcl : cl = 0
      · subst hcl
        have ht0 : t = [] := List.length_eq_zero_iff.1 (by omega)
        subst ht0
        have HQ := hid hqe
        clear h ft hq hqt hqe hsv hIs hx hl hk cf hlo hsl hll
        simp only [List.length_nil, Nat.zero_add] at f2 HF
        generalize (ndAt G.ns x).k = kk at *
        generalize (ndAt G.ns x).s.length = ls at *
        generalize G.ns.length = n at *
        go_enter Tryz.func112, Tryz.ntmps112
        go_wp2_with fail
        go_quiet (fail)
        go_wp2_with fail
        go_quiet (fail)
        go_wp2_with fail
        go_end0
        rw [HM.out]
        exact HF.out _ _ HQ.out
      · have hcl1 : 1 < cl + 1 := by omega
        have hcl2 : (1 : Int) < ((cl + 1 : Nat) : Int) := by omega
        have HQ := hid hqt
        clear h ft hq hqt hqe hsv hIs hx hl hk cf hlo hsl hll
        generalize (ndAt G.ns x).k = kk at *
        generalize (ndAt G.ns x).s.length = ls at *
        generalize G.ns.length = n at *
        generalize t.length = tl at *
        go_enter Tryz.func112, Tryz.ntmps112
        go_wp2_with fail
        go_quiet (fail)
        go_wp2_with fail
        go_quiet (fail)
        go_wp2_with fail
        go_end0
        rw [HM.out]
        exact HF.out _ _ HQ.out
    · have hkl : (ndAt G.ns x).k < (ndAt G.ns x).s.length := by omega
      have hkl2 : ((ndAt G.ns x).k : Int) < (ndAt G.ns x).s.length := by omega
      have HM : Hid (mark G = sh (bump G x) ((ndAt G.ns x).s.getD (ndAt G.ns x).k 0)) := by show _ = _; simp only [mark, hl, if_neg hk, bump]
      have hk' : (((ndAt G.ns x).k : Int) == ((ndAt G.ns x).s.length : Int)) = false := by simp; omega
      obtain ⟨sb, so, rfl, cs⟩ := hIs.cell hkl
      have hy : (ndAt G.ns x).s.getD (ndAt G.ns x).k 0 ∈ (ndAt G.ns x).s := by simp [List.getD, hkl]
      have hyc := hI.cl x ⟨by omega, by omega⟩ _ hy
      have HK : Hid (∀ q, Calls Tryz.prog 154 #[.pointer (some ⟨p, 0, none⟩), .int .i64 ((ndAt G.ns x).s.getD (ndAt G.ns x).k 0)] ((w.drewN q).setCell ⟨g, x * 3 + 2, none⟩ (.int .i64 (((ndAt G.ns x).k : Int) + 1))) (GPost w p (mark G) B (.tuple #[]))) := fun q => by
        have h0 := h.keepD ft (Ext.drewN [] w q)
        have h1 := h0.setk x ((ndAt G.ns x).k + 1) hxl
        have hg : Gr ((w.drewN q).setCell ⟨g, x * 3 + 2, none⟩ (.int .i64 (((ndAt G.ns x).k : Int) + 1))) p (bump G x) B := ⟨_, _, _, h1, ft⟩
        have hF : Fx B w ((w.drewN q).setCell ⟨g, x * 3 + 2, none⟩ (.int .i64 (((ndAt G.ns x).k : Int) + 1))) := Fx.of_ext (S := [g]) ((Ext.drewN [g] w q).trans (Ext.setCell [g] _ _ _ (by simp))) (by simp; exact .inl (ft.n g rfl))
        refine (shade_any p (bump G x) B _ _ hg ?_ (by simp only [bump]; omega) (by simp only [bump, List.length_set]; exact hlen)).mono ?_
        · rcases hyc with r | r
          · exact .inl r
          · right; rw [lvB_iff] at r; exact ⟨r.1, by simp only [bump, List.length_set]; exact lvN_lt r.2⟩
        · rintro e w' ⟨rfl, hq, hX⟩
          rw [HM.out]
          refine ⟨rfl, hq.mono (fun k hk => ?_), hF.trans hX (fun _ r => .inl r)⟩
          rcases hk with r | r
          · exact .inl r
          · exact .inr (by simpa using r)
      rw [hx] at c0
      clear h ft hq hqt hqe hsv hIs hx hl hk cf hlo hll hy hyc
      generalize (ndAt G.ns x).s.getD (ndAt G.ns x).k 0 = y at *
      generalize (ndAt G.ns x).k = kk at *
      generalize (ndAt G.ns x).s.length = ls at *
      generalize G.ns.length = n at *
      generalize t.length = tl at *
      go_enter Tryz.func112, Tryz.ntmps112
      go_wp2_with fail
      go_quiet (fail)
      go_wp2_with fail
      go_quiet (fail)
      go_wp2_with fail
      go_quiet (fail)
      go_wp2_with fail
      refine (HK.out _).mono ?_
      clear HK
      intro e w1 hq
      obtain ⟨he, hq⟩ := hq
      subst he
      go_wp2_with fail
      go_end0
      exact ⟨rfl, hq⟩

end Go.Proofs.YtbpjmcjjambdkaaGreatDoor.Co

/-
  The program's Work; no statement is proved here.
-/
namespace Go.Proofs.YtbpjmcjjambdkaaGreatDoor.Co
open Go.RowKit

def ints (l : List Nat) : List Value := l.map fun (x : Nat) => Value.int .i64 x
theorem ints_len (l : List Nat) : (ints l).length = l.length := by simp [ints]

/-- What Work answers: how many units are left, and which nodes were swept, in a list of its own. -/
def WkPost (w : World) (p : Nat) (B : Nat → Prop) (G : Gs) (u : Nat) (e : Ending) (w' : World) : Prop :=
  ∃ v C, e = .returned (.tuple #[.int .i64 ((work u G).1 : Nat), v]) ∧ w'.ownsRow w.heap.size 3 1 v (work u G).2.1.length (ints (work u G).2.1) ∧ Gr w' p (work u G).2.2 C ∧ (∀ k, C k → Nw B w k) ∧ (∀ g, v.ownBlock = some g → ¬ C g) ∧ Fx B w w'

/-- How far Work is. -/
structure Wr (w : World) (p : Nat) (B : Nat → Prop) (G0 : Gs) (u0 : Nat) (u : Nat) (v : Value) (wr : World) : Prop where
  go : ∃ G C l, Iv G ∧ Gr wr p G C ∧ (∀ k, C k → Nw B w k) ∧ (∀ g, v.ownBlock = some g → ¬ C g) ∧ Fx B w wr ∧ wr.ownsRow w.heap.size 3 1 v l.length (ints l) ∧ G.cy ≤ G0.cy + 1 ∧ (G.cy ≤ G0.cy ∨ G.ph = 0) ∧ (l.length ≤ 65536 ∧ (G.ph = 2 → l.length ≤ G.pl) ∧ (G.ph = 1 → l = [])) ∧
    (work u0 G0) = ((work u G).1, l ++ (work u G).2.1, (work u G).2.2)

set_option maxHeartbeats 4000000 in
theorem work_any (p : Nat) (G : Gs) (B : Nat → Prop) (x : Int) (w : World) (h : Gr w p G B) (hI : Iv G) (hx : x ≤ 9223372036854775807) (hcy : G.cy < 900000000000000000) :
    Calls Tryz.prog 66 #[.pointer (some ⟨p, 0, none⟩), .int .i64 x] w (WkPost w p B G x.toNat) := by
  have hu : x.toNat ≤ 9223372036854775807 := by omega
  have HS : Hid (Wr w p B G x.toNat x.toNat (.slice none 0 0) w) := ⟨G, B, [], hI, h, fun _ q => .inl q, by simp [Value.ownBlock], Fx.refl _ _, own_nil _ _ _ _, by omega, .inl (Nat.le_refl _), by simp, by simp⟩
  have HE : Hid (∀ v wr u, Wr w p B G x.toNat u v wr → (u = 0 ∨ ∃ f, wr.cell? ⟨p, 3, none⟩ = some (.int .i64 f) ∧ f = 0) → WkPost w p B G x.toNat (.returned (.tuple #[.int .i64 (u : Nat), v])) wr) := by
    rintro v wr u ⟨G', C, l, hI', hG', hC, hv, hX, ho, _, _, _, hw⟩ hstop
    have h0 : u = 0 ∨ G'.ph = 0 := by
      rcases hstop with q | ⟨f, q, r⟩
      · exact .inl q
      · right
        obtain ⟨vn, vl, SV, hm, _⟩ := hG'
        have := hm.flds.2.2.2.1
        rw [q] at this
        simp at this
        omega
    have h1 : work u G' = (u, [], G') := by
      rcases h0 with rfl | q
      · rfl
      · exact work_idle q u
    rw [h1] at hw
    simp only [List.append_nil] at hw
    refine ⟨v, C, ?_, ?_, ?_, hC, hv, hX⟩
    · rw [hw]
    · rw [hw]; exact ho
    · rw [hw]; exact hG'
  have HCY := hid hcy
  by_cases hx0 : x ≤ 0
  · have hu0 : x.toNat = 0 := by omega
    rw [hu0] at HS HE ⊢
    clear h hI hcy hu
    by_cases hz : x = 0
    · subst hz
      go_enter Tryz.func66, Tryz.ntmps66
      go_wp2_with fail
      go_loopg [6, 7] 0 (fun _ a b wr => a = .int .i64 0 ∧ b = .slice none 0 0 ∧ wr = w)
      case atStart => exact ⟨rfl, rfl, rfl⟩
      case round =>
        obtain ⟨rfl, rfl, rfl⟩ := hrel
        go_wp2_with fail
        go_ret2
        exact HE.out _ _ 0 HS.out (.inl rfl)
    · have hx1 : x < 0 := by omega
      have hx2 : ¬ (0 < x) := by omega
      have hx3 : ¬ (0 ≤ x) := by omega
      go_enter Tryz.func66, Tryz.ntmps66
      go_wp2_with fail
      go_loopg [6, 7] 0 (fun _ a b wr => a = .int .i64 0 ∧ b = .slice none 0 0 ∧ wr = w)
      case atStart => exact ⟨rfl, rfl, rfl⟩
      case round =>
        obtain ⟨rfl, rfl, rfl⟩ := hrel
        go_wp2_with fail
        go_ret2
        exact HE.out _ _ 0 HS.out (.inl rfl)
  · obtain ⟨u0, rfl⟩ : ∃ u0 : Nat, x = u0 := ⟨x.toNat, by omega⟩
    simp only [Int.toNat_natCast] at HS HE hu ⊢
    clear h hI hcy
    have hx1 : 0 < (u0 : Int) := by omega
    go_enter Tryz.func66, Tryz.ntmps66
    go_wp2_with fail
    go_loopg [6, 7] u0 (fun q a b wr => a = .int .i64 q ∧ q ≤ u0 ∧ (∃ ad n c, b = .slice ad n c) ∧ Wr w p B G u0 q b wr)
    case atStart => exact ⟨rfl, Nat.le_refl _, ⟨_, _, _, rfl⟩, HS.out⟩
    case round =>
      clear HS
      obtain ⟨rfl, hq, ⟨ad, vn, vc, rfl⟩, hW⟩ := hrel
      have HW := hid hW
      clear hW
      cases gk with
      | zero =>
        go_wp2_with fail
        go_ret2
        exact HE.out _ _ 0 HW.out (.inl rfl)
      | succ q =>
        obtain ⟨G', C, l, hI', hG', hC, hv, hX, ho, hc1, hc2, hlu, hw⟩ := HW.out.go
        have c3 : wr.cell? ⟨p, 3, none⟩ = some (.int .i64 G'.ph) := by
          obtain ⟨vn, vl, SV, hm, _⟩ := hG'
          exact hm.flds.2.2.2.1
        have hq1 : 0 < ((q + 1 : Nat) : Int) := by omega
        by_cases hp0 : G'.ph = 0
        · have hb0 : ((G'.ph : Int) != 0) = false := by simp [hp0]
          have HF := hid (HE.out _ _ _ HW.out (.inr ⟨_, c3, by simp [hp0]⟩))
          clear hI' hG' hC hv hX ho hc1 hc2 hlu hw hp0 HE HW
          generalize G'.ph = ph at *
          go_wp2_with fail
          go_ret2
          exact HF.out
        · have hb0 : ((G'.ph : Int) != 0) = true := by simp; omega
          have hcy' : G'.cy < 1000000000000000000 := by have := HCY.out; omega
          have hun : work (q + 1) G' = ((work q (unit G').1).1, (unit G').2 ++ (work q (unit G').1).2.1, (work q (unit G').1).2.2) := by simp only [work, hp0, if_false]
          rw [hun] at hw
          have hIu := iv_unit hI' hp0
          have hcu := unit_cy G'
          by_cases h1 : G'.ph = 1
          · have hb1 : ((G'.ph : Int) == 1) = true := by simp [h1]
            have K := mark_any p G' C wr hG' hI'
            have hU : unit G' = (mark G', []) := by simp only [unit, h1, if_true]
            rw [hU] at hw hIu hcu
            have HN : Hid (∀ w1, Gr w1 p (mark G') (Nw C wr) → Fx C wr w1 → Wr w p B G u0 q (.slice ad vn vc) w1) := fun w1 g1 x1 => by
              refine ⟨mark G', Nw C wr, l, hIu, g1, fun k hk => ?_, fun g hg => ?_, hX.trans x1 (fun k hk => hC k hk), own_keepF ho x1 hv, ?_, ?_, ⟨hlu.1, fun _ => by rw [hlu.2.2 h1]; simp, fun _ => hlu.2.2 h1⟩, by simpa using hw⟩
              · rcases hk with r | r
                · exact hC k r
                · exact .inr (Nat.le_trans hX.size r)
              · rintro (r | r)
                · exact hv g hg r
                · have := (own_lt ho g hg).2; omega
              · rcases hcu with r | r
                · simp only at r; omega
                · simp only at r; omega
              · rcases hcu with r | r
                · simp only at r; left; omega
                · exact .inr r.2
            clear hI' hG' hC hv hX ho hc1 hc2 hlu hw hp0 HE HW hIu hcu hun hU h1
            generalize G'.ph = ph at *
            go_wp2_with fail
            refine K.mono ?_
            clear K
            rintro e w1 ⟨rfl, g1, x1⟩
            have HN1 := hid (HN.out w1 g1 x1)
            clear g1 x1 HN
            go_wp2_with fail
            go_roundg q
            case measure => omega
            case rel => exact ⟨by go_num, by omega, ⟨_, _, _, rfl⟩, HN1.out⟩
          · have hb1 : ((G'.ph : Int) == 1) = false := by simp; omega
            have K := sweep_any p G' C wr hG' hI' (by have := hI'.ph; omega) hcy'
            have hU : unit G' = sweep G' := by simp only [unit, h1, if_false]
            rw [hU] at hw hIu hcu
            have hsw : (sweep G').2 = [] ∨ ∃ y, (sweep G').2 = [y] ∧ y ≤ 65536 ∧ G'.pl < G'.en := by
              unfold sweep
              split
              · exact .inl rfl
              · split
                · right
                  rename_i hpen _
                  refine ⟨_, rfl, ?_⟩
                  have := hI'.pe (by have := hI'.ph; omega)
                  have := hI'.len
                  omega
                · exact .inl rfl
            have hsp : (sweep G').1.ph ≠ 1 ∧ ((sweep G').1.ph = 2 → G'.pl + 1 ≤ (sweep G').1.pl) := by
              unfold sweep
              split
              · simp
              · split
                · exact ⟨h1, fun _ => Nat.le_refl _⟩
                · exact ⟨h1, fun _ => Nat.le_refl _⟩
            have hph2 : G'.ph = 2 := by have := hI'.ph; omega
            have hlu2 := hlu.2.1 hph2
            have hpe := hI'.pe hph2
            have hln := hI'.len
            have hcy1 : (sweep G').1.cy ≤ G.cy + 1 ∧ ((sweep G').1.cy ≤ G.cy ∨ (sweep G').1.ph = 0) := by
              rcases hcu with r | r
              · exact ⟨by omega, .inl (by omega)⟩
              · exact ⟨by omega, .inr r.2⟩
            have hC1 : ∀ k, Nw C wr k → Nw B w k := fun k hk => by
              rcases hk with r | r
              · exact hC k r
              · exact .inr (Nat.le_trans hX.size r)
            have hv1 : ∀ g, (Value.slice ad vn vc).ownBlock = some g → ¬ Nw C wr g := fun g hg => by
              rintro (r | r)
              · exact hv g hg r
              · have := (own_lt ho g hg).2; omega
            rcases hsw with hs | ⟨y, hs, hy, hple⟩
            · rw [hs] at hw K
              have HN : Hid (∀ w1, Gr w1 p (sweep G').1 (Nw C wr) → Fx C wr w1 → Wr w p B G u0 q (.slice ad vn vc) w1) := fun w1 g1 x1 =>
                ⟨(sweep G').1, Nw C wr, l, hIu, g1, hC1, hv1, hX.trans x1 (fun k hk => hC k hk), own_keepF ho x1 hv, hcy1.1, hcy1.2, ⟨hlu.1, fun q => by have := hsp.2 q; omega, fun q => absurd q hsp.1⟩, by simpa using hw⟩
              clear hI' hG' hC hv hX ho hc1 hc2 hlu hw hp0 HE HW hIu hcu hun hU h1 hC1 hv1 hcy1 hs hsp hph2 hlu2 hpe hln
              generalize G'.ph = ph at *
              rw [show swN [] = -1 from rfl] at K
              go_wp2_with fail
              refine K.mono ?_
              clear K
              rintro e w1 ⟨rfl, g1, x1⟩
              have HN1 := hid (HN.out w1 g1 x1)
              clear g1 x1 HN
              go_wp2_with fail
              go_roundg q
              case measure => omega
              case rel => exact ⟨by go_num, by omega, ⟨_, _, _, rfl⟩, HN1.out⟩
            · rw [hs] at hw K
              rw [show swN [y] = (y : Int) from rfl] at K
              have hy1 : ((y : Int) != -1) = true := by simp
              have HA : Hid (∀ w1, Gr w1 p (sweep G').1 (Nw C wr) → Fx C wr w1 → ∃ v' w2, (Builtin.append_ #[29, 29] 29 #[.slice ad vn vc, .slice (some ⟨w1.heap.size, 0, none⟩) 1 1]).run Tryz.prog (w1.alloc (.cells #[.int .i64 y] 3)) = .ok v' w2 ∧ (∃ ad n c, v' = .slice ad n c) ∧ Wr w p B G u0 q v' w2) := fun w1 g1 x1 => by
                have ho1 := own_keepF ho x1 hv
                have hEa := Ext.alloc [] w1 (.cells #[.int .i64 (y : Int)] 3)
                obtain ⟨i3, hi3, hz3, hs3, hy3⟩ := info_parts info3
                have hXs := hX.size
                have hxs := x1.size
                obtain ⟨v', w2, hr, ho2, hg2, _, hat⟩ := run_append_own_at (P := Tryz.prog) (w1.alloc (.cells #[.int .i64 y] 3)) w.heap.size 29 29 3 i3 _ 1 8 Tryz.underlying29 hi3 hz3 hs3 hy3 rfl (by decide) (.slice ad vn vc) l.length (ints l) (own_keep0 ho1 hEa) ⟨w1.heap.size, 0, none⟩ 1 1 [.int .i64 y] rfl (fun j u hu => by rw [Addr.add_lit, cell_of_row _ _ _ _ _ _ (heap_alloc_new w1 _), Nat.zero_add, ← hu]; simp) (by simp [Value.oneCell']) (by unfold maxLen; omega) (by omega) (by simp; omega)
                have hX2 := ext_grown hg2
                refine ⟨v', w2, hr, ?_, ⟨(sweep G').1, fun k => Nw C wr k ∧ k < w1.heap.size, l ++ [y], hIu, ?_, fun k hk => hC1 k hk.1, fun g hg => ?_, ?_, ?_, hcy1.1, hcy1.2, ⟨by simp; omega, fun q => by have := hsp.2 q; simp; omega, fun q => absurd q hsp.1⟩, by simpa using hw⟩⟩
                · obtain ⟨a2, c2, e2, _⟩ := own_slice ho2
                  exact ⟨a2, _, c2, e2⟩
                · exact (g1.there.keep0 hEa).keep (Fx.of_ext hX2 (fun k hk => .inl (by simpa using hk : (Value.slice ad vn vc).ownBlock = some k))) (fun k hk q => hv1 k q hk.1)
                · rintro ⟨r1, r2⟩
                  rcases Nat.lt_or_ge g w1.heap.size with r | r
                  · by_cases e : (Value.slice ad vn vc).ownBlock = some g
                    · exact hv1 g e r1
                    · rcases hat with q | q
                      · exact e (by rw [← q]; exact hg)
                      · rw [hg] at q; simp at q; omega
                  · omega
                · exact (hX.trans x1 (fun k hk => hC k hk)).trans (C := fun k => (Value.slice ad vn vc).ownBlock = some k) ((Fx.of_ext0 hEa).trans (Fx.of_ext hX2 (fun k hk => .inl (by simpa using hk))) (fun _ r => .inl r)) (fun k hk => .inr (own_lt ho k hk).1)
                · simpa [ints] using ho2
              clear hI' hG' hC hv hX ho hc1 hc2 hlu hw hp0 HE HW hIu hcu hun hU h1 hC1 hv1 hcy1 hs hsp hph2 hlu2 hpe hln
              generalize G'.ph = ph at *
              go_wp2_with fail
              refine K.mono ?_
              clear K
              rintro e w1 ⟨rfl, g1, x1⟩
              obtain ⟨v', w2, hr, ⟨a2, n2, c2, rfl⟩, hN1⟩ := HA.out w1 g1 x1
              clear hple
              have HN1 := hid hN1
              clear g1 x1 HA hN1
              go_wp2_with (at_builtin; refine wpList_append_run rfl _ _ 29 rfl _ _ _ rfl rfl hr ?_)
              go_roundg q
              case measure => omega
              case rel => exact ⟨by go_num, by omega, ⟨_, _, _, rfl⟩, HN1.out⟩

end Go.Proofs.YtbpjmcjjambdkaaGreatDoor.Co

/-
  A memory as it lies in memory; no statement is proved here.
-/
namespace Go.Proofs.YtbpjmcjjambdkaaGreatDoor
open Go.RowKit

theorem fx_co {B : Nat → Prop} {w w' : World} (h : Co.Fx B w w') : Fx B w w' := ⟨h.os, h.tape, h.output, h.size, h.block⟩
theorem co_fx {B : Nat → Prop} {w w' : World} (h : Fx B w w') : Co.Fx B w w' := ⟨h.os, h.tape, h.output, h.size, h.block⟩
theorem ext_co {S : List Nat} {w w' : World} (h : Co.Ext S w w') : Ext S w w' := ⟨h.os, h.tape, h.output, h.size, h.block⟩
theorem co_ext {S : List Nat} {w w' : World} (h : Ext S w w') : Co.Ext S w w' := ⟨h.os, h.tape, h.output, h.size, h.block⟩

/-- What stands in the map of objects for an object. -/
def moV (o : Mo) (g : Nat) : Value := .agg #[.int .i64 o.nd, .slice (some ⟨g, 0, none⟩) o.sl.length o.sl.length]

/-- A memory in block p. The classes of blocks: 1 the graph's, 2 the heap's, 3 slots, 4 the map of objects, 5 the map of addresses. -/
structure Mm (w : World) (p : Nat) (M : Ms) (X : Co.Fo) (cs : Array Value) (cl : Nat → Nat) (bo ba : Nat) (fo : Int → Option Value) : Prop where
  g : Co.Gr w p (M.G.wx X) (fun k => cl k = 1)
  h : Hw w p 7 121 cs (fun k => cl k = 2) M.H
  xd : X.d = .map (some bo)
  xe : X.e = .map (some ba)
  xf : X.f = .int .i64 M.pc
  xg : X.g = .int .i64 M.sn
  mo : Mp w bo M.cn fo
  ma : Mp w ba M.cn (fun k => (M.ad k).map (Value.int .i64))
  co : cl bo = 4
  ca : cl ba = 5
  th : ∀ k, cl k ≠ 0 → k < w.heap.size
  os : ∀ a o, M.ob a = some o → ∃ g, fo a = some (moV o g) ∧ w.heap[g]? = some (.cells (o.sl.map (Value.int .i64)).toArray 3 (0, 0)) ∧ cl g = 3 ∧ o.sl.length ≤ 8192
  on : ∀ a, M.ob a = none → fo a = none

/-- A memory whose blocks are of Z. -/
def Mw (w : World) (p : Nat) (M : Ms) (Z : Nat → Prop) : Prop := ∃ X cs cl bo ba fo, Mm w p M X cs cl bo ba fo ∧ ∀ k, cl k ≠ 0 → Z k

/-- How a memory has turned, and what was answered. -/
def MPost (w : World) (p : Nat) (M' : Ms) (Z : Nat → Prop) (r : Value) (e : Ending) (w' : World) : Prop := e = .returned r ∧ Mw w' p M' (Co.Nw Z w) ∧ Fx Z w w'

section
variable {w w' : World} {p : Nat} {M : Ms} {X : Co.Fo} {cs : Array Value} {cl : Nat → Nat} {bo ba : Nat} {fo : Int → Option Value}

theorem Mm.p1 (h : Mm w p M X cs cl bo ba fo) : cl p = 1 := by obtain ⟨_, _, _, _, f⟩ := h.g; exact f.p
theorem Mm.pt (h : Mm w p M X cs cl bo ba fo) : p < w.heap.size := h.th p (by rw [h.p1]; decide)

/-- The block's cells. -/
theorem Mm.blk (h : Mm w p M X cs cl bo ba fo) : ∃ vn vl, w.heap[p]? = some (.cells #[vn, .int .i64 M.G.le, vl, .int .i64 M.G.ph, .int .i64 M.G.cy, .int .i64 M.G.pl, .int .i64 M.G.en, X.a, X.b, X.c, X.d, X.e, X.f, X.g] 121 (0, 0)) := by
  obtain ⟨vn, vl, _, g, _⟩ := h.g
  exact ⟨vn, vl, g.blk⟩
theorem Mm.flds (h : Mm w p M X cs cl bo ba fo) : w.cell? ⟨p, 10, none⟩ = some (.map (some bo)) ∧ w.cell? ⟨p, 11, none⟩ = some (.map (some ba)) ∧ w.cell? ⟨p, 12, none⟩ = some (.int .i64 M.pc) ∧ w.cell? ⟨p, 13, none⟩ = some (.int .i64 M.sn) ∧ ∀ j, w.frozen? ⟨p, j, none⟩ = false := by
  obtain ⟨vn, vl, hb⟩ := h.blk
  simp only [cell_of_row _ _ _ _ _ _ hb]
  exact ⟨by rw [← h.xd]; rfl, by rw [← h.xe]; rfl, by rw [← h.xf]; rfl, by rw [← h.xg]; rfl, fun j => frozen_of_row _ _ _ _ _ hb⟩

/-- What leaves a memory's blocks alone leaves the memory alone. -/
theorem Mm.keep {B : Nat → Prop} (h : Mm w p M X cs cl bo ba fo) (x : Fx B w w') (hd : ∀ k, cl k ≠ 0 → ¬ B k) : Mm w' p M X cs cl bo ba fo := by
  refine ⟨h.g.keep (co_fx x) (fun k hk => hd k (by rw [hk]; decide)), h.h.keep x (hd p (by rw [h.p1]; decide)) (fun k hk => hd k (by rw [hk]; decide)), h.xd, h.xe, h.xf, h.xg, h.mo.keep x (hd _ (by rw [h.co]; decide)), h.ma.keep x (hd _ (by rw [h.ca]; decide)), h.co, h.ca, fun k hk => Nat.lt_of_lt_of_le (h.th k hk) x.size, fun a o ho => ?_, h.on⟩
  obtain ⟨g, h1, h2, h3, h4⟩ := h.os a o ho
  exact ⟨g, h1, x.keep h2 (hd g (by rw [h3]; decide)), h3, h4⟩
theorem Mm.keep0 (h : Mm w p M X cs cl bo ba fo) (x : Ext [] w w') : Mm w' p M X cs cl bo ba fo := h.keep (B := fun _ => False) (Fx.of_ext0 x) (fun _ _ q => q)
theorem Mw.keep {B Z : Nat → Prop} (h : Mw w p M Z) (x : Fx B w w') (hd : ∀ k, Z k → ¬ B k) : Mw w' p M Z := by
  obtain ⟨X, cs, cl, bo, ba, fo, h1, h2⟩ := h
  exact ⟨X, cs, cl, bo, ba, fo, h1.keep x (fun k hk => hd k (h2 k hk)), h2⟩
theorem Mw.keep0 {Z : Nat → Prop} (h : Mw w p M Z) (x : Ext [] w w') : Mw w' p M Z := h.keep (B := fun _ => False) (Fx.of_ext0 x) (fun _ _ q => q)
theorem Mw.mono {Y Z : Nat → Prop} (h : Mw w p M Z) (hm : ∀ k, Z k → Y k) : Mw w p M Y := by
  obtain ⟨X, cs, cl, bo, ba, fo, h1, h2⟩ := h
  exact ⟨X, cs, cl, bo, ba, fo, h1, fun k hk => hm k (h2 k hk)⟩
theorem Mw.there {Z : Nat → Prop} (h : Mw w p M Z) : Mw w p M (fun k => Z k ∧ k < w.heap.size) := by
  obtain ⟨X, cs, cl, bo, ba, fo, h1, h2⟩ := h
  exact ⟨X, cs, cl, bo, ba, fo, h1, fun k hk => ⟨h2 k hk, h1.th k hk⟩⟩
theorem Mw.zp {Z : Nat → Prop} (h : Mw w p M Z) : Z p := by
  obtain ⟨X, cs, cl, bo, ba, fo, h1, h2⟩ := h
  exact h2 p (by rw [h1.p1]; decide)
theorem Mw.pt {Z : Nat → Prop} (h : Mw w p M Z) : p < w.heap.size := by
  obtain ⟨X, cs, cl, bo, ba, fo, h1, h2⟩ := h
  exact h1.pt

open Classical in
/-- The classes with what is new. -/
noncomputable def clN (cl : Nat → Nat) (w w' : World) (C : Nat → Prop) (c : Nat) : Nat → Nat := fun k => if k < w.heap.size then cl k else if C k ∧ k < w'.heap.size then c else 0

theorem clN_old {C : Nat → Prop} {c k : Nat} (h : k < w.heap.size) : clN cl w w' C c k = cl k := by unfold clN; rw [if_pos h]
theorem clN_new {C : Nat → Prop} {c k : Nat} (h : w.heap.size ≤ k) (h1 : C k) (h2 : k < w'.heap.size) : clN cl w w' C c k = c := by unfold clN; rw [if_neg (by omega), if_pos ⟨h1, h2⟩]
theorem clN_ne {C : Nat → Prop} {c k : Nat} (h : clN cl w w' C c k ≠ 0) : cl k ≠ 0 ∧ k < w.heap.size ∨ w.heap.size ≤ k ∧ C k ∧ k < w'.heap.size := by
  unfold clN at h
  split at h
  · rename_i q; exact .inl ⟨h, q⟩
  · split at h
    · rename_i q1 q2; exact .inr ⟨by omega, q2⟩
    · exact absurd rfl h

/-- The heap is the same where another block's cells are its own. -/
theorem Hw.swap {B F : Nat → Prop} {H : Hs} {cs cs' : Array Value} (h : Hw w p 7 121 cs F H) (x : Fx B w w') (hF : ∀ k, F k → ¬ B k) {c0 : Array Value} (h0 : w.heap[p]? = some (.cells c0 121 (0, 0))) (h1 : w'.heap[p]? = some (.cells cs' 121 (0, 0))) (hz : 8 < cs'.size)
    (e7 : cs'[7]? = c0[7]?) (e8 : cs'[8]? = c0[8]?) (e9 : cs'[9]? = c0[9]?) : Hw w' p 7 121 cs' F H := by
  obtain ⟨ag, og, V, sb, O, h⟩ := h
  have hb := h.box.at_
  rw [h0] at hb
  simp only [Option.some.injEq, Obj.cells.injEq, and_true] at hb
  have hsz := h.box.sz
  have e8' : cs'[8]? = some V := by rw [e8, hb, Array.getElem?_setIfInBounds, if_pos rfl, if_pos (by omega)]
  refine ⟨ag, og, V, sb, O, ⟨?_, hz, by decide⟩, h.ty, ?_, ?_, x.keep h.bytes (hF _ h.fa), ?_, x.keep h.owners (hF _ h.fo), h.olen, h.own, fun y hy => ?_, h.inj, h.fa, h.fo, h.fv, h.fs, h.np, h.ok⟩
  · rw [h1]
    congr 2
    apply Array.ext_getElem?
    intro i
    rw [Array.getElem?_setIfInBounds]
    by_cases e : 7 + 1 = i
    · subst e; rw [if_pos rfl, if_pos (by omega)]; exact e8'
    · rw [if_neg e]
  · rw [e7, hb, Array.getElem?_setIfInBounds, if_neg (by omega)]; exact h.ca
  · have e9' : cs'[7 + 2]? = c0[7 + 2]? := e9
    rw [e9', hb, Array.getElem?_setIfInBounds, if_neg (by omega)]; exact h.co
  · refine ⟨h.runs.1, ?_⟩
    rcases h.runs.2 with q | ⟨g, cap, cur, hv, h1, h2, h3⟩
    · exact .inl q
    · exact .inr ⟨g, cap, cur, hv, h1, x.keep h2 (hF _ (h.fv g (by rw [hv]; rfl))), h3⟩
  · exact ⟨x.keep (h.spans y hy).box (hF _ (h.fs y hy).1), x.keep (h.spans y hy).row (hF _ (h.fs y hy).2)⟩

/-- Behind a call on the graph. -/
theorem Mm.graph (h : Mm w p M X cs cl bo ba fo) {G' : Co.Gs} {C : Nat → Prop} (hG : Co.Gr w' p (G'.wx X) C) (hC : ∀ k, C k → Co.Nw (fun k => cl k = 1) w k) (x : Co.Fx (fun k => cl k = 1) w w') :
    ∃ cs', Mm w' p { M with G := G' } X cs' (clN cl w w' C 1) bo ba fo := by
  obtain ⟨vn, vl, hb⟩ := h.blk
  have hG0 := hG
  obtain ⟨vn', vl', SV', hg', _⟩ := hG0
  have x' := fx_co x
  have ho := fun k hk => clN_old (cl := cl) (w' := w') (C := C) (c := 1) (h.th k hk)
  have hpp : ∀ k, cl k = 2 → ¬ cl k = 1 := fun k h1 h2 => by omega
  refine ⟨#[vn', .int .i64 G'.le, vl', .int .i64 G'.ph, .int .i64 G'.cy, .int .i64 G'.pl, .int .i64 G'.en, X.a, X.b, X.c, X.d, X.e, X.f, X.g], ?_, ?_, h.xd, h.xe, h.xf, h.xg, ?_, ?_, ?_, ?_, fun k hk => ?_, fun a o hao => ?_, h.on⟩
  · refine hG.there.mono (fun k hk => ?_)
    rcases hC k hk.1 with q | q
    · rw [ho k (by rw [q]; decide)]; exact q
    · exact clN_new q hk.1 hk.2
  · have h2 := Hw.swap h.h x' hpp hb hg'.blk (by simp) rfl rfl rfl
    obtain ⟨ag, og, V, sb, O, h2⟩ := h2
    refine ⟨ag, og, V, sb, O, h2.foot (fun k hk => ?_) ?_⟩
    · rw [ho k (by rw [hk]; decide)]; exact hk
    · rw [ho p (by rw [h.p1]; decide), h.p1]; decide
  · exact h.mo.keep x' (by rw [h.co]; decide)
  · exact h.ma.keep x' (by rw [h.ca]; decide)
  · rw [ho _ (by rw [h.co]; decide)]; exact h.co
  · rw [ho _ (by rw [h.ca]; decide)]; exact h.ca
  · rcases clN_ne hk with q | q
    · exact Nat.lt_of_lt_of_le q.2 x.size
    · exact q.2.2
  · obtain ⟨g, h1, h2, h3, h4⟩ := h.os a o hao
    exact ⟨g, h1, x'.keep h2 (by rw [h3]; decide), by rw [ho g (by rw [h3]; decide)]; exact h3, h4⟩

/-- Behind a call on the heap. -/
theorem Mm.heap (h : Mm w p M X cs cl bo ba fo) {H' : Hs} {F' : Nat → Prop} (hH : Hw w' p 7 121 cs F' H') (hF : ∀ k, F' k → cl k = 2 ∨ w.heap.size ≤ k) (x : Fx (fun k => k = p ∨ cl k = 2) w w') :
    ∃ X', Mm w' p { M with H := H' } X' cs (clN cl w w' F' 2) bo ba fo := by
  obtain ⟨vn, vl, SV, hg, hf⟩ := h.g
  obtain ⟨ag0, og0, V0, sb0, O0, h0⟩ := h.h
  have hH0 := hH
  obtain ⟨ag, og, V, sb, O, h1⟩ := hH0
  have ho := fun k hk => clN_old (cl := cl) (w' := w') (C := F') (c := 2) (h.th k hk)
  have e0 := h0.box.at_
  rw [hg.blk] at e0
  simp only [Option.some.injEq, Obj.cells.injEq, and_true] at e0
  have e1 := h1.box.at_
  have e2 : cs.setIfInBounds (7 + 1) V = (#[vn, .int .i64 M.G.le, vl, .int .i64 M.G.ph, .int .i64 M.G.cy, .int .i64 M.G.pl, .int .i64 M.G.en, X.a, V, X.c, X.d, X.e, X.f, X.g] : Array Value) := by
    have : cs.setIfInBounds (7 + 1) V = (cs.setIfInBounds (7 + 1) V0).setIfInBounds (7 + 1) V := by simp
    rw [this, ← e0]; rfl
  rw [e2] at e1
  have hpn : p < w.heap.size := h.pt
  have hb1 : ∀ k, cl k = 1 → k ≠ p → ¬ (k = p ∨ cl k = 2) := fun k a b c => by rcases c with c | c; exact b c; omega
  have hsep : ∀ g, cl g = 1 → (∃ c t, t ≠ 121 ∧ w.heap[g]? = some (.cells c t (0, 0))) → ¬ (g = p ∨ cl g = 2) := fun g a b => hb1 g a (fun e => by
    obtain ⟨c, t, ht, hc⟩ := b
    rw [e, hg.blk] at hc
    simp at hc
    exact ht hc.2.symm)
  refine ⟨{ X with b := V }, ?_, ?_, h.xd, h.xe, h.xf, h.xg, ?_, ?_, ?_, ?_, fun k hk => ?_, fun a o hao => ?_, h.on⟩
  · refine ⟨vn, vl, SV, ⟨e1, ?_, ?_, hg.svl, fun i hi => ?_, hg.sep, hg.sel⟩, ?_⟩
    · exact Co.own_keepF hg.row (co_fx x) (fun g q => by
        obtain ⟨c, hc⟩ := Co.own_at hg.row q
        exact hsep g (hf.n g q) ⟨c, 229, by decide, hc⟩)
    · exact hg.lin.keep (co_fx x) (fun g q => by
        obtain ⟨c, hc⟩ := hg.lin.row g q
        exact hsep g (hf.l g q) ⟨c, 3, by decide, hc⟩)
    · exact (hg.slo i hi).keep (co_fx x) (fun g q => by
        obtain ⟨c, hc⟩ := (hg.slo i hi).row g q
        exact hsep g (hf.s i g q) ⟨c, 3, by decide, hc⟩)
    · refine hf.mono (fun k hk => ?_)
      rw [ho k (by rw [hk]; decide)]; exact hk
  · refine ⟨ag, og, V, sb, O, h1.there.foot (fun k hk => ?_) ?_⟩
    · rcases hF k hk.1 with q | q
      · rw [ho k (by rw [q]; decide)]; exact q
      · exact clN_new q hk.1 hk.2
    · rw [ho p (by rw [h.p1]; decide), h.p1]; decide
  · exact h.mo.keep x (by rintro (q | q); (have := h.co; have := h.p1; rw [q] at *; omega); (have := h.co; omega))
  · exact h.ma.keep x (by rintro (q | q); (have := h.ca; have := h.p1; rw [q] at *; omega); (have := h.ca; omega))
  · rw [ho _ (by rw [h.co]; decide)]; exact h.co
  · rw [ho _ (by rw [h.ca]; decide)]; exact h.ca
  · rcases clN_ne hk with q | q
    · exact Nat.lt_of_lt_of_le q.2 x.size
    · exact q.2.2
  · obtain ⟨g, h1, h2, h3, h4⟩ := h.os a o hao
    exact ⟨g, h1, x.keep h2 (by rintro (q | q); (have e := h.p1; rw [← q] at e; omega); omega), by rw [ho g (by rw [h3]; decide)]; exact h3, h4⟩

end

end Go.Proofs.YtbpjmcjjambdkaaGreatDoor
