/-
  Where a part of a value lies: the program's find; no statement is proved here.
-/
import Derived.Test.YtfabhhmeanpmhaaDoorChk
namespace Go.Proofs.YtfabhhmeanpmhaaDoor
open Go.RowKit

theorem results_cell_tmp {P : Program} {fn : Func} {p q : Tmp} {ty : TypeId} (h : fn.results = #[.cell p ty, .tmp q]) (tmps : Array Value) (w : World) (a : Addr) (v : Value)
    (hp : tmps.getD p undef = .pointer (some a)) (h1 : (loadVar ty a).run P w = .ok v w) : (results fn tmps).run P w = .ok (.tuple #[v, tmps.getD q undef]) w := by
  have hp' : tmps[p]?.getD undef = .pointer (some a) := by simpa using hp
  simp [results, h, hp', asAddr, h1]
theorem size72 : (Tryd.prog.info? 72).map (·.size) = some 3 := by kernel_rfl
def P3 (w : World) (b : Nat) (x y z : Int) : Prop := w.heap[b]? = some (.cells #[.int .i64 x, .int .i64 y, .int .i64 z] 72 (0, 0))
theorem P3.load {w : World} {b : Nat} {x y z : Int} (h : P3 w b x y z) : (loadVar 72 ⟨b, 0, none⟩).run Tryd.prog w = .ok (.agg #[.int .i64 x, .int .i64 y, .int .i64 z]) w :=
  run_loadVar_row w b 72 72 _ (0, 0) _ h Tryd.underlying72 rfl size72
theorem P3.c0 {w : World} {b : Nat} {x y z : Int} (h : P3 w b x y z) : w.cell? ⟨b, 0, none⟩ = some (.int .i64 x) := by rw [cell_of_row _ _ _ _ _ _ h]; rfl
theorem P3.c1 {w : World} {b : Nat} {x y z : Int} (h : P3 w b x y z) : w.cell? ⟨b, 1, none⟩ = some (.int .i64 y) := by rw [cell_of_row _ _ _ _ _ _ h]; rfl
theorem P3.c2 {w : World} {b : Nat} {x y z : Int} (h : P3 w b x y z) : w.cell? ⟨b, 2, none⟩ = some (.int .i64 z) := by rw [cell_of_row _ _ _ _ _ _ h]; rfl
theorem P3.fr {w : World} {b : Nat} {x y z : Int} (h : P3 w b x y z) (i : Nat) : w.frozen? ⟨b, i, none⟩ = false := frozen_of_row _ _ _ _ _ h
theorem P3.keep {S : List Nat} {w w' : World} {b : Nat} {x y z : Int} (h : P3 w b x y z) (e : Ext S w w') (hb : b ∉ S) : P3 w' b x y z := e.keep h hb
theorem P3.set {w : World} {b : Nat} {x y z : Int} (h : P3 w b x y z) (x' y' z' : Int) : P3 (((w.setCell ⟨b, 0, none⟩ (.int .i64 x')).setCell ⟨b, 1, none⟩ (.int .i64 y')).setCell ⟨b, 2, none⟩ (.int .i64 z')) b x' y' z' :=
  heap_setCell_same _ b 2 _ _ _ (heap_setCell_same _ b 1 _ _ _ (heap_setCell_same _ b 0 _ _ _ h))
theorem P3.set12 {w : World} {b : Nat} {x y z : Int} (h : P3 w b x y z) (y' z' : Int) : P3 ((w.setCell ⟨b, 1, none⟩ (.int .i64 y')).setCell ⟨b, 2, none⟩ (.int .i64 z')) b x y' z' :=
  heap_setCell_same _ b 2 _ _ _ (heap_setCell_same _ b 1 _ _ _ h)

/-- A table whose lists of fields have room for themselves. -/
structure TabC (w : World) (a : Option Addr) (ts : List Ty) : Prop where
  tab : Tab w a ts
  caps : ∀ b o, a = some ⟨b, o, none⟩ → ∀ i, i < ts.length → ∃ fa fc, w.cell? ⟨b, o + i * 5 + 4, none⟩ = some (.slice fa (tyAt ts i).fields.length fc) ∧ (tyAt ts i).fields.length ≤ fc
theorem TabC.keep0 {w w' : World} {a : Option Addr} {ts : List Ty} (h : TabC w a ts) (e : Ext [] w w') : TabC w' a ts :=
  ⟨h.tab.keep0 e, fun b o ha i hi => by
    obtain ⟨fa, fc, h1, h2⟩ := h.caps b o ha i hi
    exact ⟨fa, fc, e.cell h1 (by simp), h2⟩⟩

open Classical in
/-- The error of all calls that name a part. -/
noncomputable def fchk (ts : List Ty) (d : Nat) (t : Int) (l : List Cl) (i : Int) : Int :=
  if vchk ts d t l ≠ 0 then vchk ts d t l else if parts (tyAt ts t) = [] then 3 else if i < 0 ∨ (parts (tyAt ts t)).length ≤ i then 5 else 0

/-- Where part i begins. -/
def offs (ts : List Ty) (t : Int) (i : Nat) : Int := sumWidth (ms ts) ((parts (tyAt ts t)).take i)

theorem fchk_bad {ts : List Ty} {d : Nat} {t : Int} {l : List Cl} {i : Int} (h : vchk ts d t l ≠ 0) : fchk ts d t l i = vchk ts d t l := by unfold fchk; rw [if_pos h]
theorem fchk_kind {ts : List Ty} {d : Nat} {t : Int} {l : List Cl} {i : Int} (h : vchk ts d t l = 0) (h2 : parts (tyAt ts t) = []) : fchk ts d t l i = 3 := by unfold fchk; rw [if_neg (by simp [h]), if_pos h2]
theorem fchk_range {ts : List Ty} {d : Nat} {t : Int} {l : List Cl} {i : Int} (h : vchk ts d t l = 0) (h2 : parts (tyAt ts t) ≠ []) (h3 : i < 0 ∨ (parts (tyAt ts t)).length ≤ i) : fchk ts d t l i = 5 := by
  unfold fchk; rw [if_neg (by simp [h]), if_neg h2, if_pos h3]
theorem fchk_ok {ts : List Ty} {d : Nat} {t : Int} {l : List Cl} {i : Int} (h : vchk ts d t l = 0) (h2 : parts (tyAt ts t) ≠ []) (h3 : ¬ (i < 0 ∨ (parts (tyAt ts t)).length ≤ i)) : fchk ts d t l i = 0 := by
  unfold fchk; rw [if_neg (by simp [h]), if_neg h2, if_neg h3]

theorem sumWidth_bd {E : List Me} : ∀ {l : List Int}, (∀ p ∈ l, 0 ≤ (at' E p).width ∧ (at' E p).width ≤ 16) → 0 ≤ sumWidth E l ∧ sumWidth E l ≤ 16 * l.length
  | [], _ => by simp [sumWidth]
  | p :: r, h => by
    have h1 := h p (by simp)
    have h2 := sumWidth_bd (l := r) (fun q hq => h q (by simp [hq]))
    rw [sumWidth, List.length_cons]
    omega

def FPost (w : World) (err kept b e : Int) (en : Ending) (w' : World) : Prop := en = .returned (.tuple #[.agg #[.int .i64 kept, .int .i64 b, .int .i64 e], .int .i64 err]) ∧ Ext [] w w'

/-- Three stores into one new block. -/
theorem extP {w0 w : World} {b : Nat} (h : Ext [] w0 w) (hb : w0.heap.size ≤ b) (x y z : Value) : Ext [] w0 (((w.setCell ⟨b, 0, none⟩ x).setCell ⟨b, 1, none⟩ y).setCell ⟨b, 2, none⟩ z) :=
  h.on (S := [b]) (((Ext.setCell [b] _ _ _ (by simp)).trans (Ext.setCell [b] _ _ _ (by simp))).trans (Ext.setCell [b] _ _ _ (by simp))) (by simpa using hb)

set_option maxRecDepth 100000 in
set_option maxHeartbeats 4000000 in
theorem find_bad (ts : List Ty) (ta : Option Addr) (tn tc : Nat) (htn : ts.length = tn) (hc : tn ≤ tc) (d : Nat) (t i : Int) (a : Option Addr) (l : List Cl) (n c : Nat) (w : World) (hC : Cs d w a l) (hn : l.length = n) (hT : TabC w ta ts) (hG : Gl w) (hb : fchk ts d t l i ≠ 0) :
    Calls Tryd.prog 43 #[.slice ta tn tc, .int .i64 t, .slice a n c, .int .i64 i] w (FPost w (fchk ts d t l i) 0 0 0) := by
  have hE0 := Ext.alloc [] w (.cells #[.int .i64 0, .int .i64 0, .int .i64 0] 72)
  have hP0 : P3 (w.alloc (.cells #[.int .i64 0, .int .i64 0, .int .i64 0] 72)) w.heap.size 0 0 0 := heap_alloc_new _ _
  have K := pcheck_any ts ta tn tc htn hc d t a l n c _ (hC.keep0 hE0) hn (hT.tab.keep0 hE0) (hG.keep0 hE0)
  have HE0 := hid hE0
  have HP0 := hid hP0
  clear hE0 hP0
  by_cases hv : vchk ts d t l = 0
  · obtain ⟨hbz, hOk⟩ := vchk_zero hv
    obtain ⟨hS, h0, h1⟩ := bad_zero hbz
    obtain ⟨q, rfl⟩ : ∃ q : Nat, t = q := ⟨t.toNat, by omega⟩
    have hF := (hS.2.1 q (by omega)).1
    obtain ⟨b, o, rfl, hat⟩ := hT.tab.addr (by omega)
    obtain ⟨fa, fc, hty⟩ := hat q (by omega)
    have HTY := hid hty
    have K2 := fun u (hu : Ext [] w u) => partsOf_any w.heap.size (tyAt ts q) fa fc u (hty.keep0 hu).f (fun h9 => by have := hF.2.2.2.2.1 h9; omega) (tab_fb hty)
    unfold tyVal at K2
    have hq : q < tn := by omega
    rw [hv] at K
    by_cases hps : parts (tyAt ts q) = []
    · rw [fchk_kind hv hps]
      rw [hps] at K2
      clear hC hT hG hb hv hbz hOk hS h0 h1 hat hty hps hF
      go_enter Tryd.func43, Tryd.ntmps43
      go_wp2_with (first
        | (go_at_call 9
           refine K.mono ?_
           rintro e w1 ⟨rfl, hE1⟩
           have hE01 := HE0.out.trans hE1
           obtain ⟨c0, c1, c2, c3, c4, _⟩ := HTY.out.keep0 hE01
           have HE1 := hid hE1
           have HE01 := hid hE01
           clear hE1 hE01)
        | (go_at_call 32
           refine (K2 _ HE01.out).mono ?_
           rintro e w2 ⟨ia, ic, rfl, hIs, hE2, _, _⟩
           have hP2 := (HP0.out.keep HE1.out (by simp)).keep hE2 (by simp)
           have p0 := hP2.c0
           have p1 := hP2.c1
           have p2 := hP2.c2
           have pf := hP2.fr
           have HP2 := hid hP2
           have HE2 := hid (HE01.out.trans hE2)
           clear hP2 hE2 hIs))
      refine bodyPost_ret (results_cell_tmp rfl _ _ ⟨w.heap.size, 0, none⟩ _ rfl (HP2.out.set 0 0 0).load) rfl ⟨rfl, extP HE2.out (Nat.le_refl _) _ _ _⟩
    · have hr : i < 0 ∨ ((parts (tyAt ts q)).length : Int) ≤ i := by
        by_cases h : i < 0 ∨ ((parts (tyAt ts q)).length : Int) ≤ i
        · exact h
        · exact absurd (fchk_ok hv hps h) hb
      rw [fchk_range hv hps hr]
      have hp1 : (((parts (tyAt ts q)).length : Int) == 0) = false := by have := List.length_pos_iff.2 hps; simp; omega
      have hp2 : ¬ (((parts (tyAt ts q)).length : Int) = 0) := by have := List.length_pos_iff.2 hps; omega
      clear hC hT hG hb hv hbz hOk hS h0 h1 hat hty hps hF
      generalize parts (tyAt ts q) = ps at *
      rcases (by omega : i < 0 ∨ (¬ i < 0 ∧ (ps.length : Int) ≤ i)) with r1 | ⟨r1, r2⟩
      all_goals
        clear hr
        go_enter Tryd.func43, Tryd.ntmps43
        go_wp2_with (first
          | (go_at_call 9
             refine K.mono ?_
             rintro e w1 ⟨rfl, hE1⟩
             have hE01 := HE0.out.trans hE1
             obtain ⟨c0, c1, c2, c3, c4, _⟩ := HTY.out.keep0 hE01
             have HE1 := hid hE1
             have HE01 := hid hE01
             clear hE1 hE01)
          | (go_at_call 32
             refine (K2 _ HE01.out).mono ?_
             rintro e w2 ⟨ia, ic, rfl, hIs, hE2, _, _⟩
             have hP2 := (HP0.out.keep HE1.out (by simp)).keep hE2 (by simp)
             have p0 := hP2.c0
             have p1 := hP2.c1
             have p2 := hP2.c2
             have pf := hP2.fr
             have HP2 := hid hP2
             have HE2 := hid (HE01.out.trans hE2)
             clear hP2 hE2 hIs))
        refine bodyPost_ret (results_cell_tmp rfl _ _ ⟨w.heap.size, 0, none⟩ _ rfl (HP2.out.set 0 0 0).load) rfl ⟨rfl, extP HE2.out (Nat.le_refl _) _ _ _⟩
  · rw [fchk_bad hv]
    have hv2 : (vchk ts d t l != 0) = true := by simpa using hv
    generalize vchk ts d t l = vc at *
    clear hC hT hG hb
    go_enter Tryd.func43, Tryd.ntmps43
    go_wp2_with (go_at_call 9; refine K.mono ?_; rintro e w1 ⟨rfl, hE1⟩; have hP1 := HP0.out.keep hE1 (by simp); have p0 := hP1.c0; have p1 := hP1.c1; have p2 := hP1.c2; have pf := hP1.fr; have HP1 := hid hP1; have HE1 := hid (HE0.out.trans hE1); clear hP1 hE1)
    refine bodyPost_ret (results_cell_tmp rfl _ _ ⟨w.heap.size, 0, none⟩ _ rfl (HP1.out.set 0 0 0).load) rfl ⟨rfl, extP HE1.out (Nat.le_refl _) _ _ _⟩

set_option maxRecDepth 100000 in
set_option maxHeartbeats 4000000 in
theorem find_ok (ts : List Ty) (ta : Option Addr) (tn tc : Nat) (htn : ts.length = tn) (hc : tn ≤ tc) (d q ii : Nat) (a : Option Addr) (l : List Cl) (n c : Nat) (w : World) (hC : Cs d w a l) (hn : l.length = n) (hT : TabC w ta ts) (hG : Gl w) (hv : vchk ts d q l = 0) (hi : ii < (parts (tyAt ts q)).length) :
    Calls Tryd.prog 43 #[.slice ta tn tc, .int .i64 q, .slice a n c, .int .i64 ii] w (FPost w 0 ((parts (tyAt ts q)).getD ii 0) (offs ts q ii) (offs ts q (ii + 1))) := by
  have hE0 := Ext.alloc [] w (.cells #[.int .i64 0, .int .i64 0, .int .i64 0] 72)
  have hP0 : P3 (w.alloc (.cells #[.int .i64 0, .int .i64 0, .int .i64 0] 72)) w.heap.size 0 0 0 := heap_alloc_new _ _
  have K := pcheck_any ts ta tn tc htn hc d q a l n c _ (hC.keep0 hE0) hn (hT.tab.keep0 hE0) (hG.keep0 hE0)
  have HE0 := hid hE0
  have HP0 := hid hP0
  have HT := hid hT
  have HG := hid hG
  obtain ⟨hbz, hOk⟩ := vchk_zero hv
  obtain ⟨hS, h0, h1⟩ := bad_zero hbz
  have hF := (hS.2.1 q (by omega)).1
  obtain ⟨b, o, rfl, hat⟩ := hT.tab.addr (by omega)
  obtain ⟨fa, fc, hty⟩ := hat q (by omega)
  have hcp : (tyAt ts q).fields.length ≤ fc := by
    obtain ⟨fa2, fc2, h3, h4⟩ := hT.caps b o rfl q (by omega)
    rw [hty.c4] at h3
    simp only [Option.some.injEq, Value.slice.injEq, true_and] at h3
    omega
  have HTY := hid hty
  have K2 := fun u (hu : Ext [] w u) => partsOf_any w.heap.size (tyAt ts q) fa fc u (hty.keep0 hu).f (fun h9 => by have := hF.2.2.2.2.1 h9; omega) (tab_fb hty)
  unfold tyVal at K2
  have hq : q < tn := by omega
  have hps : parts (tyAt ts q) ≠ [] := fun e => by rw [e] at hi; simp at hi
  have hpl := parts_len hF
  have HB : Hid (∀ p ∈ parts (tyAt ts q), ∃ p' : Nat, p = p' ∧ p' < tn ∧ bad ts p = 0 ∧ (mo ts p).width = (at' (ms ts) p).width ∧ 0 ≤ (at' (ms ts) p).width ∧ (at' (ms ts) p).width ≤ 16) := fun p hp => by
    have hb := hF.below p hp
    have hb0 : bad ts p = 0 := bad_ok hS (by omega)
    have hf := sound_fit hS (i := p.toNat) (by omega)
    rw [show ((p.toNat : Nat) : Int) = p by omega] at hf
    exact ⟨p.toNat, by omega, by omega, hb0, by rw [mo_ok hb0]; rfl, by have := hf.1.w0; exact Int.le_trans (by omega) this, hf.2⟩
  have HOF : Hid (∀ k, offs ts q k = sumWidth (ms ts) ((parts (tyAt ts q)).take k)) := fun k => rfl
  rw [hv] at K
  have hp1 : (((parts (tyAt ts q)).length : Int) == 0) = false := by have := List.length_pos_iff.2 hps; simp; omega
  have hp2 : ¬ (((parts (tyAt ts q)).length : Int) = 0) := by have := List.length_pos_iff.2 hps; omega
  have KW := fun (p : Int) u (hu : Ext [] w u) => width_any (some ⟨b, o, none⟩) ts tn tc p u (hT.tab.keep0 hu) htn hc (hG.keep0 hu)
  clear hC hT hG hv hbz hOk hS h0 h1 hat hty hF
  generalize parts (tyAt ts q) = ps at *
  have r1 : ¬ ((ii : Int) < 0) := by omega
  have r2 : ¬ ((ps.length : Int) ≤ (ii : Int)) := by omega
  have d1 : decide ((ii : Int) < 0) = false := by simp
  have d2 : decide ((ps.length : Int) ≤ (ii : Int)) = false := by simpa using r2
  have d3 : decide (ps.length ≤ ii) = false := by simp; omega
  obtain ⟨m, hm⟩ : ∃ m : Nat, m = ii + 1 := ⟨_, rfl⟩
  rw [← hm]
  have HM := hid hm
  have e1 : IntKind.wrap .i64 ((ii : Int) + 1) = (m : Int) := by rw [IntKind.wrap_i64]; omega
  go_enter Tryd.func43, Tryd.ntmps43
  go_upto_region 9 with (first
        | (go_at_call 9
           refine K.mono ?_
           rintro e w1 ⟨rfl, hE1⟩
           have hE01 := HE0.out.trans hE1
           obtain ⟨c0, c1, c2, c3, c4, _⟩ := HTY.out.keep0 hE01
           have HE1 := hid hE1
           have HE01 := hid hE01
           clear hE1 hE01)
        | (go_at_call 32
           refine (K2 _ HE01.out).mono ?_
           rintro e w2 ⟨ia, ic, rfl, hIs, hE2, _, hic⟩
           have HP2 := hid ((HP0.out.keep HE1.out (by simp)).keep hE2 (by simp))
           have HE2 := hid (HE01.out.trans hE2)
           have HIs := hid hIs
           have HIC := hid (hic hcp)
           clear hE2 hIs hic))
  obtain ⟨ib, io, rfl, hcs⟩ := HIs.out.at_ hps
  have hkc := hcs ii hi
  have hib : ib < w2.heap.size := block_lt_of_cell hkc
  have hicc : ps.length ≤ ic := HIC.out
  have hici : (m : Int) ≤ ic := by omega
  have hici2 : m ≤ ic := by omega
  have hP3 : P3 (w2.alloc (.cells #[.int .i64 (ps.getD ii 0), .int .i64 0, .int .i64 0] 72)) w2.heap.size (ps.getD ii 0) 0 0 := heap_alloc_new _ _
  have hE3 := Ext.alloc [] w2 (.cells #[.int .i64 (ps.getD ii 0), .int .i64 0, .int .i64 0] 72)
  have HP3 := hid hP3
  have HP8 := hid (HP2.out.keep hE3 (by simp))
  have HI3 := hid (Is.keep0 HIs.out hE3)
  have HE3 := hid (HE2.out.trans hE3)
  have hsz : w.heap.size < w2.heap.size := lt_of_heap HP2.out
  have HSZ := hid hsz
  clear hcs hP3 hE3 hicc K K2 hm
  generalize hkp : ps.getD ii 0 = kp at *
  clear hkp
  generalize hpp : w2.heap.size = pp at *
  go_upto_region 11 with fail
  generalize w2.alloc (.cells #[.int .i64 kp, .int .i64 0, .int .i64 0] 72) = W3 at *
  clear hkc
  go_loopw [53] (fun u wr => ∃ k : Nat, u = .int .i64 k ∧ k ≤ m ∧ P3 wr pp kp (offs ts q (k - 1)) (offs ts q k) ∧ P3 wr w.heap.size 0 0 0 ∧ Is wr (some ⟨ib, io, none⟩) ps ∧ Ext [] w wr) (fun u _ => (m - (intOf u)).toNat)
  case atStart => exact ⟨0, rfl, by omega, by have := HP3.out; rw [HOF.out]; simpa [HOF.out, sumWidth] using this, HP8.out, HI3.out, HE3.out⟩
  case round =>
    obtain ⟨k, rfl, hk, hPk, hP8, hIk, hEk⟩ := hrel
    have HPk := hid hPk
    have HP8k := hid hP8
    have HIk := hid hIk
    have HEk := hid hEk
    clear hPk hP8 hIk hEk
    by_cases hlt : k < m
    · obtain ⟨ib2, io2, hib2, hcs⟩ := HIk.out.at_ hps
      cases hib2
      have hkm : k < ps.length := by have := HM.out; omega
      have hck := hcs k hkm
      obtain ⟨p', hp', hpt, hb0, hmw, hw0, hw1⟩ := HB.out (ps.getD k 0) (by rw [show ps.getD k 0 = ps[k]'hkm by simp [hkm]]; exact List.getElem_mem _)
      have K := KW (ps.getD k 0) wr HEk.out
      rw [hb0, hmw] at K
      have hbd := sumWidth_bd (E := ms ts) (l := ps.take k) (fun p hp => by obtain ⟨_, _, _, _, _, h1, h2⟩ := HB.out p (List.mem_of_mem_take hp); exact ⟨h1, h2⟩)
      have hsn := sumWidth_snoc (ms ts) ps k hkm
      rw [← HOF.out, ← HOF.out] at hsn
      rw [← HOF.out, List.length_take] at hbd
      have e5 : IntKind.wrap .i64 (offs ts q k + (at' (ms ts) (ps.getD k 0)).width) = offs ts q (k + 1) := by rw [IntKind.wrap_i64]; omega
      have hkl : (k : Int) < (m : Int) := by omega
      have HOF1 : Hid (offs ts q (k + 1 - 1) = offs ts q k) := by show _ = _; rw [Nat.add_sub_cancel]
      have hne : ¬ (pp = w.heap.size) := by omega
      clear hcs hp' hpt hb0 hmw hw0 hw1 hbd hsn KW
      generalize ps.getD k 0 = pk at *
      generalize (at' (ms ts) pk).width = wd at *
      generalize ho1 : offs ts q (k + 1) = o1 at *
      have HO1 := hid ho1
      clear ho1
      generalize offs ts q k = o0 at *
      generalize offs ts q (k - 1) = om at *
      go_wp2_with (go_at_call 27; refine K.mono ?_; rintro e w5 ⟨rfl, hE5⟩; have hP5 := HPk.out.keep hE5 (by simp); have p0 := hP5.c0; have p1 := hP5.c1; have p2 := hP5.c2; have pf := hP5.fr; have HP5 := hid hP5; have HE5 := hid hE5; clear hP5 hE5)
      go_roundw
      case rel => exact ⟨k + 1, by go_num, by omega, by rw [HOF1.out, HO1.out]; exact HP5.out.set12 o0 o1, (HP8k.out.keep HE5.out (by simp)).keep (S := [pp]) ((Ext.setCell [pp] _ _ _ (by simp)).trans (Ext.setCell [pp] _ _ _ (by simp))) (by simp; omega), Vs.keep (Is.keep0 HIk.out HE5.out) (S := [pp]) ((Ext.setCell [pp] _ _ _ (by simp)).trans (Ext.setCell [pp] _ _ _ (by simp))) (fun ad had hm => by cases had; simp at hm; omega), (HEk.out.trans HE5.out).on (S := [pp]) ((Ext.setCell [pp] _ _ _ (by simp)).trans (Ext.setCell [pp] _ _ _ (by simp))) (by simp; omega)⟩
      case measure => simp [intOf]; omega
    · obtain rfl : k = m := by omega
      have hkl : ¬ ((k : Int) < (k : Int)) := by omega
      have p0 := HPk.out.c0
      have p1 := HPk.out.c1
      have p2 := HPk.out.c2
      have q0 := HP8k.out.c0
      have q1 := HP8k.out.c1
      have q2 := HP8k.out.c2
      have qf := HP8k.out.fr
      have HOF1 : Hid (k - 1 = ii) := by show _ = _; have := HM.out; omega
      rw [HOF1.out] at p1
      clear hlt hk KW
      generalize offs ts q k = o1 at *
      generalize offs ts q ii = o0 at *
      go_wp2_with fail
      refine bodyPost_ret (results_cell_tmp rfl _ _ ⟨w.heap.size, 0, none⟩ _ rfl (HP8k.out.set kp o0 o1).load) rfl ⟨rfl, extP HEk.out (Nat.le_refl _) _ _ _⟩

end Go.Proofs.YtfabhhmeanpmhaaDoor
