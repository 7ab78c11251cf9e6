/-
  LKinds, TChk, LAwA, CRMath, CMath: joined by program; no statement is proved here.
-/
import Derived.Test.YtbpjmcjjambdkaaGreatDoorZAG
import Derived.Test.YtbpjmcjjambdkaaGreatDoorZAC
import Derived.Test.YtbpjmcjjambdkaaGreatDoorRows
/-
  The kinds of a type's cells, as layout asks them; no statement is proved here.
-/
namespace Go.Proofs.YtbpjmcjjambdkaaGreatDoor.Ty
open Go.RowKit

set_option maxRecDepth 100000 in
set_option maxHeartbeats 4000000 in
theorem lparts_any (B : Nat) (t : Ty) (fa : Option Addr) (fc : Nat) (w : World) (hF : FOk w t fa) (h9 : t.kind = 9 → 0 ≤ t.len ∧ t.len ≤ 16) (hB : ∀ b o, fa = some ⟨b, o, none⟩ → t.fields ≠ [] → b < B) :
    Calls Tryz.prog 72 #[tyVal t fa fc] w (LPost B (t.fields.length ≤ fc) w (parts t)) := by
  unfold tyVal
  by_cases k8 : t.kind = 8
  · have HP := hid (parts8 k8)
    have HF := hid hF.1
    have HB := hid hB
    rw [k8]
    clear hF h9 hB k8
    go_enter Tryz.func72, Tryz.ntmps72
    go_wp2
    go_ret
    rw [HP.out]
    exact ⟨fa, fc, rfl, HF.out.keep0 (Ext.alloc _ _ _), Ext.alloc _ _ _, fun b o h h2 => .inl (HB.out b o h h2), id⟩
  · by_cases k9 : t.kind = 9
    · obtain ⟨n, hn⟩ : ∃ n : Nat, t.len = n := ⟨t.len.toNat, by have := h9 k9; omega⟩
      have hn16 : n ≤ 16 := by have := h9 k9; omega
      have HP : Hid (parts t = List.replicate n t.elem) := by show _ = _; rw [parts9 k9, hn]; rfl
      rw [k9, hn]
      have hmk := run_make_row' (P := Tryz.prog) 29 3 (.int .i64 0) 8 Tryz.underlying29 info3 rfl .i64 .i64 n (by omega) (by omega) (w.alloc (.cells #[.int .i64 9, .int .i64 t.elem, .int .i64 t.key, .int .i64 (n : Int), .slice fa t.fields.length fc] 56))
      clear hF h9 hB k8 k9 hn
      generalize t.fields.length = fl at *
      generalize t.elem = el at *
      generalize t.key = ky at *
      go_enter Tryz.func72, Tryz.ntmps72
      go_wp2_with fail
      have hb0 : ((w.alloc (.cells #[.int .i64 9, .int .i64 el, .int .i64 ky, .int .i64 (n : Int), .slice fa fl fc] 56)).alloc (.cells (madeCells #[.int .i64 0] n) 3)).cell? ⟨w.heap.size, 1, none⟩ = some (.int .i64 el) := by
        rw [cell_of_row _ _ _ _ _ _ (heap_alloc2_old _ _ _)]; rfl
      go_loopw [18] (fun u wr => ∃ k : Nat, u = .int .i64 k ∧ k ≤ n ∧ wr.cell? ⟨w.heap.size, 1, none⟩ = some (.int .i64 el) ∧ Ext [] w wr ∧ ∃ cs, wr.heap[w.heap.size + 1]? = some (.cells cs 3 (0, 0)) ∧ cs.size = n ∧ ∀ i, i < k → cs[i]? = some (.int .i64 el)) (fun u _ => (n - (intOf u)).toNat)
      case atStart => exact ⟨0, rfl, by omega, hb0, (Ext.alloc [] _ _).trans (Ext.alloc [] _ _), _, heap_alloc2_new _ _ _, size_madeCells _ _, fun i hi => by omega⟩
      case round =>
        obtain ⟨k, rfl, hk, hc, hE, cs, hr, hs, hv⟩ := hrel
        have HE := hid hE
        have HR := hid hr
        have HV := hid hv
        clear hE hv
        by_cases hlt : k < n
        · have hkn : (k : Int) < n := by omega
          have f1 : wr.frozen? ⟨w.heap.size + 1, k, none⟩ = false := frozen_of_row _ _ _ _ _ hr
          obtain ⟨z, q0⟩ : ∃ v, wr.cell? ⟨w.heap.size + 1, k, none⟩ = some v := ⟨cs[k]'(by omega), by rw [cell_of_row _ _ _ _ _ _ hr]; simp [hs, hlt]⟩
          clear hr
          go_wp2_with fail
          refine ⟨⟨k + 1, by go_num, by omega, (Ext.setCell [w.heap.size + 1] wr ⟨w.heap.size + 1, k, none⟩ _ (by simp)).cell hc (by simp), HE.out.on (Ext.setCell [w.heap.size + 1] wr ⟨w.heap.size + 1, k, none⟩ _ (by simp)) (by simp), _, heap_setCell_same _ _ _ _ _ _ HR.out, by simp [hs], fun i hi => ?_⟩, by simp [intOf]; omega⟩
          by_cases e : i = k
          · subst e; simp [hs, hlt]
          · simp only [Array.getElem?_setIfInBounds]
            rw [if_neg (by omega)]
            exact HV.out i (by omega)
        · obtain rfl : k = n := by omega
          clear hr
          go_wp2_with fail
          go_ret
          rw [HP.out]
          exact ⟨some ⟨w.heap.size + 1, 0, none⟩, k, by simp, is_row HR.out (fun i hi => by rw [HV.out i (by simpa using hi)]; simp at hi; simp [hi]), HE.out, fun b o h _ => (by cases h; right; omega), fun _ => by simp⟩
    · have HP := hid (parts0 k8 k9)
      have e8 : (t.kind == 8) = false := by simpa using k8
      have e9 : (t.kind == 9) = false := by simpa using k9
      clear hF h9 hB
      go_enter Tryz.func72, Tryz.ntmps72
      go_wp2
      go_ret
      rw [HP.out]
      exact ⟨none, 0, rfl, .inl rfl, Ext.alloc _ _ _, fun b o h => (by cases h), fun _ => Nat.le_refl _⟩

set_option maxRecDepth 100000 in
set_option maxHeartbeats 4000000 in
theorem lappendKinds_any (ts : List Ty) (a : Option Addr) (n c : Nat) (hn : ts.length = n) (hS : AllOk ts) : ∀ (N t : Nat), t < N → t < n → ∀ (w0 w : World) (v : Value) (m : Nat) (xs : List Int), Tab w0 a ts → Ext [] w0 w → w.ownsRow w0.heap.size 3 1 v m (xs.map (Value.int .i64)) → m + (kinds ts t).length ≤ 10000 →
    Calls Tryz.prog 174 #[v, .slice a n c, .int .i64 t] w (KPost w0 w v m xs (kinds ts t)) := by
  intro N
  induction N with
  | zero => intro t h; omega
  | succ N ih =>
    intro t htN htn w0 w v m xs hT hE hO hm
    have hT1 := hT.keep0 hE
    obtain ⟨b, o, rfl, hat⟩ := hT1.addr (by omega)
    obtain ⟨fa, fc, hty⟩ := hat t (by omega)
    obtain ⟨b0, o0, hb0, hat0⟩ := hT.addr (by omega)
    cases hb0
    obtain ⟨fa0, fc0, hty0⟩ := hat0 t (by omega)
    have hfa : fa0 = fa ∧ fc0 = fc := by
      have h1 := hE.cell hty0.c4 (by simp)
      rw [hty.c4] at h1
      simp only [Option.some.injEq, Value.slice.injEq, true_and] at h1
      exact ⟨h1.1.symm, h1.2.symm⟩
    obtain ⟨rfl, rfl⟩ := hfa
    have hfb := tab_fb hty0
    have hF := (hS t (by omega)).1
    have K1 := lparts_any w0.heap.size (tyAt ts t) fa0 fc0 w hty.f (fun h9 => by have := hF.2.2.2.2.1 h9; omega) hfb
    have hke := kinds_eq hS (t := (t : Int)) (by omega) (by omega)
    have hbel := hF.below
    have hpl := parts_len hF
    obtain ⟨c0, c1, c2, c3, c4, hfo⟩ := hty
    have HT := hid hT
    have HE := hid hE
    have HO := hid hO
    have HM := hid hm
    have HIH := hid ih
    have HBL := hid hbel
    have HKE := hid hke
    have HFL := hid hfb
    clear hT hT1 hE hO hm ih hbel hke hat hat0 hty0 hfo hfb
    unfold tyVal at K1
    generalize hps : parts (tyAt ts t) = ps at *
    have h3 : t < n := htn
    by_cases h0 : ps = []
    · subst h0
      go_enter Tryz.func174, Tryz.ntmps174
      go_wp2_with fail
      refine K1.mono ?_
      clear K1
      rintro e w1 ⟨ia, ic, rfl, _, hE1, _, _⟩
      have HE1 := hid hE1
      have hO1 := own_keep0 HO.out hE1
      have hEk := HE.out.trans hE1
      clear hE1 c0 c1 c2 c3 c4
      obtain ⟨b2, o2, hb2, hat2⟩ := (HT.out.keep0 hEk).addr (by omega)
      cases hb2
      obtain ⟨fa2, fc2, hty2⟩ := hat2 t (by omega)
      have c0 := hty2.c0
      obtain ⟨v3, w3, hr3, hP3⟩ := app1 w0 w1 hEk v m xs hO1 (tyAt ts t).kind (by have := HM.out; omega)
      have HK1 : Hid (kinds ts t = [(tyAt ts t).kind]) := by show _ = _; have := HKE.out; simpa using this
      have HP3 := hid hP3
      clear hat2 hty2 hO1 hEk hP3
      generalize (tyAt ts t).kind = kd at *
      go_wp2_with (at_builtin; refine wpList_append_run rfl _ _ 29 rfl _ _ _ rfl rfl hr3 ?_)
      go_ret
      rw [HK1.out]
      exact KPost.after HE1.out (by simpa using HP3.out)
    · have hpos : ((ps.length : Int) == 0) = false := by have := List.length_pos_iff.2 h0; simp; omega
      go_enter Tryz.func174, Tryz.ntmps174
      go_wp2_with (go_at_call 72; refine K1.mono ?_; rintro e w1 ⟨ia, ic, rfl, hIs, hE1, hib, _⟩)
      have hol := own_lt HO.out
      have HI0 : Hid (∀ b o, ia = some ⟨b, o, none⟩ → ps ≠ [] → v.ownBlock ≠ some b) := fun b o h1 h2 h3 => by
        have h4 := hol b h3
        rcases hib b o h1 h2 with h | h <;> omega
      have HIs := hid hIs
      have HE1 := hid hE1
      have HP0 : Hid (KPost w0 w1 v m xs [] (.returned v) w1) := KPost.nil (own_keep0 HO.out hE1) (HE.out.trans hE1)
      clear hIs hE1 hib hol K1 c0 c1 c2 c3 c4
      go_wp2_with fail
      go_loopw [0, 28] (fun lv q wr => ∃ k : Nat, q = .int .i64 k ∧ k ≤ ps.length ∧ Is wr ia ps ∧ (∀ b o, ia = some ⟨b, o, none⟩ → ps ≠ [] → lv.ownBlock ≠ some b) ∧ KPost w0 w1 v m xs ((ps.take k).flatMap (kinds ts)) (.returned lv) wr) (fun _ q _ => (ps.length - (intOf q)).toNat)
      case atStart => exact ⟨0, rfl, Nat.zero_le _, HIs.out, HI0.out, by simpa using HP0.out⟩
      case round =>
        obtain ⟨k, rfl, hk, hIsk, hIk, hPk⟩ := hrel
        have HIsk := hid hIsk
        have HIk := hid hIk
        have HPk := hid hPk
        obtain ⟨v', hv', hOk, hEk, hXk, hNk⟩ := hPk
        cases hv'
        by_cases hlt : k < ps.length
        · have h0 : ps ≠ [] := fun e => by rw [e] at hlt; simp at hlt
          obtain ⟨ib, io, rfl, hcs⟩ := hIsk.at_ h0
          have hck := hcs k hlt
          have hpk : ps.getD k 0 = ps[k] := by simp [hlt]
          have hbp := HBL.out (ps.getD k 0) (by rw [hpk]; exact List.getElem_mem hlt)
          obtain ⟨p, hp⟩ : ∃ p : Nat, ps.getD k 0 = p := ⟨(ps.getD k 0).toNat, by omega⟩
          have htk : (ps.take (k + 1)).flatMap (kinds ts) = (ps.take k).flatMap (kinds ts) ++ kinds ts p := by
            rw [List.take_succ_eq_append_getElem hlt, List.flatMap_append, ← hpk, hp]; simp
          have hle : ((ps.take (k + 1)).flatMap (kinds ts)).length ≤ (kinds ts t).length := by
            rw [HKE.out, if_neg h0]
            conv => rhs; rw [← List.take_append_drop (k + 1) ps, List.flatMap_append, List.length_append]
            omega
          rw [htk, List.length_append] at hle
          have K := HIH.out p (by omega) (by omega) w0 wr u0 _ _ HT.out hEk hOk (by have := HM.out; omega)
          have HTK := hid htk
          have hilt : ib < wr.heap.size := block_lt_of_cell hck
          rw [hp] at hck
          have hkl : (k : Int) < ps.length := by omega
          clear hOk hEk hXk hNk hcs hpk hbp htk hle hIsk hIk
          go_wp2_with (go_at_call 174; refine K.mono ?_; rintro e w2 ⟨v2, rfl, hK2⟩)
          obtain ⟨hO2, hE2, hX2, hN2⟩ := id hK2
          refine ⟨⟨k + 1, by go_num, by omega, ?_, ?_, ?_⟩, by simp [intOf]; omega⟩
          · exact Vs.keep HIsk.out hX2 (fun ad had hm => by cases had; exact HIk.out ib io rfl h0 (by simpa using hm))
          · intro b' o' hb' h0' hv'
            cases hb'
            rcases hN2 with h | h
            · rw [h] at hv'; exact HIk.out _ _ rfl h0' hv'
            · have := h _ hv'; omega
          · rw [HTK.out]
            exact HPk.out.trans ⟨v2, rfl, hK2⟩
        · obtain rfl : k = ps.length := by omega
          rw [List.take_length] at HPk
          clear hlt hk hIsk hIk
          have h1 : True := trivial
          have HK1 : Hid (kinds ts t = ps.flatMap (kinds ts)) := by have := HKE.out; rwa [if_neg h0] at this
          clear hOk hEk hXk hNk
          go_wp2_with fail
          go_ret
          rw [HK1.out]
          exact KPost.after HE1.out HPk.out


/-- A list of kinds of its own. -/
def KiPost (w : World) (ks : List Int) (e : Ending) (w' : World) : Prop := ∃ a c, e = .returned (.slice a ks.length c) ∧ w'.ownsRow w.heap.size 3 1 (.slice a ks.length c) ks.length (ks.map (Value.int .i64)) ∧ Ext [] w w'
set_option maxRecDepth 100000 in
theorem lkindsOf_any (ts : List Ty) (a : Option Addr) (n c : Nat) (hn : ts.length = n) (hS : AllOk ts) (t : Nat) (ht : t < n) (w : World) (hT : Tab w a ts) (hk : (kinds ts t).length ≤ 16) : Calls Tryz.prog 134 #[.slice a n c, .int .i64 (t : Nat)] w (KiPost w (kinds ts t)) := by
  have hmk := mk16 w
  have hE0 := Ext.alloc [] w (.cells (madeCells #[.int .i64 0] 16) 3)
  have hO : (w.alloc (.cells (madeCells #[.int .i64 0] 16) 3)).ownsRow w.heap.size 3 1 (.slice (some ⟨w.heap.size, 0, none⟩) 0 16) 0 (([] : List Int).map (Value.int .i64)) := by simpa using own16 w
  have K := lappendKinds_any ts a n c hn hS (t + 1) t (by omega) ht w _ _ 0 [] hT hE0 hO (by omega)
  clear hT hn hS hE0 hO
  go_enter Tryz.func134, Tryz.ntmps134
  go_wp2_with fail
  refine K.mono ?_
  clear K
  rintro e w1 ⟨v', rfl, hO1, hE1, _, _⟩
  rw [Nat.zero_add, List.nil_append] at hO1
  obtain ⟨a', c', rfl, _⟩ := own_slice hO1
  have HF : Hid (KiPost w (kinds ts t) (.returned (.slice a' (kinds ts t).length c')) w1) := ⟨a', c', rfl, hO1, hE1⟩
  generalize kinds ts t = ks at *
  clear hO1 hE1
  go_wp2_with fail
  go_ret
  exact HF.out
end Go.Proofs.YtbpjmcjjambdkaaGreatDoor.Ty

/-
  The program's Check, and where a part lies; no statement is proved here.
-/
namespace Go.Proofs.YtbpjmcjjambdkaaGreatDoor.Ty
open Go.RowKit

/-- A sound value of a sound type. -/
def OkV (ts : List Ty) (d : Nat) (t : Int) (l : List Cl) : Prop := siz l ≤ 256 ∧ Okv ts d (kinds ts t) l

open Classical in
noncomputable def vchk (ts : List Ty) (d : Nat) (t : Int) (l : List Cl) : Int := if bad ts t = 0 then (if OkV ts d t l then 0 else 1) else bad ts t
theorem vchk_bad {ts : List Ty} {d : Nat} {t : Int} {l : List Cl} (h : bad ts t ≠ 0) : vchk ts d t l = bad ts t := by unfold vchk; rw [if_neg h]
theorem vchk_form {ts : List Ty} {d : Nat} {t : Int} {l : List Cl} (h : bad ts t = 0) (h2 : ¬ OkV ts d t l) : vchk ts d t l = 1 := by unfold vchk; rw [if_pos h, if_neg h2]
theorem vchk_ok {ts : List Ty} {d : Nat} {t : Int} {l : List Cl} (h : bad ts t = 0) (h2 : OkV ts d t l) : vchk ts d t l = 0 := by unfold vchk; rw [if_pos h, if_pos h2]
theorem vchk_zero {ts : List Ty} {d : Nat} {t : Int} {l : List Cl} (h : vchk ts d t l = 0) : bad ts t = 0 ∧ OkV ts d t l := by
  by_cases h1 : bad ts t = 0
  · by_cases h2 : OkV ts d t l
    · exact ⟨h1, h2⟩
    · rw [vchk_form h1 h2] at h; omega
  · rw [vchk_bad h1] at h; exact absurd h h1

set_option maxRecDepth 100000 in
set_option maxHeartbeats 1000000 in
theorem pcheck_any (ts : List Ty) (ta : Option Addr) (tn tc : Nat) (htn : ts.length = tn) (hc : tn ≤ tc) (d : Nat) (t : Int) (a : Option Addr) (l : List Cl) (n c : Nat) (w : World) (hC : Cs d w a l) (hn : l.length = n) (hT : Tab w ta ts) (hG : Gl w) :
    Calls Tryz.prog 83 #[.slice ta tn tc, .int .i64 t, .slice a n c] w (SayPost w (.int .i64 (vchk ts d t l))) := by
  have K := width_any ta ts tn tc t w hT htn hc hG
  by_cases hb : bad ts t = 0
  · obtain ⟨hS, h0, h1⟩ := bad_zero hb
    obtain ⟨q, rfl⟩ : ∃ q : Nat, t = q := ⟨t.toNat, by omega⟩
    rw [hb] at K
    have K2 := fun u (hu : Ext [] w u) => psound_any ts ta tn tc htn hS d q a l n c u (by omega) (hC.keep0 hu) hn (hT.keep0 hu)
    generalize (mo ts (q : Int)).width = wd at *
    by_cases ho : OkV ts d q l
    · have K3 := fun u hu => test_yes (K2 u hu) ho
      rw [vchk_ok hb ho]
      clear K2 hb ho hC hT hG hS h0 h1
      go_enter Tryz.func83, Tryz.ntmps83
      go_wp2_with (first | (go_at_call 132; refine K.mono ?_; rintro e w1 ⟨rfl, hE1⟩) | (go_at_call 133; refine (K3 _ hE1).mono ?_; rintro e w2 ⟨rfl, hE2⟩))
      go_ret
      exact ⟨rfl, hE1.trans hE2⟩
    · have K3 := fun u hu => test_no (K2 u hu) ho
      rw [vchk_form hb ho]
      clear K2 hb ho hC hT hG hS h0 h1
      go_enter Tryz.func83, Tryz.ntmps83
      go_wp2_with (first | (go_at_call 132; refine K.mono ?_; rintro e w1 ⟨rfl, hE1⟩) | (go_at_call 133; refine (K3 _ hE1).mono ?_; rintro e w2 ⟨rfl, hE2⟩))
      go_ret
      exact ⟨rfl, hE1.trans hE2⟩
  · rw [vchk_bad hb]
    have hb2 : (bad ts t != 0) = true := by simpa using hb
    generalize bad ts t = bd at *
    generalize (mo ts t).width = wd at *
    clear hC hT hG
    go_enter Tryz.func83, Tryz.ntmps83
    go_wp2_with (go_at_call 132; refine K.mono ?_; rintro e w1 ⟨rfl, hE1⟩)
    go_ret
    exact ⟨rfl, hE1⟩

end Go.Proofs.YtbpjmcjjambdkaaGreatDoor.Ty

/-
  Small functions of layout at one string; no statement is proved here.
-/
namespace Go.Proofs.YtbpjmcjjambdkaaGreatDoor.Ty
open Go.RowKit

def kstr : Ty := ⟨4, 0, 0, 0, []⟩
def abc : ByteArray := ⟨#[97, 98, 99]⟩
def labc : List Cl := [.mk 0 abc 0 []]
theorem sound1 : Sound [kstr] := by
  refine ⟨by decide, ?_, ?_⟩
  · intro i hi
    obtain rfl : i = 0 := by simpa using hi
    refine ⟨⟨by unfold Clean; decide, ?_, ?_, ?_, ?_, ?_⟩, by decide⟩
    all_goals intro h; exact absurd h (by decide)
  · intro i hi
    obtain rfl : i = 0 := by simpa using hi
    intro h
    exact absurd h (by decide)
theorem bad1 : bad [kstr] 0 = 0 := bad_ok sound1 ⟨by omega, by decide⟩
theorem kinds1 : kinds [kstr] 0 = [4] := by decide
theorem okv1 : OkV [kstr] 2 0 labc := by
  refine ⟨by decide, ?_⟩
  rw [kinds1]
  refine ⟨rfl, fun i hi => ?_⟩
  obtain rfl : i = 0 := by simpa [labc] using hi
  refine ⟨⟨fun h => absurd rfl h, fun _ => rfl, fun _ => rfl, fun h => absurd h (by decide), fun _ => ⟨rfl, by decide⟩, fun h => absurd h (by decide), fun h => by rcases h with h | h | h <;> exact absurd h (by decide)⟩, fun h => absurd rfl h⟩
theorem vchk1 : vchk [kstr] 2 0 labc = 0 := vchk_ok bad1 okv1

theorem check_ok (a : Option Addr) (ts : List Ty) (n c p : Nat) (t : Int) (hb : bad ts t = 0) (w : World) (hT : Tab w a ts) (hn : ts.length = n) (hc : n ≤ c) (hG : Gl w) :
    Calls Tryz.prog 48 #[.pointer (some ⟨p, 0, none⟩), .slice a n c, .int .i64 t] w (SayPost w (.int .i64 0)) := by
  have K := words_any a ts n c t w hT hn hc hG
  rw [hb] at K
  generalize (mo ts t).words = m at *
  clear hT hn hG hb
  go_enter Tryz.func48, Tryz.ntmps48
  go_wp2_with fail
  refine K.mono ?_
  rintro e w1 ⟨rfl, hE⟩
  have HE := hid hE
  clear hE K
  go_wp2_with fail
  go_ret
  exact ⟨rfl, HE.out⟩
theorem checkValue_any (a : Option Addr) (ts : List Ty) (n c p : Nat) (t : Int) (hb : bad ts t = 0) (d : Nat) (va : Option Addr) (l : List Cl) (vn vc : Nat) (w : World) (hT : Tab w a ts) (hn : ts.length = n) (hc : n ≤ c) (hG : Gl w) (hC : Cs d w va l) (hl : l.length = vn) :
    Calls Tryz.prog 42 #[.pointer (some ⟨p, 0, none⟩), .slice a n c, .int .i64 t, .slice va vn vc] w (SayPost w (.int .i64 (vchk ts d t l))) := by
  have K := check_ok a ts n c p t hb w hT hn hc hG
  have K2 := fun u (hu : Ext [] w u) => pcheck_any ts a n c hn hc d t va l vn vc u (hC.keep0 hu) hl (hT.keep0 hu) (hG.keep0 hu)
  generalize vchk ts d t l = x at *
  clear hT hn hG hC hl
  go_enter Tryz.func42, Tryz.ntmps42
  go_wp2_with fail
  refine K.mono ?_
  rintro e w1 ⟨rfl, hE⟩
  have K3 := K2 w1 hE
  have HE := hid hE
  clear hE K K2
  go_wp2_with fail
  refine K3.mono ?_
  rintro e w2 ⟨rfl, hE2⟩
  have HE2 := hid (HE.out.trans hE2)
  clear hE2 K3
  go_wp2_with fail
  go_ret
  exact ⟨rfl, HE2.out⟩
theorem wordsFor3 (w : World) : Calls Tryz.prog 179 #[.int .i64 3] w fun e w' => e = .returned (.int .i64 1) ∧ w' = w := by
  go_enter Tryz.func179, Tryz.ntmps179
  go_wp2
  go_ret
  exact ⟨rfl, rfl⟩
theorem info44 : (Tryz.prog.info? 44).map (fun i => (i.zero, i.size, i.bytes)) = some (some (.int .u64 0), 1, 8) := by kernel_rfl
theorem info4b : (Tryz.prog.info? 4).map (fun i => (i.zero, i.size, i.bytes)) = some (some (.bool false), 1, 1) := by kernel_rfl
theorem made1 (v : Value) : madeCells #[v] 1 = #[v] := by
  apply Array.ext'
  simp [madeCells, Array.toList_map, Array.toList_range, List.range_succ]
theorem mk44 (w : World) : (Instr.makeSlice 35 (.int .i64 1) (.int .i64 1)).run Tryz.prog w = .ok (.slice (some ⟨w.heap.size, 0, none⟩) 1 1) (w.alloc (.cells #[.int .u64 0] 44)) := by
  have := run_make_row' (P := Tryz.prog) 35 44 (.int .u64 0) 8 Tryz.underlying35 info44 rfl .i64 .i64 1 (by omega) (by omega) w
  rw [made1] at this
  exact this
theorem mk63 (w : World) : (Instr.makeSlice 63 (.int .i64 1) (.int .i64 1)).run Tryz.prog w = .ok (.slice (some ⟨w.heap.size, 0, none⟩) 1 1) (w.alloc (.cells #[.bool false] 4)) := by
  have := run_make_row' (P := Tryz.prog) 63 4 (.bool false) 1 Tryz.underlying63 info4b rfl .i64 .i64 1 (by omega) (by omega) w
  rw [made1] at this
  exact this
set_option maxRecDepth 100000 in
theorem clone_none (w : World) : Calls Tryz.prog 85 #[.slice none 0 0] w fun e w' => e = .returned (.slice none 0 0) ∧ w' = w := by
  have heq : ∀ w, Sem.run Tryz.prog (binOp .eql 29 (.slice none 0 0) (.slice none 0 0)) w = .ok (.bool true) w := fun w => by
    have h : ∀ d, (Op.equalIn (d + 1) 29 (.slice none 0 0) (.slice none 0 0)).run Tryz.prog w = .ok true w := fun d => by simp [Op.equalIn, run_underlying Tryz.underlying29]
    simp only [binOp]
    simp [Op.equal, Op.maxDepth, h 9999]
  go_enter Tryz.func85, Tryz.ntmps85
  go_wp2
  go_ret
  exact ⟨rfl, rfl⟩
set_option maxRecDepth 100000 in
theorem allLive_none (p : Nat) (w : World) : Calls Tryz.prog 86 #[.pointer (some ⟨p, 0, none⟩), .slice none 0 0] w fun e w' => e = .returned (.bool true) ∧ w' = w := by
  go_enter Tryz.func86, Tryz.ntmps86
  go_wp2_with fail
  go_loopw [9] (fun q wr => q = .int .i64 0 ∧ wr = w) (fun _ _ => 0)
  case atStart => exact ⟨rfl, rfl⟩
  case round =>
    obtain ⟨rfl, rfl⟩ := hrel
    go_wp2_with fail
    go_ret
    exact ⟨rfl, rfl⟩
def PkPost (w : World) (e : Ending) (w' : World) : Prop := ∃ g, e = .returned (.slice (some ⟨g, 0, none⟩) 1 1) ∧ w'.cell? ⟨g, 0, none⟩ = some (.int .u64 6513249) ∧ w.heap.size ≤ g ∧ Ext [] w w'
set_option maxRecDepth 100000 in
set_option maxHeartbeats 4000000 in
theorem packed_abc (w : World) : Calls Tryz.prog 199 #[.string abc] w (PkPost w) := by
  have hmk := mk44
  obtain ⟨z, hz⟩ : ∃ z, w.heap.size = z := ⟨_, rfl⟩
  have hE0 := Ext.alloc [] w (.cells #[.int .u64 0] 44)
  have hb0 := heap_alloc_new w (.cells #[.int .u64 0] 44)
  rw [hz] at hb0
  have HE0 := hid hE0
  have HB0 := hid hb0
  have HZ := hid hz
  clear hE0 hb0
  unfold abc
  go_enter Tryz.func199, Tryz.ntmps199
  go_wp2_with (go_at_call 179; refine met (wordsFor3 _) ?_)
  try simp only [hz]
  clear hz
  go_loopw [4, 11] (fun _ q wr => ∃ x y : Int, q = .int .i64 x ∧ ((x = 0 ∧ y = 0) ∨ (x = 1 ∧ y = 97) ∨ (x = 2 ∧ y = 25185) ∨ (x = 3 ∧ y = 6513249)) ∧ Ext [] w wr ∧ wr.heap[z]? = some (.cells #[.int .u64 y] 44)) (fun _ q _ => (3 - (intOf q)).toNat)
  case atStart => exact ⟨0, 0, rfl, .inl ⟨rfl, rfl⟩, HE0.out, HB0.out⟩
  case round =>
    obtain ⟨x, y, rfl, hxy, hE, hrow⟩ := hrel
    have c0 : wr.cell? ⟨z, 0, none⟩ = some (.int .u64 y) := by rw [cell_of_row _ _ _ _ _ _ hrow]; rfl
    have f0 : wr.frozen? ⟨z, 0, none⟩ = false := frozen_of_row _ _ _ _ _ hrow
    have HX : Hid (∀ x : Int, Ext [] w (wr.setCell ⟨z, 0, none⟩ (.int .u64 x)).drew ∧ (wr.setCell ⟨z, 0, none⟩ (.int .u64 x)).drew.heap[z]? = some (.cells #[.int .u64 x] 44)) := fun x =>
      ⟨(hE.on (Ext.setCell [z] wr ⟨z, 0, none⟩ _ (by simp)) (by have := HZ.out; simp; omega)).trans (Ext.drew [] _), heap_setCell_same wr z 0 _ 44 _ hrow⟩
    have HE := hid hE
    have HR := hid hrow
    clear hE hrow
    have e0 : IntKind.i64.wrap 0 = 0 := by decide
    have e1 : IntKind.i64.wrap 8 = 8 := by decide
    have e2 : IntKind.i64.wrap 16 = 16 := by decide
    rcases hxy with ⟨rfl, rfl⟩ | ⟨rfl, rfl⟩ | ⟨rfl, rfl⟩ | ⟨rfl, rfl⟩
    · have HF := hid (HX.out 97)
      clear HX HE HR
      go_wp2_with fail
      refine wp_region_noPanic ?_
      go_region_law (fail)
      all_goals
        refine NoPanic.normal ?_
        go_wp2_with fail
        go_roundw
        case rel => exact ⟨1, 97, rfl, by decide, HF.out.1, HF.out.2⟩
        case measure => simp [intOf]
    · have HF := hid (HX.out 25185)
      clear HX HE HR
      go_wp2_with fail
      refine wp_region_noPanic ?_
      go_region_law (fail)
      all_goals
        refine NoPanic.normal ?_
        go_wp2_with fail
        go_roundw
        case rel => exact ⟨2, 25185, rfl, by decide, HF.out.1, HF.out.2⟩
        case measure => simp [intOf]
    · have HF := hid (HX.out 6513249)
      clear HX HE HR
      go_wp2_with fail
      refine wp_region_noPanic ?_
      go_region_law (fail)
      all_goals
        refine NoPanic.normal ?_
        go_wp2_with fail
        go_roundw
        case rel => exact ⟨3, 6513249, rfl, by decide, HF.out.1, HF.out.2⟩
        case measure => simp [intOf]
    · have HF : Hid (PkPost w (.returned (.slice (some ⟨z, 0, none⟩) 1 1)) wr) := ⟨z, rfl, c0, by have := HZ.out; omega, HE.out⟩
      clear c0 f0
      go_wp2_with fail
      go_ret
      exact HF.out
end Go.Proofs.YtbpjmcjjambdkaaGreatDoor.Ty

/-
  Plain facts on nets: what a search depth first gives; no statement is proved here.
-/
namespace Go.Proofs.YtbpjmcjjambdkaaGreatDoor.Co

/-- What node x names. -/
def nxt (N : List (List Nat)) (x : Nat) : List Nat := N.getD x []

theorem nxt_get {N : List (List Nat)} {x : Nat} (h : x < N.length) : N[x]? = some (nxt N x) := by simp [nxt, List.getD, h]
theorem nxt_mem {N : List (List Nat)} {x : Nat} (h : x < N.length) : nxt N x ∈ N := by simp [nxt, List.getD, h]

/-- All that is named is a node. -/
def Nodes (N : List (List Nat)) (l : List Nat) : Prop := ∀ x ∈ l, x < N.length
def Net (N : List (List Nat)) : Prop := ∀ l ∈ N, Nodes N l
theorem Net.nxt {N : List (List Nat)} (h : Net N) (x : Nat) : Nodes N (nxt N x) := by
  by_cases hx : x < N.length
  · exact h _ (nxt_mem hx)
  · intro y hy
    simp [Co.nxt, List.getD, List.getElem?_eq_none (Nat.le_of_not_lt hx)] at hy

/-- A search depth first: from what came, the order so far and the lists that are open, to its end. -/
inductive Dfs (N : List (List Nat)) : List Bool → List Nat → List (List Nat) → List Bool → List Nat → Prop
  | done (C : List Bool) (O : List Nat) : Dfs N C O [] C O
  | pop {C : List Bool} {O : List Nat} {s : List (List Nat)} {C' : List Bool} {O' : List Nat} : Dfs N C O s C' O' → Dfs N C O ([] :: s) C' O'
  | skip {C : List Bool} {O : List Nat} {s : List (List Nat)} {C' : List Bool} {O' : List Nat} {x : Nat} {l : List Nat} : C[x]? = some true → Dfs N C O (l :: s) C' O' → Dfs N C O ((x :: l) :: s) C' O'
  | enter {C : List Bool} {O : List Nat} {s : List (List Nat)} {C' : List Bool} {O' : List Nat} {x : Nat} {l : List Nat} : C[x]? = some false → Dfs N (C.set x true) (O ++ [x]) (nxt N x :: l :: s) C' O' → Dfs N C O ((x :: l) :: s) C' O'

theorem Dfs.det {N : List (List Nat)} {C : List Bool} {O : List Nat} {s : List (List Nat)} {C1 C2 : List Bool} {O1 O2 : List Nat} (h : Dfs N C O s C1 O1) : Dfs N C O s C2 O2 → C1 = C2 ∧ O1 = O2 := by
  induction h with
  | done => intro k; cases k; exact ⟨rfl, rfl⟩
  | pop _ ih => intro k; cases k with | pop k => exact ih k
  | skip hx _ ih =>
    intro k
    cases k with
    | skip _ k => exact ih k
    | enter hy _ => rw [hx] at hy; cases hy
  | enter hx _ ih =>
    intro k
    cases k with
    | skip hy _ => rw [hx] at hy; cases hy
    | enter _ k => exact ih k

/-- What a step keeps, the end keeps. -/
theorem Dfs.inv {N : List (List Nat)} (I : List Bool → List Nat → List (List Nat) → Prop)
    (h1 : ∀ C O s, I C O ([] :: s) → I C O s)
    (h2 : ∀ C O s x l, C[x]? = some true → I C O ((x :: l) :: s) → I C O (l :: s))
    (h3 : ∀ C O s x l, C[x]? = some false → I C O ((x :: l) :: s) → I (C.set x true) (O ++ [x]) (nxt N x :: l :: s))
    {C : List Bool} {O : List Nat} {s : List (List Nat)} {C1 : List Bool} {O1 : List Nat} (h : Dfs N C O s C1 O1) : I C O s → I C1 O1 [] := by
  induction h with
  | done => exact id
  | pop _ ih => exact fun k => ih (h1 _ _ _ k)
  | skip hx _ ih => exact fun k => ih (h2 _ _ _ _ _ hx k)
  | enter hx _ ih => exact fun k => ih (h3 _ _ _ _ _ hx k)

/-- Nodes that came at the head of the open list are passed by. -/
theorem Dfs.skips {N : List (List Nat)} {C : List Bool} {O : List Nat} {s : List (List Nat)} {C1 : List Bool} {O1 : List Nat} {m : List Nat} : ∀ {l : List Nat}, (∀ x ∈ l, C[x]? = some true) → Dfs N C O (m :: s) C1 O1 → Dfs N C O ((l ++ m) :: s) C1 O1
  | [], _, h => h
  | x :: l, hl, h => .skip (hl x (by simp)) (Dfs.skips (fun y hy => hl y (by simp [hy])) h)

/-- Reached from roots by a way on which wo does not stand. -/
inductive Rch (N : List (List Nat)) (R : List Nat) (wo : Int) : Nat → Prop
  | root {x : Nat} : x ∈ R → (x : Int) ≠ wo → Rch N R wo x
  | step {x y : Nat} : Rch N R wo x → y ∈ nxt N x → (y : Int) ≠ wo → Rch N R wo y

theorem Rch.ne {N : List (List Nat)} {R : List Nat} {wo : Int} {x : Nat} (h : Rch N R wo x) : (x : Int) ≠ wo := by cases h <;> assumption
theorem Rch.lt {N : List (List Nat)} {R : List Nat} {wo : Int} {x : Nat} (h : Rch N R wo x) (hN : Net N) (hR : Nodes N R) : x < N.length := by
  cases h with
  | root h _ => exact hR _ h
  | step _ h _ => exact hN.nxt _ _ h
/-- Nothing smaller is closed. -/
theorem Rch.least {N : List (List Nat)} {R : List Nat} {wo : Int} {x : Nat} (h : Rch N R wo x) (G : Nat → Prop) (h1 : ∀ r ∈ R, (r : Int) ≠ wo → G r) (h2 : ∀ a, G a → ∀ b ∈ nxt N a, (b : Int) ≠ wo → G b) : G x := by
  induction h with
  | root h hw => exact h1 _ h hw
  | step _ h hw ih => exact h2 _ ih _ h hw
theorem Rch.mono {N : List (List Nat)} {R : List Nat} {wo : Int} {x : Nat} (h : Rch N R wo x) : Rch N R (-1) x := by
  induction h with
  | root h _ => exact .root h (by omega)
  | step _ h _ ih => exact .step ih h (by omega)

/-- What stands of a search at each of its steps. -/
structure Sea (N : List (List Nat)) (R : List Nat) (wo : Int) (C : List Bool) (O : List Nat) (s : List (List Nat)) : Prop where
  len : C.length = N.length
  came : ∀ x, x < N.length → (C[x]? = some true ↔ x ∈ O ∨ (x : Int) = wo)
  once : O.Nodup
  olt : ∀ x ∈ O, x < N.length ∧ (x : Int) ≠ wo
  slt : ∀ l ∈ s, Nodes N l
  roots : ∀ r ∈ R, C[r]? = some true ∨ ∃ l ∈ s, r ∈ l
  names : ∀ x ∈ O, ∀ y ∈ nxt N x, C[y]? = some true ∨ ∃ l ∈ s, y ∈ l
  from_ : ∀ l ∈ s, ∀ y ∈ l, y ∈ R ∨ ∃ p ∈ O, y ∈ nxt N p
  earlier : ∀ i, i < O.length → O.getD i 0 ∈ R ∨ ∃ k, k < i ∧ O.getD i 0 ∈ nxt N (O.getD k 0)

theorem sea_end {N : List (List Nat)} {R : List Nat} {wo : Int} (hN : Net N) {C : List Bool} {O : List Nat} {s : List (List Nat)} {C1 : List Bool} {O1 : List Nat} (h : Dfs N C O s C1 O1) : Sea N R wo C O s → Sea N R wo C1 O1 [] := by
  refine Dfs.inv (Sea N R wo) ?_ ?_ ?_ h
  · rintro C O s ⟨a1, a2, a3, a4, a5, a6, a7, a8, a9⟩
    refine ⟨a1, a2, a3, a4, fun l hl => a5 l (by simp [hl]), fun r hr => ?_, fun x hx y hy => ?_, fun l hl => a8 l (by simp [hl]), a9⟩
    · rcases a6 r hr with q | ⟨l, hl, q⟩
      · exact .inl q
      · simp only [List.mem_cons] at hl
        rcases hl with rfl | hl
        · cases q
        · exact .inr ⟨l, hl, q⟩
    · rcases a7 x hx y hy with q | ⟨l, hl, q⟩
      · exact .inl q
      · simp only [List.mem_cons] at hl
        rcases hl with rfl | hl
        · cases q
        · exact .inr ⟨l, hl, q⟩
  · rintro C O s x l hx ⟨a1, a2, a3, a4, a5, a6, a7, a8, a9⟩
    have key : ∀ y : Nat, (C[y]? = some true ∨ ∃ l' ∈ (x :: l) :: s, y ∈ l') → (C[y]? = some true ∨ ∃ l' ∈ l :: s, y ∈ l') := by
      rintro y (q | ⟨l', hl, q⟩)
      · exact .inl q
      · simp only [List.mem_cons] at hl
        rcases hl with rfl | hl
        · simp only [List.mem_cons] at q
          rcases q with rfl | q
          · exact .inl hx
          · exact .inr ⟨l, by simp, q⟩
        · exact .inr ⟨l', by simp [hl], q⟩
    refine ⟨a1, a2, a3, a4, fun l' hl => ?_, fun r hr => key _ (a6 r hr), fun z hz y hy => key _ (a7 z hz y hy), fun l' hl y hy => ?_, a9⟩
    · simp only [List.mem_cons] at hl
      rcases hl with rfl | hl
      · exact fun y hy => a5 (x :: l') (by simp) y (by simp [hy])
      · exact a5 l' (by simp [hl])
    · simp only [List.mem_cons] at hl
      rcases hl with rfl | hl
      · exact a8 (x :: l') (by simp) y (by simp [hy])
      · exact a8 l' (by simp [hl]) y hy
  · rintro C O s x l hx ⟨a1, a2, a3, a4, a5, a6, a7, a8, a9⟩
    have hxl : x < N.length := a5 (x :: l) (by simp) x (by simp)
    have hno : ¬ (x ∈ O ∨ (x : Int) = wo) := fun q => by rw [(a2 x hxl).2 q] at hx; cases hx
    have hset : ∀ y : Nat, C[y]? = some true → (C.set x true)[y]? = some true := by
      intro y hy
      by_cases hxy : x = y
      · subst hxy; rw [hx] at hy; cases hy
      · rw [List.getElem?_set_ne hxy]; exact hy
    have hxx : (C.set x true)[x]? = some true := by rw [List.getElem?_set_self (by omega)]
    have key : ∀ y : Nat, (C[y]? = some true ∨ ∃ l' ∈ (x :: l) :: s, y ∈ l') → ((C.set x true)[y]? = some true ∨ ∃ l' ∈ nxt N x :: l :: s, y ∈ l') := by
      rintro y (q | ⟨l', hl, q⟩)
      · exact .inl (hset y q)
      · simp only [List.mem_cons] at hl
        rcases hl with rfl | hl
        · simp only [List.mem_cons] at q
          rcases q with rfl | q
          · exact .inl hxx
          · exact .inr ⟨l, by simp, q⟩
        · exact .inr ⟨l', by simp [hl], q⟩
    refine ⟨by simp [a1], fun y hy => ?_, ?_, ?_, ?_, fun r hr => key _ (a6 r hr), ?_, ?_, ?_⟩
    · by_cases hxy : x = y
      · subst hxy; simp [hxx]
      · rw [List.getElem?_set_ne hxy, a2 y hy]
        simp only [List.mem_append, List.mem_singleton]
        constructor
        · rintro (q | q)
          · exact .inl (.inl q)
          · exact .inr q
        · rintro ((q | q) | q)
          · exact .inl q
          · exact absurd q.symm hxy
          · exact .inr q
    · rw [List.nodup_append]
      refine ⟨a3, by simp, ?_⟩
      intro y hy z hz
      simp only [List.mem_singleton] at hz
      subst hz
      exact fun e => hno (.inl (e ▸ hy))
    · intro y hy
      simp only [List.mem_append, List.mem_singleton] at hy
      rcases hy with hy | rfl
      · exact a4 y hy
      · exact ⟨hxl, fun q => hno (.inr q)⟩
    · intro l' hl
      simp only [List.mem_cons] at hl
      rcases hl with rfl | rfl | hl
      · exact hN.nxt x
      · exact fun y hy => a5 (x :: l') (by simp) y (by simp [hy])
      · exact a5 l' (by simp [hl])
    · intro z hz y hy
      simp only [List.mem_append, List.mem_singleton] at hz
      rcases hz with hz | rfl
      · exact key y (a7 z hz y hy)
      · exact .inr ⟨_, by simp, hy⟩
    · intro l' hl y hy
      simp only [List.mem_cons] at hl
      rcases hl with rfl | rfl | hl
      · exact .inr ⟨x, by simp, hy⟩
      · rcases a8 (x :: l') (by simp) y (by simp [hy]) with q | ⟨p, hp, q⟩
        · exact .inl q
        · exact .inr ⟨p, by simp [hp], q⟩
      · rcases a8 l' (by simp [hl]) y hy with q | ⟨p, hp, q⟩
        · exact .inl q
        · exact .inr ⟨p, by simp [hp], q⟩
    · intro i hi
      have hg : ∀ k, k < O.length → (O ++ [x]).getD k 0 = O.getD k 0 := fun k hk => by simp [List.getD, List.getElem?_append_left hk]
      simp only [List.length_append, List.length_singleton] at hi
      by_cases hil : i < O.length
      · rw [hg i hil]
        rcases a9 i hil with q | ⟨k, hk, q⟩
        · exact .inl q
        · exact .inr ⟨k, hk, by rw [hg k (by omega)]; exact q⟩
      · obtain rfl : i = O.length := by omega
        have hlast : (O ++ [x]).getD O.length 0 = x := by simp [List.getD]
        rw [hlast]
        rcases a8 (x :: l) (by simp) x (by simp) with q | ⟨p, hp, q⟩
        · exact .inl q
        · obtain ⟨k, hk, rfl⟩ := List.mem_iff_getElem.1 hp
          refine .inr ⟨k, hk, ?_⟩
          rw [hg k hk]
          simpa [List.getD, hk] using q

/-- What came ahead of a search: nothing but wo. -/
def came0 (n : Nat) (wo : Int) : List Bool := (List.range n).map fun (i : Nat) => decide ((i : Int) = wo)
theorem came0_len (n : Nat) (wo : Int) : (came0 n wo).length = n := by simp [came0]
theorem came0_get (n : Nat) (wo : Int) (i : Nat) (h : i < n) : (came0 n wo)[i]? = some (decide ((i : Int) = wo)) := by simp [came0, h]

theorem sea_start {N : List (List Nat)} {R : List Nat} {wo : Int} (hR : Nodes N R) : Sea N R wo (came0 N.length wo) [] [R] := by
  refine ⟨came0_len _ _, fun x hx => by simp [came0_get _ _ _ hx], by simp, by simp, by simpa using hR, fun r hr => .inr ⟨R, by simp, hr⟩, by simp, ?_, by simp⟩
  intro l hl y hy
  simp only [List.mem_singleton] at hl
  subst hl
  exact .inl hy

/-- The order of a search, whole. -/
structure Ord (N : List (List Nat)) (R : List Nat) (wo : Int) (O : List Nat) : Prop where
  run : ∃ C, Dfs N (came0 N.length wo) [] [R] C O
  once : O.Nodup
  lt : ∀ x ∈ O, x < N.length
  mem : ∀ x, x ∈ O ↔ Rch N R wo x
  earlier : ∀ i, i < O.length → O.getD i 0 ∈ R ∨ ∃ k, k < i ∧ O.getD i 0 ∈ nxt N (O.getD k 0)

theorem ord_of {N : List (List Nat)} {R : List Nat} {wo : Int} (hN : Net N) (hR : Nodes N R) {C : List Bool} {O : List Nat} (h : Dfs N (came0 N.length wo) [] [R] C O) : Ord N R wo O := by
  have S := sea_end hN h (sea_start hR)
  have hclosed : ∀ y, (C[y]? = some true ∨ ∃ l ∈ ([] : List (List Nat)), y ∈ l) → y < N.length → (y : Int) ≠ wo → y ∈ O := by
    rintro y (q | ⟨l, hl, _⟩) hlt hw
    · exact ((S.came y hlt).1 q).resolve_right hw
    · cases hl
  refine ⟨⟨C, h⟩, S.once, fun x hx => (S.olt x hx).1, fun x => ⟨fun hx => ?_, fun hx => ?_⟩, S.earlier⟩
  · obtain ⟨i, hi, rfl⟩ := List.mem_iff_getElem.1 hx
    have key : ∀ n i, i < n → ∀ (hi : i < O.length), Rch N R wo (O.getD i 0) := by
      intro n
      induction n with
      | zero => intro i h; omega
      | succ n ih =>
        intro i hin hi
        have hw := (S.olt (O.getD i 0) (by simp [List.getD, hi])).2
        rcases S.earlier i hi with q | ⟨k, hk, q⟩
        · exact .root q hw
        · exact .step (ih k (by omega) (by omega)) q hw
    have := key (i + 1) i (by omega) hi
    simpa [List.getD, hi] using this
  · refine hx.least (· ∈ O) (fun r hr hw => hclosed r (S.roots r hr) (hR r hr) hw) (fun a ha b hb hw => hclosed b (S.names a ha b hb) (hN.nxt a b hb) hw)

theorem Ord.det {N : List (List Nat)} {R : List Nat} {wo : Int} {A B : List Nat} (h : Ord N R wo A) (k : Ord N R wo B) : A = B := by
  obtain ⟨_, h⟩ := h.run
  obtain ⟨_, k⟩ := k.run
  exact (h.det k).2

theorem nodup_len : ∀ (n : Nat) (A : List Nat), A.Nodup → (∀ x ∈ A, x < n) → A.length ≤ n
  | 0, A, _, h => by
    cases A with
    | nil => simp
    | cons a A => have := h a (by simp); omega
  | n + 1, A, h, k => by
    by_cases hn : n ∈ A
    · have := nodup_len n (A.erase n) (h.erase n) (fun x hx => by
        have h1 := k x (List.mem_of_mem_erase hx)
        have h2 := ((List.Nodup.mem_erase_iff h).1 hx).1
        omega)
      rw [List.length_erase_of_mem hn] at this
      omega
    · have := nodup_len n A h (fun x hx => by
        have h1 := k x hx
        have h2 : x ≠ n := fun e => hn (e ▸ hx)
        omega)
      omega

theorem Ord.len {N : List (List Nat)} {R : List Nat} {wo : Int} {A : List Nat} (h : Ord N R wo A) : A.length ≤ N.length := nodup_len _ _ h.once h.lt

end Go.Proofs.YtbpjmcjjambdkaaGreatDoor.Co

/-
  The collector over nodes as plain data: its calls, what they keep, and how much work a cycle takes; no statement is proved here.
-/
namespace Go.Proofs.YtbpjmcjjambdkaaGreatDoor.Co

/-- A node: its color (0 none, 1 white, 2 grey, 3 black, 4 dead), its slots, and how many were looked at. -/
structure Nd where
  c : Nat
  s : List Int
  k : Nat

/-- What else the graph's block holds: seven cells. -/
structure Fo where
  a : Value
  b : Value
  c : Value
  d : Value
  e : Value
  f : Value
  g : Value

/-- A graph. -/
structure Gs where
  ns : List Nd
  le : Nat
  ln : List Nat
  ph : Nat
  cy : Nat
  pl : Nat
  en : Nat
  X : Fo

def nz : Nd := ⟨0, [], 0⟩
def ndAt (l : List Nd) (i : Nat) : Nd := l.getD i nz
theorem ndAt_get {l : List Nd} {i : Nat} (h : i < l.length) : l[i]? = some (ndAt l i) := by simp [ndAt, List.getD, h]
theorem ndAt_mem {l : List Nd} {i : Nat} (h : i < l.length) : ndAt l i ∈ l := by simp [ndAt, List.getD, h]
theorem ndAt_out {l : List Nd} {i : Nat} (h : l.length ≤ i) : ndAt l i = nz := by simp [ndAt, List.getD, h]
theorem ndAt_set {l : List Nd} {i j : Nat} {x : Nd} (h : i < l.length) : ndAt (l.set i x) j = if j = i then x else ndAt l j := by
  by_cases e : j = i
  · subst e; simp [ndAt, List.getD, h]
  · rw [if_neg e]; simp [ndAt, List.getD, List.getElem?_set_ne (Ne.symm e)]
theorem ndAt_map {l : List Nd} {i : Nat} {f : Nd → Nd} (h : i < l.length) : ndAt (l.map f) i = f (ndAt l i) := by simp [ndAt, List.getD, h]
theorem ndAt_snoc {l : List Nd} {x : Nd} {j : Nat} : ndAt (l ++ [x]) j = if j = l.length then x else ndAt l j := by
  by_cases e : j = l.length
  · subst e; simp [ndAt, List.getD]
  · rw [if_neg e]
    by_cases h : j < l.length
    · simp [ndAt, List.getD, List.getElem?_append_left h]
    · rw [ndAt_out (l := l) (by omega), ndAt_out (l := l ++ [x]) (by simp; omega)]

/-- Is a node live? -/
def lvN (G : Gs) (i : Nat) : Prop := (ndAt G.ns i).c ≠ 0 ∧ (ndAt G.ns i).c ≠ 4
instance (G : Gs) (i : Nat) : Decidable (lvN G i) := inferInstanceAs (Decidable (_ ∧ _))
def lvB (G : Gs) (x : Int) : Bool := decide (0 ≤ x ∧ lvN G x.toNat)
theorem lvN_lt {G : Gs} {i : Nat} (h : lvN G i) : i < G.ns.length := by
  by_cases q : i < G.ns.length
  · exact q
  · have := h.1; rw [ndAt_out (by omega)] at this; exact absurd rfl this
theorem lvB_nat (G : Gs) (i : Nat) : lvB G i = decide (lvN G i) := by simp [lvB]

/-- A white node becomes grey. -/
def shN (G : Gs) (i : Nat) : Gs := if (ndAt G.ns i).c = 1 then { G with ns := G.ns.set i ⟨2, (ndAt G.ns i).s, 0⟩, ln := G.ln ++ [i] } else G
def sh (G : Gs) (x : Int) : Gs := if x = -1 then G else shN G x.toNat

/-- The least free number. -/
def fr (G : Gs) : Nat := G.le + (G.ns.drop G.le).findIdx fun x => x.c == 0
def nodeG (G : Gs) (m : Nat) : Gs := if fr G = 65536 then { G with le := fr G } else { G with le := fr G, ns := (if fr G = G.ns.length then G.ns ++ [nz] else G.ns).set (fr G) ⟨3, List.replicate m (-1), 0⟩ }
/-- What Node makes, and its two answers. -/
def node (G : Gs) (x : Int) : Gs × Int × Int := if x < 0 ∨ 8192 < x then (G, 0, 2) else if fr G = 65536 then (nodeG G x.toNat, 0, 7) else (nodeG G x.toNat, fr G, 0)

def putS (H : Gs) (n j : Nat) (x : Int) : Gs := { H with ns := H.ns.set n ⟨(ndAt H.ns n).c, (ndAt H.ns n).s.set j x, (ndAt H.ns n).k⟩ }
def setG (G : Gs) (n j : Nat) (x : Int) : Gs := putS (sh (sh G ((ndAt G.ns n).s.getD j 0)) x) n j x
def set (G : Gs) (n j x : Int) : Gs × Int := if lvB G n = false then (G, 4) else if x ≠ -1 ∧ lvB G x = false then (G, 4) else if j < 0 ∨ ((ndAt G.ns n.toNat).s.length : Int) ≤ j then (G, 5) else (setG G n.toNat j.toNat x, 0)
def shade (G : Gs) (n : Int) : Gs × Int := if lvB G n = false then (G, 4) else (sh G n, 0)
def wh (x : Nd) : Nd := if x.c ≠ 0 ∧ x.c ≠ 4 then ⟨1, x.s, x.k⟩ else x
def start (G : Gs) (R : List Int) : Gs × Int := if G.ph ≠ 0 then (G, 14) else if R.all (lvB G) = false then (G, 4) else (R.foldl sh { G with ph := 1, ns := G.ns.map wh }, 0)

def die (x : Nd) : Nd := if x.c = 1 then ⟨4, [], 0⟩ else x
def mark (G : Gs) : Gs := match G.ln with
  | [] => { G with ns := G.ns.map die, ln := [], ph := 2, pl := 0, en := G.ns.length }
  | x :: t => if (ndAt G.ns x).k = (ndAt G.ns x).s.length then { G with ns := G.ns.set x ⟨3, (ndAt G.ns x).s, (ndAt G.ns x).k⟩, ln := t }
    else sh { G with ns := G.ns.set x ⟨(ndAt G.ns x).c, (ndAt G.ns x).s, (ndAt G.ns x).k + 1⟩ } ((ndAt G.ns x).s.getD (ndAt G.ns x).k 0)
def sweep (G : Gs) : Gs × List Nat := if G.pl = G.en then ({ G with ph := 0, cy := G.cy + 1 }, [])
  else if (ndAt G.ns G.pl).c = 4 then ({ G with ns := G.ns.set G.pl nz, le := min G.le G.pl, pl := G.pl + 1 }, [G.pl])
  else ({ G with pl := G.pl + 1 }, [])
def unit (G : Gs) : Gs × List Nat := if G.ph = 1 then (mark G, []) else sweep G
/-- So many units of work: how many are left, what was swept, and the graph. -/
def work : Nat → Gs → Nat × List Nat × Gs
  | 0, G => (0, [], G)
  | u + 1, G => if G.ph = 0 then (u + 1, [], G) else ((work u (unit G).1).1, (unit G).2 ++ (work u (unit G).1).2.1, (work u (unit G).1).2.2)

theorem work_idle {G : Gs} (h : G.ph = 0) : ∀ u, work u G = (u, [], G)
  | 0 => rfl
  | u + 1 => by simp [work, h]
/-- Work in pieces. -/
theorem work_add : ∀ (a b : Nat) (G : Gs), work (a + b) G = ((work a G).1 + (work b (work a G).2.2).1, (work a G).2.1 ++ (work b (work a G).2.2).2.1, (work b (work a G).2.2).2.2)
  | 0, b, G => by simp [work]
  | a + 1, b, G => by
    by_cases h : G.ph = 0
    · rw [work_idle h, work_idle h, work_idle h]; simp
    · rw [show a + 1 + b = (a + b) + 1 by omega]
      simp only [work, h, if_false]
      rw [work_add a b]
      simp
theorem work_left : ∀ (a : Nat) (G : Gs), (work a G).1 ≤ a
  | 0, G => by simp [work]
  | a + 1, G => by
    by_cases h : G.ph = 0
    · rw [work_idle h]; exact Nat.le_refl _
    · simp only [work, h, if_false]; have := work_left a (unit G).1; omega

/-- All live nodes, rising. -/
def lives (G : Gs) : List Nat := (List.range G.ns.length).filter fun i => decide (lvN G i)
theorem mem_lives {G : Gs} {i : Nat} : i ∈ lives G ↔ lvN G i := by
  simp only [lives, List.mem_filter, List.mem_range, decide_eq_true_eq]
  exact ⟨fun h => h.2, fun h => ⟨lvN_lt h, h⟩⟩

/-! ### what always holds -/

structure Iv (G : Gs) : Prop where
  len : G.ns.length ≤ 65536
  col : ∀ i, (ndAt G.ns i).c ≤ 4
  sl : ∀ i, (ndAt G.ns i).s.length ≤ 8192
  lo : ∀ i, (ndAt G.ns i).k ≤ (ndAt G.ns i).s.length
  no : ∀ i, (ndAt G.ns i).c = 0 ∨ (ndAt G.ns i).c = 4 → (ndAt G.ns i).s = []
  cl : ∀ i, lvN G i → ∀ x ∈ (ndAt G.ns i).s, x = -1 ∨ lvB G x = true
  ph : G.ph ≤ 2
  idle : G.ph ≠ 1 → G.ln = [] ∧ ∀ i, (ndAt G.ns i).c ≠ 1 ∧ (ndAt G.ns i).c ≠ 2
  grey : ∀ i, (ndAt G.ns i).c = 2 ↔ i ∈ G.ln
  nd : G.ln.Nodup
  tri : ∀ i, (ndAt G.ns i).c = 3 → ∀ x ∈ (ndAt G.ns i).s, x = -1 ∨ (ndAt G.ns x.toNat).c ≠ 1
  trg : ∀ i, (ndAt G.ns i).c = 2 → ∀ x ∈ (ndAt G.ns i).s.take (ndAt G.ns i).k, x = -1 ∨ (ndAt G.ns x.toNat).c ≠ 1
  pe : G.ph = 2 → G.pl ≤ G.en ∧ G.en ≤ G.ns.length
  le : G.le ≤ G.ns.length
  les : ∀ i, i < G.le → (ndAt G.ns i).c ≠ 0

theorem lvB_iff {G : Gs} {x : Int} : lvB G x = true ↔ 0 ≤ x ∧ lvN G x.toNat := by simp [lvB]
theorem Iv.lln {G : Gs} (h : Iv G) : G.ln.length ≤ G.ns.length := by
  have hlt : ∀ x ∈ G.ln, x < G.ns.length := fun x hx => lvN_lt (G := G) ⟨by rw [(h.grey x).2 hx]; decide, by rw [(h.grey x).2 hx]; decide⟩
  have h1 : ∀ (l : List Nat) (n : Nat), l.Nodup → (∀ x ∈ l, x < n) → l.length ≤ n := by
    intro l n
    induction n generalizing l with
    | zero =>
      intro _ hl
      cases l with
      | nil => simp
      | cons a l => have := hl a (by simp); omega
    | succ n ih =>
      intro hn hl
      have h2 := ih (l.erase n) (hn.erase n) (fun x hx => by
        have h3 := (List.Nodup.mem_erase_iff hn).1 hx
        have := hl x h3.2
        have := h3.1
        omega)
      have h4 := List.length_erase (a := n) (l := l)
      split at h4 <;> omega
  exact h1 _ _ h.nd hlt

theorem iv_new (X : Fo) : Iv ⟨[], 0, [], 0, 0, 0, 0, X⟩ := by
  have hz : ∀ i, ndAt ([] : List Nd) i = nz := fun i => ndAt_out (by simp)
  refine ⟨by simp, ?_, ?_, ?_, ?_, ?_, by simp, ?_, ?_, by simp, ?_, ?_, by simp, by simp, by simp⟩ <;> simp [hz, nz, lvN]

end Go.Proofs.YtbpjmcjjambdkaaGreatDoor.Co
