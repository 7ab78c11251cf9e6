/-
  CellsBack, walked through; its frame is in LawBack.
-/
import Derived.Test.YtfabhhmeanpmhaaDoorBackM
import Derived.Test.YtfabhhmeanpmhaaDoorWParts
namespace Go.Proofs.YtfabhhmeanpmhaaDoor
open Go.RowKit

set_option maxRecDepth 100000 in
set_option maxHeartbeats 8000000 in
theorem back_walk (ts : List Ty) (ta : Option Addr) (tn tc : Nat) (htn : ts.length = tn) (d : Nat) (t i j : Int) (a : Option Addr) (l : List Cl) (n c : Nat) (am : Option Addr) (m : List Cl) (mn mc : Nat) (w : World) (hC : Cs d w a l) (hn : l.length = n) (hM : Cs d w am m) (hmn : m.length = mn) (hT : Tab w ta ts) (hG : Gl w) :
    Calls Tryd.prog 5 #[.agg #[.slice ta tn tc, .int .i64 t, .slice a n c], .int .i64 i, .int .i64 j, .slice am mn mc] w (SayPost w (.bool true)) := by
  have hE0 := Ext.alloc [] w (.cells #[.slice ta tn tc, .int .i64 t, .slice a n c] 25)
  have hQ0 : Q3 (w.alloc (.cells #[.slice ta tn tc, .int .i64 t, .slice a n c] 25)) w.heap.size ta tn tc t a n c := heap_alloc_new _ _
  have KA := awake_any _ (hG.keep0 hE0)
  have HT := hid hT
  have HG := hid hG
  have HC := hid hC
  have HM := hid hM
  have HE0 := hid hE0
  have HQ0 := hid hQ0
  have HN := hid hn
  have HMN := hid hmn
  have HTN := hid htn
  clear hT hG hC hM hE0 hQ0 hn hmn htn
  go_enter Tryd.func5, Tryd.ntmps5
  go_upto_region 3 with (go_at_call 8; refine KA.mono ?_; clear KA; rintro e w1 ⟨rfl, hE1⟩)
  have hE01 := HE0.out.trans hE1
  have hQ1 := HQ0.out.keep0 hE1
  generalize w.heap.size = qb at *
  have q0 := hQ1.c0
  have q1 := hQ1.c1
  have q2 := hQ1.c2
  have KT := fun u (hu : Ext [] w u) => tcopy_any ta ts tn tc u (HT.out.keep0 hu) HTN.out
  have KV := fun u (hu : Ext [] w u) => rcopy_any d a l n c u (HC.out.keep0 hu) HN.out
  have KM := fun u (hu : Ext [] w u) => rcopy_any d am m mn mc u (HM.out.keep0 hu) HMN.out
  have KP1 := fun u (hu : Ext [] w u) at1 ct1 hct av1 cv1 hcv (hC1 : Cs d u av1 l) (hT1 : TabC u at1 ts) => part_any ts at1 tn ct1 HTN.out hct d t i av1 l n cv1 u hC1 HN.out hcv hT1 (HG.out.keep0 hu)
  have KU1 : fchk ts d t l i = 0 → ∀ u, Ext [] w u → ∀ at1 ct1, tn ≤ ct1 → ∀ av1 cv1, n ≤ cv1 → ∀ ao1 co1, Cs d u av1 l → Cs d u ao1 (partV ts d t l i) → TabC u at1 ts → Calls Tryd.prog 23 #[.slice at1 tn ct1, .int .i64 t, .slice av1 n cv1, .int .i64 i, .slice ao1 (partV ts d t l i).length co1] u (QPost u d l 0) := fun h u hu at1 ct1 hct av1 cv1 hcv ao1 co1 hC1 hO1 hT1 => by
    have K := put_any ts at1 tn ct1 HTN.out hct d t i av1 l n cv1 ao1 (partV ts d t l i) _ co1 u hC1 HN.out hcv hO1 rfl hT1 (HG.out.keep0 hu)
    rw [(backs m h).same.1, (backs m h).same.2] at K
    exact K
  have KU2 := fun u (hu : Ext [] w u) at1 ct1 hct av1 cv1 hcv am1 cm1 (hC1 : Cs d u av1 l) (hM1 : Cs d u am1 m) (hT1 : TabC u at1 ts) => put_any ts at1 tn ct1 HTN.out hct d t i av1 l n cv1 am1 m mn cm1 u hC1 HN.out hcv hM1 HMN.out hT1 (HG.out.keep0 hu)
  have KP3 : fchk ts d t l i = 0 → putE ts d t l i m = 0 → ∀ u, Ext [] w u → ∀ at1 ct1, tn ≤ ct1 → ∀ ax1 cx1, (putV ts d t l i m).length ≤ cx1 → Cs d u ax1 (putV ts d t l i m) → TabC u at1 ts → Calls Tryd.prog 21 #[.slice at1 tn ct1, .int .i64 t, .slice ax1 (putV ts d t l i m).length cx1, .int .i64 i] u (QPost u d m 0) := fun h he u hu at1 ct1 hct ax1 cx1 hcx hX1 hT1 => by
    have K := part_any ts at1 tn ct1 HTN.out hct d t i ax1 (putV ts d t l i m) _ cx1 u hX1 rfl hcx hT1 (HG.out.keep0 hu)
    rw [((backs m h).part he).1, ((backs m h).part he).2] at K
    exact K
  have KU3 : fchk ts d t l i = 0 → putE ts d t l i m = 0 → ∀ u, Ext [] w u → ∀ at1 ct1, tn ≤ ct1 → ∀ ax1 cx1, (putV ts d t l i m).length ≤ cx1 → ∀ ao1 co1, Cs d u ax1 (putV ts d t l i m) → Cs d u ao1 (partV ts d t l i) → TabC u at1 ts → Calls Tryd.prog 23 #[.slice at1 tn ct1, .int .i64 t, .slice ax1 (putV ts d t l i m).length cx1, .int .i64 i, .slice ao1 (partV ts d t l i).length co1] u (QPost u d l 0) := fun h he u hu at1 ct1 hct ax1 cx1 hcx ao1 co1 hX1 hO1 hT1 => by
    have K := put_any ts at1 tn ct1 HTN.out hct d t i ax1 (putV ts d t l i m) _ cx1 ao1 (partV ts d t l i) _ co1 u hX1 rfl hcx hO1 rfl hT1 (HG.out.keep0 hu)
    rw [((backs m h).back he).1, ((backs m h).back he).2] at K
    exact K
  have KP4 := fun u (hu : Ext [] w u) at1 ct1 hct av1 cv1 hcv (hC1 : Cs d u av1 l) (hT1 : TabC u at1 ts) => part_any ts at1 tn ct1 HTN.out hct d t j av1 l n cv1 u hC1 HN.out hcv hT1 (HG.out.keep0 hu)
  have KP5 : fchk ts d t l i = 0 → putE ts d t l i m = 0 → ∀ u, Ext [] w u → ∀ at1 ct1, tn ≤ ct1 → ∀ ax1 cx1, (putV ts d t l i m).length ≤ cx1 → Cs d u ax1 (putV ts d t l i m) → TabC u at1 ts → Calls Tryd.prog 21 #[.slice at1 tn ct1, .int .i64 t, .slice ax1 (putV ts d t l i m).length cx1, .int .i64 j] u (QPost u d (partV ts d t (putV ts d t l i m) j) (fchk ts d t l j)) := fun h he u hu at1 ct1 hct ax1 cx1 hcx hX1 hT1 => by
    have K := part_any ts at1 tn ct1 HTN.out hct d t j ax1 (putV ts d t l i m) _ cx1 u hX1 rfl hcx hT1 (HG.out.keep0 hu)
    rw [((backs m h).other he j).1] at K
    exact K
  have HOT : Hid (fchk ts d t l i = 0 → putE ts d t l i m = 0 → i ≠ j → partV ts d t (putV ts d t l i m) j = partV ts d t l j) := fun h he hij => ((backs m h).other he j).2 hij
  have HER : Hid (fchk ts d t l i = 0 → putE ts d t l i m ≠ 0 → putE ts d t l i m = 1 ∨ putE ts d t l i m = 6) := fun h he => (backs m h).errs.resolve_left he
  have HNO : Hid (fchk ts d t l i ≠ 0 → (partV ts d t l i).length = 0) := fun h => by unfold partV; rw [if_neg h]; rfl
  generalize partV ts d t (putV ts d t l i m) j = pj' at *
  generalize partV ts d t l j = pj at *
  generalize fchk ts d t l j = fj at *
  generalize partV ts d t l i = pv at *
  generalize fchk ts d t l i = er at *
  generalize putV ts d t l i m = xv at *
  generalize putE ts d t l i m = ue at *
  clear hE1 hQ1
  go_region_held3 (fun w' => w'.cell? ⟨qb, 0, none⟩ = some (.slice ta tn tc) ∧ w'.cell? ⟨qb, 1, none⟩ = some (.int .i64 t) ∧ w'.cell? ⟨qb, 2, none⟩ = some (.slice a n c))
    (first | exact ⟨Ext.cell (by (repeat (first | (with_reducible exact Ext.refl [] _) | (with_reducible exact Ext.drew [] _) | (with_reducible assumption) | (with_reducible refine Ext.trans ?_ (Ext.drew [] _)) | (with_reducible refine Ext.trans ?_ (by assumption)) | fail "no chain"))) q0 (by simp), Ext.cell (by (repeat (first | (with_reducible exact Ext.refl [] _) | (with_reducible exact Ext.drew [] _) | (with_reducible assumption) | (with_reducible refine Ext.trans ?_ (Ext.drew [] _)) | (with_reducible refine Ext.trans ?_ (by assumption)) | fail "no chain"))) q1 (by simp), Ext.cell (by (repeat (first | (with_reducible exact Ext.refl [] _) | (with_reducible exact Ext.drew [] _) | (with_reducible assumption) | (with_reducible refine Ext.trans ?_ (Ext.drew [] _)) | (with_reducible refine Ext.trans ?_ (by assumption)) | fail "no chain"))) q2 (by simp)⟩ | go_keep)
    (first
      | (go_at_call 10; (with_reducible refine Calls.mono (KT _ ?_) ?_); (repeat (first | (with_reducible exact Ext.refl [] _) | (with_reducible exact Ext.drew [] _) | (with_reducible assumption) | (with_reducible refine Ext.trans ?_ (Ext.drew [] _)) | (with_reducible refine Ext.trans ?_ (by assumption)) | fail "no chain")); rintro e wt ⟨at1, ct1, rfl, hct, hTC, hEt⟩)
      | (go_at_call 11; (with_reducible refine Calls.mono (KV _ ?_) ?_); (repeat (first | (with_reducible exact Ext.refl [] _) | (with_reducible exact Ext.drew [] _) | (with_reducible assumption) | (with_reducible refine Ext.trans ?_ (Ext.drew [] _)) | (with_reducible refine Ext.trans ?_ (by assumption)) | fail "no chain")); rintro e wv ⟨av1, cv1, rfl, hcv, hCo, hEv⟩)
      | (go_at_call 21; refine Calls.mono (KP1 _ ?_ at1 ct1 hct av1 cv1 hcv (hCo.cs.keep0 ?_) (hTC.keep0 ?_)) ?_; (repeat (first | (with_reducible exact Ext.refl [] _) | (with_reducible exact Ext.drew [] _) | (with_reducible assumption) | (with_reducible refine Ext.trans ?_ (Ext.drew [] _)) | (with_reducible refine Ext.trans ?_ (by assumption)) | fail "no chain")); (repeat (first | (with_reducible exact Ext.refl [] _) | (with_reducible exact Ext.drew [] _) | (with_reducible assumption) | (with_reducible refine Ext.trans ?_ (Ext.drew [] _)) | (with_reducible refine Ext.trans ?_ (by assumption)) | fail "no chain")); (repeat (first | (with_reducible exact Ext.refl [] _) | (with_reducible exact Ext.drew [] _) | (with_reducible assumption) | (with_reducible refine Ext.trans ?_ (Ext.drew [] _)) | (with_reducible refine Ext.trans ?_ (by assumption)) | fail "no chain")); rintro e wa ⟨ao, co, rfl, hcO, hCO, hEp⟩)
      | (fail "no arm"))
  rename_i hHeld
  clear q0 q1 q2
  obtain ⟨q0, q1, q2⟩ := hHeld
  have hEa : Ext [] w wa := by (repeat (first | (with_reducible exact Ext.refl [] _) | (with_reducible exact Ext.drew [] _) | (with_reducible assumption) | (with_reducible refine Ext.trans ?_ (Ext.drew [] _)) | (with_reducible refine Ext.trans ?_ (by assumption)) | fail "no chain"))
  have HO := hid hCO
  clear hE01 hEt hEv hEp hTC hCo hCO KP1 hct hcv
  by_cases her : er = 0
  rotate_left
  · have b1 : (er != 0) = true := by simpa using her
    have hz : pv.length = 0 := HNO.out her
    have hz2 : ((pv.length : Int) == 0) = true := by simp [hz]
    clear KU1 KU2 KP3 KU3 KP4 KP5 KT KV KM HOT HER HNO
    go_wp2_with fail
    go_ret
    exact ⟨by simp [hz], hEa⟩
  subst her
  replace HER := hid (HER.out rfl)
  replace HOT := hid (HOT.out rfl)
  clear HNO
  replace KU1 := KU1 rfl
  replace KP3 := KP3 rfl
  replace KU3 := KU3 rfl
  replace KP5 := KP5 rfl
  have KO := fun u (hu : Ext [] wa u) => rcopy_any d ao pv _ co u (HO.out.keep0 hu).cs rfl
  go_upto_region 6 with fail
  go_region_held3 (fun w' => w'.cell? ⟨qb, 0, none⟩ = some (.slice ta tn tc) ∧ w'.cell? ⟨qb, 1, none⟩ = some (.int .i64 t) ∧ w'.cell? ⟨qb, 2, none⟩ = some (.slice a n c))
    (first | exact ⟨Ext.cell (by (repeat (first | (with_reducible exact Ext.refl [] _) | (with_reducible exact Ext.drew [] _) | (with_reducible assumption) | (with_reducible refine Ext.trans ?_ (Ext.drew [] _)) | (with_reducible refine Ext.trans ?_ (by assumption)) | fail "no chain"))) q0 (by simp), Ext.cell (by (repeat (first | (with_reducible exact Ext.refl [] _) | (with_reducible exact Ext.drew [] _) | (with_reducible assumption) | (with_reducible refine Ext.trans ?_ (Ext.drew [] _)) | (with_reducible refine Ext.trans ?_ (by assumption)) | fail "no chain"))) q1 (by simp), Ext.cell (by (repeat (first | (with_reducible exact Ext.refl [] _) | (with_reducible exact Ext.drew [] _) | (with_reducible assumption) | (with_reducible refine Ext.trans ?_ (Ext.drew [] _)) | (with_reducible refine Ext.trans ?_ (by assumption)) | fail "no chain"))) q2 (by simp)⟩ | go_keep)
    (first
      | (go_at_call 10; (with_reducible refine Calls.mono (KT _ ?_) ?_); (repeat (first | (with_reducible exact Ext.refl [] _) | (with_reducible exact Ext.drew [] _) | (with_reducible assumption) | (with_reducible refine Ext.trans ?_ (Ext.drew [] _)) | (with_reducible refine Ext.trans ?_ (by assumption)) | fail "no chain")); rintro e wt ⟨at1, ct1, rfl, hct, hTC, hEt⟩)
      | (go_at_call 11; (with_reducible refine Calls.mono (KV _ ?_) ?_); (repeat (first | (with_reducible exact Ext.refl [] _) | (with_reducible exact Ext.drew [] _) | (with_reducible assumption) | (with_reducible refine Ext.trans ?_ (Ext.drew [] _)) | (with_reducible refine Ext.trans ?_ (by assumption)) | fail "no chain")); rintro e wv ⟨av1, cv1, rfl, hcv, hCo, hEv⟩)
      | (go_at_call 11; (with_reducible refine Calls.mono (KO _ ?_) ?_); (repeat (first | (with_reducible exact Ext.refl [] _) | (with_reducible exact Ext.drew [] _) | (with_reducible assumption) | (with_reducible refine Ext.trans ?_ (Ext.drew [] _)) | (with_reducible refine Ext.trans ?_ (by assumption)) | fail "no chain")); rintro e wo ⟨ao1, co1, rfl, hco, hCo1, hEo⟩)
      | (go_at_call 23; refine Calls.mono (KU1 _ ?_ at1 ct1 hct av1 cv1 hcv ao1 co1 (hCo.cs.keep0 ?_) (hCo1.cs.keep0 ?_) (hTC.keep0 ?_)) ?_; (repeat (first | (with_reducible exact Ext.refl [] _) | (with_reducible exact Ext.drew [] _) | (with_reducible assumption) | (with_reducible refine Ext.trans ?_ (Ext.drew [] _)) | (with_reducible refine Ext.trans ?_ (by assumption)) | fail "no chain")); (repeat (first | (with_reducible exact Ext.refl [] _) | (with_reducible exact Ext.drew [] _) | (with_reducible assumption) | (with_reducible refine Ext.trans ?_ (Ext.drew [] _)) | (with_reducible refine Ext.trans ?_ (by assumption)) | fail "no chain")); (repeat (first | (with_reducible exact Ext.refl [] _) | (with_reducible exact Ext.drew [] _) | (with_reducible assumption) | (with_reducible refine Ext.trans ?_ (Ext.drew [] _)) | (with_reducible refine Ext.trans ?_ (by assumption)) | fail "no chain")); (repeat (first | (with_reducible exact Ext.refl [] _) | (with_reducible exact Ext.drew [] _) | (with_reducible assumption) | (with_reducible refine Ext.trans ?_ (Ext.drew [] _)) | (with_reducible refine Ext.trans ?_ (by assumption)) | fail "no chain")); rintro e wb ⟨asx, csx, rfl, hcs, hCs, hEu⟩)
      | (fail "no arm"))
  rename_i hHeld
  clear q0 q1 q2
  obtain ⟨q0, q1, q2⟩ := hHeld
  have hab : Ext [] wa wb := by (repeat (first | (with_reducible exact Ext.refl [] _) | (with_reducible exact Ext.drew [] _) | (with_reducible assumption) | (with_reducible refine Ext.trans ?_ (Ext.drew [] _)) | (with_reducible refine Ext.trans ?_ (by assumption)) | fail "no chain"))
  have hEb : Ext [] w wb := hEa.trans hab
  have HOb := hid (HO.out.keep0 hab)
  have KS : Calls Tryd.prog 17 #[.slice asx l.length csx, .slice a n c] wb (SayPost wb (.bool true)) := by
    rw [HN.out]; exact rsame_true d asx a l n csx c d wb hCs.cs (HC.out.keep0 hEb) HN.out
  clear hEt hEv hEo hEu hTC hCo hCo1 hCs KU1 hct hcv hco hab hEa HO KO
  go_upto_region 9 with (go_at_call 17; refine KS.mono ?_; clear KS; rintro e wc ⟨rfl, hEc⟩)
  have HOc := hid (HOb.out.keep0 hEc)
  have hEc' := hEb.trans hEc
  have q0 := hEc.cell q0 (by simp)
  have q1 := hEc.cell q1 (by simp)
  have q2 := hEc.cell q2 (by simp)
  clear HOb hEb hEc
  go_region_held3 (fun w' => w'.cell? ⟨qb, 0, none⟩ = some (.slice ta tn tc) ∧ w'.cell? ⟨qb, 1, none⟩ = some (.int .i64 t) ∧ w'.cell? ⟨qb, 2, none⟩ = some (.slice a n c))
    (first | exact ⟨Ext.cell (by (repeat (first | (with_reducible exact Ext.refl [] _) | (with_reducible exact Ext.drew [] _) | (with_reducible assumption) | (with_reducible refine Ext.trans ?_ (Ext.drew [] _)) | (with_reducible refine Ext.trans ?_ (by assumption)) | fail "no chain"))) q0 (by simp), Ext.cell (by (repeat (first | (with_reducible exact Ext.refl [] _) | (with_reducible exact Ext.drew [] _) | (with_reducible assumption) | (with_reducible refine Ext.trans ?_ (Ext.drew [] _)) | (with_reducible refine Ext.trans ?_ (by assumption)) | fail "no chain"))) q1 (by simp), Ext.cell (by (repeat (first | (with_reducible exact Ext.refl [] _) | (with_reducible exact Ext.drew [] _) | (with_reducible assumption) | (with_reducible refine Ext.trans ?_ (Ext.drew [] _)) | (with_reducible refine Ext.trans ?_ (by assumption)) | fail "no chain"))) q2 (by simp)⟩ | go_keep)
    (first
      | (go_at_call 10; (with_reducible refine Calls.mono (KT _ ?_) ?_); (repeat (first | (with_reducible exact Ext.refl [] _) | (with_reducible exact Ext.drew [] _) | (with_reducible assumption) | (with_reducible refine Ext.trans ?_ (Ext.drew [] _)) | (with_reducible refine Ext.trans ?_ (by assumption)) | fail "no chain")); rintro e wt ⟨at1, ct1, rfl, hct, hTC, hEt⟩)
      | (go_at_call 11; (with_reducible refine Calls.mono (KV _ ?_) ?_); (repeat (first | (with_reducible exact Ext.refl [] _) | (with_reducible exact Ext.drew [] _) | (with_reducible assumption) | (with_reducible refine Ext.trans ?_ (Ext.drew [] _)) | (with_reducible refine Ext.trans ?_ (by assumption)) | fail "no chain")); rintro e wv ⟨av1, cv1, rfl, hcv, hCo, hEv⟩)
      | (go_at_call 11; (with_reducible refine Calls.mono (KM _ ?_) ?_); (repeat (first | (with_reducible exact Ext.refl [] _) | (with_reducible exact Ext.drew [] _) | (with_reducible assumption) | (with_reducible refine Ext.trans ?_ (Ext.drew [] _)) | (with_reducible refine Ext.trans ?_ (by assumption)) | fail "no chain")); rintro e wm ⟨am1, cm1, rfl, hcm, hCm, hEm⟩)
      | (go_at_call 23; refine Calls.mono (KU2 _ ?_ at1 ct1 hct av1 cv1 hcv am1 cm1 (hCo.cs.keep0 ?_) (hCm.cs.keep0 ?_) (hTC.keep0 ?_)) ?_; (repeat (first | (with_reducible exact Ext.refl [] _) | (with_reducible exact Ext.drew [] _) | (with_reducible assumption) | (with_reducible refine Ext.trans ?_ (Ext.drew [] _)) | (with_reducible refine Ext.trans ?_ (by assumption)) | fail "no chain")); (repeat (first | (with_reducible exact Ext.refl [] _) | (with_reducible exact Ext.drew [] _) | (with_reducible assumption) | (with_reducible refine Ext.trans ?_ (Ext.drew [] _)) | (with_reducible refine Ext.trans ?_ (by assumption)) | fail "no chain")); (repeat (first | (with_reducible exact Ext.refl [] _) | (with_reducible exact Ext.drew [] _) | (with_reducible assumption) | (with_reducible refine Ext.trans ?_ (Ext.drew [] _)) | (with_reducible refine Ext.trans ?_ (by assumption)) | fail "no chain")); (repeat (first | (with_reducible exact Ext.refl [] _) | (with_reducible exact Ext.drew [] _) | (with_reducible assumption) | (with_reducible refine Ext.trans ?_ (Ext.drew [] _)) | (with_reducible refine Ext.trans ?_ (by assumption)) | fail "no chain")); rintro e wd ⟨ax, cx, rfl, hcx0, hCx, hEu⟩)
      | (fail "no arm"))
  rename_i hHeld
  clear q0 q1 q2
  obtain ⟨q0, q1, q2⟩ := hHeld
  have hcd : Ext [] wc wd := by (repeat (first | (with_reducible exact Ext.refl [] _) | (with_reducible exact Ext.drew [] _) | (with_reducible assumption) | (with_reducible refine Ext.trans ?_ (Ext.drew [] _)) | (with_reducible refine Ext.trans ?_ (by assumption)) | fail "no chain"))
  have hEd : Ext [] w wd := hEc'.trans hcd
  have HOd := hid (HOc.out.keep0 hcd)
  have HXd := hid hCx
  clear hEt hEv hEm hEu hTC hCo hCm hCx KU2 hct hcv hcm hcd hEc' HOc
  by_cases hue : ue = 0
  rotate_left
  · have b1 : (ue != 0) = true := by simpa using hue
    have h16 := HER.out hue
    clear KP3 KU3 KP4 KP5 KT KV KM HOT HER
    rcases h16 with rfl | rfl
    · go_wp2_with fail
      go_ret
      exact ⟨rfl, hEd⟩
    · go_wp2_with fail
      go_ret
      exact ⟨rfl, hEd⟩
  subst hue
  replace HOT := hid (HOT.out rfl)
  clear HER
  replace KP3 := KP3 rfl
  replace KU3 := KU3 rfl
  replace KP5 := KP5 rfl
  have KX := fun u (hu : Ext [] wd u) => rcopy_any d ax xv _ cx u (HXd.out.keep0 hu).cs rfl
  go_upto_region 12 with fail
  go_region_held3 (fun w' => w'.cell? ⟨qb, 0, none⟩ = some (.slice ta tn tc) ∧ w'.cell? ⟨qb, 1, none⟩ = some (.int .i64 t) ∧ w'.cell? ⟨qb, 2, none⟩ = some (.slice a n c))
    (first | exact ⟨Ext.cell (by (repeat (first | (with_reducible exact Ext.refl [] _) | (with_reducible exact Ext.drew [] _) | (with_reducible assumption) | (with_reducible refine Ext.trans ?_ (Ext.drew [] _)) | (with_reducible refine Ext.trans ?_ (by assumption)) | fail "no chain"))) q0 (by simp), Ext.cell (by (repeat (first | (with_reducible exact Ext.refl [] _) | (with_reducible exact Ext.drew [] _) | (with_reducible assumption) | (with_reducible refine Ext.trans ?_ (Ext.drew [] _)) | (with_reducible refine Ext.trans ?_ (by assumption)) | fail "no chain"))) q1 (by simp), Ext.cell (by (repeat (first | (with_reducible exact Ext.refl [] _) | (with_reducible exact Ext.drew [] _) | (with_reducible assumption) | (with_reducible refine Ext.trans ?_ (Ext.drew [] _)) | (with_reducible refine Ext.trans ?_ (by assumption)) | fail "no chain"))) q2 (by simp)⟩ | go_keep)
    (first
      | (go_at_call 10; (with_reducible refine Calls.mono (KT _ ?_) ?_); (repeat (first | (with_reducible exact Ext.refl [] _) | (with_reducible exact Ext.drew [] _) | (with_reducible assumption) | (with_reducible refine Ext.trans ?_ (Ext.drew [] _)) | (with_reducible refine Ext.trans ?_ (by assumption)) | fail "no chain")); rintro e wt ⟨at1, ct1, rfl, hct, hTC, hEt⟩)
      | (go_at_call 11; (with_reducible refine Calls.mono (KX _ ?_) ?_); (repeat (first | (with_reducible exact Ext.refl [] _) | (with_reducible exact Ext.drew [] _) | (with_reducible assumption) | (with_reducible refine Ext.trans ?_ (Ext.drew [] _)) | (with_reducible refine Ext.trans ?_ (by assumption)) | fail "no chain")); rintro e wx ⟨ax1, cx1, rfl, hcx, hCx1, hEx⟩)
      | (go_at_call 21; refine Calls.mono (KP3 _ ?_ at1 ct1 hct ax1 cx1 hcx (hCx1.cs.keep0 ?_) (hTC.keep0 ?_)) ?_; (repeat (first | (with_reducible exact Ext.refl [] _) | (with_reducible exact Ext.drew [] _) | (with_reducible assumption) | (with_reducible refine Ext.trans ?_ (Ext.drew [] _)) | (with_reducible refine Ext.trans ?_ (by assumption)) | fail "no chain")); (repeat (first | (with_reducible exact Ext.refl [] _) | (with_reducible exact Ext.drew [] _) | (with_reducible assumption) | (with_reducible refine Ext.trans ?_ (Ext.drew [] _)) | (with_reducible refine Ext.trans ?_ (by assumption)) | fail "no chain")); (repeat (first | (with_reducible exact Ext.refl [] _) | (with_reducible exact Ext.drew [] _) | (with_reducible assumption) | (with_reducible refine Ext.trans ?_ (Ext.drew [] _)) | (with_reducible refine Ext.trans ?_ (by assumption)) | fail "no chain")); rintro e we ⟨ay, cy, rfl, hcy, hCy, hEp⟩)
      | (fail "no arm"))
  rename_i hHeld
  clear q0 q1 q2
  obtain ⟨q0, q1, q2⟩ := hHeld
  have hde : Ext [] wd we := by (repeat (first | (with_reducible exact Ext.refl [] _) | (with_reducible exact Ext.drew [] _) | (with_reducible assumption) | (with_reducible refine Ext.trans ?_ (Ext.drew [] _)) | (with_reducible refine Ext.trans ?_ (by assumption)) | fail "no chain"))
  have hEe : Ext [] w we := hEd.trans hde
  have HOe := hid (HOd.out.keep0 hde)
  have HXe := hid (HXd.out.keep0 hde)
  have HYe := hid hCy
  clear hEt hEx hEp hTC hCx1 hCy KP3 hct hcx hde hEd HOd HXd KX
  have KX := fun u (hu : Ext [] we u) => rcopy_any d ax xv _ cx u (HXe.out.keep0 hu).cs rfl
  have KO := fun u (hu : Ext [] we u) => rcopy_any d ao pv _ co u (HOe.out.keep0 hu).cs rfl
  go_upto_region 13 with fail
  go_region_held3 (fun w' => w'.cell? ⟨qb, 0, none⟩ = some (.slice ta tn tc) ∧ w'.cell? ⟨qb, 1, none⟩ = some (.int .i64 t) ∧ w'.cell? ⟨qb, 2, none⟩ = some (.slice a n c))
    (first | exact ⟨Ext.cell (by (repeat (first | (with_reducible exact Ext.refl [] _) | (with_reducible exact Ext.drew [] _) | (with_reducible assumption) | (with_reducible refine Ext.trans ?_ (Ext.drew [] _)) | (with_reducible refine Ext.trans ?_ (by assumption)) | fail "no chain"))) q0 (by simp), Ext.cell (by (repeat (first | (with_reducible exact Ext.refl [] _) | (with_reducible exact Ext.drew [] _) | (with_reducible assumption) | (with_reducible refine Ext.trans ?_ (Ext.drew [] _)) | (with_reducible refine Ext.trans ?_ (by assumption)) | fail "no chain"))) q1 (by simp), Ext.cell (by (repeat (first | (with_reducible exact Ext.refl [] _) | (with_reducible exact Ext.drew [] _) | (with_reducible assumption) | (with_reducible refine Ext.trans ?_ (Ext.drew [] _)) | (with_reducible refine Ext.trans ?_ (by assumption)) | fail "no chain"))) q2 (by simp)⟩ | go_keep)
    (first
      | (go_at_call 10; (with_reducible refine Calls.mono (KT _ ?_) ?_); (repeat (first | (with_reducible exact Ext.refl [] _) | (with_reducible exact Ext.drew [] _) | (with_reducible assumption) | (with_reducible refine Ext.trans ?_ (Ext.drew [] _)) | (with_reducible refine Ext.trans ?_ (by assumption)) | fail "no chain")); rintro e wt ⟨at1, ct1, rfl, hct, hTC, hEt⟩)
      | (go_at_call 11; (with_reducible refine Calls.mono (KX _ ?_) ?_); (repeat (first | (with_reducible exact Ext.refl [] _) | (with_reducible exact Ext.drew [] _) | (with_reducible assumption) | (with_reducible refine Ext.trans ?_ (Ext.drew [] _)) | (with_reducible refine Ext.trans ?_ (by assumption)) | fail "no chain")); rintro e wx ⟨ax1, cx1, rfl, hcx, hCx1, hEx⟩)
      | (go_at_call 11; (with_reducible refine Calls.mono (KO _ ?_) ?_); (repeat (first | (with_reducible exact Ext.refl [] _) | (with_reducible exact Ext.drew [] _) | (with_reducible assumption) | (with_reducible refine Ext.trans ?_ (Ext.drew [] _)) | (with_reducible refine Ext.trans ?_ (by assumption)) | fail "no chain")); rintro e wo ⟨ao1, co1, rfl, hco, hCo1, hEo⟩)
      | (go_at_call 23; refine Calls.mono (KU3 _ ?_ at1 ct1 hct ax1 cx1 hcx ao1 co1 (hCx1.cs.keep0 ?_) (hCo1.cs.keep0 ?_) (hTC.keep0 ?_)) ?_; (repeat (first | (with_reducible exact Ext.refl [] _) | (with_reducible exact Ext.drew [] _) | (with_reducible assumption) | (with_reducible refine Ext.trans ?_ (Ext.drew [] _)) | (with_reducible refine Ext.trans ?_ (by assumption)) | fail "no chain")); (repeat (first | (with_reducible exact Ext.refl [] _) | (with_reducible exact Ext.drew [] _) | (with_reducible assumption) | (with_reducible refine Ext.trans ?_ (Ext.drew [] _)) | (with_reducible refine Ext.trans ?_ (by assumption)) | fail "no chain")); (repeat (first | (with_reducible exact Ext.refl [] _) | (with_reducible exact Ext.drew [] _) | (with_reducible assumption) | (with_reducible refine Ext.trans ?_ (Ext.drew [] _)) | (with_reducible refine Ext.trans ?_ (by assumption)) | fail "no chain")); (repeat (first | (with_reducible exact Ext.refl [] _) | (with_reducible exact Ext.drew [] _) | (with_reducible assumption) | (with_reducible refine Ext.trans ?_ (Ext.drew [] _)) | (with_reducible refine Ext.trans ?_ (by assumption)) | fail "no chain")); rintro e wf ⟨az, cz, rfl, hcz, hCz, hEu⟩)
      | (fail "no arm"))
  rename_i hHeld
  clear q0 q1 q2
  obtain ⟨q0, q1, q2⟩ := hHeld
  have hef : Ext [] we wf := by (repeat (first | (with_reducible exact Ext.refl [] _) | (with_reducible exact Ext.drew [] _) | (with_reducible assumption) | (with_reducible refine Ext.trans ?_ (Ext.drew [] _)) | (with_reducible refine Ext.trans ?_ (by assumption)) | fail "no chain"))
  have hEf : Ext [] w wf := hEe.trans hef
  have HXf := hid (HXe.out.keep0 hef)
  have KS1 : Calls Tryd.prog 17 #[.slice ay m.length cy, .slice am mn mc] wf (SayPost wf (.bool true)) := by
    rw [HMN.out]; exact rsame_true d ay am m mn cy mc d wf (HYe.out.keep0 hef).cs (HM.out.keep0 hEf) HMN.out
  have KS2 : ∀ u, Ext [] wf u → Calls Tryd.prog 17 #[.slice az l.length cz, .slice a n c] u (SayPost u (.bool true)) := fun u hu => by
    rw [HN.out]; exact rsame_true d az a l n cz c d u (hCz.keep0 hu).cs (HC.out.keep0 (hEf.trans hu)) HN.out
  clear hEt hEx hEo hEu hTC hCx1 hCo1 hCz KU3 hct hcx hco hef hEe HOe HXe HYe KX KO
  go_upto_region 16 with (first | (go_at_call 17; (with_reducible refine Calls.mono KS1 ?_); clear KS1; rintro e wg ⟨rfl, hEg⟩; have q2 := hEg.cell q2 (by simp)) | (go_at_call 17; (with_reducible refine Calls.mono (KS2 _ hEg) ?_); clear KS2; rintro e wh ⟨rfl, hEh⟩))
  have hfh := hEg.trans hEh
  have hEh' := hEf.trans hfh
  have HXh := hid (HXf.out.keep0 hfh)
  have q0 := hfh.cell q0 (by simp)
  have q1 := hfh.cell q1 (by simp)
  have q2 := hEh.cell q2 (by simp)
  clear hEg hEh hEf hfh HXf
  go_region_held3 (fun w' => w'.cell? ⟨qb, 0, none⟩ = some (.slice ta tn tc) ∧ w'.cell? ⟨qb, 1, none⟩ = some (.int .i64 t) ∧ w'.cell? ⟨qb, 2, none⟩ = some (.slice a n c))
    (first | exact ⟨Ext.cell (by (repeat (first | (with_reducible exact Ext.refl [] _) | (with_reducible exact Ext.drew [] _) | (with_reducible assumption) | (with_reducible refine Ext.trans ?_ (Ext.drew [] _)) | (with_reducible refine Ext.trans ?_ (by assumption)) | fail "no chain"))) q0 (by simp), Ext.cell (by (repeat (first | (with_reducible exact Ext.refl [] _) | (with_reducible exact Ext.drew [] _) | (with_reducible assumption) | (with_reducible refine Ext.trans ?_ (Ext.drew [] _)) | (with_reducible refine Ext.trans ?_ (by assumption)) | fail "no chain"))) q1 (by simp), Ext.cell (by (repeat (first | (with_reducible exact Ext.refl [] _) | (with_reducible exact Ext.drew [] _) | (with_reducible assumption) | (with_reducible refine Ext.trans ?_ (Ext.drew [] _)) | (with_reducible refine Ext.trans ?_ (by assumption)) | fail "no chain"))) q2 (by simp)⟩ | go_keep)
    (first
      | (go_at_call 10; (with_reducible refine Calls.mono (KT _ ?_) ?_); (repeat (first | (with_reducible exact Ext.refl [] _) | (with_reducible exact Ext.drew [] _) | (with_reducible assumption) | (with_reducible refine Ext.trans ?_ (Ext.drew [] _)) | (with_reducible refine Ext.trans ?_ (by assumption)) | fail "no chain")); rintro e wt ⟨at1, ct1, rfl, hct, hTC, hEt⟩)
      | (go_at_call 11; (with_reducible refine Calls.mono (KV _ ?_) ?_); (repeat (first | (with_reducible exact Ext.refl [] _) | (with_reducible exact Ext.drew [] _) | (with_reducible assumption) | (with_reducible refine Ext.trans ?_ (Ext.drew [] _)) | (with_reducible refine Ext.trans ?_ (by assumption)) | fail "no chain")); rintro e wv ⟨av1, cv1, rfl, hcv, hCo, hEv⟩)
      | (go_at_call 21; refine Calls.mono (KP4 _ ?_ at1 ct1 hct av1 cv1 hcv (hCo.cs.keep0 ?_) (hTC.keep0 ?_)) ?_; (repeat (first | (with_reducible exact Ext.refl [] _) | (with_reducible exact Ext.drew [] _) | (with_reducible assumption) | (with_reducible refine Ext.trans ?_ (Ext.drew [] _)) | (with_reducible refine Ext.trans ?_ (by assumption)) | fail "no chain")); (repeat (first | (with_reducible exact Ext.refl [] _) | (with_reducible exact Ext.drew [] _) | (with_reducible assumption) | (with_reducible refine Ext.trans ?_ (Ext.drew [] _)) | (with_reducible refine Ext.trans ?_ (by assumption)) | fail "no chain")); (repeat (first | (with_reducible exact Ext.refl [] _) | (with_reducible exact Ext.drew [] _) | (with_reducible assumption) | (with_reducible refine Ext.trans ?_ (Ext.drew [] _)) | (with_reducible refine Ext.trans ?_ (by assumption)) | fail "no chain")); rintro e wk ⟨aj, cj, rfl, hcj, hCj, hEp⟩)
      | (fail "no arm"))
  rename_i hHeld
  clear q0 q1 q2
  obtain ⟨q0, q1, q2⟩ := hHeld
  have hhk : Ext [] wh wk := by (repeat (first | (with_reducible exact Ext.refl [] _) | (with_reducible exact Ext.drew [] _) | (with_reducible assumption) | (with_reducible refine Ext.trans ?_ (Ext.drew [] _)) | (with_reducible refine Ext.trans ?_ (by assumption)) | fail "no chain"))
  have hEk : Ext [] w wk := hEh'.trans hhk
  have HXk := hid (HXh.out.keep0 hhk)
  have HJk := hid hCj
  clear hEt hEv hEp hTC hCo hCj KP4 hct hcv hhk hEh' HXh
  have KX := fun u (hu : Ext [] wk u) => rcopy_any d ax xv _ cx u (HXk.out.keep0 hu).cs rfl
  go_upto_region 17 with fail
  go_region_held3 (fun w' => w'.cell? ⟨qb, 0, none⟩ = some (.slice ta tn tc) ∧ w'.cell? ⟨qb, 1, none⟩ = some (.int .i64 t) ∧ w'.cell? ⟨qb, 2, none⟩ = some (.slice a n c))
    (first | exact ⟨Ext.cell (by (repeat (first | (with_reducible exact Ext.refl [] _) | (with_reducible exact Ext.drew [] _) | (with_reducible assumption) | (with_reducible refine Ext.trans ?_ (Ext.drew [] _)) | (with_reducible refine Ext.trans ?_ (by assumption)) | fail "no chain"))) q0 (by simp), Ext.cell (by (repeat (first | (with_reducible exact Ext.refl [] _) | (with_reducible exact Ext.drew [] _) | (with_reducible assumption) | (with_reducible refine Ext.trans ?_ (Ext.drew [] _)) | (with_reducible refine Ext.trans ?_ (by assumption)) | fail "no chain"))) q1 (by simp), Ext.cell (by (repeat (first | (with_reducible exact Ext.refl [] _) | (with_reducible exact Ext.drew [] _) | (with_reducible assumption) | (with_reducible refine Ext.trans ?_ (Ext.drew [] _)) | (with_reducible refine Ext.trans ?_ (by assumption)) | fail "no chain"))) q2 (by simp)⟩ | go_keep)
    (first
      | (go_at_call 10; (with_reducible refine Calls.mono (KT _ ?_) ?_); (repeat (first | (with_reducible exact Ext.refl [] _) | (with_reducible exact Ext.drew [] _) | (with_reducible assumption) | (with_reducible refine Ext.trans ?_ (Ext.drew [] _)) | (with_reducible refine Ext.trans ?_ (by assumption)) | fail "no chain")); rintro e wt ⟨at1, ct1, rfl, hct, hTC, hEt⟩)
      | (go_at_call 11; (with_reducible refine Calls.mono (KX _ ?_) ?_); (repeat (first | (with_reducible exact Ext.refl [] _) | (with_reducible exact Ext.drew [] _) | (with_reducible assumption) | (with_reducible refine Ext.trans ?_ (Ext.drew [] _)) | (with_reducible refine Ext.trans ?_ (by assumption)) | fail "no chain")); rintro e wx ⟨ax1, cx1, rfl, hcx, hCx1, hEx⟩)
      | (go_at_call 21; refine Calls.mono (KP5 _ ?_ at1 ct1 hct ax1 cx1 hcx (hCx1.cs.keep0 ?_) (hTC.keep0 ?_)) ?_; (repeat (first | (with_reducible exact Ext.refl [] _) | (with_reducible exact Ext.drew [] _) | (with_reducible assumption) | (with_reducible refine Ext.trans ?_ (Ext.drew [] _)) | (with_reducible refine Ext.trans ?_ (by assumption)) | fail "no chain")); (repeat (first | (with_reducible exact Ext.refl [] _) | (with_reducible exact Ext.drew [] _) | (with_reducible assumption) | (with_reducible refine Ext.trans ?_ (Ext.drew [] _)) | (with_reducible refine Ext.trans ?_ (by assumption)) | fail "no chain")); (repeat (first | (with_reducible exact Ext.refl [] _) | (with_reducible exact Ext.drew [] _) | (with_reducible assumption) | (with_reducible refine Ext.trans ?_ (Ext.drew [] _)) | (with_reducible refine Ext.trans ?_ (by assumption)) | fail "no chain")); rintro e wl ⟨ak, ck, rfl, hck, hCk, hEp⟩)
      | (fail "no arm"))
  rename_i hHeld
  clear q0 q1 q2
  obtain ⟨q0, q1, q2⟩ := hHeld
  have hkl : Ext [] wk wl := by (repeat (first | (with_reducible exact Ext.refl [] _) | (with_reducible exact Ext.drew [] _) | (with_reducible assumption) | (with_reducible refine Ext.trans ?_ (Ext.drew [] _)) | (with_reducible refine Ext.trans ?_ (by assumption)) | fail "no chain"))
  have HEl := hid (hEk.trans hkl)
  by_cases hij : i = j
  · subst hij
    clear KX KT KV KM KP5 HXk HJk hCk hEt hEx hEp hTC hCx1 hct hcx hEk hkl HOT
    go_wp2_with fail
    go_ret
    exact ⟨rfl, HEl.out⟩
  · have hij1 : (i == j) = false := by simpa using hij
    have hij2 : decide (i = j) = false := by simpa using hij
    have e1 := HOT.out hij
    subst e1
    have KS := rsame_true d aj ak pj' _ cj ck d wl (HJk.out.keep0 hkl).cs hCk.cs rfl
    clear KX KT KV KM KP5 HXk HJk hCk hEt hEx hEp hTC hCx1 hct hcx hEk hkl HOT
    go_wp2_with (go_at_call 17; refine KS.mono ?_; clear KS; rintro e wz ⟨rfl, hEz⟩)
    go_ret
    exact ⟨rfl, HEl.out.trans hEz⟩

end Go.Proofs.YtfabhhmeanpmhaaDoor
