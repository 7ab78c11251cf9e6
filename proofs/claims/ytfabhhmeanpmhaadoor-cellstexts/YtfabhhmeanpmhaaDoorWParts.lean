/-
  CellsParts, walked through; its frame is in LawParts.
-/
import Derived.Test.YtfabhhmeanpmhaaDoorPair
namespace Go.Proofs.YtfabhhmeanpmhaaDoor
open Go.RowKit

theorem Cp.tabC {w0 w : World} {a : Option Addr} {n c : Nat} {ts : List Ty} {G : Nat → Option Addr × Nat} (h : Cp w0 w a n c ts G) (hn : ts.length = n) (hT : Tab w a ts) : TabC w a ts := by
  subst hn
  refine ⟨hT, fun b o ha i hi => ⟨(G i).1, (G i).2, ?_, ?_⟩⟩
  · rcases h.own.2 with ⟨h1, h2⟩ | ⟨g, cap, cur, h0, h1, h2, h3, h4, h5, h6⟩
    · omega
    · cases h0
      simp only [Option.some.injEq, Addr.mk.injEq, and_true] at ha
      obtain ⟨rfl, rfl⟩ := ha
      rw [Nat.zero_add, cell_of_row w g _ _ _ _ h2]
      have : (cur.toList.take (ts.length * 5))[i * 5 + 4]? = cur[i * 5 + 4]? := by
        rw [List.getElem?_take, if_pos (by omega)]; simp
      rw [← this, h6, rows_get ts G _ i 4 hi (by omega)]
      rfl
  · obtain ⟨a', c', h1, h2⟩ := own_slice (h.fs i hi)
    simp only [Value.slice.injEq] at h1
    omega

def TcPost (w : World) (ts : List Ty) (n : Nat) (e : Ending) (w' : World) : Prop :=
  ∃ a c, e = .returned (.slice a n c) ∧ n ≤ c ∧ TabC w' a ts ∧ Ext [] w w'
theorem tcopy_any (a : Option Addr) (ts : List Ty) (n c : Nat) (w : World) (hT : Tab w a ts) (hn : ts.length = n) : Calls Tryd.prog 10 #[.slice a n c] w (TcPost w ts n) :=
  (copy_any a ts n c w hT hn).mono (by
    rintro e w' ⟨a', c', G, rfl, h1, h2, h3, h4⟩
    exact ⟨a', c', rfl, h1, h2.tabC hn h3, h4⟩)

/-- A value of the laws' own, boxed. -/
def Q3 (w : World) (q : Nat) (ta : Option Addr) (tn tc : Nat) (t : Int) (a : Option Addr) (n c : Nat) : Prop := w.heap[q]? = some (.cells #[.slice ta tn tc, .int .i64 t, .slice a n c] 25 (0, 0))
theorem Q3.c0 {w : World} {q : Nat} {ta : Option Addr} {tn tc : Nat} {t : Int} {a : Option Addr} {n c : Nat} (h : Q3 w q ta tn tc t a n c) : w.cell? ⟨q, 0, none⟩ = some (.slice ta tn tc) := by rw [cell_of_row _ _ _ _ _ _ h]; rfl
theorem Q3.c1 {w : World} {q : Nat} {ta : Option Addr} {tn tc : Nat} {t : Int} {a : Option Addr} {n c : Nat} (h : Q3 w q ta tn tc t a n c) : w.cell? ⟨q, 1, none⟩ = some (.int .i64 t) := by rw [cell_of_row _ _ _ _ _ _ h]; rfl
theorem Q3.c2 {w : World} {q : Nat} {ta : Option Addr} {tn tc : Nat} {t : Int} {a : Option Addr} {n c : Nat} (h : Q3 w q ta tn tc t a n c) : w.cell? ⟨q, 2, none⟩ = some (.slice a n c) := by rw [cell_of_row _ _ _ _ _ _ h]; rfl
theorem Q3.keep0 {w w' : World} {q : Nat} {ta : Option Addr} {tn tc : Nat} {t : Int} {a : Option Addr} {n c : Nat} (h : Q3 w q ta tn tc t a n c) (e : Ext [] w w') : Q3 w' q ta tn tc t a n c := e.keep h (by simp)

set_option maxRecDepth 100000 in
set_option maxHeartbeats 4000000 in
theorem parts_walk (ts : List Ty) (ta : Option Addr) (tn tc : Nat) (htn : ts.length = tn) (d : Nat) (t i : Int) (a : Option Addr) (l : List Cl) (n c : Nat) (am : Option Addr) (m : List Cl) (mn mc : Nat) (w : World) (hC : Cs d w a l) (hn : l.length = n) (hnc : n ≤ c) (hM : Cs d w am m) (hmn : m.length = mn) (hmc : mn ≤ mc) (hT : Tab w ta ts) (hG : Gl w) :
    Calls Tryd.prog 4 #[.agg #[.slice ta tn tc, .int .i64 t, .slice a n c], .int .i64 i, .slice am mn mc] w (SayPost w (.bool true)) := by
  have hE0 := Ext.alloc [] w (.cells #[.slice ta tn tc, .int .i64 t, .slice a n c] 25)
  have hQ0 : Q3 (w.alloc (.cells #[.slice ta tn tc, .int .i64 t, .slice a n c] 25)) w.heap.size ta tn tc t a n c := heap_alloc_new _ _
  have KA := awake_any _ (hG.keep0 hE0)
  have HT := hid hT
  have HG := hid hG
  have HC := hid hC
  have HM := hid hM
  have HE0 := hid hE0
  have HQ0 := hid hQ0
  have HN := hid hn
  have HMN := hid hmn
  have HTN := hid htn
  clear hT hG hC hM hE0 hQ0 hn hmn htn
  go_enter Tryd.func4, Tryd.ntmps4
  go_upto_region 3 with (go_at_call 8; refine KA.mono ?_; clear KA; rintro e w1 ⟨rfl, hE1⟩)
  have hE01 := HE0.out.trans hE1
  have hQ1 := HQ0.out.keep0 hE1
  generalize w.heap.size = qb at *
  have q0 := hQ1.c0
  have q1 := hQ1.c1
  have q2 := hQ1.c2
  have KT := fun u (hu : Ext [] w u) => tcopy_any ta ts tn tc u (HT.out.keep0 hu) HTN.out
  have KV := fun u (hu : Ext [] w u) => rcopy_any d a l n c u (HC.out.keep0 hu) HN.out
  have KM := fun u (hu : Ext [] w u) => rcopy_any d am m mn mc u (HM.out.keep0 hu) HMN.out
  have KR := fun u (hu : Ext [] w u) => rpart_any ts ta tn tc HTN.out d t i a l n c u (HC.out.keep0 hu) HN.out hnc (HT.out.keep0 hu)
  have KP := fun u (hu : Ext [] w u) at1 ct1 hct av1 cv1 hcv (hC1 : Cs d u av1 l) (hT1 : TabC u at1 ts) => part_any ts at1 tn ct1 HTN.out hct d t i av1 l n cv1 u hC1 HN.out hcv hT1 (HG.out.keep0 hu)
  have KU := fun u (hu : Ext [] w u) at1 ct1 hct av1 cv1 hcv am1 cm1 (hC1 : Cs d u av1 l) (hM1 : Cs d u am1 m) (hT1 : TabC u at1 ts) => put_any ts at1 tn ct1 HTN.out hct d t i av1 l n cv1 am1 m mn cm1 u hC1 HN.out hcv hM1 HMN.out hT1 (HG.out.keep0 hu)
  have KW := fun u (hu : Ext [] w u) => rput_any ts ta tn tc HTN.out d t i a l n c am m mn mc u (HC.out.keep0 hu) HN.out hnc (HM.out.keep0 hu) HMN.out hmc (HT.out.keep0 hu)
  generalize partV ts d t l i = pv at *
  generalize fchk ts d t l i = er at *
  generalize putV ts d t l i m = uv at *
  generalize putE ts d t l i m = ur at *
  clear hE1 hQ1
  go_region_held3 (fun w' => w'.cell? ⟨qb, 0, none⟩ = some (.slice ta tn tc) ∧ w'.cell? ⟨qb, 1, none⟩ = some (.int .i64 t) ∧ w'.cell? ⟨qb, 2, none⟩ = some (.slice a n c))
    (first | exact ⟨Ext.cell (by (repeat (first | (with_reducible exact Ext.refl [] _) | (with_reducible exact Ext.drew [] _) | (with_reducible assumption) | (with_reducible refine Ext.trans ?_ (Ext.drew [] _)) | (with_reducible refine Ext.trans ?_ (by assumption)) | fail "no chain"))) q0 (by simp), Ext.cell (by (repeat (first | (with_reducible exact Ext.refl [] _) | (with_reducible exact Ext.drew [] _) | (with_reducible assumption) | (with_reducible refine Ext.trans ?_ (Ext.drew [] _)) | (with_reducible refine Ext.trans ?_ (by assumption)) | fail "no chain"))) q1 (by simp), Ext.cell (by (repeat (first | (with_reducible exact Ext.refl [] _) | (with_reducible exact Ext.drew [] _) | (with_reducible assumption) | (with_reducible refine Ext.trans ?_ (Ext.drew [] _)) | (with_reducible refine Ext.trans ?_ (by assumption)) | fail "no chain"))) q2 (by simp)⟩ | go_keep)
    (first
      | (go_at_call 10; (with_reducible refine Calls.mono (KT _ ?_) ?_); (repeat (first | (with_reducible exact Ext.refl [] _) | (with_reducible exact Ext.drew [] _) | (with_reducible assumption) | (with_reducible refine Ext.trans ?_ (Ext.drew [] _)) | (with_reducible refine Ext.trans ?_ (by assumption)) | fail "no chain")); rintro e wt ⟨at1, ct1, rfl, hct, hTC, hEt⟩)
      | (go_at_call 11; (with_reducible refine Calls.mono (KV _ ?_) ?_); (repeat (first | (with_reducible exact Ext.refl [] _) | (with_reducible exact Ext.drew [] _) | (with_reducible assumption) | (with_reducible refine Ext.trans ?_ (Ext.drew [] _)) | (with_reducible refine Ext.trans ?_ (by assumption)) | fail "no chain")); rintro e wv ⟨av1, cv1, rfl, hcv, hCo, hEv⟩)
      | (go_at_call 21; refine Calls.mono (KP _ ?_ at1 ct1 hct av1 cv1 hcv (hCo.cs.keep0 ?_) (hTC.keep0 ?_)) ?_; (repeat (first | (with_reducible exact Ext.refl [] _) | (with_reducible exact Ext.drew [] _) | (with_reducible assumption) | (with_reducible refine Ext.trans ?_ (Ext.drew [] _)) | (with_reducible refine Ext.trans ?_ (by assumption)) | fail "no chain")); (repeat (first | (with_reducible exact Ext.refl [] _) | (with_reducible exact Ext.drew [] _) | (with_reducible assumption) | (with_reducible refine Ext.trans ?_ (Ext.drew [] _)) | (with_reducible refine Ext.trans ?_ (by assumption)) | fail "no chain")); (repeat (first | (with_reducible exact Ext.refl [] _) | (with_reducible exact Ext.drew [] _) | (with_reducible assumption) | (with_reducible refine Ext.trans ?_ (Ext.drew [] _)) | (with_reducible refine Ext.trans ?_ (by assumption)) | fail "no chain")); rintro e wp ⟨ap, cp, rfl, hcp, hCp, hEp⟩))
  rename_i hHeld
  clear q0 q1 q2
  obtain ⟨q0, q1, q2⟩ := hHeld
  have hEa : Ext [] w wp := by (repeat (first | (with_reducible exact Ext.refl [] _) | (with_reducible exact Ext.drew [] _) | (with_reducible assumption) | (with_reducible refine Ext.trans ?_ (Ext.drew [] _)) | (with_reducible refine Ext.trans ?_ (by assumption)) | fail "no chain"))
  have HCp := hid hCp
  clear hE01 hEt hEv hEp hTC hCo hCp KP hct hcv
  go_upto_region 5 with (go_at_call 22; (with_reducible refine Calls.mono (KR _ ?_) ?_); (repeat (first | (with_reducible exact Ext.refl [] _) | (with_reducible exact Ext.drew [] _) | (with_reducible assumption) | (with_reducible refine Ext.trans ?_ (Ext.drew [] _)) | (with_reducible refine Ext.trans ?_ (by assumption)) | fail "no chain")); clear KR; rintro e w2 ⟨ar, cr, rfl, hcr, hCr, hE2⟩)
  have p0 := hE2.cell q0 (by simp)
  have p1 := hE2.cell q1 (by simp)
  have p2 := hE2.cell q2 (by simp)
  have HCp2 := hid (HCp.out.keep0 hE2)
  have HCr := hid hCr
  have hEb : Ext [] w w2 := by (repeat (first | (with_reducible exact Ext.refl [] _) | (with_reducible exact Ext.drew [] _) | (with_reducible assumption) | (with_reducible refine Ext.trans ?_ (Ext.drew [] _)) | (with_reducible refine Ext.trans ?_ (by assumption)) | fail "no chain"))
  clear hEa hE2 hCr HCp q0 q1 q2
  go_region_held3 (fun w' => w'.cell? ⟨qb, 0, none⟩ = some (.slice ta tn tc) ∧ w'.cell? ⟨qb, 1, none⟩ = some (.int .i64 t) ∧ w'.cell? ⟨qb, 2, none⟩ = some (.slice a n c))
    (first | exact ⟨Ext.cell (by (repeat (first | (with_reducible exact Ext.refl [] _) | (with_reducible exact Ext.drew [] _) | (with_reducible assumption) | (with_reducible refine Ext.trans ?_ (Ext.drew [] _)) | (with_reducible refine Ext.trans ?_ (by assumption)) | fail "no chain"))) p0 (by simp), Ext.cell (by (repeat (first | (with_reducible exact Ext.refl [] _) | (with_reducible exact Ext.drew [] _) | (with_reducible assumption) | (with_reducible refine Ext.trans ?_ (Ext.drew [] _)) | (with_reducible refine Ext.trans ?_ (by assumption)) | fail "no chain"))) p1 (by simp), Ext.cell (by (repeat (first | (with_reducible exact Ext.refl [] _) | (with_reducible exact Ext.drew [] _) | (with_reducible assumption) | (with_reducible refine Ext.trans ?_ (Ext.drew [] _)) | (with_reducible refine Ext.trans ?_ (by assumption)) | fail "no chain"))) p2 (by simp)⟩ | go_keep)
    (first
      | (go_at_call 10; (with_reducible refine Calls.mono (KT _ ?_) ?_); (repeat (first | (with_reducible exact Ext.refl [] _) | (with_reducible exact Ext.drew [] _) | (with_reducible assumption) | (with_reducible refine Ext.trans ?_ (Ext.drew [] _)) | (with_reducible refine Ext.trans ?_ (by assumption)) | fail "no chain")); rintro e wt ⟨at1, ct1, rfl, hct, hTC, hEt⟩)
      | (go_at_call 11; (with_reducible refine Calls.mono (KV _ ?_) ?_); (repeat (first | (with_reducible exact Ext.refl [] _) | (with_reducible exact Ext.drew [] _) | (with_reducible assumption) | (with_reducible refine Ext.trans ?_ (Ext.drew [] _)) | (with_reducible refine Ext.trans ?_ (by assumption)) | fail "no chain")); rintro e wv ⟨av1, cv1, rfl, hcv, hCo, hEv⟩)
      | (go_at_call 11; (with_reducible refine Calls.mono (KM _ ?_) ?_); (repeat (first | (with_reducible exact Ext.refl [] _) | (with_reducible exact Ext.drew [] _) | (with_reducible assumption) | (with_reducible refine Ext.trans ?_ (Ext.drew [] _)) | (with_reducible refine Ext.trans ?_ (by assumption)) | fail "no chain")); rintro e wm ⟨am1, cm1, rfl, hcm, hCm, hEm⟩)
      | (go_at_call 23; refine Calls.mono (KU _ ?_ at1 ct1 hct av1 cv1 hcv am1 cm1 (hCo.cs.keep0 ?_) (hCm.cs.keep0 ?_) (hTC.keep0 ?_)) ?_; (repeat (first | (with_reducible exact Ext.refl [] _) | (with_reducible exact Ext.drew [] _) | (with_reducible assumption) | (with_reducible refine Ext.trans ?_ (Ext.drew [] _)) | (with_reducible refine Ext.trans ?_ (by assumption)) | fail "no chain")); (repeat (first | (with_reducible exact Ext.refl [] _) | (with_reducible exact Ext.drew [] _) | (with_reducible assumption) | (with_reducible refine Ext.trans ?_ (Ext.drew [] _)) | (with_reducible refine Ext.trans ?_ (by assumption)) | fail "no chain")); (repeat (first | (with_reducible exact Ext.refl [] _) | (with_reducible exact Ext.drew [] _) | (with_reducible assumption) | (with_reducible refine Ext.trans ?_ (Ext.drew [] _)) | (with_reducible refine Ext.trans ?_ (by assumption)) | fail "no chain")); (repeat (first | (with_reducible exact Ext.refl [] _) | (with_reducible exact Ext.drew [] _) | (with_reducible assumption) | (with_reducible refine Ext.trans ?_ (Ext.drew [] _)) | (with_reducible refine Ext.trans ?_ (by assumption)) | fail "no chain")); rintro e wu ⟨au, cu, rfl, hcu, hCu, hEu⟩))
  rename_i hHeld
  clear p0 p1 p2
  obtain ⟨q0, q1, q2⟩ := hHeld
  have hEx : Ext [] w2 wu := by (repeat (first | (with_reducible exact Ext.refl [] _) | (with_reducible exact Ext.drew [] _) | (with_reducible assumption) | (with_reducible refine Ext.trans ?_ (Ext.drew [] _)) | (with_reducible refine Ext.trans ?_ (by assumption)) | fail "no chain"))
  have hEc : Ext [] w wu := by (repeat (first | (with_reducible exact Ext.refl [] _) | (with_reducible exact Ext.drew [] _) | (with_reducible assumption) | (with_reducible refine Ext.trans ?_ (Ext.drew [] _)) | (with_reducible refine Ext.trans ?_ (by assumption)) | fail "no chain"))
  have HCu := hid hCu
  have HCp3 := hid (HCp2.out.keep0 hEx)
  have HCr3 := hid (HCr.out.keep0 hEx)
  clear hEb hEt hEv hEm hEu hTC hCo hCm hCu KU KT KV KM hct hcv hcm HCp2 HCr hEx
  go_upto_region 7 with (go_at_call 24; (with_reducible refine Calls.mono (KW _ ?_) ?_); (repeat (first | (with_reducible exact Ext.refl [] _) | (with_reducible exact Ext.drew [] _) | (with_reducible assumption) | (with_reducible refine Ext.trans ?_ (Ext.drew [] _)) | (with_reducible refine Ext.trans ?_ (by assumption)) | fail "no chain")); clear KW; rintro e w3 ⟨ad, cd, rfl, hcd, hCd, hE3⟩)
  have hEd : Ext [] w w3 := by (repeat (first | (with_reducible exact Ext.refl [] _) | (with_reducible exact Ext.drew [] _) | (with_reducible assumption) | (with_reducible refine Ext.trans ?_ (Ext.drew [] _)) | (with_reducible refine Ext.trans ?_ (by assumption)) | fail "no chain"))
  have KS1 := rsame_true d ap ar pv _ cp cr d w3 (HCp3.out.keep0 hE3).cs (HCr3.out.keep0 hE3).cs rfl
  have KS2 := fun u (hu : Ext [] w3 u) => rsame_true d au ad uv _ cu cd d u ((HCu.out.keep0 hE3).keep0 hu).cs (hCd.keep0 hu).cs rfl
  have HEd := hid hEd
  clear hEc hE3 hCd hEd q0 q1 q2
  go_wp2_with (first | (go_at_call 17; (with_reducible refine Calls.mono KS1 ?_); clear KS1; rintro e w4 ⟨rfl, hE4⟩) | (go_at_call 17; (with_reducible refine Calls.mono (KS2 _ hE4) ?_); clear KS2; rintro e w5 ⟨rfl, hE5⟩))
  go_ret
  exact ⟨rfl, (HEd.out.trans hE4).trans hE5⟩

end Go.Proofs.YtfabhhmeanpmhaaDoor
