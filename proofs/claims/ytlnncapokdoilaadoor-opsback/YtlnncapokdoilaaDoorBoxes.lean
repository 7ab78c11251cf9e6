/-
  The program's Box, Holds and Unbox; no statement is proved here.
-/
import Derived.Test.YtlnncapokdoilaaDoorCopyB
import Derived.Test.YtlnncapokdoilaaDoorChk
namespace Go.Proofs.YtlnncapokdoilaaDoor
open Go.RowKit

/-- May an interface hold values of this kind? -/
def bxb (k : Int) : Bool := k != 7 && k != 10
theorem opsBoxable_any (t : Ty) (fa : Option Addr) (fc : Nat) (w : World) : Calls Tryd.prog 19 #[tyVal t fa fc] w (SayPost w (.bool (bxb t.kind))) := by
  unfold tyVal bxb
  by_cases h7 : t.kind = 7
  · have h1 : (t.kind != 7) = false := by simpa using h7
    rw [h1, Bool.false_and]
    generalize t.kind = k at *
    clear h7
    go_enter Tryd.func19, Tryd.ntmps19
    go_wp2_with fail
    go_ret
    exact ⟨rfl, Ext.alloc _ _ _⟩
  · have h1 : (t.kind != 7) = true := by simpa using h7
    rw [h1, Bool.true_and]
    generalize t.kind = k at *
    clear h7
    go_enter Tryd.func19, Tryd.ntmps19
    go_wp2_with fail
    go_ret
    exact ⟨rfl, Ext.alloc _ _ _⟩

open Classical in
/-- The error of Box. -/
noncomputable def boxE (ts : List Ty) (d : Nat) (t : Int) (l : List Cl) : Int := if vchk ts d t l ≠ 0 then vchk ts d t l else if bxb (tyAt ts t).kind = false then 3 else if 256 < 1 + siz l then 6 else 0
def zcV : Value := .agg #[.int .u64 0, .string ⟨#[]⟩, .int .i64 0, .slice none 0 0]
def boV (t : Int) (a : Option Addr) (n c : Nat) : Value := .agg #[.int .u64 0, .string ⟨#[]⟩, .int .i64 (t + 1), .slice a n c]
/-- A box was made, or an error told. -/
def BoxPost (w : World) (ts : List Ty) (d : Nat) (t : Int) (l : List Cl) (e : Ending) (w' : World) : Prop :=
  Ext [] w w' ∧ ((boxE ts d t l ≠ 0 ∧ e = .returned (.tuple #[zcV, .int .i64 (boxE ts d t l)])) ∨
    (boxE ts d t l = 0 ∧ ∃ a1 c1, e = .returned (.tuple #[boV t a1 l.length c1, .int .i64 0]) ∧ l.length ≤ c1 ∧ Co (fun b => w.heap.size ≤ b) d w' a1 l))

theorem ext_res {w b : World} {k : Nat} (h : Ext [] w b) (hk : w.heap.size ≤ k) (v0 v1 v2 v3 : Value) : Ext [] w ((((b.setCell ⟨k, 0, none⟩ v0).setCell ⟨k, 1, none⟩ v1).setCell ⟨k, 2, none⟩ v2).setCell ⟨k, 3, none⟩ v3) :=
  Ext.on h ((((Ext.setCell [k] _ _ _ (by simp)).trans (Ext.setCell [k] _ _ _ (by simp))).trans (Ext.setCell [k] _ _ _ (by simp))).trans (Ext.setCell [k] _ _ _ (by simp))) (by simp; omega)
theorem ext_res1 {b : World} {k : Nat} (v0 v1 v2 v3 : Value) : Ext [k] b ((((b.setCell ⟨k, 0, none⟩ v0).setCell ⟨k, 1, none⟩ v1).setCell ⟨k, 2, none⟩ v2).setCell ⟨k, 3, none⟩ v3) :=
  (((Ext.setCell [k] _ _ _ (by simp)).trans (Ext.setCell [k] _ _ _ (by simp))).trans (Ext.setCell [k] _ _ _ (by simp))).trans (Ext.setCell [k] _ _ _ (by simp))

/-- The result's own cell. -/
structure Rc (w : World) (g : Nat) : Prop where
  row : ∃ cs : Array Value, w.heap[g]? = some (.cells cs 28 (0, 0)) ∧ cs.size = 4
theorem Rc.keep {w w' : World} {g : Nat} (h : Rc w g) (e : Ext [] w w') : Rc w' g := by
  obtain ⟨cs, h1, h2⟩ := h.row
  exact ⟨cs, e.keep h1 (by simp), h2⟩
theorem Rc.cell {w : World} {g : Nat} (h : Rc w g) {i : Nat} (hi : i < 4) : ∃ v, w.cell? ⟨g, i, none⟩ = some v := by
  obtain ⟨cs, h1, h2⟩ := h.row
  exact ⟨cs[i]'(by omega), by rw [cell_of_row _ _ _ _ _ _ h1]; simp [h2, hi]⟩
theorem Rc.frz {w : World} {g : Nat} (h : Rc w g) (i : Nat) : w.frozen? ⟨g, i, none⟩ = false := by
  obtain ⟨cs, h1, h2⟩ := h.row
  exact frozen_of_row _ _ _ _ _ h1

set_option maxRecDepth 100000 in
set_option maxHeartbeats 4000000 in
theorem box_any (ts : List Ty) (ta : Option Addr) (tn tc : Nat) (htn : ts.length = tn) (hc : tn ≤ tc) (d : Nat) (t : Int) (a : Option Addr) (l : List Cl) (c : Nat) (w : World) (hC : Cs d w a l) (hT : Tab w ta ts) (hG : Gl w) :
    Calls Tryd.prog 7 #[.slice ta tn tc, .int .i64 t, .slice a l.length c] w (BoxPost w ts d t l) := by
  have K := fun u (hu : Ext [] w u) => pcheck_any ts ta tn tc htn hc d t a l _ c u (hC.keep0 hu) rfl (hT.keep0 hu) (hG.keep0 hu)
  have hb0 := heap_alloc_new w (.cells #[.int .u64 0, .string ⟨#[]⟩, .int .i64 0, .slice none 0 0] 28)
  have HR0 : Hid (Rc (w.alloc (.cells #[.int .u64 0, .string ⟨#[]⟩, .int .i64 0, .slice none 0 0] 28)) w.heap.size) := ⟨_, hb0, rfl⟩
  have HE0 : Hid (Ext [] w (w.alloc (.cells #[.int .u64 0, .string ⟨#[]⟩, .int .i64 0, .slice none 0 0] 28))) := Ext.alloc _ _ _
  clear hb0
  by_cases hv : vchk ts d t l = 0
  · obtain ⟨hbad, hok⟩ := vchk_zero hv
    obtain ⟨hS, h0, h1⟩ := bad_zero hbad
    obtain ⟨q, rfl⟩ : ∃ q : Nat, t = q := ⟨t.toNat, by omega⟩
    rw [hv] at K
    have hq1 : q < tn := by omega
    have hq2 : (q : Int) < tn := by omega
    obtain ⟨b, o, rfl, hat⟩ := hT.addr (by omega)
    obtain ⟨fa, fc, hty⟩ := hat q (by omega)
    have HTy : Hid (∀ u, Ext [] w u → TyAt u b (o + q * 5) (tyAt ts q) fa fc) := fun u hu => hty.keep0 hu
    have KB := fun u => opsBoxable_any (tyAt ts q) fa fc u
    have KS := fun u (hu : Ext [] w u) => psize_any d a l _ c u (hC.keep0 hu) rfl
    have KC := fun u (hu : Ext [] w u) => copied_any d a l _ c u (hC.keep0 hu) (okv_zb hok.2) rfl
    have hlen := hT.len
    have ew : wrap64 ((q : Int) + 1) = (q : Int) + 1 := by unfold wrap64; omega
    have hsz : siz l ≤ 257 := by unfold siz; omega
    unfold tyVal at KB
    clear hat hty
    by_cases hb : bxb (tyAt ts q).kind = false
    · have hE : boxE ts d q l = 3 := by unfold boxE; rw [if_neg (by simpa using hv), if_pos hb]
      rw [hb] at KB
      have HF := hid hE
      clear hE hv hbad hok hS hC hT hG KS KC hb
      go_enter Tryd.func7, Tryd.ntmps7
      go_upto_region 4 with (first | (go_at_call 18; refine (K _ HE0.out).mono ?_; clear K; rintro e w1 ⟨rfl, hE1⟩; have hR1 := HR0.out.keep hE1; have hE1' := HE0.out.trans hE1; obtain ⟨c0, c1, c2, c3, c4, _⟩ := HTy.out w1 hE1'; replace hE1' := hid hE1'; replace hE1 := hid hE1; replace hR1 := hid hR1) | fail "no arm")
      go_wp2_with (first | (go_at_call 19; refine (KB _).mono ?_; clear KB; rintro e w2 ⟨rfl, hE2⟩; have hR2 := hR1.out.keep hE2; obtain ⟨z0, y0⟩ := hR2.cell (i := 0) (by omega); obtain ⟨z1, y1⟩ := hR2.cell (i := 1) (by omega); obtain ⟨z2, y2⟩ := hR2.cell (i := 2) (by omega); obtain ⟨z3, y3⟩ := hR2.cell (i := 3) (by omega); have gf : ∀ i, w2.frozen? ⟨w.heap.size, i, none⟩ = false := fun i => hR2.frz i; replace hE2 := hid hE2; clear hR2) | fail "no arm")
      refine bodyPost_ret (v := .tuple #[zcV, .int .i64 3]) (by simp [results, Tryd.results7, go_sem, zcV, y0, y1, y2, y3]) rfl ⟨ext_res (hE1'.out.trans hE2.out) (Nat.le_refl _) _ _ _ _, .inl ⟨by rw [HF.out]; decide, by rw [HF.out]⟩⟩
    · have hb1 : bxb (tyAt ts q).kind = true := by simpa using hb
      rw [hb1] at KB
      have es : wrap64 (1 + (siz l : Int)) = 1 + (siz l : Int) := by unfold wrap64; omega
      by_cases hz : 256 < 1 + siz l
      · have hE : boxE ts d q l = 6 := by unfold boxE; rw [if_neg (by simpa using hv), if_neg hb, if_pos hz]
        have HF := hid hE
        have hz1 : (256 : Int) < 1 + (siz l : Int) := by omega
        clear hE hv hbad hok hS hC hT hG KC hb hz hb1
        generalize siz l = sl at *
        go_enter Tryd.func7, Tryd.ntmps7
        go_upto_region 4 with (first | (go_at_call 18; refine (K _ HE0.out).mono ?_; clear K; rintro e w1 ⟨rfl, hE1⟩; have hR1 := HR0.out.keep hE1; have hE1' := HE0.out.trans hE1; obtain ⟨c0, c1, c2, c3, c4, _⟩ := HTy.out w1 hE1'; replace hE1' := hid hE1'; replace hE1 := hid hE1; replace hR1 := hid hR1) | fail "no arm")
        go_wp2_with (first | (go_at_call 19; refine (KB _).mono ?_; clear KB; rintro e w2 ⟨rfl, hE2⟩; have hE2' := hid (hE1'.out.trans hE2); have hR2 := hid (hR1.out.keep hE2); clear hE2) | (go_at_call 20; refine (KS _ hE2'.out).mono ?_; clear KS; rintro e w3 ⟨rfl, hE3⟩; have hR3 := hR2.out.keep hE3; obtain ⟨z0, y0⟩ := hR3.cell (i := 0) (by omega); obtain ⟨z1, y1⟩ := hR3.cell (i := 1) (by omega); obtain ⟨z2, y2⟩ := hR3.cell (i := 2) (by omega); obtain ⟨z3, y3⟩ := hR3.cell (i := 3) (by omega); have gf : ∀ i, w3.frozen? ⟨w.heap.size, i, none⟩ = false := fun i => hR3.frz i; replace hE3 := hid hE3; clear hR3) | fail "no arm")
        refine bodyPost_ret (v := .tuple #[zcV, .int .i64 6]) (by simp [results, Tryd.results7, go_sem, zcV, y0, y1, y2, y3]) rfl ⟨ext_res (hE2'.out.trans hE3.out) (Nat.le_refl _) _ _ _ _, .inl ⟨by rw [HF.out]; decide, by rw [HF.out]⟩⟩
      · have hE : boxE ts d q l = 0 := by unfold boxE; rw [if_neg (by simpa using hv), if_neg hb, if_neg hz]
        have HF := hid hE
        have hz1 : ¬ (256 : Int) < 1 + (siz l : Int) := by omega
        have hz2 : 1 + (siz l : Int) ≤ 256 := by omega
        clear hE hv hbad hok hS hC hT hG hb hz hb1
        generalize siz l = sl at *
        generalize hln : l.length = ln at *
        go_enter Tryd.func7, Tryd.ntmps7
        go_upto_region 4 with (first | (go_at_call 18; refine (K _ HE0.out).mono ?_; clear K; rintro e w1 ⟨rfl, hE1⟩; have hR1 := HR0.out.keep hE1; have hE1' := HE0.out.trans hE1; obtain ⟨c0, c1, c2, c3, c4, _⟩ := HTy.out w1 hE1'; replace hE1' := hid hE1'; replace hE1 := hid hE1; replace hR1 := hid hR1) | fail "no arm")
        go_wp2_with (first | (go_at_call 19; refine (KB _).mono ?_; clear KB; rintro e w2 ⟨rfl, hE2⟩; have hE2' := hid (hE1'.out.trans hE2); have hR2 := hid (hR1.out.keep hE2); clear hE2) | (go_at_call 20; refine (KS _ hE2'.out).mono ?_; clear KS; rintro e w3 ⟨rfl, hE3⟩; have hE3' := hid (hE2'.out.trans hE3); have hR3 := hid (hR2.out.keep hE3); clear hE3) | (go_at_call 21; refine (KC _ hE3'.out).mono ?_; clear KC; rintro e w4 ⟨a1, c1, rfl, hac, hCo, hE4⟩; have hR4 := hR3.out.keep hE4; obtain ⟨z0, y0⟩ := hR4.cell (i := 0) (by omega); obtain ⟨z1, y1⟩ := hR4.cell (i := 1) (by omega); obtain ⟨z2, y2⟩ := hR4.cell (i := 2) (by omega); obtain ⟨z3, y3⟩ := hR4.cell (i := 3) (by omega); have gf : ∀ i, w4.frozen? ⟨w.heap.size, i, none⟩ = false := fun i => hR4.frz i; have hE4' := hid (hE3'.out.trans hE4); have hgs := Nat.lt_of_lt_of_le (lt_of_heap hR3.out.row.choose_spec.1) (Nat.le_refl w3.heap.size); replace hCo := hid hCo; replace hac := hid hac; replace hgs := hid hgs; clear hR4 hE4) | fail "no arm")
        refine bodyPost_ret (v := .tuple #[boV q a1 ln c1, .int .i64 0]) (by simp [results, Tryd.results7, go_sem, boV, y0, y1, y2, y3]) rfl ⟨ext_res hE4'.out (Nat.le_refl _) _ _ _ _, .inr ⟨HF.out, a1, c1, by rw [hln], by rw [hln]; exact hac.out, ?_⟩⟩
        exact (hCo.out.keep (ext_res1 _ _ _ _) (by simp; exact hgs.out)).imp (fun b _ hp => by have := hE3'.out.size; omega)
  · have hE : boxE ts d t l = vchk ts d t l := by unfold boxE; rw [if_pos hv]
    have HF := hid hE
    have HV := hid hv
    have hv1 : (vchk ts d t l != 0) = true := by simpa using hv
    clear hE hv hC hT hG
    generalize hvk : vchk ts d t l = vk at *
    go_enter Tryd.func7, Tryd.ntmps7
    go_wp2_with (first | (go_at_call 18; refine (K _ HE0.out).mono ?_; clear K; rintro e w1 ⟨rfl, hE1⟩; have hR1 := HR0.out.keep hE1; obtain ⟨z0, y0⟩ := hR1.cell (i := 0) (by omega); obtain ⟨z1, y1⟩ := hR1.cell (i := 1) (by omega); obtain ⟨z2, y2⟩ := hR1.cell (i := 2) (by omega); obtain ⟨z3, y3⟩ := hR1.cell (i := 3) (by omega); have gf : ∀ i, w1.frozen? ⟨w.heap.size, i, none⟩ = false := fun i => hR1.frz i; have hE1' := hid (HE0.out.trans hE1); clear hR1 hE1) | fail "no arm")
    refine bodyPost_ret (v := .tuple #[zcV, .int .i64 vk]) (by simp [results, Tryd.results7, go_sem, zcV, y0, y1, y2, y3]) rfl ⟨ext_res hE1'.out (Nat.le_refl _) _ _ _ _, .inl ⟨by rw [HF.out]; exact HV.out, by rw [HF.out]⟩⟩
end Go.Proofs.YtlnncapokdoilaaDoor
