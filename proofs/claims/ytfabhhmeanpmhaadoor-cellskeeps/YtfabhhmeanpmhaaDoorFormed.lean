/-
  Which types are formed well; no statement is proved here.
-/
import Derived.Test.YtfabhhmeanpmhaaDoorRest
namespace Go.Proofs.YtfabhhmeanpmhaaDoor
open Go.RowKit

theorem hid {p : Prop} (h : p) : Hid p := h

/-- A type in a block of its own. -/
structure Boxed (w : World) (b : Nat) (t : Ty) (fa : Option Addr) (fc : Nat) : Prop where
  c0 : w.cell? ⟨b, 0, none⟩ = some (.int .i64 t.kind)
  c1 : w.cell? ⟨b, 1, none⟩ = some (.int .i64 t.elem)
  c2 : w.cell? ⟨b, 2, none⟩ = some (.int .i64 t.key)
  c3 : w.cell? ⟨b, 3, none⟩ = some (.int .i64 t.len)
  c4 : w.cell? ⟨b, 4, none⟩ = some (.slice fa t.fields.length fc)
theorem Boxed.new (w : World) (t : Ty) (fa : Option Addr) (fc : Nat) : Boxed (w.alloc (.cells #[.int .i64 t.kind, .int .i64 t.elem, .int .i64 t.key, .int .i64 t.len, .slice fa t.fields.length fc] 45)) w.heap.size t fa fc := by
  constructor <;> (rw [cell_of_row _ _ _ _ _ _ (heap_alloc_new w _)]; rfl)
theorem Boxed.keep0 {w w' : World} {b : Nat} {t : Ty} {fa : Option Addr} {fc : Nat} (h : Boxed w b t fa fc) (e : Ext [] w w') : Boxed w' b t fa fc :=
  ⟨e.cell h.c0 (by simp), e.cell h.c1 (by simp), e.cell h.c2 (by simp), e.cell h.c3 (by simp), e.cell h.c4 (by simp)⟩

/-- What a type of kind .. must name, its own place being i. -/
def Names (ts : List Ty) (i : Nat) (t : Ty) : Prop :=
  (t.kind = 5 → Within ts ts.length t.elem) ∧
  (t.kind = 6 → Within ts ts.length t.key ∧ Within ts ts.length t.elem) ∧
  (t.kind = 8 → 1 ≤ t.fields.length ∧ t.fields.length ≤ 16 ∧ ∀ f ∈ t.fields, Within ts i f) ∧
  (t.kind = 9 → 1 ≤ t.len ∧ t.len ≤ 16 ∧ Within ts i t.elem) ∧
  (t.kind = 10 → 0 ≤ t.elem ∧ t.elem < ts.length ∧ (tyAt ts t.elem).kind = 6)

set_option maxRecDepth 100000 in
set_option maxHeartbeats 1000000 in
theorem formed_any (a : Option Addr) (ts : List Ty) (n c i : Nat) (w : World) (hT : Tab w a ts) (hn : ts.length = n) (hc : n ≤ c) (hi : i < n) (hG : Gl w) :
    Calls Tryd.prog 77 #[.slice a n c, .int .i64 i] w (TestPost w (Formed ts i)) := by
  obtain ⟨b, o, rfl, hall⟩ := hT.addr (by omega)
  obtain ⟨fa, fc, h0, h1, h2, h3, h4, hF⟩ := hall i (by omega)
  have HT : Hid (Tab w (some ⟨b, o, none⟩) ts) := hT
  have HN : Hid (ts.length = n) := hn
  have HG : Hid (Gl w) := hG
  have hl := hT.len
  have hic : i ≤ c := by omega
  rw [hn] at hl
  have HP : Hid (Formed ts i ↔ Clean (tyAt ts i) ∧ Names ts i (tyAt ts i)) := Iff.rfl
  generalize tyAt ts i = t at *
  have HF : Hid (FOk w t fa) := hF
  clear hT hF hn hG hall
  go_enter Tryd.func77, Tryd.ntmps77
  go_wp2
  go_region_held3 (fun w' => w'.cell? ⟨b, o + i * 5, none⟩ = some (.int .i64 t.kind) ∧ w'.cell? ⟨b, o + i * 5 + 1, none⟩ = some (.int .i64 t.elem) ∧ w'.cell? ⟨b, o + i * 5 + 2, none⟩ = some (.int .i64 t.key) ∧ w'.cell? ⟨b, o + i * 5 + 3, none⟩ = some (.int .i64 t.len) ∧ w'.cell? ⟨b, o + i * 5 + 4, none⟩ = some (.slice fa t.fields.length fc))
    (go_keep) (fail)
  rename_i hHeld
  clear hHeld h0 h1 h2 h3 h4
  have hE1 : Ext [] w (w.alloc (.cells #[.int .i64 t.kind, .int .i64 t.elem, .int .i64 t.key, .int .i64 t.len, .slice fa t.fields.length fc] 45)).drew := (Ext.alloc _ _ _).trans (Ext.drew _ _)
  have hB1 := (Boxed.new w t fa fc).keep0 (Ext.drew [] _)
  generalize (w.alloc (.cells #[.int .i64 t.kind, .int .i64 t.elem, .int .i64 t.key, .int .i64 t.len, .slice fa t.fields.length fc] 45)).drew = w1 at *
  have HE1 : Hid (Ext [] w w1) := hE1
  have HB1 : Hid (Boxed w1 w.heap.size t fa fc) := hB1
  have hT1 := HT.out.keep0 hE1
  have hF1 := HF.out.keep0 hE1
  have hG1 := HG.out.keep0 hE1
  obtain ⟨c0, c1, c2, c3, c4⟩ := hB1
  clear hE1
  by_cases hk : 1 ≤ t.kind ∧ t.kind ≤ 10
  · have K1 := isKind_yes t.kind w1 hk
    have K2 := rest_any t fa fc w1 hk hG1
    have HK : Hid (1 ≤ t.kind ∧ t.kind ≤ 10) := hk
    unfold tyVal at K2
    clear hk
    have HT1 : Hid (Tab w1 (some ⟨b, o, none⟩) ts) := hT1
    have HF1 : Hid (FOk w1 t fa) := hF1
    clear hT1 hF1 hG1
    go_wp2_with (go_at_call 87; refine met K1 ?_)
    refine K2.mono ?_
    clear K1 K2
    rintro e w2 ⟨r, rfl, hE2, hr⟩
    have hB2 := HB1.out.keep0 hE2
    have hT2 := HT1.out.keep0 hE2
    have hF2 := HF1.out.keep0 hE2
    have HE2 : Hid (Ext [] w w2) := HE1.out.trans hE2
    clear c0 c1 c2 c3 c4
    obtain ⟨c0, c1, c2, c3, c4⟩ := hB2
    cases r with
    | false =>
      have HC : Hid (¬ Formed ts i) := by
        intro h
        have := hr.2 ((clean_iff t).1 (HP.out.1 h).1).2
        cases this
      clear hr hT2 hF2 hE2
      go_wp2_with fail
      go_ret
      exact ⟨false, rfl, HE2.out, by simp, fun h => absurd h HC.out⟩
    | true =>
      have HC : Hid (Formed ts i ↔ Names ts i t) := by
        refine HP.out.trans ⟨fun h => h.2, fun h => ⟨(clean_iff t).2 ⟨HK.out, hr.1 rfl⟩, h⟩⟩
      clear hr hE2
      have HT2 : Hid (Tab w2 (some ⟨b, o, none⟩) ts) := hT2
      have HF2 : Hid (FOk w2 t fa) := hF2
      clear hT2 hF2
      by_cases k5 : t.kind = 5
      · have HD : Hid (Formed ts i ↔ Within ts n t.elem) := by
          refine HC.out.trans ?_
          rw [← HN.out]
          unfold Names
          simp [k5]
        rw [k5] at c0
        clear k5
        by_cases hw : Within ts n t.elem
        · have K := holdable_yes _ ts n c _ w2 HT2.out (by rw [HN.out]; exact Nat.le_refl _) hw
          have HW := hid hw
          clear hw
          go_wp2_with (go_at_call 89; refine met K ?_)
          go_ret
          exact ⟨true, rfl, HE2.out, fun _ => HD.out.2 HW.out, fun _ => rfl⟩
        · have K := holdable_no _ ts n c _ w2 HT2.out (by rw [HN.out]; exact Nat.le_refl _) hw
          have HW := hid hw
          clear hw
          go_wp2_with (go_at_call 89; refine met K ?_)
          go_ret
          exact ⟨false, rfl, HE2.out, by simp, fun h => absurd (HD.out.1 h) HW.out⟩
      by_cases k6 : t.kind = 6
      · have HD : Hid (Formed ts i ↔ Within ts n t.key ∧ Within ts n t.elem) := by
          refine HC.out.trans ?_
          rw [← HN.out]
          unfold Names
          simp [k6]
        rw [k6] at c0
        clear k6 k5
        by_cases hw : Within ts n t.key
        · have K := holdable_yes _ ts n c _ w2 HT2.out (by rw [HN.out]; exact Nat.le_refl _) hw
          have HW := hid hw
          clear hw
          by_cases hv : Within ts n t.elem
          · have K' := holdable_yes _ ts n c _ w2 HT2.out (by rw [HN.out]; exact Nat.le_refl _) hv
            have HV := hid hv
            clear hv
            go_wp2_with fail
            refine met K ?_
            go_wp2_with fail
            refine met K' ?_
            go_wp2_with fail
            go_ret
            exact ⟨true, rfl, HE2.out, fun _ => HD.out.2 ⟨HW.out, HV.out⟩, fun _ => rfl⟩
          · have K' := holdable_no _ ts n c _ w2 HT2.out (by rw [HN.out]; exact Nat.le_refl _) hv
            have HV := hid hv
            clear hv
            go_wp2_with fail
            refine met K ?_
            go_wp2_with fail
            refine met K' ?_
            go_wp2_with fail
            go_ret
            exact ⟨false, rfl, HE2.out, by simp, fun h => absurd (HD.out.1 h).2 HV.out⟩
        · have K := holdable_no _ ts n c _ w2 HT2.out (by rw [HN.out]; exact Nat.le_refl _) hw
          have HW := hid hw
          clear hw
          go_wp2_with (go_at_call 89; refine met K ?_)
          go_ret
          exact ⟨false, rfl, HE2.out, by simp, fun h => absurd (HD.out.1 h).1 HW.out⟩
      by_cases k8 : t.kind = 8
      · have HD : Hid (Formed ts i ↔ 1 ≤ t.fields.length ∧ t.fields.length ≤ 16 ∧ ∀ f ∈ t.fields, Within ts i f) := by
          refine HC.out.trans ?_
          unfold Names
          simp [k8]
        rw [k8] at c0
        clear k8 k5 k6
        by_cases hw : 1 ≤ (t.fields.length : Int) ∧ (t.fields.length : Int) ≤ 16
        · have K := isCount_yes t.fields.length w2 hw
          have K' := allHold_any (some ⟨b, o, none⟩) fa ts t.fields i c t.fields.length fc w2 HT2.out (by rw [HN.out]; omega) HF2.out.1 rfl HF2.out.2
          have HW := hid hw
          clear hw
          go_wp2_with (go_at_call 90; refine met K ?_)
          refine K'.mono ?_
          rintro e w3 ⟨r, rfl, rfl, hr⟩
          have HR := hid hr
          clear hr
          go_wp2_with fail
          go_ret
          refine ⟨r, rfl, HE2.out, fun h => HD.out.2 ⟨by have := HW.out; omega, by have := HW.out; omega, HR.out.1 h⟩, fun h => HR.out.2 (HD.out.1 h).2.2⟩
        · have K := isCount_no t.fields.length w2 hw
          have HW := hid hw
          clear hw
          go_wp2_with (go_at_call 90; refine met K ?_)
          go_ret
          exact ⟨false, rfl, HE2.out, by simp, fun h => absurd ⟨by have := (HD.out.1 h).1; omega, by have := (HD.out.1 h).2.1; omega⟩ HW.out⟩
      by_cases k9 : t.kind = 9
      · have HD : Hid (Formed ts i ↔ 1 ≤ t.len ∧ t.len ≤ 16 ∧ Within ts i t.elem) := by
          refine HC.out.trans ?_
          unfold Names
          simp [k9]
        rw [k9] at c0
        clear k8 k5 k6 k9
        by_cases hw : 1 ≤ t.len ∧ t.len ≤ 16
        · have K := isCount_yes t.len w2 hw
          have HW := hid hw
          clear hw
          by_cases hv : Within ts i t.elem
          · have K' := holdable_yes (some ⟨b, o, none⟩) ts i c _ w2 HT2.out (by rw [HN.out]; omega) hv
            have HV := hid hv
            clear hv
            go_wp2_with (first | (go_at_call 90; refine met K ?_) | (go_at_call 89; refine met K' ?_))
            go_ret
            exact ⟨true, rfl, HE2.out, fun _ => HD.out.2 ⟨HW.out.1, HW.out.2, HV.out⟩, fun _ => rfl⟩
          · have K' := holdable_no (some ⟨b, o, none⟩) ts i c _ w2 HT2.out (by rw [HN.out]; omega) hv
            have HV := hid hv
            clear hv
            go_wp2_with (first | (go_at_call 90; refine met K ?_) | (go_at_call 89; refine met K' ?_))
            go_ret
            exact ⟨false, rfl, HE2.out, by simp, fun h => absurd (HD.out.1 h).2.2 HV.out⟩
        · have K := isCount_no t.len w2 hw
          have HW := hid hw
          clear hw
          go_wp2_with (go_at_call 90; refine met K ?_)
          go_ret
          exact ⟨false, rfl, HE2.out, by simp, fun h => absurd ⟨(HD.out.1 h).1, (HD.out.1 h).2.1⟩ HW.out⟩
      by_cases k10 : t.kind = 10
      · have HD : Hid (Formed ts i ↔ 0 ≤ t.elem ∧ t.elem < n ∧ (tyAt ts t.elem).kind = 6) := by
          refine HC.out.trans ?_
          rw [← HN.out]
          unfold Names
          simp [k10]
        rw [k10] at c0
        clear k8 k5 k6 k9 k10
        by_cases hw : 0 ≤ t.elem ∧ t.elem < n
        · have K := inside_yes (some ⟨b, o, none⟩) n c t.elem w2 hw
          obtain ⟨q, hq⟩ : ∃ q : Nat, t.elem = q := ⟨t.elem.toNat, by omega⟩
          obtain ⟨b', o', he, hcq⟩ := HT2.out.kind (p := q) (by have := HN.out; omega)
          cases he
          have HW := hid hw
          have HQ := hid hq
          rw [hq] at c1 K hw
          obtain ⟨w1', w2'⟩ := hw
          clear hq w1'
          by_cases hv : (tyAt ts q).kind = 6
          · rw [hv] at hcq
            have HV := hid hv
            clear hv
            go_wp2_with (go_at_call 68; refine met K ?_)
            go_ret
            exact ⟨true, rfl, HE2.out, fun _ => HD.out.2 ⟨HW.out.1, HW.out.2, by rw [HQ.out]; exact HV.out⟩, fun _ => rfl⟩
          · have hb : ((tyAt ts q).kind == 6) = false := by simpa using hv
            have HV := hid hv
            clear hv
            go_wp2_with (go_at_call 68; refine met K ?_)
            go_ret
            exact ⟨false, rfl, HE2.out, by simp, fun h => absurd (by rw [← HQ.out]; exact (HD.out.1 h).2.2) HV.out⟩
        · have K := inside_no (some ⟨b, o, none⟩) n c t.elem w2 hw
          have HW := hid hw
          clear hw
          go_wp2_with (go_at_call 68; refine met K ?_)
          go_ret
          exact ⟨false, rfl, HE2.out, by simp, fun h => absurd ⟨(HD.out.1 h).1, (HD.out.1 h).2.1⟩ HW.out⟩
      · have HD : Hid (Formed ts i) := by
          refine HC.out.2 ?_
          unfold Names
          simp [k5, k6, k8, k9, k10]
        have b5 : (t.kind == 5) = false := by simpa using k5
        have b6 : (t.kind == 6) = false := by simpa using k6
        have b8 : (t.kind == 8) = false := by simpa using k8
        have b9 : (t.kind == 9) = false := by simpa using k9
        have b10 : (t.kind == 10) = false := by simpa using k10
        clear k5 k6 k8 k9 k10
        go_wp2_with fail
        go_ret
        exact ⟨true, rfl, HE2.out, fun _ => HD.out, fun _ => rfl⟩
  · have K1 := isKind_no t.kind w1 hk
    have HC : Hid (¬ Formed ts i) := fun h => hk ((clean_iff t).1 (HP.out.1 h).1).1
    clear hk hT1 hF1 hG1
    go_wp2_with (go_at_call 87; refine met K1 ?_)
    go_ret
    exact ⟨false, rfl, HE1.out, by simp, fun h => absurd h HC.out⟩

end Go.Proofs.YtfabhhmeanpmhaaDoor
