/-
  TRest, TFormed, TMeas, TKeys, TArr: joined by program; no statement is proved here.
-/
import Derived.Test.YtbpjmcjjambdkaaGreatDoorZAA
/-
  Which types name no more than their kind has; no statement is proved here.
-/
namespace Go.Proofs.YtbpjmcjjambdkaaGreatDoor.Ty
open Go.RowKit

/-- The single number of a part. -/
def num (t : Ty) (p : Nat) : Int := if p = 0 then t.key else if p = 1 then t.elem else t.len

/-- None of the parts that its kind has not. -/
def Rest (t : Ty) : Prop := (has t.kind 0 = true ∨ t.key = 0) ∧ (has t.kind 1 = true ∨ t.elem = 0) ∧ (has t.kind 2 = true ∨ t.len = 0) ∧ (has t.kind 3 = true ∨ t.fields.length = 0)

theorem clean_iff (t : Ty) : Clean t ↔ (1 ≤ t.kind ∧ t.kind ≤ 10) ∧ Rest t := by
  have h0 : has t.kind 0 = true ↔ t.kind = 6 := by simp [has]
  have h1 : has t.kind 1 = true ↔ (t.kind = 5 ∨ t.kind = 6 ∨ t.kind = 9 ∨ t.kind = 10) := by simp [has, or_assoc]
  have h2 : has t.kind 2 = true ↔ t.kind = 9 := by simp [has]
  have h3 : has t.kind 3 = true ↔ t.kind = 8 := by simp [has]
  unfold Clean Rest
  rw [h0, h1, h2, h3, List.length_eq_zero_iff]
  constructor
  · rintro ⟨a, b, c, d, e, f⟩
    exact ⟨⟨a, b⟩, d, c, e, f⟩
  · rintro ⟨⟨a, b⟩, d, c, e, f⟩
    exact ⟨a, b, c, d, e, f⟩

def TestPost (w : World) (p : Prop) (e : Ending) (w' : World) : Prop := ∃ r : Bool, e = .returned (.bool r) ∧ Ext [] w w' ∧ (r = true ↔ p)

theorem cells_slot (w : World) (t : Ty) (fa : Option Addr) (fc p : Nat) : (w.alloc (.cells #[.int .i64 t.kind, .int .i64 t.elem, .int .i64 t.key, .int .i64 t.len, .slice fa t.fields.length fc] 56)).cell? ⟨w.heap.size, slot p, none⟩ = some (.int .i64 (num t p)) := by
  rw [cell_of_row _ _ _ _ _ _ (heap_alloc_new w _)]
  unfold slot num
  by_cases h0 : p = 0
  · simp [h0]
  · by_cases h1 : p = 1
    · simp [h1]
    · simp [h0, h1]

theorem rest_any (t : Ty) (fa : Option Addr) (fc : Nat) (w : World) (h : 1 ≤ t.kind ∧ t.kind ≤ 10) (hG : Gl w) : Calls Tryz.prog 202 #[tyVal t fa fc] w (TestPost w (Rest t)) := by
  unfold tyVal
  have hcell := cells_slot w t fa fc
  have HG : Hid (Gl (w.alloc (.cells #[.int .i64 t.kind, .int .i64 t.elem, .int .i64 t.key, .int .i64 t.len, .slice fa t.fields.length fc] 56))) := hG.keep0 (Ext.alloc _ _ _)
  have HC : Hid (∀ p, (w.alloc (.cells #[.int .i64 t.kind, .int .i64 t.elem, .int .i64 t.key, .int .i64 t.len, .slice fa t.fields.length fc] 56)).cell? ⟨w.heap.size, slot p, none⟩ = some (.int .i64 (num t p))) := hcell
  have HK : Hid (1 ≤ t.kind ∧ t.kind ≤ 10) := h
  clear hG hcell h
  go_enter Tryz.func202, Tryz.ntmps202
  go_wp2
  go_loop [4] (fun q => ∃ k : Nat, q = .int .i64 k ∧ k ≤ 3 ∧ ∀ j, j < k → has t.kind j = true ∨ num t j = 0) (fun q => (3 - (intOf q)).toNat)
  case atStart => exact ⟨0, rfl, Nat.zero_le _, fun j hj => by omega⟩
  case round =>
    obtain ⟨k, rfl, hk, hall⟩ := hrel
    have HA : Hid (∀ j, j < k → has t.kind j = true ∨ num t j = 0) := hall
    clear hall
    by_cases hk3 : k < 3
    · have K1 := hasPart_any t.kind k _ HK.out (by omega) HG.out
      have K2 := numberOf_any w.heap.size k (w.alloc (.cells #[.int .i64 t.kind, .int .i64 t.elem, .int .i64 t.key, .int .i64 t.len, .slice fa t.fields.length fc] 56)) (by omega)
      have hc := HC.out k
      by_cases hh : has t.kind k = true
      · rw [hh] at K1
        have HH : Hid (has t.kind k = true) := hh
        clear hh
        go_wp2_with (go_at_call 212; refine met K1 ?_)
        go_round
        case rel => exact ⟨k + 1, by go_num, by omega, fun j hj => by
          rcases (by omega : j < k ∨ j = k) with h | rfl
          · exact HA.out j h
          · exact .inl HH.out⟩
        case measure => simp [intOf]; omega
      · have hh : has t.kind k = false := by simpa using hh
        rw [hh] at K1
        have HH : Hid (has t.kind k = false) := hh
        clear hh
        by_cases hz : num t k = 0
        · rw [hz] at hc
          have HZ : Hid (num t k = 0) := hz
          clear hz
          go_wp2_with (first | (go_at_call 212; refine met K1 ?_) | (go_at_call 213; refine met K2 ?_))
          go_round
          case rel => exact ⟨k + 1, by go_num, by omega, fun j hj => by
            rcases (by omega : j < k ∨ j = k) with h | rfl
            · exact HA.out j h
            · exact .inr HZ.out⟩
          case measure => simp [intOf]; omega
        · have hb : (num t k != 0) = true := by simpa using hz
          have HZ : Hid (¬ num t k = 0) := hz
          clear hz
          go_wp2_with (first | (go_at_call 212; refine met K1 ?_) | (go_at_call 213; refine met K2 ?_))
          go_ret
          refine ⟨false, rfl, Ext.alloc _ _ _, by simp, fun hr => ?_⟩
          obtain ⟨r0, r1, r2, _⟩ := hr
          have h1 := HH.out
          have h2 := HZ.out
          rcases (by omega : k = 0 ∨ k = 1 ∨ k = 2) with rfl | rfl | rfl
          · rcases r0 with r | r
            · rw [h1] at r; cases r
            · exact absurd r h2
          · rcases r1 with r | r
            · rw [h1] at r; cases r
            · exact absurd r h2
          · rcases r2 with r | r
            · rw [h1] at r; cases r
            · exact absurd r h2
    · have K1 := hasPart_any t.kind 3 _ HK.out (by omega) HG.out
      have HR : Hid ((has t.kind 0 = true ∨ t.key = 0) ∧ (has t.kind 1 = true ∨ t.elem = 0) ∧ (has t.kind 2 = true ∨ t.len = 0)) := ⟨HA.out 0 (by omega), HA.out 1 (by omega), HA.out 2 (by omega)⟩
      by_cases hh : has t.kind 3 = true
      · rw [hh] at K1
        have HH : Hid (has t.kind 3 = true) := hh
        clear hh
        go_wp2_with (go_at_call 212; refine met K1 ?_)
        go_ret
        exact ⟨true, rfl, Ext.alloc _ _ _, fun _ => ⟨HR.out.1, HR.out.2.1, HR.out.2.2, .inl HH.out⟩, fun _ => rfl⟩
      · have hh : has t.kind 3 = false := by simpa using hh
        rw [hh] at K1
        have HH : Hid (has t.kind 3 = false) := hh
        clear hh
        go_wp2_with (go_at_call 212; refine met K1 ?_)
        go_ret
        refine ⟨_, rfl, Ext.alloc _ _ _, fun hr => ⟨HR.out.1, HR.out.2.1, HR.out.2.2, .inr ?_⟩, fun hr => ?_⟩
        · simpa using hr
        · rcases hr.2.2.2 with r | r
          · rw [HH.out] at r; cases r
          · simpa using r

end Go.Proofs.YtbpjmcjjambdkaaGreatDoor.Ty

/-
  Which types are formed well; no statement is proved here.
-/
namespace Go.Proofs.YtbpjmcjjambdkaaGreatDoor.Ty
open Go.RowKit

theorem hid {p : Prop} (h : p) : Hid p := h

/-- A type in a block of its own. -/
structure Boxed (w : World) (b : Nat) (t : Ty) (fa : Option Addr) (fc : Nat) : Prop where
  c0 : w.cell? ⟨b, 0, none⟩ = some (.int .i64 t.kind)
  c1 : w.cell? ⟨b, 1, none⟩ = some (.int .i64 t.elem)
  c2 : w.cell? ⟨b, 2, none⟩ = some (.int .i64 t.key)
  c3 : w.cell? ⟨b, 3, none⟩ = some (.int .i64 t.len)
  c4 : w.cell? ⟨b, 4, none⟩ = some (.slice fa t.fields.length fc)
theorem Boxed.new (w : World) (t : Ty) (fa : Option Addr) (fc : Nat) : Boxed (w.alloc (.cells #[.int .i64 t.kind, .int .i64 t.elem, .int .i64 t.key, .int .i64 t.len, .slice fa t.fields.length fc] 56)) w.heap.size t fa fc := by
  constructor <;> (rw [cell_of_row _ _ _ _ _ _ (heap_alloc_new w _)]; rfl)
theorem Boxed.keep0 {w w' : World} {b : Nat} {t : Ty} {fa : Option Addr} {fc : Nat} (h : Boxed w b t fa fc) (e : Ext [] w w') : Boxed w' b t fa fc :=
  ⟨e.cell h.c0 (by simp), e.cell h.c1 (by simp), e.cell h.c2 (by simp), e.cell h.c3 (by simp), e.cell h.c4 (by simp)⟩

/-- What a type of kind .. must name, its own place being i. -/
def Names (ts : List Ty) (i : Nat) (t : Ty) : Prop :=
  (t.kind = 5 → Within ts ts.length t.elem) ∧
  (t.kind = 6 → Within ts ts.length t.key ∧ Within ts ts.length t.elem) ∧
  (t.kind = 8 → 1 ≤ t.fields.length ∧ t.fields.length ≤ 16 ∧ ∀ f ∈ t.fields, Within ts i f) ∧
  (t.kind = 9 → 1 ≤ t.len ∧ t.len ≤ 16 ∧ Within ts i t.elem) ∧
  (t.kind = 10 → 0 ≤ t.elem ∧ t.elem < ts.length ∧ (tyAt ts t.elem).kind = 6)

set_option maxRecDepth 100000 in
set_option maxHeartbeats 1000000 in
theorem formed_any (a : Option Addr) (ts : List Ty) (n c i : Nat) (w : World) (hT : Tab w a ts) (hn : ts.length = n) (hc : n ≤ c) (hi : i < n) (hG : Gl w) :
    Calls Tryz.prog 182 #[.slice a n c, .int .i64 i] w (TestPost w (Formed ts i)) := by
  obtain ⟨b, o, rfl, hall⟩ := hT.addr (by omega)
  obtain ⟨fa, fc, h0, h1, h2, h3, h4, hF⟩ := hall i (by omega)
  have HT : Hid (Tab w (some ⟨b, o, none⟩) ts) := hT
  have HN : Hid (ts.length = n) := hn
  have HG : Hid (Gl w) := hG
  have hl := hT.len
  have hic : i ≤ c := by omega
  rw [hn] at hl
  have HP : Hid (Formed ts i ↔ Clean (tyAt ts i) ∧ Names ts i (tyAt ts i)) := Iff.rfl
  generalize tyAt ts i = t at *
  have HF : Hid (FOk w t fa) := hF
  clear hT hF hn hG hall
  go_enter Tryz.func182, Tryz.ntmps182
  go_wp2
  go_region_held3 (fun w' => w'.cell? ⟨b, o + i * 5, none⟩ = some (.int .i64 t.kind) ∧ w'.cell? ⟨b, o + i * 5 + 1, none⟩ = some (.int .i64 t.elem) ∧ w'.cell? ⟨b, o + i * 5 + 2, none⟩ = some (.int .i64 t.key) ∧ w'.cell? ⟨b, o + i * 5 + 3, none⟩ = some (.int .i64 t.len) ∧ w'.cell? ⟨b, o + i * 5 + 4, none⟩ = some (.slice fa t.fields.length fc))
    (go_keep) (fail)
  rename_i hHeld
  clear hHeld h0 h1 h2 h3 h4
  have hE1 : Ext [] w (w.alloc (.cells #[.int .i64 t.kind, .int .i64 t.elem, .int .i64 t.key, .int .i64 t.len, .slice fa t.fields.length fc] 56)).drew := (Ext.alloc _ _ _).trans (Ext.drew _ _)
  have hB1 := (Boxed.new w t fa fc).keep0 (Ext.drew [] _)
  generalize (w.alloc (.cells #[.int .i64 t.kind, .int .i64 t.elem, .int .i64 t.key, .int .i64 t.len, .slice fa t.fields.length fc] 56)).drew = w1 at *
  have HE1 : Hid (Ext [] w w1) := hE1
  have HB1 : Hid (Boxed w1 w.heap.size t fa fc) := hB1
  have hT1 := HT.out.keep0 hE1
  have hF1 := HF.out.keep0 hE1
  have hG1 := HG.out.keep0 hE1
  obtain ⟨c0, c1, c2, c3, c4⟩ := hB1
  clear hE1
  by_cases hk : 1 ≤ t.kind ∧ t.kind ≤ 10
  · have K1 := isKind_yes t.kind w1 hk
    have K2 := rest_any t fa fc w1 hk hG1
    have HK : Hid (1 ≤ t.kind ∧ t.kind ≤ 10) := hk
    unfold tyVal at K2
    clear hk
    have HT1 : Hid (Tab w1 (some ⟨b, o, none⟩) ts) := hT1
    have HF1 : Hid (FOk w1 t fa) := hF1
    clear hT1 hF1 hG1
    go_wp2_with (go_at_call 201; refine met K1 ?_)
    refine K2.mono ?_
    clear K1 K2
    rintro e w2 ⟨r, rfl, hE2, hr⟩
    have hB2 := HB1.out.keep0 hE2
    have hT2 := HT1.out.keep0 hE2
    have hF2 := HF1.out.keep0 hE2
    have HE2 : Hid (Ext [] w w2) := HE1.out.trans hE2
    clear c0 c1 c2 c3 c4
    obtain ⟨c0, c1, c2, c3, c4⟩ := hB2
    cases r with
    | false =>
      have HC : Hid (¬ Formed ts i) := by
        intro h
        have := hr.2 ((clean_iff t).1 (HP.out.1 h).1).2
        cases this
      clear hr hT2 hF2 hE2
      go_wp2_with fail
      go_ret
      exact ⟨false, rfl, HE2.out, by simp, fun h => absurd h HC.out⟩
    | true =>
      have HC : Hid (Formed ts i ↔ Names ts i t) := by
        refine HP.out.trans ⟨fun h => h.2, fun h => ⟨(clean_iff t).2 ⟨HK.out, hr.1 rfl⟩, h⟩⟩
      clear hr hE2
      have HT2 : Hid (Tab w2 (some ⟨b, o, none⟩) ts) := hT2
      have HF2 : Hid (FOk w2 t fa) := hF2
      clear hT2 hF2
      by_cases k5 : t.kind = 5
      · have HD : Hid (Formed ts i ↔ Within ts n t.elem) := by
          refine HC.out.trans ?_
          rw [← HN.out]
          unfold Names
          simp [k5]
        rw [k5] at c0
        clear k5
        by_cases hw : Within ts n t.elem
        · have K := holdable_yes _ ts n c _ w2 HT2.out (by rw [HN.out]; exact Nat.le_refl _) hw
          have HW := hid hw
          clear hw
          go_wp2_with (go_at_call 203; refine met K ?_)
          go_ret
          exact ⟨true, rfl, HE2.out, fun _ => HD.out.2 HW.out, fun _ => rfl⟩
        · have K := holdable_no _ ts n c _ w2 HT2.out (by rw [HN.out]; exact Nat.le_refl _) hw
          have HW := hid hw
          clear hw
          go_wp2_with (go_at_call 203; refine met K ?_)
          go_ret
          exact ⟨false, rfl, HE2.out, by simp, fun h => absurd (HD.out.1 h) HW.out⟩
      by_cases k6 : t.kind = 6
      · have HD : Hid (Formed ts i ↔ Within ts n t.key ∧ Within ts n t.elem) := by
          refine HC.out.trans ?_
          rw [← HN.out]
          unfold Names
          simp [k6]
        rw [k6] at c0
        clear k6 k5
        by_cases hw : Within ts n t.key
        · have K := holdable_yes _ ts n c _ w2 HT2.out (by rw [HN.out]; exact Nat.le_refl _) hw
          have HW := hid hw
          clear hw
          by_cases hv : Within ts n t.elem
          · have K' := holdable_yes _ ts n c _ w2 HT2.out (by rw [HN.out]; exact Nat.le_refl _) hv
            have HV := hid hv
            clear hv
            go_wp2_with fail
            refine met K ?_
            go_wp2_with fail
            refine met K' ?_
            go_wp2_with fail
            go_ret
            exact ⟨true, rfl, HE2.out, fun _ => HD.out.2 ⟨HW.out, HV.out⟩, fun _ => rfl⟩
          · have K' := holdable_no _ ts n c _ w2 HT2.out (by rw [HN.out]; exact Nat.le_refl _) hv
            have HV := hid hv
            clear hv
            go_wp2_with fail
            refine met K ?_
            go_wp2_with fail
            refine met K' ?_
            go_wp2_with fail
            go_ret
            exact ⟨false, rfl, HE2.out, by simp, fun h => absurd (HD.out.1 h).2 HV.out⟩
        · have K := holdable_no _ ts n c _ w2 HT2.out (by rw [HN.out]; exact Nat.le_refl _) hw
          have HW := hid hw
          clear hw
          go_wp2_with (go_at_call 203; refine met K ?_)
          go_ret
          exact ⟨false, rfl, HE2.out, by simp, fun h => absurd (HD.out.1 h).1 HW.out⟩
      by_cases k8 : t.kind = 8
      · have HD : Hid (Formed ts i ↔ 1 ≤ t.fields.length ∧ t.fields.length ≤ 16 ∧ ∀ f ∈ t.fields, Within ts i f) := by
          refine HC.out.trans ?_
          unfold Names
          simp [k8]
        rw [k8] at c0
        clear k8 k5 k6
        by_cases hw : 1 ≤ (t.fields.length : Int) ∧ (t.fields.length : Int) ≤ 16
        · have K := isCount_yes t.fields.length w2 hw
          have K' := allHold_any (some ⟨b, o, none⟩) fa ts t.fields i c t.fields.length fc w2 HT2.out (by rw [HN.out]; omega) HF2.out.1 rfl HF2.out.2
          have HW := hid hw
          clear hw
          go_wp2_with (go_at_call 204; refine met K ?_)
          refine K'.mono ?_
          rintro e w3 ⟨r, rfl, rfl, hr⟩
          have HR := hid hr
          clear hr
          go_wp2_with fail
          go_ret
          refine ⟨r, rfl, HE2.out, fun h => HD.out.2 ⟨by have := HW.out; omega, by have := HW.out; omega, HR.out.1 h⟩, fun h => HR.out.2 (HD.out.1 h).2.2⟩
        · have K := isCount_no t.fields.length w2 hw
          have HW := hid hw
          clear hw
          go_wp2_with (go_at_call 204; refine met K ?_)
          go_ret
          exact ⟨false, rfl, HE2.out, by simp, fun h => absurd ⟨by have := (HD.out.1 h).1; omega, by have := (HD.out.1 h).2.1; omega⟩ HW.out⟩
      by_cases k9 : t.kind = 9
      · have HD : Hid (Formed ts i ↔ 1 ≤ t.len ∧ t.len ≤ 16 ∧ Within ts i t.elem) := by
          refine HC.out.trans ?_
          unfold Names
          simp [k9]
        rw [k9] at c0
        clear k8 k5 k6 k9
        by_cases hw : 1 ≤ t.len ∧ t.len ≤ 16
        · have K := isCount_yes t.len w2 hw
          have HW := hid hw
          clear hw
          by_cases hv : Within ts i t.elem
          · have K' := holdable_yes (some ⟨b, o, none⟩) ts i c _ w2 HT2.out (by rw [HN.out]; omega) hv
            have HV := hid hv
            clear hv
            go_wp2_with (first | (go_at_call 204; refine met K ?_) | (go_at_call 203; refine met K' ?_))
            go_ret
            exact ⟨true, rfl, HE2.out, fun _ => HD.out.2 ⟨HW.out.1, HW.out.2, HV.out⟩, fun _ => rfl⟩
          · have K' := holdable_no (some ⟨b, o, none⟩) ts i c _ w2 HT2.out (by rw [HN.out]; omega) hv
            have HV := hid hv
            clear hv
            go_wp2_with (first | (go_at_call 204; refine met K ?_) | (go_at_call 203; refine met K' ?_))
            go_ret
            exact ⟨false, rfl, HE2.out, by simp, fun h => absurd (HD.out.1 h).2.2 HV.out⟩
        · have K := isCount_no t.len w2 hw
          have HW := hid hw
          clear hw
          go_wp2_with (go_at_call 204; refine met K ?_)
          go_ret
          exact ⟨false, rfl, HE2.out, by simp, fun h => absurd ⟨(HD.out.1 h).1, (HD.out.1 h).2.1⟩ HW.out⟩
      by_cases k10 : t.kind = 10
      · have HD : Hid (Formed ts i ↔ 0 ≤ t.elem ∧ t.elem < n ∧ (tyAt ts t.elem).kind = 6) := by
          refine HC.out.trans ?_
          rw [← HN.out]
          unfold Names
          simp [k10]
        rw [k10] at c0
        clear k8 k5 k6 k9 k10
        by_cases hw : 0 ≤ t.elem ∧ t.elem < n
        · have K := inside_yes (some ⟨b, o, none⟩) n c t.elem w2 hw
          obtain ⟨q, hq⟩ : ∃ q : Nat, t.elem = q := ⟨t.elem.toNat, by omega⟩
          obtain ⟨b', o', he, hcq⟩ := HT2.out.kind (p := q) (by have := HN.out; omega)
          cases he
          have HW := hid hw
          have HQ := hid hq
          rw [hq] at c1 K hw
          obtain ⟨w1', w2'⟩ := hw
          clear hq w1'
          by_cases hv : (tyAt ts q).kind = 6
          · rw [hv] at hcq
            have HV := hid hv
            clear hv
            go_wp2_with (go_at_call 143; refine met K ?_)
            go_ret
            exact ⟨true, rfl, HE2.out, fun _ => HD.out.2 ⟨HW.out.1, HW.out.2, by rw [HQ.out]; exact HV.out⟩, fun _ => rfl⟩
          · have hb : ((tyAt ts q).kind == 6) = false := by simpa using hv
            have HV := hid hv
            clear hv
            go_wp2_with (go_at_call 143; refine met K ?_)
            go_ret
            exact ⟨false, rfl, HE2.out, by simp, fun h => absurd (by rw [← HQ.out]; exact (HD.out.1 h).2.2) HV.out⟩
        · have K := inside_no (some ⟨b, o, none⟩) n c t.elem w2 hw
          have HW := hid hw
          clear hw
          go_wp2_with (go_at_call 143; refine met K ?_)
          go_ret
          exact ⟨false, rfl, HE2.out, by simp, fun h => absurd ⟨(HD.out.1 h).1, (HD.out.1 h).2.1⟩ HW.out⟩
      · have HD : Hid (Formed ts i) := by
          refine HC.out.2 ?_
          unfold Names
          simp [k5, k6, k8, k9, k10]
        have b5 : (t.kind == 5) = false := by simpa using k5
        have b6 : (t.kind == 6) = false := by simpa using k6
        have b8 : (t.kind == 8) = false := by simpa using k8
        have b9 : (t.kind == 9) = false := by simpa using k9
        have b10 : (t.kind == 10) = false := by simpa using k10
        clear k5 k6 k8 k9 k10
        go_wp2_with fail
        go_ret
        exact ⟨true, rfl, HE2.out, fun _ => HD.out, fun _ => rfl⟩
  · have K1 := isKind_no t.kind w1 hk
    have HC : Hid (¬ Formed ts i) := fun h => hk ((clean_iff t).1 (HP.out.1 h).1).1
    clear hk hT1 hF1 hG1
    go_wp2_with (go_at_call 201; refine met K1 ?_)
    go_ret
    exact ⟨false, rfl, HE1.out, by simp, fun h => absurd h HC.out⟩

end Go.Proofs.YtbpjmcjjambdkaaGreatDoor.Ty

/-
  What is known of a type by its parts; no statement is proved here.
-/
namespace Go.Proofs.YtbpjmcjjambdkaaGreatDoor.Ty
open Go.RowKit

/-- A measure in memory. -/
structure MeAt (w : World) (b o : Nat) (m : Me) : Prop where
  c0 : w.cell? ⟨b, o, none⟩ = some (.int .i64 m.width)
  c1 : w.cell? ⟨b, o + 1, none⟩ = some (.int .i64 m.words)
  c2 : w.cell? ⟨b, o + 2, none⟩ = some (.bool m.cmp)
theorem MeAt.keep {S : List Nat} {w w' : World} {b o : Nat} {m : Me} (h : MeAt w b o m) (e : Ext S w w') (hs : b ∉ S) : MeAt w' b o m :=
  ⟨e.cell h.c0 hs, e.cell h.c1 hs, e.cell h.c2 hs⟩

def meVal (m : Me) : Value := .agg #[.int .i64 m.width, .int .i64 m.words, .bool m.cmp]

/-- Measures in memory. -/
def Mss (w : World) (b o : Nat) (E : List Me) : Prop := ∀ i, i < E.length → MeAt w b (o + i * 3) (at' E i)
theorem Mss.keep {S : List Nat} {w w' : World} {b o : Nat} {E : List Me} (h : Mss w b o E) (e : Ext S w w') (hs : b ∉ S) : Mss w' b o E := fun i hi => (h i hi).keep e hs

/-- Measures of which sums can be made. -/
def Mild (E : List Me) : Prop := ∀ i, i < E.length → 0 ≤ (at' E i).width ∧ (at' E i).width ≤ 16 ∧ 0 ≤ (at' E i).words ∧ (at' E i).words ≤ 32

theorem sum_rep (E : List Me) (p : Int) : ∀ n, sumWidth E (List.replicate n p) = n * (at' E p).width ∧ sumWords E (List.replicate n p) = n * (at' E p).words
  | 0 => by simp [sumWidth, sumWords]
  | n + 1 => by
    obtain ⟨a, b⟩ := sum_rep E p n
    rw [List.replicate_succ, sumWidth, sumWords, a, b]
    have e : ((n + 1 : Nat) : Int) = n + 1 := by omega
    rw [e, Int.add_mul, Int.add_mul]
    omega
theorem cmp_rep (E : List Me) (p : Int) : ∀ n, allCmp E (List.replicate (n + 1) p) = (at' E p).cmp
  | 0 => by simp [allCmp]
  | n + 1 => by rw [List.replicate_succ, allCmp, cmp_rep E p n]; simp

theorem sums_mild {E : List Me} (hM : Mild E) : ∀ {l : List Int}, (∀ p ∈ l, 0 ≤ p ∧ p < E.length) → 0 ≤ sumWidth E l ∧ sumWidth E l ≤ 16 * l.length ∧ 0 ≤ sumWords E l ∧ sumWords E l ≤ 32 * l.length
  | [], _ => by simp [sumWidth, sumWords]
  | x :: l, h => by
    obtain ⟨e, f, g, i⟩ := sums_mild hM (l := l) (fun p hp => h p (by simp [hp]))
    obtain ⟨h0, h1⟩ := h x (by simp)
    obtain ⟨q, rfl⟩ : ∃ q : Nat, x = q := ⟨x.toNat, by omega⟩
    obtain ⟨a, b, c, d⟩ := hM q (by omega)
    simp only [sumWidth, sumWords, List.length_cons]
    omega

/-- The measure m, in new memory if at all. -/
def MePost (w : World) (m : Me) (e : Ending) (w' : World) : Prop := e = .returned (meVal m) ∧ Ext [] w w'

theorem set3 {w : World} {q : Nat} {T : TypeId} {a b c a' b' c' : Value} (h : w.heap[q]? = some (.cells #[a, b, c] T (0, 0))) : (((w.setCell ⟨q, 0, none⟩ a').setCell ⟨q, 1, none⟩ b').setCell ⟨q, 2, none⟩ c').heap[q]? = some (.cells #[a', b', c'] T (0, 0)) := by
  rw [heap_setCell_same _ q 2 _ _ _ (heap_setCell_same _ q 1 _ _ _ (heap_setCell_same w q 0 _ _ _ h))]
  rfl

set_option maxRecDepth 100000 in
set_option maxHeartbeats 1000000 in
theorem measured_struct (t : Ty) (fa : Option Addr) (fc eb eo m ec : Nat) (E : List Me) (w : World) (hk : t.kind = 8) (hF : FOk w t fa) (hE : Mss w eb eo E) (hm : E.length = m) (hM : Mild E) (hmm : m ≤ 64) (hp : ∀ p ∈ t.fields, 0 ≤ p ∧ p < m) (hlen : t.fields.length ≤ 16) (heb : eb < w.heap.size) :
    Calls Tryz.prog 183 #[tyVal t fa fc, .slice (some ⟨eb, eo, none⟩) m ec] w (MePost w (meas t E)) := by
  unfold tyVal
  rw [hk]
  have HF := hid hF
  have HE := hid hE
  have HM := hid hM
  have HL := hid hm
  have HP := hid hp
  have HK := hid hk
  have hne : eb ≠ w.heap.size ∧ eb ≠ w.heap.size + 1 ∧ eb ≠ w.heap.size + 1 + 1 := by omega
  clear hF hE hM hm hp hk
  go_enter Tryz.func183, Tryz.ntmps183
  go_wp2
  have hq : (((w.alloc (.cells #[.int .i64 8, .int .i64 t.elem, .int .i64 t.key, .int .i64 t.len, .slice fa t.fields.length fc] 56)).alloc (.cells #[.int .i64 0, .int .i64 0, .bool false] 172)).alloc (.cells #[.int .i64 0, .int .i64 0, .bool true] 172)).heap[w.heap.size + 1 + 1]? = some (.cells #[.int .i64 0, .int .i64 0, .bool true] 172 (0, 0)) := by
    have := heap_alloc_new ((w.alloc (.cells #[.int .i64 8, .int .i64 t.elem, .int .i64 t.key, .int .i64 t.len, .slice fa t.fields.length fc] 56)).alloc (.cells #[.int .i64 0, .int .i64 0, .bool false] 172)) (.cells #[.int .i64 0, .int .i64 0, .bool true] 172)
    simpa using this
  have hr : (((w.alloc (.cells #[.int .i64 8, .int .i64 t.elem, .int .i64 t.key, .int .i64 t.len, .slice fa t.fields.length fc] 56)).alloc (.cells #[.int .i64 0, .int .i64 0, .bool false] 172)).alloc (.cells #[.int .i64 0, .int .i64 0, .bool true] 172)).heap[w.heap.size + 1]? = some (.cells #[.int .i64 0, .int .i64 0, .bool false] 172 (0, 0)) := by
    have := heap_alloc_new (w.alloc (.cells #[.int .i64 8, .int .i64 t.elem, .int .i64 t.key, .int .i64 t.len, .slice fa t.fields.length fc] 56)) (.cells #[.int .i64 0, .int .i64 0, .bool false] 172)
    exact Ext.keep (Ext.alloc [] _ _) (by simpa using this) (by simp)
  have hE3 : Ext [] w (((w.alloc (.cells #[.int .i64 8, .int .i64 t.elem, .int .i64 t.key, .int .i64 t.len, .slice fa t.fields.length fc] 56)).alloc (.cells #[.int .i64 0, .int .i64 0, .bool false] 172)).alloc (.cells #[.int .i64 0, .int .i64 0, .bool true] 172)) := ((Ext.alloc _ _ _).trans (Ext.alloc _ _ _)).trans (Ext.alloc _ _ _)
  generalize (((w.alloc (.cells #[.int .i64 8, .int .i64 t.elem, .int .i64 t.key, .int .i64 t.len, .slice fa t.fields.length fc] 56)).alloc (.cells #[.int .i64 0, .int .i64 0, .bool false] 172)).alloc (.cells #[.int .i64 0, .int .i64 0, .bool true] 172)) = w3 at *
  have HQ := hid hq
  have HR := hid hr
  have HE3 := hid hE3
  clear hq hr hE3
  go_loopw [25] (fun u wr => ∃ k : Nat, u = .int .i64 k ∧ k ≤ t.fields.length ∧ wr.heap[w.heap.size + 1 + 1]? = some (.cells #[.int .i64 (sumWidth E (t.fields.take k)), .int .i64 (sumWords E (t.fields.take k)), .bool (allCmp E (t.fields.take k))] 172 (0, 0)) ∧ Ext [w.heap.size + 1 + 1] w3 wr) (fun u _ => (t.fields.length - (intOf u)).toNat)
  case atStart => exact ⟨0, rfl, Nat.zero_le _, HQ.out, Ext.refl _ _⟩
  case round =>
    obtain ⟨k, rfl, hkl, hq, hE4⟩ := hrel
    have HE4 := hid hE4
    have HQ4 := hid hq
    clear hE4
    by_cases hkm : k < t.fields.length
    · obtain ⟨fb, fo, rfl, hfc⟩ := HF.out.1.at_ (by intro h; rw [h] at hkm; simp at hkm)
      have hck := HE4.out.cell (HE3.out.cell (hfc k hkm) (by simp)) (by have := block_lt_of_cell (hfc k hkm); simp at this ⊢; omega)
      clear hfc
      have hmem : t.fields.getD k 0 ∈ t.fields := by simp [List.getD, hkm]
      obtain ⟨p0, p1⟩ := HP.out _ hmem
      have hw := sumWidth_snoc E t.fields k hkm
      have hd := sumWords_snoc E t.fields k hkm
      have hb := allCmp_snoc E t.fields k hkm
      have hbd := sums_mild HM.out (l := t.fields.take k) (fun p hp => by rw [HL.out]; exact HP.out p (List.mem_of_mem_take hp))
      have hkl2 : (t.fields.take k).length ≤ 16 := by rw [List.length_take]; omega
      generalize t.fields.getD k 0 = p at *
      obtain ⟨j, rfl⟩ : ∃ j : Nat, p = j := ⟨p.toNat, by omega⟩
      have hme := (HE.out j (by have := HL.out; omega)).keep (HE3.out) (by simp)
      have hme := hme.keep HE4.out (by simp; omega)
      have hmi := HM.out j (by have := HL.out; omega)
      obtain ⟨e0, e1, e2⟩ := hme
      generalize at' E j = x at *
      generalize sumWidth E (t.fields.take k) = sw at *
      generalize sumWords E (t.fields.take k) = sd at *
      generalize allCmp E (t.fields.take k) = sb at *
      obtain ⟨i1, i2, i3, i4⟩ := hmi
      obtain ⟨j1, j2, j3, j4⟩ := hbd
      have HW := hid hw
      have HD := hid hd
      have HB := hid hb
      clear hw hd hb hmem
      have q0 : wr.cell? ⟨w.heap.size + 1 + 1, 0, none⟩ = some (.int .i64 sw) := by rw [cell_of_row _ _ _ _ _ _ hq]; rfl
      have q1 : wr.cell? ⟨w.heap.size + 1 + 1, 1, none⟩ = some (.int .i64 sd) := by rw [cell_of_row _ _ _ _ _ _ hq]; rfl
      have q2 : wr.cell? ⟨w.heap.size + 1 + 1, 2, none⟩ = some (.bool sb) := by rw [cell_of_row _ _ _ _ _ _ hq]; rfl
      have qf : ∀ i, wr.frozen? ⟨w.heap.size + 1 + 1, i, none⟩ = false := fun i => frozen_of_row _ _ i _ _ hq
      clear hq
      go_wp2_with fail
      go_region_with (fail)
      all_goals go_wp2_with fail
      all_goals go_region_with (fail)
      all_goals cases sb
      all_goals go_wp2_with fail
      all_goals go_roundw
      case measure => simp [intOf]; omega
      case measure => simp [intOf]; omega
      case measure => simp [intOf]; omega
      case measure => simp [intOf]; omega
      case measure => simp [intOf]; omega
      case measure => simp [intOf]; omega
      case measure => simp [intOf]; omega
      case measure => simp [intOf]; omega
      all_goals exact ⟨k + 1, by go_num, by omega, (set3 HQ4.out).trans (by rw [HW.out, HD.out, HB.out]; rfl), HE4.out.trans ((((Ext.setCell _ _ _ _ (by simp)).trans (Ext.setCell _ _ _ _ (by simp))).trans (Ext.setCell _ _ _ _ (by simp))).trans ((Ext.drew _ _).trans (Ext.drew _ _)))⟩
    · obtain rfl : k = t.fields.length := by omega
      rw [List.take_length] at hq
      have hr := HE4.out.keep HR.out (by simp)
      have hx : meas t E = ⟨sumWidth E t.fields, sumWords E t.fields, allCmp E t.fields, allPtrs E t.fields⟩ := by
        unfold meas parts; simp [HK.out]
      have HX := hid hx
      clear hx
      have q0 : wr.cell? ⟨w.heap.size + 1 + 1, 0, none⟩ = some (.int .i64 (sumWidth E t.fields)) := by rw [cell_of_row _ _ _ _ _ _ hq]; rfl
      have q1 : wr.cell? ⟨w.heap.size + 1 + 1, 1, none⟩ = some (.int .i64 (sumWords E t.fields)) := by rw [cell_of_row _ _ _ _ _ _ hq]; rfl
      have q2 : wr.cell? ⟨w.heap.size + 1 + 1, 2, none⟩ = some (.bool (allCmp E t.fields)) := by rw [cell_of_row _ _ _ _ _ _ hq]; rfl
      have r0 : wr.cell? ⟨w.heap.size + 1, 0, none⟩ = some (.int .i64 0) := by rw [cell_of_row _ _ _ _ _ _ hr]; rfl
      have r1 : wr.cell? ⟨w.heap.size + 1, 1, none⟩ = some (.int .i64 0) := by rw [cell_of_row _ _ _ _ _ _ hr]; rfl
      have r2 : wr.cell? ⟨w.heap.size + 1, 2, none⟩ = some (.bool false) := by rw [cell_of_row _ _ _ _ _ _ hr]; rfl
      have rf : ∀ i, wr.frozen? ⟨w.heap.size + 1, i, none⟩ = false := fun i => frozen_of_row _ _ i _ _ hr
      have HR4 := hid hr
      clear hq hr HQ4
      generalize sumWidth E t.fields = sw at *
      generalize sumWords E t.fields = sd at *
      generalize allCmp E t.fields = sb at *
      go_wp2_with fail
      refine bodyPost_ret (v := .agg #[.int .i64 sw, .int .i64 sd, .bool sb]) (by simp [results, Tryz.results183, go_sem, r0, r1, r2]) rfl ⟨?_, ?_⟩
      · rw [HX.out]; rfl
      · exact ((HE3.out.mono (by simp)).trans (HE4.out.mono (T := [w.heap.size + 1 + 1, w.heap.size + 1]) (by simp))).trans (((Ext.setCell _ _ _ _ (by simp)).trans (Ext.setCell _ _ _ _ (by simp))).trans (Ext.setCell _ _ _ _ (by simp))) |>.drop (by simp; omega)

set_option maxRecDepth 100000 in
set_option maxHeartbeats 1000000 in
theorem measured_array (t : Ty) (fa : Option Addr) (fc eb eo m ec : Nat) (E : List Me) (w : World) (hk : t.kind = 9) (hE : Mss w eb eo E) (hm : E.length = m) (hM : Mild E) (hp : 0 ≤ t.elem ∧ t.elem < m) (hlen : 1 ≤ t.len ∧ t.len ≤ 16) (heb : eb < w.heap.size) :
    Calls Tryz.prog 183 #[tyVal t fa fc, .slice (some ⟨eb, eo, none⟩) m ec] w (MePost w (meas t E)) := by
  unfold tyVal
  rw [hk]
  have hx : meas t E = ⟨t.len * (at' E t.elem).width, t.len * (at' E t.elem).words, (at' E t.elem).cmp, allPtrs E (parts t)⟩ := by
    obtain ⟨k, hk'⟩ : ∃ k : Nat, t.len = ((k + 1 : Nat) : Int) := ⟨t.len.toNat - 1, by omega⟩
    have hs := sum_rep E t.elem (k + 1)
    have hc := cmp_rep E t.elem k
    have hpt : parts t = List.replicate (k + 1) t.elem := by unfold parts; rw [if_neg (by omega), if_pos hk, hk']; rfl
    unfold meas
    rw [if_neg (by omega), if_neg (by omega), if_neg (by omega), if_pos (.inr hk), hpt, hs.1, hs.2, hc, hk']
  obtain ⟨hp0, hp1⟩ := hp
  obtain ⟨hl0, hl1⟩ := hlen
  obtain ⟨j, hj⟩ : ∃ j : Nat, t.elem = j := ⟨t.elem.toNat, by omega⟩
  rw [hj] at hp1 hp0 hx
  have hjm : j < m := by omega
  rw [hj]
  have hme := hE j (by omega)
  have hmi := hM j (by omega)
  generalize at' E j = x at *
  obtain ⟨e0, e1, e2⟩ := hme
  obtain ⟨i1, i2, i3, i4⟩ := hmi
  have m1 : 0 ≤ t.len * x.width := Int.mul_nonneg (by omega) i1
  have m2 : t.len * x.width ≤ 16 * 16 := Int.mul_le_mul hl1 i2 i1 (by omega)
  have m3 : 0 ≤ t.len * x.words := Int.mul_nonneg (by omega) i3
  have m4 : t.len * x.words ≤ 16 * 32 := Int.mul_le_mul hl1 i4 i3 (by omega)
  have w1 : IntKind.i64.wrap (t.len * x.width) = t.len * x.width := by rw [IntKind.wrap_i64]; omega
  have w2 : IntKind.i64.wrap (t.len * x.words) = t.len * x.words := by rw [IntKind.wrap_i64]; omega
  have HX := hid hx
  have hne : eb ≠ w.heap.size ∧ eb ≠ w.heap.size + 1 ∧ eb ≠ w.heap.size + 1 + 1 := by omega
  clear hx hk hj hE hM hm
  go_enter Tryz.func183, Tryz.ntmps183
  go_wp2_with fail
  refine bodyPost_ret (v := .agg #[.int .i64 (t.len * x.width), .int .i64 (t.len * x.words), .bool x.cmp]) (by simp [results, Tryz.results183, go_sem]) rfl ⟨?_, ?_⟩
  · rw [HX.out]; rfl
  · exact ((Ext.alloc _ _ _).trans (Ext.alloc _ _ _)).trans (Ext.alloc _ _ _)

set_option maxRecDepth 100000 in
theorem measured_plain (t : Ty) (fa : Option Addr) (fc : Nat) (ea : Option Addr) (m ec : Nat) (E : List Me) (w : World) (hk8 : t.kind ≠ 8) (hk9 : t.kind ≠ 9) :
    Calls Tryz.prog 183 #[tyVal t fa fc, .slice ea m ec] w (MePost w (meas t E)) := by
  unfold tyVal
  by_cases h4 : t.kind = 4
  · have HX : Hid (meVal (meas t E) = .agg #[.int .i64 1, .int .i64 2, .bool true]) := by show meVal (meas t E) = _; unfold meas; rw [if_pos h4]; rfl
    rw [h4]
    clear h4 hk8 hk9
    go_enter Tryz.func183, Tryz.ntmps183
    go_wp2_with fail
    refine bodyPost_ret (v := .agg #[.int .i64 1, .int .i64 2, .bool true]) (by simp [results, Tryz.results183, go_sem]) rfl ⟨by rw [HX.out], (Ext.alloc _ _ _).trans (Ext.alloc _ _ _)⟩
  by_cases h7 : t.kind = 7
  · have HX : Hid (meVal (meas t E) = .agg #[.int .i64 1, .int .i64 2, .bool true]) := by show meVal (meas t E) = _; unfold meas; rw [if_neg h4, if_pos h7]; rfl
    rw [h7]
    clear h4 h7 hk8 hk9
    go_enter Tryz.func183, Tryz.ntmps183
    go_wp2_with fail
    refine bodyPost_ret (v := .agg #[.int .i64 1, .int .i64 2, .bool true]) (by simp [results, Tryz.results183, go_sem]) rfl ⟨by rw [HX.out], (Ext.alloc _ _ _).trans (Ext.alloc _ _ _)⟩
  by_cases h6 : t.kind = 6
  · have HX : Hid (meVal (meas t E) = .agg #[.int .i64 1, .int .i64 1, .bool false]) := by show meVal (meas t E) = _; unfold meas; rw [if_neg h4, if_neg h7, if_pos (.inl h6)]; rfl
    rw [h6]
    clear h4 h7 h6 hk8 hk9
    go_enter Tryz.func183, Tryz.ntmps183
    go_wp2_with fail
    refine bodyPost_ret (v := .agg #[.int .i64 1, .int .i64 1, .bool false]) (by simp [results, Tryz.results183, go_sem]) rfl ⟨by rw [HX.out], (Ext.alloc _ _ _).trans (Ext.alloc _ _ _)⟩
  by_cases h10 : t.kind = 10
  · have HX : Hid (meVal (meas t E) = .agg #[.int .i64 1, .int .i64 1, .bool false]) := by show meVal (meas t E) = _; unfold meas; rw [if_neg h4, if_neg h7, if_pos (.inr h10)]; rfl
    rw [h10]
    clear h4 h7 h6 h10 hk8 hk9
    go_enter Tryz.func183, Tryz.ntmps183
    go_wp2_with fail
    refine bodyPost_ret (v := .agg #[.int .i64 1, .int .i64 1, .bool false]) (by simp [results, Tryz.results183, go_sem]) rfl ⟨by rw [HX.out], (Ext.alloc _ _ _).trans (Ext.alloc _ _ _)⟩
  · have HX : Hid (meVal (meas t E) = .agg #[.int .i64 1, .int .i64 1, .bool true]) := by
      show meVal (meas t E) = _
      unfold meas
      rw [if_neg h4, if_neg h7, if_neg (by omega), if_neg (by omega)]
      split <;> rfl
    have b4 : (t.kind == 4) = false := by simpa using h4
    have b7 : (t.kind == 7) = false := by simpa using h7
    have b6 : (t.kind == 6) = false := by simpa using h6
    have b10 : (t.kind == 10) = false := by simpa using h10
    have b8 : (t.kind == 8) = false := by simpa using hk8
    have b9 : (t.kind == 9) = false := by simpa using hk9
    clear h4 h7 h6 h10 hk8 hk9
    go_enter Tryz.func183, Tryz.ntmps183
    go_wp2_with fail
    refine bodyPost_ret (v := .agg #[.int .i64 1, .int .i64 1, .bool true]) (by simp [results, Tryz.results183, go_sem]) rfl ⟨by rw [HX.out], (Ext.alloc _ _ _).trans (Ext.alloc _ _ _)⟩

/-- What a type whose parts are the first m types is measured as. -/
theorem measured_any (ts : List Ty) (i : Nat) (t : Ty) (ht : tyAt ts i = t) (fa : Option Addr) (fc eb eo ec : Nat) (E : List Me) (w : World) (hfm : Formed ts i) (hF : FOk w t fa) (hE : Mss w eb eo E) (hm : E.length = i) (hM : Mild E) (hmm : i ≤ 64) (heb : eb < w.heap.size) :
    Calls Tryz.prog 183 #[tyVal t fa fc, .slice (some ⟨eb, eo, none⟩) i ec] w (MePost w (meas t E)) := by
  obtain ⟨_, _, _, h8, h9, _⟩ := hfm
  rw [ht] at h8 h9
  by_cases k8 : t.kind = 8
  · obtain ⟨_, a2, a3⟩ := h8 k8
    exact measured_struct t fa fc eb eo i ec E w k8 hF hE hm hM hmm (fun p hp => ⟨(a3 p hp).1, (a3 p hp).2.1⟩) a2 heb
  by_cases k9 : t.kind = 9
  · obtain ⟨a1, a2, a3⟩ := h9 k9
    exact measured_array t fa fc eb eo i ec E w k9 hE hm hM ⟨a3.1, a3.2.1⟩ ⟨a1, a2⟩ heb
  · exact measured_plain t fa fc _ i ec E w k8 k9

end Go.Proofs.YtbpjmcjjambdkaaGreatDoor.Ty

/-
  Whether the keys of all maps can be compared; no statement is proved here.
-/
namespace Go.Proofs.YtbpjmcjjambdkaaGreatDoor.Ty
open Go.RowKit

set_option maxRecDepth 100000 in
theorem keys_any (a : Option Addr) (ts : List Ty) (n c eb ec : Nat) (E : List Me) (w : World) (hT : Tab w a ts) (hn : ts.length = n) (hE : n = 0 ∨ Mss w eb 0 E) (hm : E.length = n) (hk : ∀ i, i < n → (tyAt ts i).kind = 6 → 0 ≤ (tyAt ts i).key ∧ (tyAt ts i).key < n) :
    Calls Tryz.prog 184 #[.slice a n c, .slice (some ⟨eb, 0, none⟩) n ec] w (TestPost w (∀ i, i < n → (tyAt ts i).kind = 6 → (at' E (tyAt ts i).key).cmp = true)) := by
  have HT := hid hT
  have HN := hid hn
  have HE := hid hE
  have HM := hid hm
  have HK := hid hk
  have hl := hT.len
  rw [hn] at hl
  clear hT hn hE hm hk
  go_enter Tryz.func184, Tryz.ntmps184
  go_wp2
  go_loopw [9] (fun u wr => ∃ k : Nat, u = .int .i64 k ∧ k ≤ n ∧ Ext [] w wr ∧ ∀ i, i < k → (tyAt ts i).kind = 6 → (at' E (tyAt ts i).key).cmp = true) (fun u _ => (n - (intOf u)).toNat)
  case atStart => exact ⟨0, rfl, Nat.zero_le _, Ext.refl _ _, fun i hi => by omega⟩
  case round =>
    obtain ⟨k, rfl, hkn, hE1, hall⟩ := hrel
    have HE1 := hid hE1
    have HA := hid hall
    clear hE1 hall
    by_cases hlt : k < n
    · obtain ⟨b, o, rfl, hta⟩ := (HT.out.keep0 HE1.out).addr (by rw [HN.out]; omega)
      obtain ⟨fa, fc, c0, c1, c2, c3, c4, _⟩ := hta k (by rw [HN.out]; omega)
      have hkk := HK.out k hlt
      have HS : Hid (∀ i, i < k + 1 → i < k ∨ i = k) := fun i hi => by omega
      have HEE : Hid (Ext [] w (wr.alloc (.cells #[.int .i64 (tyAt ts k).kind, .int .i64 (tyAt ts k).elem, .int .i64 (tyAt ts k).key, .int .i64 (tyAt ts k).len, .slice fa (tyAt ts k).fields.length fc] 56))) := HE1.out.trans (Ext.alloc _ _ _)
      by_cases h6 : (tyAt ts k).kind = 6
      · obtain ⟨g0, g1⟩ := hkk h6
        have HG : Hid (∀ x, at' E (tyAt ts k).key = x → x.cmp = true → (tyAt ts k).kind = 6 → (at' E (tyAt ts k).key).cmp = true) := fun x hx hc _ => by rw [hx]; exact hc
        have HG2 : Hid (∀ x, at' E (tyAt ts k).key = x → x.cmp = false → ¬ ((tyAt ts k).kind = 6 → (at' E (tyAt ts k).key).cmp = true)) := fun x hx hc h => by have := h h6; rw [hx, hc] at this; cases this
        obtain ⟨j, hj⟩ : ∃ j : Nat, (tyAt ts k).key = j := ⟨(tyAt ts k).key.toNat, by omega⟩
        have hme := (HE.out.resolve_left (by omega) j (by have := HM.out; omega)).keep HE1.out (by simp)
        have e2 := hme.c2
        simp only [Nat.zero_add] at e2
        have hne : eb < wr.heap.size := block_lt_of_cell e2
        rw [← hj] at hme
        have HX : Hid (at' E (tyAt ts k).key = at' E j) := by show _ = _; rw [hj]
        rw [hj] at c2 g0 g1
        have h6' := h6
        rw [h6'] at c0
        clear h6' hme
        have HH6 := hid h6
        have HJ := hid hj
        clear h6 hkk hj hta
        generalize at' E j = x at *
        by_cases hx : x.cmp = true
        · rw [hx] at e2
          have HC := hid hx
          clear hx
          go_wp2_with fail
          go_roundw
          case rel => exact ⟨k + 1, by go_num, by omega, HE1.out.trans (Ext.alloc _ _ _), fun i hi => by
            rcases HS.out i hi with h | rfl
            · exact HA.out i h
            · exact HG.out x HX.out HC.out⟩
          case measure => simp [intOf]; omega
        · have hx : x.cmp = false := by simpa using hx
          rw [hx] at e2
          have HC := hid hx
          clear hx
          go_wp2_with fail
          go_ret
          exact ⟨false, rfl, HE1.out.trans (Ext.alloc _ _ _), by simp, fun h => absurd (h k hlt) (HG2.out x HX.out HC.out)⟩
      · have hb : ((tyAt ts k).kind == 6) = false := by simpa using h6
        have H6 := hid h6
        clear h6 hkk hta
        go_wp2_with fail
        go_roundw
        case rel => exact ⟨k + 1, by go_num, by omega, HEE.out, fun i hi => by
          rcases HS.out i hi with h | rfl
          · exact HA.out i h
          · exact fun h => absurd h H6.out⟩
        case measure => simp [intOf]; omega
    · go_wp2
      go_ret
      exact ⟨true, rfl, HE1.out, fun _ i hi => HA.out i (by omega), fun _ => rfl⟩

end Go.Proofs.YtbpjmcjjambdkaaGreatDoor.Ty

/-
  All measures of a table at once, in an array; no statement is proved here.
-/
namespace Go.Proofs.YtbpjmcjjambdkaaGreatDoor.Ty
open Go.RowKit

def meCells (m : Me) : List Value := [.int .i64 m.width, .int .i64 m.words, .bool m.cmp]
def flat : List Me → List Value
  | [] => []
  | m :: r => meCells m ++ flat r

theorem length_flat : ∀ F, (flat F).length = F.length * 3
  | [] => rfl
  | m :: r => by simp [flat, meCells, length_flat r]; omega
theorem flat_get : ∀ (F : List Me) (i j : Nat), i < F.length → j < 3 → (flat F)[i * 3 + j]? = (meCells (at' F i))[j]?
  | [], _, _, h, _ => by simp at h
  | m :: r, 0, j, _, hj => by
    rw [flat, List.getElem?_append_left (by simp [meCells]; omega)]
    simp [at']
  | m :: r, i + 1, j, h, hj => by
    rw [flat, List.getElem?_append_right (by simp [meCells]; omega)]
    have := flat_get r i j (by simpa using h) hj
    simp only [meCells, List.length_cons, List.length_nil] at this ⊢
    rw [show (i + 1) * 3 + j - (0 + 1 + 1 + 1) = i * 3 + j by omega, this]
    simp [at']
theorem flat_one : ∀ F v, v ∈ flat F → v.oneCell' = true
  | [], v, h => by simp [flat] at h
  | m :: r, v, h => by
    rw [flat, List.mem_append] at h
    rcases h with h | h
    · simp only [meCells, List.mem_cons, List.not_mem_nil, or_false] at h
      rcases h with rfl | rfl | rfl <;> rfl
    · exact flat_one r v h

/-- An array of 64 measures in block b. -/
structure Arr (w : World) (b : Nat) (F : List Me) : Prop where
  r : w.rangeAt b 0 (flat F)
  t : w.there b 0 192
  l : F.length = 64

theorem there_keep {S : List Nat} {w w' : World} {b o n : Nat} (h : w.there b o n) (e : Ext S w w') (hs : b ∉ S) : w'.there b o n := fun j hj => by
  obtain ⟨h1, h2⟩ := h j hj
  obtain ⟨v, hv⟩ := Option.isSome_iff_exists.1 h1
  have hb := e.block b (block_lt_of_cell hv) hs
  refine ⟨by rw [e.cell hv hs]; rfl, ?_⟩
  rw [← h2]
  simp only [World.frozen?, hb]
theorem Arr.keep {S : List Nat} {w w' : World} {b : Nat} {F : List Me} (h : Arr w b F) (e : Ext S w w') (hs : b ∉ S) : Arr w' b F :=
  ⟨fun j v hv => e.cell (h.r j v hv) hs, there_keep h.t e hs, h.l⟩
theorem Arr.mss {w : World} {b : Nat} {F : List Me} (h : Arr w b F) (E : List Me) (hE : ∀ i : Nat, i < E.length → i < 64 ∧ at' E i = at' F i) : Mss w b 0 E := fun i hi => by
  obtain ⟨h1, h2⟩ := hE i hi
  rw [h2]
  have k : ∀ j v, j < 3 → (meCells (at' F i))[j]? = some v → w.cell? ⟨b, 0 + i * 3 + j, none⟩ = some v := fun j v hj hv => by
    have := h.r (i * 3 + j) v (by rw [flat_get F i j (by rw [h.l]; exact h1) hj]; exact hv)
    rwa [← Nat.add_assoc] at this
  exact ⟨k 0 _ (by omega) rfl, k 1 _ (by omega) rfl, k 2 _ (by omega) rfl⟩

theorem Ext.setCells (b : Nat) : ∀ (vs : List Value) (o : Nat) (w : World), Ext [b] w (w.setCells b o vs)
  | [], _, w => Ext.refl _ w
  | v :: r, o, w => (Ext.setCell [b] w ⟨b, o, none⟩ v (by simp)).trans (Ext.setCells b r (o + 1) _)

/-- The array with its entry k set. -/
theorem Arr.set {w : World} {b : Nat} {F : List Me} (h : Arr w b F) (k : Nat) (hk : k < 64) (m : Me) : Arr (((w.setCell ⟨b, k * 3, none⟩ (.int .i64 m.width)).setCell ⟨b, k * 3 + 1, none⟩ (.int .i64 m.words)).setCell ⟨b, k * 3 + 2, none⟩ (.bool m.cmp)) b (F.set k m) := by
  have hs : (((w.setCell ⟨b, k * 3, none⟩ (.int .i64 m.width)).setCell ⟨b, k * 3 + 1, none⟩ (.int .i64 m.words)).setCell ⟨b, k * 3 + 2, none⟩ (.bool m.cmp)) = w.setCells b (k * 3) (meCells m) := rfl
  rw [hs]
  have hth : w.there b (k * 3) 3 := fun j hj => by have := h.t (k * 3 + j) (by omega); simpa using this
  refine ⟨fun j v hv => ?_, ?_, by rw [List.length_set]; exact h.l⟩
  · have hj : j < (F.set k m).length * 3 := by
      have := (List.getElem?_eq_some_iff.1 hv).1
      rwa [length_flat] at this
    rw [List.length_set, h.l] at hj
    obtain ⟨q, r, hq, hr, rfl⟩ : ∃ q r, q < 64 ∧ r < 3 ∧ j = q * 3 + r := ⟨j / 3, j % 3, by omega, by omega, by omega⟩
    rw [flat_get _ q r (by rw [List.length_set, h.l]; exact hq) hr] at hv
    by_cases e : q = k
    · subst e
      have : at' (F.set q m) q = m := by simp [at', List.getD, h.l, hq]
      rw [this] at hv
      have hh := World.rangeAt_setCells_same w b (q * 3) (meCells m) hth r v hv
      simpa using hh
    · have he : at' (F.set k m) q = at' F q := by
        simp only [at', List.getD, Int.toNat_natCast]
        rw [List.getElem?_set_ne (fun x => e x.symm)]
      rw [he] at hv
      have h1 : w.rangeAt b (q * 3 + r) [v] := fun j' v' hv' => by
        cases j' with
        | zero =>
          simp at hv'
          subst hv'
          have := h.r (q * 3 + r) v (by rw [flat_get _ q r (by rw [h.l]; exact hq) hr]; exact hv)
          simpa using this
        | succ j' => simp at hv'
      have h2 := World.rangeAt_setCells_apart h1 b (k * 3) (meCells m) (by simp [meCells]; omega) 0 v rfl
      simpa using h2
  · exact World.there_setCells h.t _ _ _

theorem info225 : (Tryz.prog.info? 225).map (fun i => (i.zero, i.size)) = some (some (.agg (flat (List.replicate 64 zeroMe)).toArray), 192) := by kernel_rfl

theorem wpList_alloc_run {P : Program} {w w' : World} {ops : Array Oper} {rest : List Oper} {o : Oper} {a : Act} {Q : Exit → Act → World → Prop} (hgd : o.guard = none) (v : Value)
    (hr : (execOp a.eval o).run P w = .ok (.value v) w') (h : wpList P ops Q rest (a.put o.dst v) w') : wpList P ops Q (o :: rest) a w := by
  refine wpList_plain hgd fun K hK => ?_
  unfold Oper.wp
  rw [hr]
  exact hK _ _ h

/-- A new array of zeroes. -/
theorem Arr.new (w : World) : Arr (w.alloc (.cells (flat (List.replicate 64 zeroMe)).toArray 225)) w.heap.size (List.replicate 64 zeroMe) := by
  have hb := heap_alloc_new w (.cells (flat (List.replicate 64 zeroMe)).toArray 225)
  refine ⟨fun j v hv => ?_, fun j hj => ⟨?_, frozen_of_row _ _ _ _ _ hb⟩, by simp⟩
  · rw [cell_of_row _ _ _ _ _ _ hb]; simpa using hv
  · rw [cell_of_row _ _ _ _ _ _ hb]
    have : 0 + j < (flat (List.replicate 64 zeroMe)).length := by rw [length_flat, List.length_replicate]; omega
    generalize flat (List.replicate 64 zeroMe) = L at *
    rw [List.getElem?_toArray, List.getElem?_eq_getElem this]
    rfl


end Go.Proofs.YtbpjmcjjambdkaaGreatDoor.Ty
