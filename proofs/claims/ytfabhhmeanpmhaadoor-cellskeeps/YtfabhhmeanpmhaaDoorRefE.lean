/-
  Which types and tables are sound, as the document's answer by definition finds it; no statement is proved here.
-/
import Derived.Test.YtfabhhmeanpmhaaDoorRefD
namespace Go.Proofs.YtfabhhmeanpmhaaDoor
open Go.RowKit

theorem plain_ok {ts : List Ty} {i : Nat} (hi : i < ts.length) (h : Formed ts i) (h8 : ¬ ((tyAt ts i).kind = 8 ∨ (tyAt ts i).kind = 9)) : OkAt ts i := by
  refine ⟨h, ?_⟩
  have hp : parts (tyAt ts i) = [] := by unfold parts; rw [if_neg (by omega), if_neg (by omega)]
  rw [plain_wide h hi hp]
  omega

set_option maxRecDepth 100000 in
set_option maxHeartbeats 2000000 in
theorem sound_any (a : Option Addr) (ts : List Ty) (n c i : Nat) (w : World) (hT : Tab w a ts) (hn : ts.length = n) (hi : i < n) (hok : ∀ j, j < i → OkAt ts j) :
    Calls Tryd.prog 69 #[.slice a n c, .int .i64 i] w (TestPost w (OkAt ts i)) := by
  obtain ⟨b, o, rfl, hta⟩ := hT.addr (by omega)
  obtain ⟨fa, fc, h0, h1, h2, h3, h4, hF⟩ := hta i (by omega)
  have hl := hT.len
  rw [hn] at hl
  have HP : Hid (Formed ts i ↔ Clean (tyAt ts i) ∧ Names ts i (tyAt ts i)) := Iff.rfl
  have HPO := hid (plain_ok (ts := ts) (i := i) (by omega))
  have HWO := hid (fun w (h : Formed ts i) hT => widthOf_any ts (some ⟨b, o, none⟩) n c hn (i + 1) i (by omega) hi hok h w hT)
  have HPA := hid (fun w hT => parted_array (some ⟨b, o, none⟩) ts n c i w hT hn hi)
  have HPS := hid (fun w hT => parted_struct (some ⟨b, o, none⟩) ts n c i w hT hn hi)
  have HT := hid hT
  have HN := hid hn
  have HOk : Hid (OkAt ts i → Formed ts i) := fun h => h.1
  have HOW : Hid (OkAt ts i ↔ Formed ts i ∧ (M ts i).width ≤ 16) := Iff.rfl
  generalize (M ts i).width = mw at *
  generalize tyAt ts i = t at *
  have hE1 := Ext.alloc [] w (.cells #[.int .i64 t.kind, .int .i64 t.elem, .int .i64 t.key, .int .i64 t.len, .slice fa t.fields.length fc] 45)
  have HE1 := hid hE1
  have HB1 := hid (Boxed.new w t fa fc)
  have K1 := clean_any t fa fc (w.alloc (.cells #[.int .i64 t.kind, .int .i64 t.elem, .int .i64 t.key, .int .i64 t.len, .slice fa t.fields.length fc] 45))
  unfold tyVal at K1
  clear hT hF hn hta hok hE1
  go_enter Tryd.func69, Tryd.ntmps69
  go_wp2_with fail
  refine K1.mono ?_
  clear K1 h0 h1 h2 h3 h4
  rintro e w2 ⟨r, rfl, hE2, hr⟩
  have hB2 := HB1.out.keep0 hE2
  have HE2 := hid (HE1.out.trans hE2)
  have HT2 := hid (HT.out.keep0 HE2.out)
  obtain ⟨c0, c1, c2, c3, c4⟩ := hB2
  clear hE2 HB1 HE1
  cases r with
  | false =>
    have HC : Hid (¬ OkAt ts i) := fun h => by
      have := hr.2 (HP.out.1 (HOk.out h)).1
      cases this
    clear hr
    go_wp2_with fail
    go_ret
    exact test_false HC.out HE2.out
  | true =>
    have HC : Hid (Formed ts i ↔ Names ts i t) := HP.out.trans ⟨fun h => h.2, fun h => ⟨hr.1 rfl, h⟩⟩
    have HCl := hid ((clean_len t).1 (hr.1 rfl))
    clear hr
    by_cases k8 : t.kind = 8 ∨ t.kind = 9
    · have KP : ∃ p : Prop, Calls Tryd.prog 82 #[.slice (some ⟨b, o, none⟩) n c, .int .i64 i] w2 (TestPost w2 p) ∧ (p ↔ Formed ts i) := by
        rcases k8 with k | k
        · exact ⟨Formed ts i, HPS.out w2 HT2.out k _ (by show _ ↔ _; rw [HC.out]; unfold Names; simp [k]), Iff.rfl⟩
        · exact ⟨Formed ts i, HPA.out w2 HT2.out k (by have := HCl.out; omega) _ (by show _ ↔ _; rw [HC.out]; unfold Names; simp [k]), Iff.rfl⟩
      obtain ⟨p, KP, hp⟩ := KP
      have HPP := hid hp
      clear hp HPS HPA HPO
      rcases k8 with k8 | k8
      all_goals
        rw [k8] at c0
        clear k8
        go_wp2_with fail
        refine KP.mono ?_
        rintro e w3 ⟨r3, rfl, hE3, hr3⟩
        have HE3 := hid (HE2.out.trans hE3)
        have HT3 := hid (HT2.out.keep0 hE3)
        clear hE3 KP
        cases r3 with
        | false =>
          have HX : Hid (¬ OkAt ts i) := fun h => by
            have := hr3.2 (HPP.out.2 (HOk.out h))
            cases this
          clear hr3
          go_wp2_with fail
          go_ret
          exact test_false HX.out HE3.out
        | true =>
          have HFm := hid (HPP.out.1 (hr3.1 rfl))
          clear hr3
          have KW := HWO.out w3 HFm.out HT3.out
          go_wp2_with fail
          refine KW.mono ?_
          clear KW
          rintro e w4 ⟨rfl, hE4⟩
          have HE4 := hid (HE3.out.trans hE4)
          clear hE4
          by_cases hm : mw ≤ 16
          · have hd : decide (mw ≤ 16) = true := decide_eq_true hm
            have HX := hid (HOW.out.2 ⟨HFm.out, hm⟩)
            clear hm
            go_wp2_with fail
            go_ret
            exact test_true HX.out HE4.out
          · have hd : decide (mw ≤ 16) = false := decide_eq_false hm
            have HX := hid (show ¬ OkAt ts i from fun h => hm (HOW.out.1 h).2)
            clear hm
            go_wp2_with fail
            go_ret
            exact test_false HX.out HE4.out
    have HD : Hid (OkAt ts i ↔ Names ts i t) := ⟨fun h => HC.out.1 (HOk.out h), fun h => HPO.out (HC.out.2 h) k8⟩
    have b8 : (t.kind == 8) = false := by simp; omega
    have b9 : (t.kind == 9) = false := by simp; omega
    have h8 : t.kind ≠ 8 := by omega
    have h9 : t.kind ≠ 9 := by omega
    clear k8 HPS HPA HPO HWO
    by_cases k5 : t.kind = 5
    · have HQ : Hid (OkAt ts i ↔ Within ts n t.elem) := by
        refine HD.out.trans ?_
        rw [← HN.out]; unfold Names; simp [k5]
      rw [k5] at c0
      clear k5 b8 b9 h8 h9
      by_cases hw : Within ts n t.elem
      · have K := within_yes (some ⟨b, o, none⟩) ts n n c t.elem w2 HT2.out HN.out (Nat.le_refl _) hw
        have HX := hid (HQ.out.2 hw)
        clear hw
        go_wp2_with (go_at_call 81; refine met K ?_)
        go_ret
        exact test_true HX.out HE2.out
      · have K := within_no (some ⟨b, o, none⟩) ts n n c t.elem w2 HT2.out HN.out (Nat.le_refl _) hw
        have HX := hid (fun h => hw (HQ.out.1 h))
        clear hw
        go_wp2_with (go_at_call 81; refine met K ?_)
        go_ret
        exact test_false HX.out HE2.out
    by_cases k6 : t.kind = 6
    · have HQ : Hid (OkAt ts i ↔ Within ts n t.key ∧ Within ts n t.elem) := by
        refine HD.out.trans ?_
        rw [← HN.out]; unfold Names; simp [k6]
      rw [k6] at c0
      clear k5 k6 b8 b9 h8 h9
      by_cases hw : Within ts n t.elem
      · have K := within_yes (some ⟨b, o, none⟩) ts n n c t.elem w2 HT2.out HN.out (Nat.le_refl _) hw
        by_cases hv : Within ts n t.key
        · have K' := within_yes (some ⟨b, o, none⟩) ts n n c t.key w2 HT2.out HN.out (Nat.le_refl _) hv
          have HX := hid (HQ.out.2 ⟨hv, hw⟩)
          clear hw hv
          go_wp2_with fail
          refine met K ?_
          go_wp2_with fail
          refine met K' ?_
          go_wp2_with fail
          go_ret
          exact test_true HX.out HE2.out
        · have K' := within_no (some ⟨b, o, none⟩) ts n n c t.key w2 HT2.out HN.out (Nat.le_refl _) hv
          have HX := hid (fun h => hv (HQ.out.1 h).1)
          clear hw hv
          go_wp2_with fail
          refine met K ?_
          go_wp2_with fail
          refine met K' ?_
          go_wp2_with fail
          go_ret
          exact test_false HX.out HE2.out
      · have K := within_no (some ⟨b, o, none⟩) ts n n c t.elem w2 HT2.out HN.out (Nat.le_refl _) hw
        have HX := hid (fun h => hw (HQ.out.1 h).2)
        clear hw
        go_wp2_with fail
        refine met K ?_
        go_wp2_with fail
        go_ret
        exact test_false HX.out HE2.out
    by_cases k10 : t.kind = 10
    · have HQ : Hid (OkAt ts i ↔ 0 ≤ t.elem ∧ t.elem < n ∧ (tyAt ts t.elem).kind = 6) := by
        refine HD.out.trans ?_
        rw [← HN.out]; unfold Names; simp [k10]
      rw [k10] at c0
      clear k5 k6 k10 b8 b9 h8 h9
      by_cases g0 : 0 ≤ t.elem
      · by_cases g1 : t.elem < n
        · obtain ⟨q, hq⟩ : ∃ q : Nat, t.elem = q := ⟨t.elem.toNat, by omega⟩
          obtain ⟨b', o', he, hcq⟩ := HT2.out.kind (p := q) (by have := HN.out; omega)
          cases he
          rw [hq] at c1 g0 g1 HQ
          have hd0 : decide ((0 : Int) ≤ (q : Int)) = true := decide_eq_true g0
          have hd1 : decide ((q : Int) < (n : Int)) = true := decide_eq_true g1
          clear hq
          by_cases hv : (tyAt ts q).kind = 6
          · rw [hv] at hcq
            have HX := hid (HQ.out.2 ⟨g0, g1, hv⟩)
            clear hv g0
            go_wp2_with fail
            go_ret
            exact test_true HX.out HE2.out
          · have hb : ((tyAt ts q).kind == 6) = false := by simpa using hv
            have HX := hid (fun h => hv (HQ.out.1 h).2.2)
            clear hv g0
            go_wp2_with fail
            go_ret
            exact test_false HX.out HE2.out
        · have hd0 : decide (0 ≤ t.elem) = true := decide_eq_true g0
          have hd1 : decide (t.elem < (n : Int)) = false := decide_eq_false g1
          have HX := hid (fun h => g1 (HQ.out.1 h).2.1)
          clear g1
          go_wp2_with fail
          go_ret
          exact test_false HX.out HE2.out
      · have hd0 : decide (0 ≤ t.elem) = false := decide_eq_false g0
        have HX := hid (fun h => g0 (HQ.out.1 h).1)
        clear g0
        go_wp2_with fail
        go_ret
        exact test_false HX.out HE2.out
    · have HX : Hid (OkAt ts i) := HD.out.2 (by unfold Names; simp [k5, k6, h8, h9, k10])
      have b5 : (t.kind == 5) = false := by simpa using k5
      have b6 : (t.kind == 6) = false := by simpa using k6
      have b10 : (t.kind == 10) = false := by simpa using k10
      clear k5 k6 k10 h8 h9
      go_wp2_with fail
      go_ret
      exact test_true HX.out HE2.out

end Go.Proofs.YtfabhhmeanpmhaaDoor
