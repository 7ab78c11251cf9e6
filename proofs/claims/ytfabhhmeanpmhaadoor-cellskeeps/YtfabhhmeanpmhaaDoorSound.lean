/-
  Which values are sound, and the program's test of it; no statement is proved here.
-/
import Derived.Test.YtfabhhmeanpmhaaDoorPartsOf
import Derived.Test.YtfabhhmeanpmhaaDoorSize
import Derived.Deep.Cut
namespace Go.Proofs.YtfabhhmeanpmhaaDoor
open Go.RowKit

/-- A sound list of cells of these kinds, with boxes of at most this depth. -/
def Okv (ts : List Ty) : Nat → List Int → List Cl → Prop
  | 0, ks, l => l.length = ks.length
  | d + 1, ks, l => l.length = ks.length ∧ ∀ i, i < l.length → Fits (ks.getD i 0) (cAt l i).n (cAt l i).s (cAt l i).t (cAt l i).box.length ∧ ((cAt l i).t ≠ 0 → Boxable ts (cAt l i).t ∧ Okv ts d (kinds ts ((cAt l i).t - 1)) (cAt l i).box)

theorem test_yes {P : Program} {f : FuncId} {args : Array Value} {w : World} {p : Prop} (h : Calls P f args w (TestPost w p)) (hp : p) : Calls P f args w (SayPost w (.bool true)) :=
  h.mono (by rintro e w' ⟨r, rfl, hE, h1, h2⟩; exact ⟨by rw [h2 hp], hE⟩)
theorem test_no {P : Program} {f : FuncId} {args : Array Value} {w : World} {p : Prop} (h : Calls P f args w (TestPost w p)) (hp : ¬ p) : Calls P f args w (SayPost w (.bool false)) :=
  h.mono (by
    rintro e w' ⟨r, rfl, hE, h1, h2⟩
    cases r
    · exact ⟨rfl, hE⟩
    · exact absurd (h1 rfl) hp)

theorem mk16 (w : World) : (Instr.makeSlice 42 (.int .i64 0) (.int .i64 16)).run Tryd.prog w = .ok (.slice (some ⟨w.heap.size, 0, none⟩) 0 16) (w.alloc (.cells (madeCells #[.int .i64 0] 16) 3)) := by
  obtain ⟨i, hi, hz, hs, hb⟩ := info_parts info3
  have := run_make (P := Tryd.prog) w 42 3 i _ Tryd.underlying42 hi hz .i64 .i64 0 16 (by omega) (by omega) (by rw [hb]; omega) (by omega)
  rw [hs] at this
  simpa [Value.cells] using this
theorem own16 (w : World) : (w.alloc (.cells (madeCells #[.int .i64 0] 16) 3)).ownsRow w.heap.size 3 1 (.slice (some ⟨w.heap.size, 0, none⟩) 0 16) 0 ([] : List Value) :=
  ⟨by simp, .inr ⟨w.heap.size, 16, _, rfl, Nat.le_refl _, heap_alloc_new _ _, by omega, by unfold maxLen; omega, by simp [size_madeCells], by simp⟩⟩

def wfn (tb wb : Nat) : Value := .func (.func 48) #[] #[.pointer (some ⟨tb, 0, none⟩), .pointer (some ⟨wb, 0, none⟩)]

set_option maxRecDepth 100000 in
set_option maxHeartbeats 4000000 in
theorem walk_any (ts : List Ty) (ta : Option Addr) (tn tc tb wb : Nat) (htn : ts.length = tn) (hS : Sound ts) : ∀ (d t : Nat) (a : Option Addr) (l : List Cl) (n c : Nat) (w : World), t < tn → Cs d w a l → l.length = n → Tab w ta ts →
    w.cell? ⟨tb, 0, none⟩ = some (.slice ta tn tc) → w.cell? ⟨wb, 0, none⟩ = some (wfn tb wb) →
    Calls Tryd.prog 48 #[.int .i64 t, .slice a n c, .pointer (some ⟨tb, 0, none⟩), .pointer (some ⟨wb, 0, none⟩)] w (TestPost w (Okv ts d (kinds ts t) l)) := by
  intro d
  induction d with
  | zero =>
    intro t a l n c w ht hC hn hT hct hcw
    have hkl := kinds_len hS.2.1 (t + 1) t (by omega) (by omega) (by omega)
    have hkw := (sound_fit hS (i := t) (by omega)).2
    have hKL : (kinds ts t).length ≤ 16 := by omega
    have K1 := fun u (hu : Ext [] w u) => appendKinds_any ts ta tn tc htn hS.2.1 (t + 1) t (by omega) ht u (u.alloc (.cells (madeCells #[.int .i64 0] 16) 3)) _ 0 [] (hT.keep0 hu) (Ext.alloc _ _ _) (by simpa using own16 u) (by omega)
    have hmk := mk16
    obtain rfl : l = [] := hC
    obtain rfl : n = 0 := by simpa using hn.symm
    have hw1 := (sound_fit hS (i := t) (by omega)).1.w0
    have hK1 : 1 ≤ (kinds ts t).length := by omega
    clear hT
    go_enter Tryd.func48, Tryd.ntmps48
    go_wp2_with fail
    go_region_held3 (fun w' => w'.cell? ⟨tb, 0, none⟩ = some (.slice ta tn tc)) (first | exact hE2.cell ((Ext.drew [] _).cell hct (by simp)) (by simp) | go_keep)
      (first | (go_at_call 49; refine (K1 _ (Ext.drew [] _)).mono ?_; rintro e w2 ⟨kv, rfl, hO2, hE2, _, _⟩))
    rw [Nat.zero_add, List.nil_append] at hO2
    obtain ⟨ka, kc, rfl, hkc⟩ := own_slice hO2
    have HE2 := hid ((Ext.drew [] w).trans hE2)
    clear hO2 hE2 K1 hkl hkw hct hcw hw1
    generalize kinds ts t = ks at *
    have h1 : ((0 : Int) == (ks.length : Int)) = false := by simp; omega
    have h2 : ¬ ((0 : Int) = (ks.length : Int)) := by omega
    have HN2 : Hid (¬ Okv ts 0 ks []) := fun h => by simp only [Okv, List.length_nil] at h; omega
    go_wp2_with fail
    go_ret
    exact test_false HN2.out HE2.out
  | succ d ih =>
    intro t a l n c w ht hC hn hT hct hcw
    have hkl := kinds_len hS.2.1 (t + 1) t (by omega) (by omega) (by omega)
    have hkw := (sound_fit hS (i := t) (by omega)).2
    have hKL : (kinds ts t).length ≤ 16 := by omega
    have K1 := fun u (hu : Ext [] w u) => appendKinds_any ts ta tn tc htn hS.2.1 (t + 1) t (by omega) ht u (u.alloc (.cells (madeCells #[.int .i64 0] 16) 3)) _ 0 [] (hT.keep0 hu) (Ext.alloc _ _ _) (by simpa using own16 u) (by omega)
    have hmk := mk16
    have HC := hid hC
    have HT := hid hT
    have HIH := hid ih
    have HCW := hid hcw
    have HCT := hid hct
    have hl := hC.len
    clear hC hT ih
    go_enter Tryd.func48, Tryd.ntmps48
    go_wp2_with fail
    go_region_held3 (fun w' => w'.cell? ⟨tb, 0, none⟩ = some (.slice ta tn tc)) (first | exact hE2.cell ((Ext.drew [] _).cell hct (by simp)) (by simp) | go_keep)
      (first | (go_at_call 49; refine (K1 _ (Ext.drew [] _)).mono ?_; rintro e w2 ⟨kv, rfl, hO2, hE2, _, _⟩))
    rw [Nat.zero_add, List.nil_append] at hO2
    obtain ⟨ka, kc, rfl, hkc⟩ := own_slice hO2
    have HKS := hid (own_vs hO2)
    have HLF := hid (kinds_leaf hS.2.1 (t + 1) t (by omega) (by omega) (by omega))
    have HE2 := hid ((Ext.drew [] w).trans hE2)
    clear hO2 hE2 K1 hkl hkw hct hcw
    generalize kinds ts t = ks at *
    by_cases hnk : n = ks.length
    · subst hnk
      go_wp2_with fail
      go_loopw [21] (fun q wr => ∃ k : Nat, q = .int .i64 k ∧ k ≤ ks.length ∧ Ext [] w2 wr ∧ ∀ i, i < k → Fits (ks.getD i 0) (cAt l i).n (cAt l i).s (cAt l i).t (cAt l i).box.length ∧ ((cAt l i).t ≠ 0 → Boxable ts (cAt l i).t ∧ Okv ts d (kinds ts ((cAt l i).t - 1)) (cAt l i).box)) (fun q _ => (ks.length - (intOf q)).toNat)
      case atStart => exact ⟨0, rfl, by omega, Ext.refl _ _, fun i hi => by omega⟩
      case round =>
        obtain ⟨k, rfl, hk, hEr, hok⟩ := hrel
        have HER := hid (HE2.out.trans hEr)
        have HE20 := hid hEr
        have HOK := hid hok
        have hKr := Vs.keep0 HKS.out hEr
        clear hEr hok
        by_cases hlt : k < ks.length
        · obtain ⟨d1, b, o, hd, rfl, hat⟩ := (HC.out.keep0 HER.out).at_ (by omega)
          obtain rfl : d1 = d := by omega
          obtain ⟨ba, bc, hcl, hbx⟩ := hat k (by omega)
          obtain ⟨kb, ko, rfl, hkcs⟩ := Is.at_ (xs := ks) hKr (by intro e; rw [e] at hlt; simp at hlt)
          have hkk := hkcs k (by omega)
          have hlf := HLF.out (ks.getD k 0) (by rw [show ks.getD k 0 = ks[k]'(by omega) by simp [show k < ks.length by omega]]; exact List.getElem_mem _)
          have x0 := hcl.c0
          have x1 := hcl.c1
          have x2 := hcl.c2
          have x3 := hcl.c3
          have ht0 := hcl.t0
          have hkn : (k : Int) < ks.length := by omega
          have hE1 := Ext.alloc [] wr (.cells #[.int .u64 (cAt l k).n, .string (cAt l k).s, .int .i64 (cAt l k).t, .slice ba (cAt l k).box.length bc] 49)
          have hb1 := heap_alloc_new wr (.cells #[.int .u64 (cAt l k).n, .string (cAt l k).s, .int .i64 (cAt l k).t, .slice ba (cAt l k).box.length bc] 49)
          have z0 : (wr.alloc (.cells #[.int .u64 (cAt l k).n, .string (cAt l k).s, .int .i64 (cAt l k).t, .slice ba (cAt l k).box.length bc] 49)).cell? ⟨wr.heap.size, 0, none⟩ = some (.int .u64 (cAt l k).n) := by rw [cell_of_row _ _ _ _ _ _ hb1]; rfl
          have z1 : (wr.alloc (.cells #[.int .u64 (cAt l k).n, .string (cAt l k).s, .int .i64 (cAt l k).t, .slice ba (cAt l k).box.length bc] 49)).cell? ⟨wr.heap.size, 1, none⟩ = some (.string (cAt l k).s) := by rw [cell_of_row _ _ _ _ _ _ hb1]; rfl
          have z2 : (wr.alloc (.cells #[.int .u64 (cAt l k).n, .string (cAt l k).s, .int .i64 (cAt l k).t, .slice ba (cAt l k).box.length bc] 49)).cell? ⟨wr.heap.size, 2, none⟩ = some (.int .i64 (cAt l k).t) := by rw [cell_of_row _ _ _ _ _ _ hb1]; rfl
          have z3 : (wr.alloc (.cells #[.int .u64 (cAt l k).n, .string (cAt l k).s, .int .i64 (cAt l k).t, .slice ba (cAt l k).box.length bc] 49)).cell? ⟨wr.heap.size, 3, none⟩ = some (.slice ba (cAt l k).box.length bc) := by rw [cell_of_row _ _ _ _ _ _ hb1]; rfl
          have zk := hE1.cell hkk (by simp)
          have HEW := hid (HER.out.trans hE1)
          have HEV := hid (HE20.out.trans hE1)
          have hbx1 := hbx.keep0 hE1
          clear hat hcl hbx hkcs hkk hE1 hb1 hd hKr
          go_upto_region 7 with fail
          generalize wr.alloc (.cells #[.int .u64 (cAt l k).n, .string (cAt l k).s, .int .i64 (cAt l k).t, .slice ba (cAt l k).box.length bc] 49) = W1 at *
          clear x0 x1 x2 x3
          have KF := fits_any (ks.getD k 0) (cAt l k).n (cAt l k).s (cAt l k).t ba (cAt l k).box.length bc W1.drew hlf
          have HOk : Hid (Fits (ks.getD k 0) (cAt l k).n (cAt l k).s (cAt l k).t (cAt l k).box.length ∧ ((cAt l k).t ≠ 0 → Boxable ts (cAt l k).t ∧ Okv ts d1 (kinds ts ((cAt l k).t - 1)) (cAt l k).box) → ∀ i, i < k + 1 → Fits (ks.getD i 0) (cAt l i).n (cAt l i).s (cAt l i).t (cAt l i).box.length ∧ ((cAt l i).t ≠ 0 → Boxable ts (cAt l i).t ∧ Okv ts d1 (kinds ts ((cAt l i).t - 1)) (cAt l i).box)) := fun h i hi => by
            rcases (by omega : i < k ∨ i = k) with h' | rfl
            · exact HOK.out i h'
            · exact h
          have HNo : Hid (¬ (Fits (ks.getD k 0) (cAt l k).n (cAt l k).s (cAt l k).t (cAt l k).box.length ∧ ((cAt l k).t ≠ 0 → Boxable ts (cAt l k).t ∧ Okv ts d1 (kinds ts ((cAt l k).t - 1)) (cAt l k).box)) → ¬ Okv ts (d1 + 1) ks l) := fun h hO => h (hO.2 k (by omega))
          have KI := fun q => HIH.out q ba (cAt l k).box (cAt l k).box.length bc
          clear HOK
          generalize (cAt l k).box = bx at *
          generalize hbl : bx.length = bl at *
          generalize (cAt l k).n = cn at *
          generalize (cAt l k).s = cs at *
          generalize (cAt l k).t = ct at *
          generalize ks.getD k 0 = kk at *
          by_cases hf : Fits kk cn cs ct bl
          · have KF2 := test_yes KF hf
            clear KF hlf
            go_region_held3 (fun w' => w'.cell? ⟨kb, ko + k, none⟩ = some (.int .i64 kk) ∧ w'.cell? ⟨wr.heap.size, 0, none⟩ = some (.int .u64 cn) ∧ w'.cell? ⟨wr.heap.size, 1, none⟩ = some (.string cs) ∧ w'.cell? ⟨wr.heap.size, 2, none⟩ = some (.int .i64 ct) ∧ w'.cell? ⟨wr.heap.size, 3, none⟩ = some (.slice ba bl bc))
              (first | exact ⟨hE4.cell ((Ext.drew [] _).cell zk (by simp)) (by simp), hE4.cell ((Ext.drew [] _).cell z0 (by simp)) (by simp), hE4.cell ((Ext.drew [] _).cell z1 (by simp)) (by simp), hE4.cell ((Ext.drew [] _).cell z2 (by simp)) (by simp), hE4.cell ((Ext.drew [] _).cell z3 (by simp)) (by simp)⟩ | go_keep)
              (first | (go_at_call 50; refine KF2.mono ?_; rintro e w4 ⟨rfl, hE4⟩))
            have HE4 := hid ((HEW.out.trans (Ext.drew [] W1)).trans hE4)
            have HE5 := hid ((HEV.out.trans (Ext.drew [] W1)).trans hE4)
            have y2 := hE4.cell ((Ext.drew [] W1).cell z2 (by simp)) (by simp)
            have y3 := hE4.cell ((Ext.drew [] W1).cell z3 (by simp)) (by simp)
            have hbx4 := (hbx1.keep0 (Ext.drew [] W1)).keep0 hE4
            have yt := HE4.out.cell HCT.out (by simp)
            have yw := HE4.out.cell HCW.out (by simp)
            have hT4 := HT.out.keep0 HE4.out
            clear hE4 z0 z1 z2 z3 zk hbx1
            by_cases h0 : ct = 0
            · subst h0
              go_wp2_with fail
              go_roundw
              case rel => exact ⟨k + 1, by go_num, by omega, HE5.out, HOk.out ⟨hf, fun h => absurd rfl h⟩⟩
              case measure => simp [intOf]; omega
            · have hc0 : (ct == 0) = false := by simpa using h0
              have hc1 : (ct != 0) = true := by simpa using h0
              have KB := boxable_any ta ts tn tc ct w4 hT4 htn
              by_cases hb : Boxable ts ct
              · obtain ⟨q, hq⟩ : ∃ q : Nat, ct = (q : Int) + 1 := ⟨(ct - 1).toNat, by have := hb.1; omega⟩
                have hqn : q < tn := by have := hb.2.1; omega
                have e1 : IntKind.wrap .i64 (ct - 1) = q := by rw [IntKind.wrap_i64]; omega
                have KB2 := test_yes KB hb
                have KW := fun u (hu : Ext [] w4 u) => KI q u hqn (hbx4.keep0 hu) trivial (hT4.keep0 hu) (hu.cell yt (by simp)) (hu.cell yw (by simp))
                have HCT2 := hid yt
                have HCW2 := hid yw
                rw [show ct - 1 = (q : Int) by omega] at HOk HNo
                have Hb := hid hb
                have Hf := hid hf
                have Hq := hid hq
                clear KB hb hf hq hT4 hbx4 h0 KI
                unfold wfn at yw
                by_cases ho : Okv ts d1 (kinds ts q) bx
                · have KW2 := fun u hu => test_yes (KW u hu) ho
                  have HO := hid (HOk.out ⟨Hf.out, fun _ => ⟨Hb.out, ho⟩⟩)
                  clear KW ho
                  go_wp2_with (first | (go_at_call 51; refine KB2.mono ?_; rintro e w5 ⟨rfl, hE5⟩; have v2 := hE5.cell y2 (by simp); have v3 := hE5.cell y3 (by simp); have vw := hE5.cell yw (by simp)) | (go_at_call 48; refine (KW2 _ hE5).mono ?_; rintro e w6 ⟨rfl, hE6⟩))
                  go_roundw
                  case rel => exact ⟨k + 1, by go_num, by omega, (HE5.out.trans hE5).trans hE6, HO.out⟩
                  case measure => simp [intOf]; omega
                · have KW2 := fun u hu => test_no (KW u hu) ho
                  have HN2 := hid (HNo.out (fun h => ho (h.2 (by have := Hq.out; omega)).2))
                  clear KW ho
                  go_wp2_with (first | (go_at_call 51; refine KB2.mono ?_; rintro e w5 ⟨rfl, hE5⟩; have v2 := hE5.cell y2 (by simp); have v3 := hE5.cell y3 (by simp); have vw := hE5.cell yw (by simp)) | (go_at_call 48; refine (KW2 _ hE5).mono ?_; rintro e w6 ⟨rfl, hE6⟩))
                  go_ret
                  exact test_false HN2.out ((HE4.out.trans hE5).trans hE6)
              · have KB2 := test_no KB hb
                have HN2 := hid (HNo.out (fun h => hb (h.2 h0).1))
                clear KB hb hf hbx4 hT4 h0
                go_wp2_with (go_at_call 51; refine KB2.mono ?_; rintro e w5 ⟨rfl, hE5⟩)
                go_ret
                exact test_false HN2.out (HE4.out.trans hE5)
          · have KF2 := test_no KF hf
            clear KF hlf
            go_region_held3 (fun w' => w'.cell? ⟨kb, ko + k, none⟩ = some (.int .i64 kk) ∧ w'.cell? ⟨wr.heap.size, 0, none⟩ = some (.int .u64 cn) ∧ w'.cell? ⟨wr.heap.size, 1, none⟩ = some (.string cs) ∧ w'.cell? ⟨wr.heap.size, 2, none⟩ = some (.int .i64 ct) ∧ w'.cell? ⟨wr.heap.size, 3, none⟩ = some (.slice ba bl bc))
              (first | exact ⟨hE4.cell ((Ext.drew [] _).cell zk (by simp)) (by simp), hE4.cell ((Ext.drew [] _).cell z0 (by simp)) (by simp), hE4.cell ((Ext.drew [] _).cell z1 (by simp)) (by simp), hE4.cell ((Ext.drew [] _).cell z2 (by simp)) (by simp), hE4.cell ((Ext.drew [] _).cell z3 (by simp)) (by simp)⟩ | go_keep)
              (first | (go_at_call 50; refine KF2.mono ?_; rintro e w4 ⟨rfl, hE4⟩))
            have HE4 := hid ((HEW.out.trans (Ext.drew [] W1)).trans hE4)
            have HN2 := hid (HNo.out (fun h => hf h.1))
            clear hE4
            go_wp2_with fail
            go_ret
            exact test_false HN2.out HE4.out
        · obtain rfl : k = ks.length := by omega
          have hkn : ¬ ((ks.length : Int) < (ks.length : Int)) := by omega
          have HY : Hid (Okv ts (d + 1) ks l) := ⟨hn, fun i hi => HOK.out i (by omega)⟩
          clear hlt hk hKr
          go_wp2_with fail
          go_ret
          exact test_true HY.out HER.out
    · have h1 : ((n : Int) == (ks.length : Int)) = false := by simp; omega
      have HN2 : Hid (¬ Okv ts (d + 1) ks l) := fun h => hnk (by rw [← hn]; exact h.1)
      clear hnk
      go_wp2_with fail
      go_ret
      exact test_false HN2.out HE2.out

set_option maxRecDepth 100000 in
set_option maxHeartbeats 4000000 in
theorem psound_any (ts : List Ty) (ta : Option Addr) (tn tc : Nat) (htn : ts.length = tn) (hS : Sound ts) (d t : Nat) (a : Option Addr) (l : List Cl) (n c : Nat) (w : World) (ht : t < tn) (hC : Cs d w a l) (hn : l.length = n) (hT : Tab w ta ts) :
    Calls Tryd.prog 28 #[.slice ta tn tc, .int .i64 t, .slice a n c] w (TestPost w (siz l ≤ 256 ∧ Okv ts d (kinds ts t) l)) := by
  have hE0 := Ext.alloc [] w (.cells #[.slice ta tn tc] 22)
  have K := psize_any d a l n c _ (hC.keep0 hE0) hn
  have hb0 := heap_alloc_new w (.cells #[.slice ta tn tc] 22)
  have HC := hid hC
  have HT := hid hT
  have HE0 := hid hE0
  have HB0 := hid hb0
  clear hC hT hE0 hb0
  by_cases hz : siz l ≤ 256
  · have e1 : ¬ ((256 : Int) < (siz l : Int)) := by omega
    have Hz := hid hz
    clear hz
    generalize siz l = sl at *
    go_enter Tryd.func28, Tryd.ntmps28
    go_upto_region 3 with (go_at_call 18; refine K.mono ?_; rintro e w1 ⟨rfl, hE1⟩)
    have hb1 := hE1.keep HB0.out (by simp)
    have hE2 := Ext.alloc [] w1 (.cells #[wfn w.heap.size w1.heap.size] 82)
    have hE02 := (HE0.out.trans hE1).trans hE2
    have hct : (w1.alloc (.cells #[wfn w.heap.size w1.heap.size] 82)).cell? ⟨w.heap.size, 0, none⟩ = some (.slice ta tn tc) := by
      rw [cell_of_row _ _ _ _ _ _ (hE2.keep hb1 (by simp))]; rfl
    have hcw : (w1.alloc (.cells #[wfn w.heap.size w1.heap.size] 82)).cell? ⟨w1.heap.size, 0, none⟩ = some (wfn w.heap.size w1.heap.size) := by
      rw [cell_of_row _ _ _ _ _ _ (heap_alloc_new _ _)]; rfl
    have K2 := walk_any ts ta tn tc w.heap.size w1.heap.size htn hS d t a l n c _ ht (HC.out.keep0 hE02) hn (HT.out.keep0 hE02) hct hcw
    have HE02 := hid hE02
    unfold wfn at K2 HE02
    clear hct hcw hE02 hE2 hb1 hE1 K
    go_wp2_with (go_at_call 48; refine K2.mono ?_; rintro e w3 ⟨r, rfl, hE3, hr⟩)
    go_ret
    exact ⟨r, rfl, HE02.out.trans hE3, hr.trans ⟨fun h => ⟨Hz.out, h⟩, fun h => h.2⟩⟩
  · have e1 : (256 : Int) < (siz l : Int) := by omega
    have HN : Hid (¬ (siz l ≤ 256 ∧ Okv ts d (kinds ts t) l)) := fun h => hz h.1
    clear hz
    generalize siz l = sl at *
    go_enter Tryd.func28, Tryd.ntmps28
    go_wp2_with (go_at_call 18; refine K.mono ?_; rintro e w1 ⟨rfl, hE1⟩)
    go_ret
    exact test_false HN.out (HE0.out.trans hE1)

end Go.Proofs.YtfabhhmeanpmhaaDoor
