/-
  WLNil, TFits, TKinds: joined by program; no statement is proved here.
-/
import Derived.Test.YtbpjmcjjambdkaaGreatDoorZAC
import Derived.Test.YtbpjmcjjambdkaaGreatDoorZAD
import Derived.Test.YtbpjmcjjambdkaaGreatDoorZAE
import Derived.Deep.RegionHeld3
import Derived.Deep.Cut
/-
  LayoutNil, walked through; its frame is in LawNil. No statement is proved here.
-/
namespace Go.Proofs.YtbpjmcjjambdkaaGreatDoor.Ty
open Go.RowKit

theorem nile_chk (ts : List Ty) : (chk ts = 0 ∧ nile ts = 2) ∨ (chk ts = 1 ∧ nile ts = 1) := by
  unfold nile
  by_cases h : Sound ts
  · rw [chk_yes h]; exact .inl ⟨rfl, rfl⟩
  · rw [chk_no h]; exact .inr ⟨rfl, rfl⟩
set_option maxRecDepth 100000 in
set_option maxHeartbeats 8000000 in
theorem nilWalk (ts : List Ty) (ta : Option Addr) (tn tc : Nat) (htn : ts.length = tn) (d : Nat) (t : Int) (a : Option Addr) (l : List Cl) (c : Nat) (w : World) (hC : Cs d w a l) (hT : Tab w ta ts) (hG : Gl w) (hA : ∀ u, Ext [] w u → Calls Tryz.prog 10 #[] u (SayPost u (.bool true))) :
    Calls Tryz.prog 8 #[.agg #[.slice ta tn tc, .int .i64 t, .slice a l.length c]] w (SayPost w (.bool true)) := by
  have hE0 := Ext.alloc [] w (.cells #[.slice ta tn tc, .int .i64 t, .slice a l.length c] 28)
  have hb0 := heap_alloc_new w (.cells #[.slice ta tn tc, .int .i64 t, .slice a l.length c] 28)
  have KR := rcheck_any ta ts tn tc _ (hT.keep0 hE0) htn
  have HQ : Hid (∀ u, Ext [] (w.alloc (.cells #[.slice ta tn tc, .int .i64 t, .slice a l.length c] 28)) u → u.cell? ⟨w.heap.size, 0, none⟩ = some (.slice ta tn tc) ∧ u.cell? ⟨w.heap.size, 1, none⟩ = some (.int .i64 t) ∧ u.cell? ⟨w.heap.size, 2, none⟩ = some (.slice a l.length c)) := fun u hu =>
    ⟨hu.cell (by rw [cell_of_row _ _ _ _ _ _ hb0]; rfl) (by simp), hu.cell (by rw [cell_of_row _ _ _ _ _ _ hb0]; rfl) (by simp), hu.cell (by rw [cell_of_row _ _ _ _ _ _ hb0]; rfl) (by simp)⟩
  have HE0 := hid hE0
  have KT : ∀ u, Ext [] w u → Calls Tryz.prog 13 #[.slice ta tn tc] u (fun e w' => ∃ at1 ct1, e = .returned (.slice at1 tn ct1) ∧ tn ≤ ct1 ∧ Tab w' at1 ts ∧ Ext [] u w') := fun u hu => (copy_any ta ts tn tc u (hT.keep0 hu) htn).mono (by rintro e w' ⟨a1, c1, G, h1, h2, _, h4, h5⟩; exact ⟨a1, c1, h1, h2, h4, h5⟩)
  have KV : ∀ u, Ext [] w u → Calls Tryz.prog 14 #[.slice a l.length c] u (fun e w' => ∃ av1 cv1, e = .returned (.slice av1 l.length cv1) ∧ Ext [] u w') := fun u hu => (rcopy_any d a l _ c u (hC.keep0 hu) rfl).mono (by rintro e w' ⟨a1, c1, h1, _, _, h3⟩; exact ⟨a1, c1, h1, h3⟩)
  have KS : ∀ u, Ext [] w u → ∀ at1 ct1, tn ≤ ct1 → ∀ av1 cv1, Tab u at1 ts → Calls Tryz.prog 12 #[.pointer none, .slice at1 tn ct1, .int .i64 t, .slice av1 l.length cv1, .slice none 0 0] u (SayPost u (.tuple #[.slice none 0 0, .int .i64 (nile ts)])) := fun u hu at1 ct1 hct av1 cv1 h1 => save_nil at1 ts tn ct1 t _ _ u h1 htn hct (hG.keep0 hu)
  have KL : ∀ u, Ext [] w u → ∀ at1 ct1, tn ≤ ct1 → Tab u at1 ts → Calls Tryz.prog 19 #[.pointer none, .slice at1 tn ct1, .int .i64 t, .slice none 0 0] u (SayPost u (.tuple #[.slice none 0 0, .int .i64 (nile ts)])) := fun u hu at1 ct1 hct h1 => load_nil at1 ts tn ct1 t _ u h1 htn hct (hG.keep0 hu)
  have KM : ∀ u, Ext [] w u → ∀ at1 ct1, tn ≤ ct1 → Tab u at1 ts → Calls Tryz.prog 22 #[.pointer none, .slice at1 tn ct1, .int .i64 t, .slice none 0 0] u (SayPost u (.tuple #[.int .i64 0, .int .i64 (nile ts)])) := fun u hu at1 ct1 hct h1 => make_nil at1 ts tn ct1 t _ u h1 htn hct (hG.keep0 hu)
  have KF : ∀ u, Ext [] w u → ∀ at1 ct1, tn ≤ ct1 → Tab u at1 ts → Calls Tryz.prog 24 #[.pointer none, .slice at1 tn ct1, .int .i64 t, .int .i64 256] u (SayPost u (.tuple #[.slice none 0 0, .int .i64 (nile ts)])) := fun u hu at1 ct1 hct h1 => fetch_nil at1 ts tn ct1 t _ u h1 htn hct (hG.keep0 hu)
  have KK : ∀ u, Ext [] w u → ∀ at1 ct1, tn ≤ ct1 → ∀ av1 cv1, Tab u at1 ts → Calls Tryz.prog 27 #[.pointer none, .slice at1 tn ct1, .int .i64 t, .int .i64 256, .slice av1 l.length cv1, .slice none 0 0] u (SayPost u (.int .i64 (nile ts))) := fun u hu at1 ct1 hct av1 cv1 h1 => keep_nil at1 ts tn ct1 t _ _ _ u h1 htn hct (hG.keep0 hu)
  have KA := hA
  have hne := nile_chk ts
  clear hT hG hC hE0 hb0 hA htn
  generalize chk ts = x at *
  generalize nile ts = y at *
  rcases hne with ⟨rfl, rfl⟩ | ⟨rfl, rfl⟩
  · go_enter Tryz.func8, Tryz.ntmps8
    go_upto_region 4 with (go_at_call 37; refine KR.mono ?_; clear KR; rintro e w1 ⟨rfl, hE1⟩)
    have hX_w1 : Ext [] w w1 := HE0.out.trans hE1
    obtain ⟨q0, q1, q2⟩ := HQ.out w1 hE1
    clear hE1 HQ HE0
    generalize w.heap.size = qb at *
    go_region_held3 (fun u => u.cell? ⟨qb, 0, none⟩ = some (.slice ta tn tc) ∧ u.cell? ⟨qb, 1, none⟩ = some (.int .i64 t) ∧ u.cell? ⟨qb, 2, none⟩ = some (.slice a l.length c))
      (first | exact ⟨Ext.cell (by (repeat (first | (with_reducible exact Ext.refl [] _) | (with_reducible exact Ext.drew [] _) | (with_reducible assumption) | (with_reducible refine Ext.trans ?_ (Ext.drew [] _)) | (with_reducible refine Ext.trans ?_ (by assumption)) | fail "no chain"))) q0 (by simp), Ext.cell (by (repeat (first | (with_reducible exact Ext.refl [] _) | (with_reducible exact Ext.drew [] _) | (with_reducible assumption) | (with_reducible refine Ext.trans ?_ (Ext.drew [] _)) | (with_reducible refine Ext.trans ?_ (by assumption)) | fail "no chain"))) q1 (by simp), Ext.cell (by (repeat (first | (with_reducible exact Ext.refl [] _) | (with_reducible exact Ext.drew [] _) | (with_reducible assumption) | (with_reducible refine Ext.trans ?_ (Ext.drew [] _)) | (with_reducible refine Ext.trans ?_ (by assumption)) | fail "no chain"))) q2 (by simp)⟩ | go_keep)
      (first
        | (go_at_call 13; (with_reducible refine Calls.mono (KT _ ?_) ?_); (repeat (first | (with_reducible exact Ext.refl [] _) | (with_reducible exact Ext.drew [] _) | (with_reducible assumption) | (with_reducible refine Ext.trans ?_ (Ext.drew [] _)) | (with_reducible refine Ext.trans ?_ (by assumption)) | fail "no chain")); rintro e wt ⟨at1, ct1, rfl, hct, hTC, hEt⟩)
        | (go_at_call 14; (with_reducible refine Calls.mono (KV _ ?_) ?_); (repeat (first | (with_reducible exact Ext.refl [] _) | (with_reducible exact Ext.drew [] _) | (with_reducible assumption) | (with_reducible refine Ext.trans ?_ (Ext.drew [] _)) | (with_reducible refine Ext.trans ?_ (by assumption)) | fail "no chain")); rintro e wv ⟨av1, cv1, rfl, hEv⟩)
        | (go_at_call 12; refine Calls.mono (KS _ ?_ at1 ct1 hct av1 cv1 (hTC.keep0 ?_)) ?_; (repeat (first | (with_reducible exact Ext.refl [] _) | (with_reducible exact Ext.drew [] _) | (with_reducible assumption) | (with_reducible refine Ext.trans ?_ (Ext.drew [] _)) | (with_reducible refine Ext.trans ?_ (by assumption)) | fail "no chain")); (repeat (first | (with_reducible exact Ext.refl [] _) | (with_reducible exact Ext.drew [] _) | (with_reducible assumption) | (with_reducible refine Ext.trans ?_ (Ext.drew [] _)) | (with_reducible refine Ext.trans ?_ (by assumption)) | fail "no chain")); rintro e w2 ⟨rfl, hEr⟩)
        | fail "no arm")
    rename_i hHeld
    clear q0 q1 q2
    obtain ⟨q0, q1, q2⟩ := hHeld
    have hX_w2 : Ext [] w w2 := by (repeat (first | (with_reducible exact Ext.refl [] _) | (with_reducible exact Ext.drew [] _) | (with_reducible assumption) | (with_reducible refine Ext.trans ?_ (Ext.drew [] _)) | (with_reducible refine Ext.trans ?_ (by assumption)) | fail "no chain"))
    clear hEt hEv hEr hTC hct KS hX_w1
    go_upto_region 5 with fail
    go_region_held3 (fun u => u.cell? ⟨qb, 0, none⟩ = some (.slice ta tn tc) ∧ u.cell? ⟨qb, 1, none⟩ = some (.int .i64 t) ∧ u.cell? ⟨qb, 2, none⟩ = some (.slice a l.length c))
      (first | exact ⟨Ext.cell (by (repeat (first | (with_reducible exact Ext.refl [] _) | (with_reducible exact Ext.drew [] _) | (with_reducible assumption) | (with_reducible refine Ext.trans ?_ (Ext.drew [] _)) | (with_reducible refine Ext.trans ?_ (by assumption)) | fail "no chain"))) q0 (by simp), Ext.cell (by (repeat (first | (with_reducible exact Ext.refl [] _) | (with_reducible exact Ext.drew [] _) | (with_reducible assumption) | (with_reducible refine Ext.trans ?_ (Ext.drew [] _)) | (with_reducible refine Ext.trans ?_ (by assumption)) | fail "no chain"))) q1 (by simp), Ext.cell (by (repeat (first | (with_reducible exact Ext.refl [] _) | (with_reducible exact Ext.drew [] _) | (with_reducible assumption) | (with_reducible refine Ext.trans ?_ (Ext.drew [] _)) | (with_reducible refine Ext.trans ?_ (by assumption)) | fail "no chain"))) q2 (by simp)⟩ | go_keep)
      (first
        | (go_at_call 13; (with_reducible refine Calls.mono (KT _ ?_) ?_); (repeat (first | (with_reducible exact Ext.refl [] _) | (with_reducible exact Ext.drew [] _) | (with_reducible assumption) | (with_reducible refine Ext.trans ?_ (Ext.drew [] _)) | (with_reducible refine Ext.trans ?_ (by assumption)) | fail "no chain")); rintro e wt ⟨at1, ct1, rfl, hct, hTC, hEt⟩)
        | (go_at_call 19; refine Calls.mono (KL _ ?_ at1 ct1 hct (hTC.keep0 ?_)) ?_; (repeat (first | (with_reducible exact Ext.refl [] _) | (with_reducible exact Ext.drew [] _) | (with_reducible assumption) | (with_reducible refine Ext.trans ?_ (Ext.drew [] _)) | (with_reducible refine Ext.trans ?_ (by assumption)) | fail "no chain")); (repeat (first | (with_reducible exact Ext.refl [] _) | (with_reducible exact Ext.drew [] _) | (with_reducible assumption) | (with_reducible refine Ext.trans ?_ (Ext.drew [] _)) | (with_reducible refine Ext.trans ?_ (by assumption)) | fail "no chain")); rintro e w3 ⟨rfl, hEr⟩)
        | fail "no arm")
    rename_i hHeld
    clear q0 q1 q2
    obtain ⟨q0, q1, q2⟩ := hHeld
    have hX_w3 : Ext [] w w3 := by (repeat (first | (with_reducible exact Ext.refl [] _) | (with_reducible exact Ext.drew [] _) | (with_reducible assumption) | (with_reducible refine Ext.trans ?_ (Ext.drew [] _)) | (with_reducible refine Ext.trans ?_ (by assumption)) | fail "no chain"))
    clear hEt hEr hTC hct KL hX_w2
    go_upto_region 6 with fail
    go_region_held3 (fun u => u.cell? ⟨qb, 0, none⟩ = some (.slice ta tn tc) ∧ u.cell? ⟨qb, 1, none⟩ = some (.int .i64 t) ∧ u.cell? ⟨qb, 2, none⟩ = some (.slice a l.length c))
      (first | exact ⟨Ext.cell (by (repeat (first | (with_reducible exact Ext.refl [] _) | (with_reducible exact Ext.drew [] _) | (with_reducible assumption) | (with_reducible refine Ext.trans ?_ (Ext.drew [] _)) | (with_reducible refine Ext.trans ?_ (by assumption)) | fail "no chain"))) q0 (by simp), Ext.cell (by (repeat (first | (with_reducible exact Ext.refl [] _) | (with_reducible exact Ext.drew [] _) | (with_reducible assumption) | (with_reducible refine Ext.trans ?_ (Ext.drew [] _)) | (with_reducible refine Ext.trans ?_ (by assumption)) | fail "no chain"))) q1 (by simp), Ext.cell (by (repeat (first | (with_reducible exact Ext.refl [] _) | (with_reducible exact Ext.drew [] _) | (with_reducible assumption) | (with_reducible refine Ext.trans ?_ (Ext.drew [] _)) | (with_reducible refine Ext.trans ?_ (by assumption)) | fail "no chain"))) q2 (by simp)⟩ | go_keep)
      (first
        | (go_at_call 13; (with_reducible refine Calls.mono (KT _ ?_) ?_); (repeat (first | (with_reducible exact Ext.refl [] _) | (with_reducible exact Ext.drew [] _) | (with_reducible assumption) | (with_reducible refine Ext.trans ?_ (Ext.drew [] _)) | (with_reducible refine Ext.trans ?_ (by assumption)) | fail "no chain")); rintro e wt ⟨at1, ct1, rfl, hct, hTC, hEt⟩)
        | (go_at_call 22; refine Calls.mono (KM _ ?_ at1 ct1 hct (hTC.keep0 ?_)) ?_; (repeat (first | (with_reducible exact Ext.refl [] _) | (with_reducible exact Ext.drew [] _) | (with_reducible assumption) | (with_reducible refine Ext.trans ?_ (Ext.drew [] _)) | (with_reducible refine Ext.trans ?_ (by assumption)) | fail "no chain")); (repeat (first | (with_reducible exact Ext.refl [] _) | (with_reducible exact Ext.drew [] _) | (with_reducible assumption) | (with_reducible refine Ext.trans ?_ (Ext.drew [] _)) | (with_reducible refine Ext.trans ?_ (by assumption)) | fail "no chain")); rintro e w4 ⟨rfl, hEr⟩)
        | fail "no arm")
    rename_i hHeld
    clear q0 q1 q2
    obtain ⟨q0, q1, q2⟩ := hHeld
    have hX_w4 : Ext [] w w4 := by (repeat (first | (with_reducible exact Ext.refl [] _) | (with_reducible exact Ext.drew [] _) | (with_reducible assumption) | (with_reducible refine Ext.trans ?_ (Ext.drew [] _)) | (with_reducible refine Ext.trans ?_ (by assumption)) | fail "no chain"))
    clear hEt hEr hTC hct KM hX_w3
    go_upto_region 7 with fail
    go_region_held3 (fun u => u.cell? ⟨qb, 0, none⟩ = some (.slice ta tn tc) ∧ u.cell? ⟨qb, 1, none⟩ = some (.int .i64 t) ∧ u.cell? ⟨qb, 2, none⟩ = some (.slice a l.length c))
      (first | exact ⟨Ext.cell (by (repeat (first | (with_reducible exact Ext.refl [] _) | (with_reducible exact Ext.drew [] _) | (with_reducible assumption) | (with_reducible refine Ext.trans ?_ (Ext.drew [] _)) | (with_reducible refine Ext.trans ?_ (by assumption)) | fail "no chain"))) q0 (by simp), Ext.cell (by (repeat (first | (with_reducible exact Ext.refl [] _) | (with_reducible exact Ext.drew [] _) | (with_reducible assumption) | (with_reducible refine Ext.trans ?_ (Ext.drew [] _)) | (with_reducible refine Ext.trans ?_ (by assumption)) | fail "no chain"))) q1 (by simp), Ext.cell (by (repeat (first | (with_reducible exact Ext.refl [] _) | (with_reducible exact Ext.drew [] _) | (with_reducible assumption) | (with_reducible refine Ext.trans ?_ (Ext.drew [] _)) | (with_reducible refine Ext.trans ?_ (by assumption)) | fail "no chain"))) q2 (by simp)⟩ | go_keep)
      (first
        | (go_at_call 13; (with_reducible refine Calls.mono (KT _ ?_) ?_); (repeat (first | (with_reducible exact Ext.refl [] _) | (with_reducible exact Ext.drew [] _) | (with_reducible assumption) | (with_reducible refine Ext.trans ?_ (Ext.drew [] _)) | (with_reducible refine Ext.trans ?_ (by assumption)) | fail "no chain")); rintro e wt ⟨at1, ct1, rfl, hct, hTC, hEt⟩)
        | (go_at_call 24; refine Calls.mono (KF _ ?_ at1 ct1 hct (hTC.keep0 ?_)) ?_; (repeat (first | (with_reducible exact Ext.refl [] _) | (with_reducible exact Ext.drew [] _) | (with_reducible assumption) | (with_reducible refine Ext.trans ?_ (Ext.drew [] _)) | (with_reducible refine Ext.trans ?_ (by assumption)) | fail "no chain")); (repeat (first | (with_reducible exact Ext.refl [] _) | (with_reducible exact Ext.drew [] _) | (with_reducible assumption) | (with_reducible refine Ext.trans ?_ (Ext.drew [] _)) | (with_reducible refine Ext.trans ?_ (by assumption)) | fail "no chain")); rintro e w5 ⟨rfl, hEr⟩)
        | fail "no arm")
    rename_i hHeld
    clear q0 q1 q2
    obtain ⟨q0, q1, q2⟩ := hHeld
    have hX_w5 : Ext [] w w5 := by (repeat (first | (with_reducible exact Ext.refl [] _) | (with_reducible exact Ext.drew [] _) | (with_reducible assumption) | (with_reducible refine Ext.trans ?_ (Ext.drew [] _)) | (with_reducible refine Ext.trans ?_ (by assumption)) | fail "no chain"))
    clear hEt hEr hTC hct KF hX_w4
    go_upto_region 8 with fail
    go_region_held3 (fun u => u.cell? ⟨qb, 0, none⟩ = some (.slice ta tn tc) ∧ u.cell? ⟨qb, 1, none⟩ = some (.int .i64 t) ∧ u.cell? ⟨qb, 2, none⟩ = some (.slice a l.length c))
      (first | exact ⟨Ext.cell (by (repeat (first | (with_reducible exact Ext.refl [] _) | (with_reducible exact Ext.drew [] _) | (with_reducible assumption) | (with_reducible refine Ext.trans ?_ (Ext.drew [] _)) | (with_reducible refine Ext.trans ?_ (by assumption)) | fail "no chain"))) q0 (by simp), Ext.cell (by (repeat (first | (with_reducible exact Ext.refl [] _) | (with_reducible exact Ext.drew [] _) | (with_reducible assumption) | (with_reducible refine Ext.trans ?_ (Ext.drew [] _)) | (with_reducible refine Ext.trans ?_ (by assumption)) | fail "no chain"))) q1 (by simp), Ext.cell (by (repeat (first | (with_reducible exact Ext.refl [] _) | (with_reducible exact Ext.drew [] _) | (with_reducible assumption) | (with_reducible refine Ext.trans ?_ (Ext.drew [] _)) | (with_reducible refine Ext.trans ?_ (by assumption)) | fail "no chain"))) q2 (by simp)⟩ | go_keep)
      (first
        | (go_at_call 13; (with_reducible refine Calls.mono (KT _ ?_) ?_); (repeat (first | (with_reducible exact Ext.refl [] _) | (with_reducible exact Ext.drew [] _) | (with_reducible assumption) | (with_reducible refine Ext.trans ?_ (Ext.drew [] _)) | (with_reducible refine Ext.trans ?_ (by assumption)) | fail "no chain")); rintro e wt ⟨at1, ct1, rfl, hct, hTC, hEt⟩)
        | (go_at_call 14; (with_reducible refine Calls.mono (KV _ ?_) ?_); (repeat (first | (with_reducible exact Ext.refl [] _) | (with_reducible exact Ext.drew [] _) | (with_reducible assumption) | (with_reducible refine Ext.trans ?_ (Ext.drew [] _)) | (with_reducible refine Ext.trans ?_ (by assumption)) | fail "no chain")); rintro e wv ⟨av1, cv1, rfl, hEv⟩)
        | (go_at_call 27; refine Calls.mono (KK _ ?_ at1 ct1 hct av1 cv1 (hTC.keep0 ?_)) ?_; (repeat (first | (with_reducible exact Ext.refl [] _) | (with_reducible exact Ext.drew [] _) | (with_reducible assumption) | (with_reducible refine Ext.trans ?_ (Ext.drew [] _)) | (with_reducible refine Ext.trans ?_ (by assumption)) | fail "no chain")); (repeat (first | (with_reducible exact Ext.refl [] _) | (with_reducible exact Ext.drew [] _) | (with_reducible assumption) | (with_reducible refine Ext.trans ?_ (Ext.drew [] _)) | (with_reducible refine Ext.trans ?_ (by assumption)) | fail "no chain")); rintro e w6 ⟨rfl, hEr⟩)
        | fail "no arm")
    rename_i hHeld
    clear q0 q1 q2
    obtain ⟨q0, q1, q2⟩ := hHeld
    have hX_w6 : Ext [] w w6 := by (repeat (first | (with_reducible exact Ext.refl [] _) | (with_reducible exact Ext.drew [] _) | (with_reducible assumption) | (with_reducible refine Ext.trans ?_ (Ext.drew [] _)) | (with_reducible refine Ext.trans ?_ (by assumption)) | fail "no chain"))
    clear hEt hEv hEr hTC hct KK KT KV hX_w5
    have KA1 := KA w6 hX_w6
    have HX := hid hX_w6
    clear hX_w6 q0 q1 q2 KA
    go_wp2_with fail
    refine KA1.mono ?_
    clear KA1
    rintro e w7 ⟨rfl, hE7⟩
    have HX7 := hid (HX.out.trans hE7)
    clear hE7 HX
    go_wp2_with fail
    go_ret
    exact ⟨rfl, HX7.out⟩
  · go_enter Tryz.func8, Tryz.ntmps8
    go_upto_region 4 with (go_at_call 37; refine KR.mono ?_; clear KR; rintro e w1 ⟨rfl, hE1⟩)
    have hX_w1 : Ext [] w w1 := HE0.out.trans hE1
    obtain ⟨q0, q1, q2⟩ := HQ.out w1 hE1
    clear hE1 HQ HE0
    generalize w.heap.size = qb at *
    go_region_held3 (fun u => u.cell? ⟨qb, 0, none⟩ = some (.slice ta tn tc) ∧ u.cell? ⟨qb, 1, none⟩ = some (.int .i64 t) ∧ u.cell? ⟨qb, 2, none⟩ = some (.slice a l.length c))
      (first | exact ⟨Ext.cell (by (repeat (first | (with_reducible exact Ext.refl [] _) | (with_reducible exact Ext.drew [] _) | (with_reducible assumption) | (with_reducible refine Ext.trans ?_ (Ext.drew [] _)) | (with_reducible refine Ext.trans ?_ (by assumption)) | fail "no chain"))) q0 (by simp), Ext.cell (by (repeat (first | (with_reducible exact Ext.refl [] _) | (with_reducible exact Ext.drew [] _) | (with_reducible assumption) | (with_reducible refine Ext.trans ?_ (Ext.drew [] _)) | (with_reducible refine Ext.trans ?_ (by assumption)) | fail "no chain"))) q1 (by simp), Ext.cell (by (repeat (first | (with_reducible exact Ext.refl [] _) | (with_reducible exact Ext.drew [] _) | (with_reducible assumption) | (with_reducible refine Ext.trans ?_ (Ext.drew [] _)) | (with_reducible refine Ext.trans ?_ (by assumption)) | fail "no chain"))) q2 (by simp)⟩ | go_keep)
      (first
        | (go_at_call 13; (with_reducible refine Calls.mono (KT _ ?_) ?_); (repeat (first | (with_reducible exact Ext.refl [] _) | (with_reducible exact Ext.drew [] _) | (with_reducible assumption) | (with_reducible refine Ext.trans ?_ (Ext.drew [] _)) | (with_reducible refine Ext.trans ?_ (by assumption)) | fail "no chain")); rintro e wt ⟨at1, ct1, rfl, hct, hTC, hEt⟩)
        | (go_at_call 14; (with_reducible refine Calls.mono (KV _ ?_) ?_); (repeat (first | (with_reducible exact Ext.refl [] _) | (with_reducible exact Ext.drew [] _) | (with_reducible assumption) | (with_reducible refine Ext.trans ?_ (Ext.drew [] _)) | (with_reducible refine Ext.trans ?_ (by assumption)) | fail "no chain")); rintro e wv ⟨av1, cv1, rfl, hEv⟩)
        | (go_at_call 12; refine Calls.mono (KS _ ?_ at1 ct1 hct av1 cv1 (hTC.keep0 ?_)) ?_; (repeat (first | (with_reducible exact Ext.refl [] _) | (with_reducible exact Ext.drew [] _) | (with_reducible assumption) | (with_reducible refine Ext.trans ?_ (Ext.drew [] _)) | (with_reducible refine Ext.trans ?_ (by assumption)) | fail "no chain")); (repeat (first | (with_reducible exact Ext.refl [] _) | (with_reducible exact Ext.drew [] _) | (with_reducible assumption) | (with_reducible refine Ext.trans ?_ (Ext.drew [] _)) | (with_reducible refine Ext.trans ?_ (by assumption)) | fail "no chain")); rintro e w2 ⟨rfl, hEr⟩)
        | fail "no arm")
    rename_i hHeld
    clear q0 q1 q2
    obtain ⟨q0, q1, q2⟩ := hHeld
    have hX_w2 : Ext [] w w2 := by (repeat (first | (with_reducible exact Ext.refl [] _) | (with_reducible exact Ext.drew [] _) | (with_reducible assumption) | (with_reducible refine Ext.trans ?_ (Ext.drew [] _)) | (with_reducible refine Ext.trans ?_ (by assumption)) | fail "no chain"))
    clear hEt hEv hEr hTC hct KS hX_w1
    go_upto_region 5 with fail
    go_region_held3 (fun u => u.cell? ⟨qb, 0, none⟩ = some (.slice ta tn tc) ∧ u.cell? ⟨qb, 1, none⟩ = some (.int .i64 t) ∧ u.cell? ⟨qb, 2, none⟩ = some (.slice a l.length c))
      (first | exact ⟨Ext.cell (by (repeat (first | (with_reducible exact Ext.refl [] _) | (with_reducible exact Ext.drew [] _) | (with_reducible assumption) | (with_reducible refine Ext.trans ?_ (Ext.drew [] _)) | (with_reducible refine Ext.trans ?_ (by assumption)) | fail "no chain"))) q0 (by simp), Ext.cell (by (repeat (first | (with_reducible exact Ext.refl [] _) | (with_reducible exact Ext.drew [] _) | (with_reducible assumption) | (with_reducible refine Ext.trans ?_ (Ext.drew [] _)) | (with_reducible refine Ext.trans ?_ (by assumption)) | fail "no chain"))) q1 (by simp), Ext.cell (by (repeat (first | (with_reducible exact Ext.refl [] _) | (with_reducible exact Ext.drew [] _) | (with_reducible assumption) | (with_reducible refine Ext.trans ?_ (Ext.drew [] _)) | (with_reducible refine Ext.trans ?_ (by assumption)) | fail "no chain"))) q2 (by simp)⟩ | go_keep)
      (first
        | (go_at_call 13; (with_reducible refine Calls.mono (KT _ ?_) ?_); (repeat (first | (with_reducible exact Ext.refl [] _) | (with_reducible exact Ext.drew [] _) | (with_reducible assumption) | (with_reducible refine Ext.trans ?_ (Ext.drew [] _)) | (with_reducible refine Ext.trans ?_ (by assumption)) | fail "no chain")); rintro e wt ⟨at1, ct1, rfl, hct, hTC, hEt⟩)
        | (go_at_call 19; refine Calls.mono (KL _ ?_ at1 ct1 hct (hTC.keep0 ?_)) ?_; (repeat (first | (with_reducible exact Ext.refl [] _) | (with_reducible exact Ext.drew [] _) | (with_reducible assumption) | (with_reducible refine Ext.trans ?_ (Ext.drew [] _)) | (with_reducible refine Ext.trans ?_ (by assumption)) | fail "no chain")); (repeat (first | (with_reducible exact Ext.refl [] _) | (with_reducible exact Ext.drew [] _) | (with_reducible assumption) | (with_reducible refine Ext.trans ?_ (Ext.drew [] _)) | (with_reducible refine Ext.trans ?_ (by assumption)) | fail "no chain")); rintro e w3 ⟨rfl, hEr⟩)
        | fail "no arm")
    rename_i hHeld
    clear q0 q1 q2
    obtain ⟨q0, q1, q2⟩ := hHeld
    have hX_w3 : Ext [] w w3 := by (repeat (first | (with_reducible exact Ext.refl [] _) | (with_reducible exact Ext.drew [] _) | (with_reducible assumption) | (with_reducible refine Ext.trans ?_ (Ext.drew [] _)) | (with_reducible refine Ext.trans ?_ (by assumption)) | fail "no chain"))
    clear hEt hEr hTC hct KL hX_w2
    go_upto_region 6 with fail
    go_region_held3 (fun u => u.cell? ⟨qb, 0, none⟩ = some (.slice ta tn tc) ∧ u.cell? ⟨qb, 1, none⟩ = some (.int .i64 t) ∧ u.cell? ⟨qb, 2, none⟩ = some (.slice a l.length c))
      (first | exact ⟨Ext.cell (by (repeat (first | (with_reducible exact Ext.refl [] _) | (with_reducible exact Ext.drew [] _) | (with_reducible assumption) | (with_reducible refine Ext.trans ?_ (Ext.drew [] _)) | (with_reducible refine Ext.trans ?_ (by assumption)) | fail "no chain"))) q0 (by simp), Ext.cell (by (repeat (first | (with_reducible exact Ext.refl [] _) | (with_reducible exact Ext.drew [] _) | (with_reducible assumption) | (with_reducible refine Ext.trans ?_ (Ext.drew [] _)) | (with_reducible refine Ext.trans ?_ (by assumption)) | fail "no chain"))) q1 (by simp), Ext.cell (by (repeat (first | (with_reducible exact Ext.refl [] _) | (with_reducible exact Ext.drew [] _) | (with_reducible assumption) | (with_reducible refine Ext.trans ?_ (Ext.drew [] _)) | (with_reducible refine Ext.trans ?_ (by assumption)) | fail "no chain"))) q2 (by simp)⟩ | go_keep)
      (first
        | (go_at_call 13; (with_reducible refine Calls.mono (KT _ ?_) ?_); (repeat (first | (with_reducible exact Ext.refl [] _) | (with_reducible exact Ext.drew [] _) | (with_reducible assumption) | (with_reducible refine Ext.trans ?_ (Ext.drew [] _)) | (with_reducible refine Ext.trans ?_ (by assumption)) | fail "no chain")); rintro e wt ⟨at1, ct1, rfl, hct, hTC, hEt⟩)
        | (go_at_call 22; refine Calls.mono (KM _ ?_ at1 ct1 hct (hTC.keep0 ?_)) ?_; (repeat (first | (with_reducible exact Ext.refl [] _) | (with_reducible exact Ext.drew [] _) | (with_reducible assumption) | (with_reducible refine Ext.trans ?_ (Ext.drew [] _)) | (with_reducible refine Ext.trans ?_ (by assumption)) | fail "no chain")); (repeat (first | (with_reducible exact Ext.refl [] _) | (with_reducible exact Ext.drew [] _) | (with_reducible assumption) | (with_reducible refine Ext.trans ?_ (Ext.drew [] _)) | (with_reducible refine Ext.trans ?_ (by assumption)) | fail "no chain")); rintro e w4 ⟨rfl, hEr⟩)
        | fail "no arm")
    rename_i hHeld
    clear q0 q1 q2
    obtain ⟨q0, q1, q2⟩ := hHeld
    have hX_w4 : Ext [] w w4 := by (repeat (first | (with_reducible exact Ext.refl [] _) | (with_reducible exact Ext.drew [] _) | (with_reducible assumption) | (with_reducible refine Ext.trans ?_ (Ext.drew [] _)) | (with_reducible refine Ext.trans ?_ (by assumption)) | fail "no chain"))
    clear hEt hEr hTC hct KM hX_w3
    go_upto_region 7 with fail
    go_region_held3 (fun u => u.cell? ⟨qb, 0, none⟩ = some (.slice ta tn tc) ∧ u.cell? ⟨qb, 1, none⟩ = some (.int .i64 t) ∧ u.cell? ⟨qb, 2, none⟩ = some (.slice a l.length c))
      (first | exact ⟨Ext.cell (by (repeat (first | (with_reducible exact Ext.refl [] _) | (with_reducible exact Ext.drew [] _) | (with_reducible assumption) | (with_reducible refine Ext.trans ?_ (Ext.drew [] _)) | (with_reducible refine Ext.trans ?_ (by assumption)) | fail "no chain"))) q0 (by simp), Ext.cell (by (repeat (first | (with_reducible exact Ext.refl [] _) | (with_reducible exact Ext.drew [] _) | (with_reducible assumption) | (with_reducible refine Ext.trans ?_ (Ext.drew [] _)) | (with_reducible refine Ext.trans ?_ (by assumption)) | fail "no chain"))) q1 (by simp), Ext.cell (by (repeat (first | (with_reducible exact Ext.refl [] _) | (with_reducible exact Ext.drew [] _) | (with_reducible assumption) | (with_reducible refine Ext.trans ?_ (Ext.drew [] _)) | (with_reducible refine Ext.trans ?_ (by assumption)) | fail "no chain"))) q2 (by simp)⟩ | go_keep)
      (first
        | (go_at_call 13; (with_reducible refine Calls.mono (KT _ ?_) ?_); (repeat (first | (with_reducible exact Ext.refl [] _) | (with_reducible exact Ext.drew [] _) | (with_reducible assumption) | (with_reducible refine Ext.trans ?_ (Ext.drew [] _)) | (with_reducible refine Ext.trans ?_ (by assumption)) | fail "no chain")); rintro e wt ⟨at1, ct1, rfl, hct, hTC, hEt⟩)
        | (go_at_call 24; refine Calls.mono (KF _ ?_ at1 ct1 hct (hTC.keep0 ?_)) ?_; (repeat (first | (with_reducible exact Ext.refl [] _) | (with_reducible exact Ext.drew [] _) | (with_reducible assumption) | (with_reducible refine Ext.trans ?_ (Ext.drew [] _)) | (with_reducible refine Ext.trans ?_ (by assumption)) | fail "no chain")); (repeat (first | (with_reducible exact Ext.refl [] _) | (with_reducible exact Ext.drew [] _) | (with_reducible assumption) | (with_reducible refine Ext.trans ?_ (Ext.drew [] _)) | (with_reducible refine Ext.trans ?_ (by assumption)) | fail "no chain")); rintro e w5 ⟨rfl, hEr⟩)
        | fail "no arm")
    rename_i hHeld
    clear q0 q1 q2
    obtain ⟨q0, q1, q2⟩ := hHeld
    have hX_w5 : Ext [] w w5 := by (repeat (first | (with_reducible exact Ext.refl [] _) | (with_reducible exact Ext.drew [] _) | (with_reducible assumption) | (with_reducible refine Ext.trans ?_ (Ext.drew [] _)) | (with_reducible refine Ext.trans ?_ (by assumption)) | fail "no chain"))
    clear hEt hEr hTC hct KF hX_w4
    go_upto_region 8 with fail
    go_region_held3 (fun u => u.cell? ⟨qb, 0, none⟩ = some (.slice ta tn tc) ∧ u.cell? ⟨qb, 1, none⟩ = some (.int .i64 t) ∧ u.cell? ⟨qb, 2, none⟩ = some (.slice a l.length c))
      (first | exact ⟨Ext.cell (by (repeat (first | (with_reducible exact Ext.refl [] _) | (with_reducible exact Ext.drew [] _) | (with_reducible assumption) | (with_reducible refine Ext.trans ?_ (Ext.drew [] _)) | (with_reducible refine Ext.trans ?_ (by assumption)) | fail "no chain"))) q0 (by simp), Ext.cell (by (repeat (first | (with_reducible exact Ext.refl [] _) | (with_reducible exact Ext.drew [] _) | (with_reducible assumption) | (with_reducible refine Ext.trans ?_ (Ext.drew [] _)) | (with_reducible refine Ext.trans ?_ (by assumption)) | fail "no chain"))) q1 (by simp), Ext.cell (by (repeat (first | (with_reducible exact Ext.refl [] _) | (with_reducible exact Ext.drew [] _) | (with_reducible assumption) | (with_reducible refine Ext.trans ?_ (Ext.drew [] _)) | (with_reducible refine Ext.trans ?_ (by assumption)) | fail "no chain"))) q2 (by simp)⟩ | go_keep)
      (first
        | (go_at_call 13; (with_reducible refine Calls.mono (KT _ ?_) ?_); (repeat (first | (with_reducible exact Ext.refl [] _) | (with_reducible exact Ext.drew [] _) | (with_reducible assumption) | (with_reducible refine Ext.trans ?_ (Ext.drew [] _)) | (with_reducible refine Ext.trans ?_ (by assumption)) | fail "no chain")); rintro e wt ⟨at1, ct1, rfl, hct, hTC, hEt⟩)
        | (go_at_call 14; (with_reducible refine Calls.mono (KV _ ?_) ?_); (repeat (first | (with_reducible exact Ext.refl [] _) | (with_reducible exact Ext.drew [] _) | (with_reducible assumption) | (with_reducible refine Ext.trans ?_ (Ext.drew [] _)) | (with_reducible refine Ext.trans ?_ (by assumption)) | fail "no chain")); rintro e wv ⟨av1, cv1, rfl, hEv⟩)
        | (go_at_call 27; refine Calls.mono (KK _ ?_ at1 ct1 hct av1 cv1 (hTC.keep0 ?_)) ?_; (repeat (first | (with_reducible exact Ext.refl [] _) | (with_reducible exact Ext.drew [] _) | (with_reducible assumption) | (with_reducible refine Ext.trans ?_ (Ext.drew [] _)) | (with_reducible refine Ext.trans ?_ (by assumption)) | fail "no chain")); (repeat (first | (with_reducible exact Ext.refl [] _) | (with_reducible exact Ext.drew [] _) | (with_reducible assumption) | (with_reducible refine Ext.trans ?_ (Ext.drew [] _)) | (with_reducible refine Ext.trans ?_ (by assumption)) | fail "no chain")); rintro e w6 ⟨rfl, hEr⟩)
        | fail "no arm")
    rename_i hHeld
    clear q0 q1 q2
    obtain ⟨q0, q1, q2⟩ := hHeld
    have hX_w6 : Ext [] w w6 := by (repeat (first | (with_reducible exact Ext.refl [] _) | (with_reducible exact Ext.drew [] _) | (with_reducible assumption) | (with_reducible refine Ext.trans ?_ (Ext.drew [] _)) | (with_reducible refine Ext.trans ?_ (by assumption)) | fail "no chain"))
    clear hEt hEv hEr hTC hct KK KT KV hX_w5
    have KA1 := KA w6 hX_w6
    have HX := hid hX_w6
    clear hX_w6 q0 q1 q2 KA
    go_wp2_with fail
    refine KA1.mono ?_
    clear KA1
    rintro e w7 ⟨rfl, hE7⟩
    have HX7 := hid (HX.out.trans hE7)
    clear hE7 HX
    go_wp2_with fail
    go_ret
    exact ⟨rfl, HX7.out⟩
end Go.Proofs.YtbpjmcjjambdkaaGreatDoor.Ty

/-
  Which cells have only what their kind names; no statement is proved here.
-/
namespace Go.Proofs.YtbpjmcjjambdkaaGreatDoor.Ty
open Go.RowKit

def Fits (k n : Int) (s : ByteArray) (t : Int) (bl : Nat) : Prop :=
  (k ≠ 4 → s = ⟨#[]⟩) ∧ (k ≠ 7 → t = 0) ∧ (t = 0 → bl = 0) ∧ (k = 1 → n ≤ 1) ∧ (k = 4 → n = 0 ∧ s.size ≤ 4096) ∧ (k = 7 → n = 0) ∧ (k = 5 ∨ k = 6 ∨ k = 10 → n < 2147483648)

def Leaf (k : Int) : Prop := k = 1 ∨ k = 2 ∨ k = 3 ∨ k = 4 ∨ k = 5 ∨ k = 6 ∨ k = 7 ∨ k = 10

theorem toList_ne {s : ByteArray} (h : s ≠ ⟨#[]⟩) : (s.toList == []) = false := by
  simp only [beq_eq_false_iff_ne, ne_eq]
  intro e
  rw [ByteArray.toList_eq] at e
  exact h (ByteArray.ext (Array.toList_inj.mp (by simpa using e)))

set_option maxRecDepth 100000 in
set_option maxHeartbeats 4000000 in
theorem fits_any (k n : Int) (s : ByteArray) (t : Int) (ba : Option Addr) (bl bc : Nat) (w : World) (hk : Leaf k) :
    Calls Tryz.prog 172 #[.int .i64 k, .agg #[.int .u64 n, .string s, .int .i64 t, .slice ba bl bc]] w (TestPost w (Fits k n s t bl)) := by
  by_cases k4 : k = 4
  · subst k4
    by_cases ht : t = 0
    · subst ht
      by_cases hb : bl = 0
      · subst hb
        by_cases hn : n = 0
        · subst hn
          by_cases hz : (s.size : Int) ≤ 4096
          · have hF : Hid (Fits 4 0 s 0 0) := ⟨by simp, by simp, by simp, by simp, fun _ => ⟨rfl, by omega⟩, by simp, by simp⟩
            go_enter Tryz.func172, Tryz.ntmps172
            go_wp2
            go_ret
            exact test_true hF.out (Ext.alloc _ _ _)
          · have hF : Hid (¬ Fits 4 0 s 0 0) := fun h => hz (by have := (h.2.2.2.2.1 rfl).2; omega)
            go_enter Tryz.func172, Tryz.ntmps172
            go_wp2
            go_ret
            exact test_false hF.out (Ext.alloc _ _ _)
        · have hF : Hid (¬ Fits 4 n s 0 0) := fun h => hn (h.2.2.2.2.1 rfl).1
          have h1 : (n == 0) = false := by simpa using hn
          go_enter Tryz.func172, Tryz.ntmps172
          go_wp2
          go_ret
          exact test_false hF.out (Ext.alloc _ _ _)
      · have hF : Hid (¬ Fits 4 n s 0 bl) := fun h => hb (h.2.2.1 rfl)
        have h1 : ((bl : Int) == 0) = false := by simp; omega
        go_enter Tryz.func172, Tryz.ntmps172
        go_wp2
        go_ret
        exact test_false hF.out (Ext.alloc _ _ _)
    · have hF : Hid (¬ Fits 4 n s t bl) := fun h => ht (h.2.1 (by omega))
      have h1 : (t == 0) = false := by simpa using ht
      go_enter Tryz.func172, Tryz.ntmps172
      go_wp2
      go_ret
      exact test_false hF.out (Ext.alloc _ _ _)
  · by_cases hs : s = ⟨#[]⟩
    · subst hs
      have k4b : (k == 4) = false := by simpa using k4
      by_cases k7 : k = 7
      · subst k7
        by_cases hn : n = 0
        · subst hn
          by_cases ht : t = 0
          · subst ht
            by_cases hb : bl = 0
            · subst hb
              have hF : Hid (Fits 7 0 ⟨#[]⟩ 0 0) := ⟨by simp, by simp, by simp, by simp, by simp, by simp, by simp⟩
              go_enter Tryz.func172, Tryz.ntmps172
              go_wp2
              go_ret
              exact test_true hF.out (Ext.alloc _ _ _)
            · have hF : Hid (¬ Fits 7 0 ⟨#[]⟩ 0 bl) := fun h => hb (h.2.2.1 rfl)
              have h1 : ((bl : Int) == 0) = false := by simp; omega
              go_enter Tryz.func172, Tryz.ntmps172
              go_wp2
              go_ret
              exact test_false hF.out (Ext.alloc _ _ _)
          · have hF : Hid (Fits 7 0 ⟨#[]⟩ t bl) := ⟨by simp, by simp, fun h => absurd h ht, by simp, by simp, by simp, by simp⟩
            have h1 : (t == 0) = false := by simpa using ht
            go_enter Tryz.func172, Tryz.ntmps172
            go_wp2
            go_ret
            exact test_true hF.out (Ext.alloc _ _ _)
        · have hF : Hid (¬ Fits 7 n ⟨#[]⟩ t bl) := fun h => hn (h.2.2.2.2.2.1 rfl)
          have h0 : (n == 0) = false := by simpa using hn
          by_cases ht : t = 0
          · subst ht
            by_cases hb : bl = 0
            · subst hb
              go_enter Tryz.func172, Tryz.ntmps172
              go_wp2
              go_ret
              exact test_false hF.out (Ext.alloc _ _ _)
            · have h1 : ((bl : Int) == 0) = false := by simp; omega
              go_enter Tryz.func172, Tryz.ntmps172
              go_wp2
              go_ret
              exact test_false hF.out (Ext.alloc _ _ _)
          · have h1 : (t == 0) = false := by simpa using ht
            go_enter Tryz.func172, Tryz.ntmps172
            go_wp2
            go_ret
            exact test_false hF.out (Ext.alloc _ _ _)
      · have k7b : (k == 7) = false := by simpa using k7
        by_cases ht : t = 0
        · subst ht
          by_cases hb : bl = 0
          · subst hb
            rcases (by unfold Leaf at hk; omega : k = 1 ∨ k = 2 ∨ k = 3 ∨ (k = 5 ∨ k = 6 ∨ k = 10)) with rfl | rfl | rfl | hk2
            · by_cases hn : n ≤ 1
              · have hF : Hid (Fits 1 n ⟨#[]⟩ 0 0) := ⟨by simp, by simp, by simp, fun _ => hn, by simp, by simp, by simp⟩
                go_enter Tryz.func172, Tryz.ntmps172
                go_wp2
                go_ret
                exact test_true hF.out (Ext.alloc _ _ _)
              · have hF : Hid (¬ Fits 1 n ⟨#[]⟩ 0 0) := fun h => hn (h.2.2.2.1 rfl)
                go_enter Tryz.func172, Tryz.ntmps172
                go_wp2
                go_ret
                exact test_false hF.out (Ext.alloc _ _ _)
            · have hF : Hid (Fits 2 n ⟨#[]⟩ 0 0) := ⟨by simp, by simp, by simp, by simp, by simp, by simp, by simp⟩
              go_enter Tryz.func172, Tryz.ntmps172
              go_wp2
              go_ret
              exact test_true hF.out (Ext.alloc _ _ _)
            · have hF : Hid (Fits 3 n ⟨#[]⟩ 0 0) := ⟨by simp, by simp, by simp, by simp, by simp, by simp, by simp⟩
              go_enter Tryz.func172, Tryz.ntmps172
              go_wp2
              go_ret
              exact test_true hF.out (Ext.alloc _ _ _)
            · by_cases hn : n < 2147483648
              · have hF : Hid (Fits k n ⟨#[]⟩ 0 0) := ⟨by simp, by simp, by simp, by omega, by omega, by omega, fun _ => hn⟩
                rcases hk2 with rfl | rfl | rfl
                all_goals
                  go_enter Tryz.func172, Tryz.ntmps172
                  go_wp2
                  go_ret
                  exact test_true hF.out (Ext.alloc _ _ _)
              · have hF : Hid (¬ Fits k n ⟨#[]⟩ 0 0) := fun h => hn (h.2.2.2.2.2.2 hk2)
                rcases hk2 with rfl | rfl | rfl
                all_goals
                  go_enter Tryz.func172, Tryz.ntmps172
                  go_wp2
                  go_ret
                  exact test_false hF.out (Ext.alloc _ _ _)
          · have hF : Hid (¬ Fits k n ⟨#[]⟩ 0 bl) := fun h => hb (h.2.2.1 rfl)
            have h1 : ((bl : Int) == 0) = false := by simp; omega
            clear hk
            go_enter Tryz.func172, Tryz.ntmps172
            go_wp2
            go_ret
            exact test_false hF.out (Ext.alloc _ _ _)
        · have hF : Hid (¬ Fits k n ⟨#[]⟩ t bl) := fun h => ht (h.2.1 k7)
          have h1 : (t == 0) = false := by simpa using ht
          clear hk
          go_enter Tryz.func172, Tryz.ntmps172
          go_wp2
          go_ret
          exact test_false hF.out (Ext.alloc _ _ _)
    · have hF : Hid (¬ Fits k n s t bl) := fun h => hs (h.1 k4)
      have h1 := toList_ne hs
      have h2 : (k == 4) = false := by simpa using k4
      clear hk hs
      go_enter Tryz.func172, Tryz.ntmps172
      go_wp2
      go_ret
      exact test_false hF.out (Ext.alloc _ _ _)

/-- May an interface hold it? -/
def Boxable (ts : List Ty) (n : Int) : Prop := 1 ≤ n ∧ n ≤ ts.length ∧ (tyAt ts (n - 1)).kind ≠ 7 ∧ (tyAt ts (n - 1)).kind ≠ 10

set_option maxRecDepth 100000 in
theorem boxable_any (a : Option Addr) (ts : List Ty) (n c : Nat) (p : Int) (w : World) (hT : Tab w a ts) (hn : ts.length = n) : Calls Tryz.prog 173 #[.slice a n c, .int .i64 p] w (TestPost w (Boxable ts p)) := by
  by_cases h1 : p < 1
  · have hF : Hid (¬ Boxable ts p) := fun h => by have := h.1; omega
    clear hT
    go_enter Tryz.func173, Tryz.ntmps173
    go_wp2
    go_ret
    exact test_false hF.out (Ext.refl _ _)
  · by_cases h2 : (n : Int) < p
    · have hF : Hid (¬ Boxable ts p) := fun h => by have := h.2.1; omega
      clear hT
      go_enter Tryz.func173, Tryz.ntmps173
      go_wp2
      go_ret
      exact test_false hF.out (Ext.refl _ _)
    · obtain ⟨q, rfl⟩ : ∃ q : Nat, p = (q : Int) + 1 := ⟨(p - 1).toNat, by omega⟩
      obtain ⟨b, o, rfl, hat⟩ := hT.addr (by omega)
      obtain ⟨fa, fc, hty⟩ := hat q (by omega)
      have c0 := hty.c0
      have hB : Hid (Boxable ts ((q : Int) + 1) ↔ (tyAt ts q).kind ≠ 7 ∧ (tyAt ts q).kind ≠ 10) := by
        show _ ↔ _
        rw [Boxable, show (q : Int) + 1 - 1 = q by omega]
        exact ⟨fun h => h.2.2, fun h => ⟨by omega, by omega, h⟩⟩
      have e1 : IntKind.wrap .i64 ((q : Int) + 1 - 1) = q := by rw [IntKind.wrap_i64]; have := hT.len; omega
      have h3 : q < n := by omega
      have hl := hT.len
      clear hT hat hty
      generalize (tyAt ts q).kind = k at *
      by_cases k7 : k = 7
      · have hF : Hid (¬ Boxable ts ((q : Int) + 1)) := fun h => (hB.out.1 h).1 k7
        subst k7
        go_enter Tryz.func173, Tryz.ntmps173
        go_wp2
        go_ret
        exact test_false hF.out (Ext.refl _ _)
      · have h7 : (k != 7) = true := by simpa using k7
        by_cases k10 : k = 10
        · have hF : Hid (¬ Boxable ts ((q : Int) + 1)) := fun h => (hB.out.1 h).2 k10
          subst k10
          go_enter Tryz.func173, Tryz.ntmps173
          go_wp2
          go_ret
          exact test_false hF.out (Ext.refl _ _)
        · have hF : Hid (Boxable ts ((q : Int) + 1)) := hB.out.2 ⟨k7, k10⟩
          have h10 : (k != 10) = true := by simpa using k10
          go_enter Tryz.func173, Tryz.ntmps173
          go_wp2
          go_ret
          exact test_true hF.out (Ext.refl _ _)

end Go.Proofs.YtbpjmcjjambdkaaGreatDoor.Ty

/-
  The kinds of the cells of a type, one behind the other; no statement is proved here.
-/
namespace Go.Proofs.YtbpjmcjjambdkaaGreatDoor.Ty
open Go.RowKit

def kindsF (ts : List Ty) : Nat → Int → List Int
  | 0, _ => []
  | f + 1, t => if parts (tyAt ts t) = [] then [(tyAt ts t).kind] else (parts (tyAt ts t)).flatMap (kindsF ts f)
def kinds (ts : List Ty) (t : Int) : List Int := kindsF ts (t.toNat + 1) t

theorem kindsF_more {ts : List Ty} (h : AllOk ts) : ∀ (f g : Nat) (t : Int), 0 ≤ t → t < ts.length → t.toNat < f → t.toNat < g → kindsF ts f t = kindsF ts g t
  | 0, _, _, _, _, h1, _ => by omega
  | f + 1, 0, _, _, _, _, h2 => by omega
  | f + 1, g + 1, t, h0, hl, h1, h2 => by
    rw [kindsF, kindsF]
    split
    · rfl
    · have hF := (h t.toNat (by omega)).1
      rw [List.flatMap_def, List.flatMap_def]
      congr 1
      apply List.map_congr_left
      intro p hp
      have hb := hF.below p (by rw [show ((t.toNat : Nat) : Int) = t by omega]; exact hp)
      exact kindsF_more h f g p hb.1 (by omega) (by omega) (by omega)
theorem kinds_eq {ts : List Ty} (h : AllOk ts) {t : Int} (h0 : 0 ≤ t) (hl : t < ts.length) : kinds ts t = if parts (tyAt ts t) = [] then [(tyAt ts t).kind] else (parts (tyAt ts t)).flatMap (kinds ts) := by
  unfold kinds
  rw [kindsF]
  split
  · rfl
  · have hF := (h t.toNat (by omega)).1
    rw [List.flatMap_def, List.flatMap_def]
    congr 1
    apply List.map_congr_left
    intro p hp
    have hb := hF.below p (by rw [show ((t.toNat : Nat) : Int) = t by omega]; exact hp)
    exact kindsF_more h _ _ p hb.1 (by omega) (by omega) (by omega)

theorem sumWidth_kinds {ts : List Ty} : ∀ (l : List Int), (∀ p ∈ l, ((kinds ts p).length : Int) = (M ts p).width) → ((l.flatMap (kinds ts)).length : Int) = sumWidth (ms ts) l
  | [], _ => rfl
  | p :: r, h => by
    rw [List.flatMap_cons, List.length_append, sumWidth, Int.natCast_add, h p (by simp), sumWidth_kinds r (fun q hq => h q (by simp [hq]))]
    rfl
theorem kinds_len {ts : List Ty} (h : AllOk ts) : ∀ (N : Nat) (t : Int), 0 ≤ t → t < ts.length → t.toNat < N → ((kinds ts t).length : Int) = (M ts t).width
  | 0, _, _, _, h1 => by omega
  | N + 1, t, h0, hl, h1 => by
    have hF := (h t.toNat (by omega)).1
    have ht : ((t.toNat : Nat) : Int) = t := by omega
    rw [kinds_eq h h0 hl]
    split
    · rename_i hp
      have := plain_wide hF (by omega) (by rw [ht]; exact hp)
      rw [ht] at this
      rw [this]; rfl
    · rename_i hp
      have hm := made_of hF (by omega) (by rw [ht]; exact hp)
      rw [ht] at hm
      rw [hm]
      exact sumWidth_kinds _ (fun p hp2 => by
        have hb := hF.below p (by rw [ht]; exact hp2)
        exact kinds_len h N p hb.1 (by omega) (by omega))
/-- All kinds of cells are those of types without parts. -/
theorem kinds_leaf {ts : List Ty} (h : AllOk ts) : ∀ (N : Nat) (t : Int), 0 ≤ t → t < ts.length → t.toNat < N → ∀ k ∈ kinds ts t, Leaf k
  | 0, _, _, _, h1, _, _ => by omega
  | N + 1, t, h0, hl, h1, k, hk => by
    have hF := (h t.toNat (by omega)).1
    have ht : ((t.toNat : Nat) : Int) = t := by omega
    rw [kinds_eq h h0 hl] at hk
    split at hk
    · rename_i hp
      have h8 := plain_kind hF (by rw [ht]; exact hp)
      rw [ht] at h8
      obtain rfl : k = (tyAt ts t).kind := by simpa using hk
      have hc := hF.1
      rw [ht] at hc
      obtain ⟨c1, c2, _⟩ := hc
      unfold Leaf; omega
    · rename_i hp
      obtain ⟨p, hp2, hk2⟩ := List.mem_flatMap.1 hk
      have hb := hF.below p (by rw [ht]; exact hp2)
      exact kinds_leaf h N p hb.1 (by omega) (by omega) k hk2


theorem parts8 {t : Ty} (h : t.kind = 8) : parts t = t.fields := by rw [parts, if_pos h]
theorem parts9 {t : Ty} (h : t.kind = 9) : parts t = List.replicate t.len.toNat t.elem := by rw [parts, if_neg (by omega), if_pos h]
theorem parts0 {t : Ty} (h : t.kind ≠ 8) (h9 : t.kind ≠ 9) : parts t = [] := by rw [parts, if_neg h, if_neg h9]

end Go.Proofs.YtbpjmcjjambdkaaGreatDoor.Ty
