/-
  EqualBoxes, walked through; its frame is in LawBoxes.
-/
import Derived.Test.YtpjcbpgfbhlioaaDoorBoxA
import Derived.Deep.Cut
import Derived.Deep.RegionHeld3
namespace Go.Proofs.YtpjcbpgfbhlioaaDoor
open Go.RowKit

theorem cs_box (w : World) (d q : Nat) (hq : q ≤ 64) (a : Option Addr) (l : List Cl) (c : Nat) (hC : Cs d w a l) (hc : l.length ≤ c) : Cs (d + 1) (w.alloc (.cells #[.int .u64 0, .string ⟨#[]⟩, .int .i64 ((q : Int) + 1), .slice a l.length c] 49)) (some ⟨w.heap.size, 0, none⟩) [bxCl q l] := by
  refine ⟨by simp, .inr ⟨_, _, rfl, fun i hi => ⟨a, c, ?_, ?_⟩⟩⟩
  · obtain rfl : i = 0 := by simpa using hi
    have hb := heap_alloc_new w (.cells #[.int .u64 0, .string ⟨#[]⟩, .int .i64 ((q : Int) + 1), .slice a l.length c] 49)
    refine ⟨?_, ?_, ?_, ?_, hc, ⟨by show (0 : Int) ≤ 0; omega, by show (0 : Int) < 18446744073709551616; omega⟩, ⟨?_, ?_⟩, by show (⟨#[]⟩ : ByteArray).size ≤ 140737488351232; decide⟩
    · rw [cell_of_row _ _ _ _ _ _ hb]; rfl
    · rw [cell_of_row _ _ _ _ _ _ hb]; rfl
    · rw [cell_of_row _ _ _ _ _ _ hb]; rfl
    · rw [cell_of_row _ _ _ _ _ _ hb]; rfl
    · show -9223372036854775808 ≤ (q : Int) + 1; omega
    · show (q : Int) + 1 < 9223372036854775808; omega
  · obtain rfl : i = 0 := by simpa using hi
    exact hC.keep0 (Ext.alloc _ _ _)

theorem rcheck_long (a : Option Addr) (n c : Nat) (h : 64 < n) (w : World) : Calls Tryd.prog 24 #[.slice a n c] w (SayPost w (.int .i64 1)) := by
  have h1 : (64 : Int) < n := by omega
  go_enter Tryd.func24, Tryd.ntmps24
  go_wp2_with fail
  go_ret
  exact ⟨rfl, Ext.refl _ _⟩

theorem eqL_11 {f : Int → Cl → Cl → Bool × Int} (hf : ∀ k x y, (f k x y).2 = 0 ∨ (f k x y).2 = 11) : ∀ (ks : List Int) (v w : List Cl), (eqL f ks v w).2 = 0 ∨ (eqL f ks v w).2 = 11
  | [], _, _ => .inl rfl
  | k :: ks, v, w => by
    rw [eqL]
    split
    · exact eqL_11 hf ks _ _
    · exact hf _ _ _
theorem eqV_11 (ts : List Ty) : ∀ (d : Nat) (t : Int) (v w : List Cl), (eqV ts d t v w).2 = 0 ∨ (eqV ts d t v w).2 = 11
  | 0, _, _, _ => .inl rfl
  | d + 1, t, v, w => by
    refine eqL_11 (fun k x y => ?_) _ _ _
    unfold eqC
    split
    · exact .inl rfl
    · split
      · exact .inl rfl
      · split
        · split
          · exact .inl rfl
          · split
            · exact .inl rfl
            · split
              · exact .inr rfl
              · exact eqV_11 ts d _ _ _
        · exact .inl rfl

/-- What EqualBoxes wants of two boxed values. -/
theorem box_all {ts : List Ty} (hS : Sound ts) (hL : Sound (ts ++ [ifaceTy])) {tn : Nat} (htn : ts.length = tn) {d q : Nat} (hq : q < tn) (l m : List Cl) :
    ((vchk (ts ++ [ifaceTy]) (d + 1) (tn : Nat) [bxCl q l] ≠ 0 ∨ vchk (ts ++ [ifaceTy]) (d + 1) (tn : Nat) [bxCl q m] ≠ 0) → (eqR (ts ++ [ifaceTy]) (d + 1) (tn : Nat) [bxCl q l] [bxCl q m]).1 = false ∧ (eqR (ts ++ [ifaceTy]) (d + 1) (tn : Nat) [bxCl q l] [bxCl q m]).2 = 1) ∧
    (vchk (ts ++ [ifaceTy]) (d + 1) (tn : Nat) [bxCl q l] = 0 → vchk (ts ++ [ifaceTy]) (d + 1) (tn : Nat) [bxCl q m] = 0 →
      ((eqR ts d q l m).2 = 3 → (eqR (ts ++ [ifaceTy]) (d + 1) (tn : Nat) [bxCl q l] [bxCl q m]).1 = false ∧ (eqR (ts ++ [ifaceTy]) (d + 1) (tn : Nat) [bxCl q l] [bxCl q m]).2 = 11) ∧
      ((eqR ts d q l m).2 ≠ 3 → (eqR (ts ++ [ifaceTy]) (d + 1) (tn : Nat) [bxCl q l] [bxCl q m]).1 = (eqR ts d q l m).1 ∧ (eqR (ts ++ [ifaceTy]) (d + 1) (tn : Nat) [bxCl q l] [bxCl q m]).2 = (eqR ts d q l m).2)) := by
  subst htn
  refine ⟨fun h => by rw [box_wrong hL h]; exact ⟨rfl, rfl⟩, fun h1 h2 => ?_⟩
  obtain ⟨e1, e2⟩ := box_eq hS hL hq h1 h2
  cases hc : cmpT ts q
  · obtain ⟨f1, f2⟩ := e1 hc
    rw [f1, f2]
    exact ⟨fun _ => ⟨rfl, rfl⟩, fun h => absurd rfl h⟩
  · obtain ⟨f1, f2⟩ := e2 hc
    rw [f1]
    refine ⟨fun h => ?_, fun _ => ⟨rfl, rfl⟩⟩
    rw [f2] at h
    rcases eqV_11 ts d q l m with h9 | h9 <;> omega
theorem box_oth {ts : List Ty} (hL : Sound (ts ++ [ifaceTy])) {tn : Nat} (htn : ts.length = tn) {d q q' : Nat} (hq : q ≠ q') (l m : List Cl) (h1 : vchk (ts ++ [ifaceTy]) (d + 1) (tn : Nat) [bxCl q l] = 0) :
    (vchk (ts ++ [ifaceTy]) (d + 1) (tn : Nat) [bxCl q' m] ≠ 0 → (eqR (ts ++ [ifaceTy]) (d + 1) (tn : Nat) [bxCl q l] [bxCl q' m]).1 = false ∧ (eqR (ts ++ [ifaceTy]) (d + 1) (tn : Nat) [bxCl q l] [bxCl q' m]).2 = 1) ∧
    (vchk (ts ++ [ifaceTy]) (d + 1) (tn : Nat) [bxCl q' m] = 0 → (eqR (ts ++ [ifaceTy]) (d + 1) (tn : Nat) [bxCl q l] [bxCl q' m]).1 = false ∧ (eqR (ts ++ [ifaceTy]) (d + 1) (tn : Nat) [bxCl q l] [bxCl q' m]).2 = 0) := by
  subst htn
  exact ⟨fun h => by rw [box_wrong hL (.inr h)]; exact ⟨rfl, rfl⟩, fun h => by rw [box_other hL hq h1 h]; exact ⟨rfl, rfl⟩⟩

set_option maxRecDepth 100000 in
set_option maxHeartbeats 16000000 in
theorem boxes_walk (ts : List Ty) (ta : Option Addr) (tn tc : Nat) (htn : ts.length = tn) (d : Nat) (t : Int) (a : Option Addr) (l : List Cl) (c : Nat) (am : Option Addr) (m : List Cl) (mc : Nat) (t2 : Int) (w : World) (hC : Cs (d + 1) w a l) (hM : Cs (d + 1) w am m) (hT : Tab w ta ts) (hG : Gl w) :
    Calls Tryd.prog 8 #[.agg #[.slice ta tn tc, .int .i64 t, .slice a l.length c], .slice am m.length mc, .int .i64 t2] w (SayPost w (.bool true)) := by
  have hE0 := Ext.alloc [] w (.cells #[.slice ta tn tc, .int .i64 t, .slice a l.length c] 25)
  have hb0 := heap_alloc_new w (.cells #[.slice ta tn tc, .int .i64 t, .slice a l.length c] 25)
  have KA := awake_any (w.alloc (.cells #[.slice ta tn tc, .int .i64 t, .slice a l.length c] 25))
  have HQ : Hid (∀ u, Ext [] (w.alloc (.cells #[.slice ta tn tc, .int .i64 t, .slice a l.length c] 25)) u → u.cell? ⟨w.heap.size, 0, none⟩ = some (.slice ta tn tc) ∧ u.cell? ⟨w.heap.size, 1, none⟩ = some (.int .i64 t) ∧ u.cell? ⟨w.heap.size, 2, none⟩ = some (.slice a l.length c)) := fun u hu =>
    ⟨hu.cell (by rw [cell_of_row _ _ _ _ _ _ hb0]; rfl) (by simp), hu.cell (by rw [cell_of_row _ _ _ _ _ _ hb0]; rfl) (by simp), hu.cell (by rw [cell_of_row _ _ _ _ _ _ hb0]; rfl) (by simp)⟩
  have HE0 := hid hE0
  have KT : ∀ u, Ext [] w u → Calls Tryd.prog 13 #[.slice ta tn tc] u (fun e w' => ∃ at1 ct1, e = .returned (.slice at1 tn ct1) ∧ tn ≤ ct1 ∧ Tab w' at1 ts ∧ Ext [] u w') := fun u hu => (copy_any ta ts tn tc u (hT.keep0 hu) htn).mono (by rintro e w' ⟨a1, c1, G, h1, h2, _, h4, h5⟩; exact ⟨a1, c1, h1, h2, h4, h5⟩)
  have KV : ∀ u, Ext [] w u → Calls Tryd.prog 14 #[.slice a l.length c] u (fun e w' => ∃ av1 cv1, e = .returned (.slice av1 l.length cv1) ∧ l.length ≤ cv1 ∧ Cs (d + 1) w' av1 l ∧ Ext [] u w') := fun u hu => (rcopy_any (d + 1) a l _ c u (hC.keep0 hu) rfl).mono (by rintro e w' ⟨a1, c1, h1, h9, h2, h3⟩; exact ⟨a1, c1, h1, h9, h2.cs, h3⟩)
  have KM : ∀ u, Ext [] w u → Calls Tryd.prog 14 #[.slice am m.length mc] u (fun e w' => ∃ am1 cm1, e = .returned (.slice am1 m.length cm1) ∧ m.length ≤ cm1 ∧ Cs (d + 1) w' am1 m ∧ Ext [] u w') := fun u hu => (rcopy_any (d + 1) am m _ mc u (hM.keep0 hu) rfl).mono (by rintro e w' ⟨a1, c1, h1, h9, h2, h3⟩; exact ⟨a1, c1, h1, h9, h2.cs, h3⟩)
  have KCp : ∀ u, Ext [] w u → Calls Tryd.prog 13 #[.slice ta tn tc] u (CopyPost u ts tn) := fun u hu => copy_any ta ts tn tc u (hT.keep0 hu) htn
  have HT := hid hT
  have HG := hid hG
  have HC := hid hC
  have HM := hid hM
  have HTN := hid htn
  clear hT hG hC hM hE0 hb0
  go_enter Tryd.func8, Tryd.ntmps8
  go_upto_region 3 with (first | (go_at_call 9; refine KA.mono ?_; clear KA; rintro e w1 ⟨rfl, hE1⟩) | fail "no arm")
  have hX_w1 : Ext [] w w1 := HE0.out.trans hE1
  obtain ⟨q0, q1, q2⟩ := HQ.out w1 hE1
  clear hE1 HQ HE0
  generalize w.heap.size = qb at *
  have KC1 := KCp w1 hX_w1
  go_upto_region 4 with (first
    | (go_at_call 13; refine KC1.mono ?_; clear KC1; rintro e w2 ⟨a1, c1, G, rfl, hac, hCp, hTC, hE2⟩; obtain ⟨g, c4, w4, hr4, hT4, hc4, hE4⟩ := appI w1 w2 a1 tn c1 ts G htn hE2 hCp hTC; replace hE4 := hid hE4; replace hT4 := hid hT4; clear hCp hTC hE2 hac)
    | (at_builtin; refine wpList_append_run rfl _ _ 22 rfl _ _ _ rfl rfl hr4 ?_)
    | fail "no arm")
  replace q0 := hE4.out.cell q0 (by simp)
  replace q1 := hE4.out.cell q1 (by simp)
  replace q2 := hE4.out.cell q2 (by simp)
  have HX4 := hid (hX_w1.trans hE4.out)
  clear hX_w1 hE4 KCp hr4
  have hlen : (ts ++ [ifaceTy]).length = tn + 1 := by simp [htn]
  by_cases hn64 : 64 < tn + 1
  · have K24 := rcheck_long (some ⟨g, 0, none⟩) (tn + 1) c4 hn64 w4
    clear hT4 HT HG HC HM HTN KT KV KM hn64
    go_wp2_with (first | (go_at_call 24; refine K24.mono ?_; clear K24; rintro e w5 ⟨rfl, hE5⟩; replace hE5 := hid hE5) | fail "no arm")
    go_ret
    exact ⟨rfl, HX4.out.trans hE5.out⟩
  · have HL4 := hid (hT4.out (by omega))
    have hn63 : tn ≤ 63 := by omega
    clear hT4 hn64
    have K24 := rcheck_any (some ⟨g, 0, none⟩) (ts ++ [ifaceTy]) (tn + 1) c4 w4 HL4.out hlen
    have K24b : Hid (∀ u, Ext [] w u → Calls Tryd.prog 24 #[.slice ta tn tc] u (SayPost u (.int .i64 (chk ts)))) := fun u hu => rcheck_any ta ts tn tc u (HT.out.keep0 hu) HTN.out
    by_cases hL : Sound (ts ++ [ifaceTy])
    · rw [chk_yes hL] at K24
      by_cases hS : Sound ts
      · rw [chk_yes hS] at K24b
        by_cases h0 : t < 0
        · clear HT HG HC HM HTN KT KV KM HL4 hL hS
          go_wp2_with (first | (go_at_call 24; refine K24.mono ?_; clear K24; rintro e w5 ⟨rfl, hE5⟩; have K24c := K24b.out w5 (HX4.out.trans hE5); replace q0 := hE5.cell q0 (by simp); replace q1 := hE5.cell q1 (by simp); replace hE5 := hid hE5) | (go_at_call 24; refine K24c.mono ?_; clear K24c; rintro e w6 ⟨rfl, hE6⟩; replace q1 := hE6.cell q1 (by simp); replace hE6 := hid hE6) | fail "no arm")
          go_ret
          exact ⟨rfl, (HX4.out.trans hE5.out).trans hE6.out⟩
        · by_cases h1 : t < tn
          · obtain ⟨q, rfl⟩ : ∃ q : Nat, t = q := ⟨t.toNat, by omega⟩
            have hqn : q < tn := by omega
            have h2 : ¬ ((tn : Int) ≤ q) := by omega
            have HLS := hid hL
            have HSS := hid hS
            clear hL hS
            go_upto_region 7 with (first | (go_at_call 24; refine K24.mono ?_; clear K24; rintro e w5 ⟨rfl, hE5⟩; have K24c := K24b.out w5 (HX4.out.trans hE5); clear K24b; replace q0 := hE5.cell q0 (by simp); replace q1 := hE5.cell q1 (by simp); replace q2 := hE5.cell q2 (by simp); replace hE5 := hid hE5) | (go_at_call 24; refine K24c.mono ?_; clear K24c; rintro e w6 ⟨rfl, hE6⟩; replace q0 := hE6.cell q0 (by simp); replace q1 := hE6.cell q1 (by simp); replace q2 := hE6.cell q2 (by simp); replace hE6 := hid hE6) | fail "no arm")
            have hX_w6 : Ext [] w w6 := (HX4.out.trans hE5.out).trans hE6.out
            have HL6 := hid (HL4.out.keep0 (hE5.out.trans hE6.out))
            clear HX4 hE5 hE6 HL4 h0 h1
            go_region_held3 (fun u => u.cell? ⟨qb, 0, none⟩ = some (.slice ta tn tc) ∧ u.cell? ⟨qb, 1, none⟩ = some (.int .i64 q) ∧ u.cell? ⟨qb, 2, none⟩ = some (.slice a l.length c))
              (first | exact ⟨Ext.cell (by (repeat (first | (with_reducible exact Ext.refl [] _) | (with_reducible exact Ext.drew [] _) | (with_reducible assumption) | (with_reducible refine Ext.trans ?_ (Ext.drew [] _)) | (with_reducible refine Ext.trans ?_ (by assumption)) | fail "no chain"))) q0 (by simp), Ext.cell (by (repeat (first | (with_reducible exact Ext.refl [] _) | (with_reducible exact Ext.drew [] _) | (with_reducible assumption) | (with_reducible refine Ext.trans ?_ (Ext.drew [] _)) | (with_reducible refine Ext.trans ?_ (by assumption)) | fail "no chain"))) q1 (by simp), Ext.cell (by (repeat (first | (with_reducible exact Ext.refl [] _) | (with_reducible exact Ext.drew [] _) | (with_reducible assumption) | (with_reducible refine Ext.trans ?_ (Ext.drew [] _)) | (with_reducible refine Ext.trans ?_ (by assumption)) | fail "no chain"))) q2 (by simp)⟩ | go_keep)
              (first
                | (go_at_call 14; (with_reducible refine Calls.mono (KV _ ?_) ?_); (repeat (first | (with_reducible exact Ext.refl [] _) | (with_reducible exact Ext.drew [] _) | (with_reducible assumption) | (with_reducible refine Ext.trans ?_ (Ext.drew [] _)) | (with_reducible refine Ext.trans ?_ (by assumption)) | fail "no chain")); rintro e wv ⟨av1, cv1, rfl, hvc, hCo, hEv⟩)
                | fail "no arm")
            have hwq : IntKind.i64.wrap ((q : Int) + 1) = (q : Int) + 1 := by rw [IntKind.wrap_i64]; omega
            rw [hwq]
            have HA7 := hid (cs_box wv (d + 1) q (by omega) av1 l cv1 hCo hvc)
            have hXa := Ext.alloc [] wv (.cells #[.int .u64 0, .string ⟨#[]⟩, .int .i64 ((q : Int) + 1), .slice av1 l.length cv1] 49)
            generalize wv.alloc (.cells #[.int .u64 0, .string ⟨#[]⟩, .int .i64 ((q : Int) + 1), .slice av1 l.length cv1] 49) = w7 at *
            generalize wv.heap.size = ab at *
            have hX67 : Ext [] w6 w7 := (Ext.drew [] _).trans (hEv.trans hXa)
            have hX_w7 : Ext [] w w7 := hX_w6.trans hX67
            replace q0 := hX67.cell q0 (by simp)
            replace q1 := hX67.cell q1 (by simp)
            replace q2 := hX67.cell q2 (by simp)
            have HL7 := hid (HL6.out.keep0 hX67)
            rename_i hHeld
            clear hHeld hX67 hXa hEv hCo hvc HL6 hX_w6
            go_upto_region 8 with fail
            go_region_held3 (fun u => u.cell? ⟨qb, 0, none⟩ = some (.slice ta tn tc) ∧ u.cell? ⟨qb, 1, none⟩ = some (.int .i64 q) ∧ u.cell? ⟨qb, 2, none⟩ = some (.slice a l.length c))
              (first | exact ⟨Ext.cell (by (repeat (first | (with_reducible exact Ext.refl [] _) | (with_reducible exact Ext.drew [] _) | (with_reducible assumption) | (with_reducible refine Ext.trans ?_ (Ext.drew [] _)) | (with_reducible refine Ext.trans ?_ (by assumption)) | fail "no chain"))) q0 (by simp), Ext.cell (by (repeat (first | (with_reducible exact Ext.refl [] _) | (with_reducible exact Ext.drew [] _) | (with_reducible assumption) | (with_reducible refine Ext.trans ?_ (Ext.drew [] _)) | (with_reducible refine Ext.trans ?_ (by assumption)) | fail "no chain"))) q1 (by simp), Ext.cell (by (repeat (first | (with_reducible exact Ext.refl [] _) | (with_reducible exact Ext.drew [] _) | (with_reducible assumption) | (with_reducible refine Ext.trans ?_ (Ext.drew [] _)) | (with_reducible refine Ext.trans ?_ (by assumption)) | fail "no chain"))) q2 (by simp)⟩ | go_keep)
              (first
                | (go_at_call 14; (with_reducible refine Calls.mono (KM _ ?_) ?_); (repeat (first | (with_reducible exact Ext.refl [] _) | (with_reducible exact Ext.drew [] _) | (with_reducible assumption) | (with_reducible refine Ext.trans ?_ (Ext.drew [] _)) | (with_reducible refine Ext.trans ?_ (by assumption)) | fail "no chain")); rintro e wv ⟨av1, cv1, rfl, hvc, hCo, hEv⟩)
                | fail "no arm")
            have HB8 := hid (cs_box wv (d + 1) q (by omega) av1 m cv1 hCo hvc)
            have hXa := Ext.alloc [] wv (.cells #[.int .u64 0, .string ⟨#[]⟩, .int .i64 ((q : Int) + 1), .slice av1 m.length cv1] 49)
            generalize wv.alloc (.cells #[.int .u64 0, .string ⟨#[]⟩, .int .i64 ((q : Int) + 1), .slice av1 m.length cv1] 49) = w8 at *
            generalize wv.heap.size = bb at *
            have hX78 : Ext [] w7 w8 := (Ext.drew [] _).trans (hEv.trans hXa)
            have hX_w8 : Ext [] w w8 := hX_w7.trans hX78
            replace q0 := hX78.cell q0 (by simp)
            replace q1 := hX78.cell q1 (by simp)
            replace q2 := hX78.cell q2 (by simp)
            have HL8 := hid (HL7.out.keep0 hX78)
            have HA8 := hid (HA7.out.keep0 hX78)
            rename_i hHeld
            clear hHeld hX78 hXa hEv hCo hvc HL7 HA7 hX_w7 hwq
            have HALL := hid (box_all HSS.out HLS.out HTN.out (d := d + 1) hqn l m)
            have K13 : Hid (∀ u, Ext [] w8 u → Calls Tryd.prog 13 #[.slice (some ⟨g, 0, none⟩) (tn + 1) c4] u (CopyPost u (ts ++ [ifaceTy]) (tn + 1))) := fun u hu => copy_any (some ⟨g, 0, none⟩) (ts ++ [ifaceTy]) (tn + 1) c4 u (HL8.out.keep0 hu) hlen
            have K12f : Hid (∀ u, Ext [] w8 u → ∀ at2 ct2, tn + 1 ≤ ct2 → Tab u at2 (ts ++ [ifaceTy]) → Calls Tryd.prog 12 #[.slice at2 (tn + 1) ct2, .int .i64 (tn : Nat), .slice (some ⟨ab, 0, none⟩) 1 1, .slice (some ⟨bb, 0, none⟩) 1 1] u (SayPost u (paV (eqR (ts ++ [ifaceTy]) (d + 1 + 1) (tn : Nat) [bxCl q l] [bxCl q m])))) := fun u hu at2 ct2 h1 h2 => equal_any (ts ++ [ifaceTy]) at2 (tn + 1) ct2 hlen h1 (d + 1 + 1) (tn : Nat) (some ⟨ab, 0, none⟩) [bxCl q l] 1 (some ⟨bb, 0, none⟩) [bxCl q m] 1 u (HA8.out.keep0 hu) (HB8.out.keep0 hu) h2 (HG.out.keep0 (hX_w8.trans hu))
            have KE : ∀ u, Ext [] w u → ∀ at1 ct1, tn ≤ ct1 → ∀ av1 cv1 am1 cm1, Tab u at1 ts → Cs (d + 1) u av1 l → Cs (d + 1) u am1 m → Calls Tryd.prog 12 #[.slice at1 tn ct1, .int .i64 (q : Nat), .slice av1 l.length cv1, .slice am1 m.length cm1] u (SayPost u (paV (eqR ts (d + 1) (q : Nat) l m))) := fun u hu at1 ct1 hct av1 cv1 am1 cm1 h1 h2 h3 => equal_any ts at1 tn ct1 HTN.out hct (d + 1) q av1 l cv1 am1 m cm1 u h2 h3 h1 (HG.out.keep0 hu)
            have K25a : Hid (∀ u, Ext [] w8 u → Calls Tryd.prog 25 #[.slice (some ⟨g, 0, none⟩) (tn + 1) c4, .int .i64 (tn : Nat), .slice (some ⟨ab, 0, none⟩) 1 1] u (SayPost u (.int .i64 (vchk (ts ++ [ifaceTy]) (d + 1 + 1) (tn : Nat) [bxCl q l])))) := fun u hu => rvcheck_any (ts ++ [ifaceTy]) (some ⟨g, 0, none⟩) (tn + 1) c4 hlen (d + 1 + 1) (tn : Nat) (some ⟨ab, 0, none⟩) [bxCl q l] 1 1 u (HA8.out.keep0 hu) rfl (Nat.le_refl _) (HL8.out.keep0 hu)
            have K25b : Hid (∀ u, Ext [] w8 u → Calls Tryd.prog 25 #[.slice (some ⟨g, 0, none⟩) (tn + 1) c4, .int .i64 (tn : Nat), .slice (some ⟨bb, 0, none⟩) 1 1] u (SayPost u (.int .i64 (vchk (ts ++ [ifaceTy]) (d + 1 + 1) (tn : Nat) [bxCl q m])))) := fun u hu => rvcheck_any (ts ++ [ifaceTy]) (some ⟨g, 0, none⟩) (tn + 1) c4 hlen (d + 1 + 1) (tn : Nat) (some ⟨bb, 0, none⟩) [bxCl q m] 1 1 u (HB8.out.keep0 hu) rfl (Nat.le_refl _) (HL8.out.keep0 hu)
            have HOTH : Hid (∀ (q' : Nat) (z : List Cl), q ≠ q' → vchk (ts ++ [ifaceTy]) (d + 1 + 1) (tn : Nat) [bxCl q l] = 0 → (vchk (ts ++ [ifaceTy]) (d + 1 + 1) (tn : Nat) [bxCl q' z] ≠ 0 → (eqR (ts ++ [ifaceTy]) (d + 1 + 1) (tn : Nat) [bxCl q l] [bxCl q' z]).1 = false ∧ (eqR (ts ++ [ifaceTy]) (d + 1 + 1) (tn : Nat) [bxCl q l] [bxCl q' z]).2 = 1) ∧ (vchk (ts ++ [ifaceTy]) (d + 1 + 1) (tn : Nat) [bxCl q' z] = 0 → (eqR (ts ++ [ifaceTy]) (d + 1 + 1) (tn : Nat) [bxCl q l] [bxCl q' z]).1 = false ∧ (eqR (ts ++ [ifaceTy]) (d + 1 + 1) (tn : Nat) [bxCl q l] [bxCl q' z]).2 = 0)) := fun q' z hne h1 => box_oth HLS.out HTN.out hne l z h1
            unfold paV at KE K12f
            generalize hva : vchk (ts ++ [ifaceTy]) (d + 1 + 1) (tn : Nat) [bxCl q l] = va at *
            generalize vchk (ts ++ [ifaceTy]) (d + 1 + 1) (tn : Nat) [bxCl q m] = vb at *
            generalize (eqR (ts ++ [ifaceTy]) (d + 1 + 1) (tn : Nat) [bxCl q l] [bxCl q m]).1 = o1 at *
            generalize (eqR (ts ++ [ifaceTy]) (d + 1 + 1) (tn : Nat) [bxCl q l] [bxCl q m]).2 = e1 at *
            generalize (eqR ts (d + 1) (q : Nat) l m).1 = o2 at *
            generalize (eqR ts (d + 1) (q : Nat) l m).2 = e2 at *
            clear hva
            have K13a := K13.out w8 (Ext.refl _ _)
            go_upto_region 10 with (first
              | (go_at_call 13; refine K13a.mono ?_; clear K13a; rintro e w9 ⟨at2, ct2, G2, rfl, hct2, _, hT9, hE9⟩; have K12a := K12f.out w9 hE9 at2 ct2 hct2 hT9; replace hE9 := hid hE9; clear hT9 hct2)
              | (go_at_call 12; refine K12a.mono ?_; clear K12a; rintro e w10 ⟨rfl, hE10⟩; replace hE10 := hid hE10)
              | fail "no arm")
            have hX8 : Ext [] w8 w10 := hE9.out.trans hE10.out
            have hX_w10 : Ext [] w w10 := hX_w8.trans hX8
            replace q0 := hX8.cell q0 (by simp)
            replace q1 := hX8.cell q1 (by simp)
            replace q2 := hX8.cell q2 (by simp)
            have HX8 := hid hX8
            clear hX8 hE9 hE10 K12f
            go_region_held3 (fun u => u.cell? ⟨qb, 0, none⟩ = some (.slice ta tn tc) ∧ u.cell? ⟨qb, 1, none⟩ = some (.int .i64 q) ∧ u.cell? ⟨qb, 2, none⟩ = some (.slice a l.length c))
              (first | exact ⟨Ext.cell (by (repeat (first | (with_reducible exact Ext.refl [] _) | (with_reducible exact Ext.drew [] _) | (with_reducible assumption) | (with_reducible refine Ext.trans ?_ (Ext.drew [] _)) | (with_reducible refine Ext.trans ?_ (by assumption)) | fail "no chain"))) q0 (by simp), Ext.cell (by (repeat (first | (with_reducible exact Ext.refl [] _) | (with_reducible exact Ext.drew [] _) | (with_reducible assumption) | (with_reducible refine Ext.trans ?_ (Ext.drew [] _)) | (with_reducible refine Ext.trans ?_ (by assumption)) | fail "no chain"))) q1 (by simp), Ext.cell (by (repeat (first | (with_reducible exact Ext.refl [] _) | (with_reducible exact Ext.drew [] _) | (with_reducible assumption) | (with_reducible refine Ext.trans ?_ (Ext.drew [] _)) | (with_reducible refine Ext.trans ?_ (by assumption)) | fail "no chain"))) q2 (by simp)⟩ | go_keep)
              (first
                | (go_at_call 13; (with_reducible refine Calls.mono (KT _ ?_) ?_); (repeat (first | (with_reducible exact Ext.refl [] _) | (with_reducible exact Ext.drew [] _) | (with_reducible assumption) | (with_reducible refine Ext.trans ?_ (Ext.drew [] _)) | (with_reducible refine Ext.trans ?_ (by assumption)) | fail "no chain")); rintro e wt ⟨at1, ct1, rfl, hct, hTC, hEt⟩)
                | (go_at_call 14; (with_reducible refine Calls.mono (KV _ ?_) ?_); (repeat (first | (with_reducible exact Ext.refl [] _) | (with_reducible exact Ext.drew [] _) | (with_reducible assumption) | (with_reducible refine Ext.trans ?_ (Ext.drew [] _)) | (with_reducible refine Ext.trans ?_ (by assumption)) | fail "no chain")); rintro e wv ⟨av1, cv1, rfl, _, hCo, hEv⟩)
                | (go_at_call 14; (with_reducible refine Calls.mono (KM _ ?_) ?_); (repeat (first | (with_reducible exact Ext.refl [] _) | (with_reducible exact Ext.drew [] _) | (with_reducible assumption) | (with_reducible refine Ext.trans ?_ (Ext.drew [] _)) | (with_reducible refine Ext.trans ?_ (by assumption)) | fail "no chain")); rintro e wm ⟨am1, cm1, rfl, _, hCm, hEm⟩)
                | (go_at_call 12; refine Calls.mono (KE _ ?_ at1 ct1 hct av1 cv1 am1 cm1 (hTC.keep0 ?_) (hCo.keep0 ?_) (hCm.keep0 ?_)) ?_; (repeat (first | (with_reducible exact Ext.refl [] _) | (with_reducible exact Ext.drew [] _) | (with_reducible assumption) | (with_reducible refine Ext.trans ?_ (Ext.drew [] _)) | (with_reducible refine Ext.trans ?_ (by assumption)) | fail "no chain")); (repeat (first | (with_reducible exact Ext.refl [] _) | (with_reducible exact Ext.drew [] _) | (with_reducible assumption) | (with_reducible refine Ext.trans ?_ (Ext.drew [] _)) | (with_reducible refine Ext.trans ?_ (by assumption)) | fail "no chain")); (repeat (first | (with_reducible exact Ext.refl [] _) | (with_reducible exact Ext.drew [] _) | (with_reducible assumption) | (with_reducible refine Ext.trans ?_ (Ext.drew [] _)) | (with_reducible refine Ext.trans ?_ (by assumption)) | fail "no chain")); (repeat (first | (with_reducible exact Ext.refl [] _) | (with_reducible exact Ext.drew [] _) | (with_reducible assumption) | (with_reducible refine Ext.trans ?_ (Ext.drew [] _)) | (with_reducible refine Ext.trans ?_ (by assumption)) | fail "no chain")); rintro e w11 ⟨rfl, hEr⟩)
                | fail "no arm")
            have hX1011 : Ext [] w10 w11 := by (repeat (first | (with_reducible exact Ext.refl [] _) | (with_reducible exact Ext.drew [] _) | (with_reducible assumption) | (with_reducible refine Ext.trans ?_ (Ext.drew [] _)) | (with_reducible refine Ext.trans ?_ (by assumption)) | fail "no chain"))
            have hX_w11 : Ext [] w w11 := hX_w10.trans hX1011
            replace q0 := hX1011.cell q0 (by simp)
            replace q1 := hX1011.cell q1 (by simp)
            replace q2 := hX1011.cell q2 (by simp)
            have HX11 := hid (HX8.out.trans hX1011)
            rename_i hHeld
            clear hHeld hX1011 hEt hEv hEm hEr hTC hCo hCm hct hX_w10 KE KT KV KM HX8
            have HX_w11 := hid hX_w11
            have K25c := K25a.out w11 HX11.out
            clear hX_w11 K25a q2
            by_cases ha : va = 0
            · by_cases hb : vb = 0
              · have HF := hid (HALL.out.2 ha hb)
                replace HOTH := hid (fun q' z hne => HOTH.out q' z hne ha)
                subst ha hb
                clear HALL
                by_cases h3 : e2 = 3
                · obtain ⟨h4, h5⟩ := HF.out.1 h3
                  subst h3 h4 h5
                  clear HF HOTH HT HG HC HM K13 HL8 HA8 HB8 HLS HSS
                  go_wp2_with (first | (go_at_call 25; refine K25c.mono ?_; clear K25c; rintro e w12 ⟨rfl, hE12⟩; have K25d := K25b.out w12 (HX11.out.trans hE12); replace q0 := hE12.cell q0 (by simp); replace q1 := hE12.cell q1 (by simp); replace hE12 := hid hE12) | (go_at_call 25; refine K25d.mono ?_; clear K25d; rintro e w13 ⟨rfl, hE13⟩; replace q0 := hE13.cell q0 (by simp); replace q1 := hE13.cell q1 (by simp); replace hE13 := hid hE13) | fail "no arm")
                  go_ret
                  exact ⟨rfl, (HX_w11.out.trans hE12.out).trans hE13.out⟩
                · obtain ⟨h4, h5⟩ := HF.out.2 h3
                  subst h4 h5
                  have b3 : (e1 == 3) = false := by simpa using h3
                  have bo : (o1 == o1) = true := by simp
                  have be : (e1 == e1) = true := by simp
                  clear HF h3
                  by_cases u0 : t2 < 0
                  · clear HOTH HT HG HC HM K13 HL8 HA8 HB8 HLS HSS
                    go_wp2_with (first | (go_at_call 25; refine K25c.mono ?_; clear K25c; rintro e w12 ⟨rfl, hE12⟩; have K25d := K25b.out w12 (HX11.out.trans hE12); replace q0 := hE12.cell q0 (by simp); replace q1 := hE12.cell q1 (by simp); replace hE12 := hid hE12) | (go_at_call 25; refine K25d.mono ?_; clear K25d; rintro e w13 ⟨rfl, hE13⟩; replace q0 := hE13.cell q0 (by simp); replace q1 := hE13.cell q1 (by simp); replace hE13 := hid hE13) | fail "no arm")
                    go_ret
                    exact ⟨rfl, (HX_w11.out.trans hE12.out).trans hE13.out⟩
                  · by_cases u1 : (tn : Int) ≤ t2
                    · clear HOTH HT HG HC HM K13 HL8 HA8 HB8 HLS HSS
                      go_wp2_with (first | (go_at_call 25; refine K25c.mono ?_; clear K25c; rintro e w12 ⟨rfl, hE12⟩; have K25d := K25b.out w12 (HX11.out.trans hE12); replace q0 := hE12.cell q0 (by simp); replace q1 := hE12.cell q1 (by simp); replace hE12 := hid hE12) | (go_at_call 25; refine K25d.mono ?_; clear K25d; rintro e w13 ⟨rfl, hE13⟩; replace q0 := hE13.cell q0 (by simp); replace q1 := hE13.cell q1 (by simp); replace hE13 := hid hE13) | fail "no arm")
                      go_ret
                      exact ⟨rfl, (HX_w11.out.trans hE12.out).trans hE13.out⟩
                    · by_cases u2 : t2 = q
                      · have b2 : (t2 == (q : Int)) = true := by simpa using u2
                        clear HOTH HT HG HC HM K13 HL8 HA8 HB8 HLS HSS u2
                        go_wp2_with (first | (go_at_call 25; refine K25c.mono ?_; clear K25c; rintro e w12 ⟨rfl, hE12⟩; have K25d := K25b.out w12 (HX11.out.trans hE12); replace q0 := hE12.cell q0 (by simp); replace q1 := hE12.cell q1 (by simp); replace hE12 := hid hE12) | (go_at_call 25; refine K25d.mono ?_; clear K25d; rintro e w13 ⟨rfl, hE13⟩; replace q0 := hE13.cell q0 (by simp); replace q1 := hE13.cell q1 (by simp); replace hE13 := hid hE13) | fail "no arm")
                        go_ret
                        exact ⟨rfl, (HX_w11.out.trans hE12.out).trans hE13.out⟩
                      · obtain ⟨q', rfl⟩ : ∃ q' : Nat, t2 = q' := ⟨t2.toNat, by omega⟩
                        have b2 : ((q' : Int) == (q : Int)) = false := by simpa using u2
                        have hne : q ≠ q' := by omega
                        have hq' : q' < tn := by omega
                        have hw2 : IntKind.i64.wrap ((q' : Int) + 1) = (q' : Int) + 1 := by rw [IntKind.wrap_i64]; omega
                        have K26 : Hid (∀ u, Ext [] w u → Calls Tryd.prog 26 #[.slice ta tn tc, .int .i64 (q' : Nat)] u (fun e w' => ∃ a k, e = .returned (.tuple #[.slice a k k, .int .i64 0]) ∧ Hid (Cs 1 w' a (List.replicate k zeroCl)) ∧ Ext [] u w')) := fun u hu => rzero_any ts ta tn tc HTN.out HSS.out q' hq' u (HT.out.keep0 hu)
                        clear u2
                        go_upto_region 21 with (first | (go_at_call 25; refine K25c.mono ?_; clear K25c; rintro e w12 ⟨rfl, hE12⟩; have K25d := K25b.out w12 (HX11.out.trans hE12); replace q0 := hE12.cell q0 (by simp); replace q1 := hE12.cell q1 (by simp); replace hE12 := hid hE12) | (go_at_call 25; refine K25d.mono ?_; clear K25d; rintro e w13 ⟨rfl, hE13⟩; replace q0 := hE13.cell q0 (by simp); replace q1 := hE13.cell q1 (by simp); have K26a := K26.out w13 ((HX_w11.out.trans hE12.out).trans hE13); replace hE13 := hid hE13) | (go_at_call 26; refine K26a.mono ?_; clear K26a; rintro e w14 ⟨az, kz, rfl, hCz, hE14⟩; replace hE14 := hid hE14) | fail "no arm")
                        have HZ15 := cs_box w14 (d + 1) q' (by omega) az (List.replicate kz zeroCl) kz (hCz.out.mono (by omega)) (by simp)
                        rw [List.length_replicate] at HZ15
                        replace HZ15 := hid HZ15
                        have hXa := Ext.alloc [] w14 (.cells #[.int .u64 0, .string ⟨#[]⟩, .int .i64 ((q' : Int) + 1), .slice az kz kz] 49)
                        generalize w14.alloc (.cells #[.int .u64 0, .string ⟨#[]⟩, .int .i64 ((q' : Int) + 1), .slice az kz kz] 49) = w15 at *
                        generalize w14.heap.size = zb at *
                        have HX15 := hid ((((HX11.out.trans hE12.out).trans hE13.out).trans hE14.out).trans hXa)
                        have HXw := hid (hX_w8.trans HX15.out)
                        have HO3 := hid (HOTH.out q' (List.replicate kz zeroCl) hne)
                        have K12z : Hid (∀ u, Ext [] w15 u → ∀ at2 ct2, tn + 1 ≤ ct2 → Tab u at2 (ts ++ [ifaceTy]) → Calls Tryd.prog 12 #[.slice at2 (tn + 1) ct2, .int .i64 (tn : Nat), .slice (some ⟨ab, 0, none⟩) 1 1, .slice (some ⟨zb, 0, none⟩) 1 1] u (SayPost u (paV (eqR (ts ++ [ifaceTy]) (d + 1 + 1) (tn : Nat) [bxCl q l] [bxCl q' (List.replicate kz zeroCl)])))) := fun u hu at2 ct2 h1 h2 => equal_any (ts ++ [ifaceTy]) at2 (tn + 1) ct2 hlen h1 (d + 1 + 1) (tn : Nat) (some ⟨ab, 0, none⟩) [bxCl q l] 1 (some ⟨zb, 0, none⟩) [bxCl q' (List.replicate kz zeroCl)] 1 u (HA8.out.keep0 (HX15.out.trans hu)) (HZ15.out.keep0 hu) h2 (HG.out.keep0 (HXw.out.trans hu))
                        have K25z : Hid (∀ u, Ext [] w15 u → Calls Tryd.prog 25 #[.slice (some ⟨g, 0, none⟩) (tn + 1) c4, .int .i64 (tn : Nat), .slice (some ⟨zb, 0, none⟩) 1 1] u (SayPost u (.int .i64 (vchk (ts ++ [ifaceTy]) (d + 1 + 1) (tn : Nat) [bxCl q' (List.replicate kz zeroCl)])))) := fun u hu => rvcheck_any (ts ++ [ifaceTy]) (some ⟨g, 0, none⟩) (tn + 1) c4 hlen (d + 1 + 1) (tn : Nat) (some ⟨zb, 0, none⟩) [bxCl q' (List.replicate kz zeroCl)] 1 1 u (HZ15.out.keep0 hu) rfl (Nat.le_refl _) (HL8.out.keep0 (HX15.out.trans hu))
                        have K13b := K13.out w15 HX15.out
                        unfold paV at K12z
                        generalize vchk (ts ++ [ifaceTy]) (d + 1 + 1) (tn : Nat) [bxCl q' (List.replicate kz zeroCl)] = vz at *
                        generalize (eqR (ts ++ [ifaceTy]) (d + 1 + 1) (tn : Nat) [bxCl q l] [bxCl q' (List.replicate kz zeroCl)]).1 = o3 at *
                        generalize (eqR (ts ++ [ifaceTy]) (d + 1 + 1) (tn : Nat) [bxCl q l] [bxCl q' (List.replicate kz zeroCl)]).2 = e3 at *
                        clear HOTH HT HG HC HM K13 HL8 HA8 HB8 HLS HSS HX11 HX_w11 hE12 hE13 hE14 hXa HX15 HZ15 hCz K26 K25b
                        by_cases hvz : vz = 0
                        · obtain ⟨h6, h7⟩ := HO3.out.2 hvz
                          subst hvz h6 h7
                          clear HO3
                          go_wp2_with (first
                            | (go_at_call 13; refine K13b.mono ?_; clear K13b; rintro e w16 ⟨at3, ct3, G3, rfl, hct3, _, hT16, hE16⟩; have K12b := K12z.out w16 hE16 at3 ct3 hct3 hT16; replace hE16 := hid hE16; clear hT16 hct3)
                            | (go_at_call 12; refine K12b.mono ?_; clear K12b; rintro e w17 ⟨rfl, hE17⟩; have K25y := K25z.out w17 (hE16.out.trans hE17); replace hE17 := hid hE17)
                            | (go_at_call 25; refine K25y.mono ?_; clear K25y; rintro e w18 ⟨rfl, hE18⟩; replace hE18 := hid hE18)
                            | fail "no arm")
                          go_ret
                          exact ⟨rfl, ((HXw.out.trans hE16.out).trans hE17.out).trans hE18.out⟩
                        · obtain ⟨h6, h7⟩ := HO3.out.1 hvz
                          subst h6 h7
                          have bz : (vz != 0) = true := by simpa using hvz
                          clear HO3 hvz
                          go_wp2_with (first
                            | (go_at_call 13; refine K13b.mono ?_; clear K13b; rintro e w16 ⟨at3, ct3, G3, rfl, hct3, _, hT16, hE16⟩; have K12b := K12z.out w16 hE16 at3 ct3 hct3 hT16; replace hE16 := hid hE16; clear hT16 hct3)
                            | (go_at_call 12; refine K12b.mono ?_; clear K12b; rintro e w17 ⟨rfl, hE17⟩; have K25y := K25z.out w17 (hE16.out.trans hE17); replace hE17 := hid hE17)
                            | (go_at_call 25; refine K25y.mono ?_; clear K25y; rintro e w18 ⟨rfl, hE18⟩; replace hE18 := hid hE18)
                            | fail "no arm")
                          go_ret
                          exact ⟨rfl, ((HXw.out.trans hE16.out).trans hE17.out).trans hE18.out⟩
              · obtain ⟨h4, h5⟩ := HALL.out.1 (.inr hb)
                subst ha h4 h5
                have bb' : (vb == 0) = false := by simpa using hb
                clear HALL HOTH HT HG HC HM K13 HL8 HA8 HB8 HLS HSS hb
                go_wp2_with (first | (go_at_call 25; refine K25c.mono ?_; clear K25c; rintro e w12 ⟨rfl, hE12⟩; have K25d := K25b.out w12 (HX11.out.trans hE12); replace q0 := hE12.cell q0 (by simp); replace q1 := hE12.cell q1 (by simp); replace hE12 := hid hE12) | (go_at_call 25; refine K25d.mono ?_; clear K25d; rintro e w13 ⟨rfl, hE13⟩; replace q0 := hE13.cell q0 (by simp); replace q1 := hE13.cell q1 (by simp); replace hE13 := hid hE13) | fail "no arm")
                go_ret
                exact ⟨rfl, (HX_w11.out.trans hE12.out).trans hE13.out⟩
            · obtain ⟨h4, h5⟩ := HALL.out.1 (.inl ha)
              subst h4 h5
              have ba' : (va != 0) = true := by simpa using ha
              clear HALL HOTH HT HG HC HM K13 HL8 HA8 HB8 HLS HSS ha
              go_wp2_with (first | (go_at_call 25; refine K25c.mono ?_; clear K25c; rintro e w12 ⟨rfl, hE12⟩; have K25d := K25b.out w12 (HX11.out.trans hE12); replace q0 := hE12.cell q0 (by simp); replace q1 := hE12.cell q1 (by simp); replace hE12 := hid hE12) | fail "no arm")
              go_ret
              exact ⟨rfl, HX_w11.out.trans hE12.out⟩
          · have h2 : (tn : Int) ≤ t := by omega
            clear HT HG HC HM HTN KT KV KM HL4 hL hS h1
            go_wp2_with (first | (go_at_call 24; refine K24.mono ?_; clear K24; rintro e w5 ⟨rfl, hE5⟩; have K24c := K24b.out w5 (HX4.out.trans hE5); replace q0 := hE5.cell q0 (by simp); replace q1 := hE5.cell q1 (by simp); replace hE5 := hid hE5) | (go_at_call 24; refine K24c.mono ?_; clear K24c; rintro e w6 ⟨rfl, hE6⟩; replace q1 := hE6.cell q1 (by simp); replace hE6 := hid hE6) | fail "no arm")
            go_ret
            exact ⟨rfl, (HX4.out.trans hE5.out).trans hE6.out⟩
      · rw [chk_no hS] at K24b
        clear HT HG HC HM HTN KT KV KM HL4 hL hS
        go_wp2_with (first | (go_at_call 24; refine K24.mono ?_; clear K24; rintro e w5 ⟨rfl, hE5⟩; have K24c := K24b.out w5 (HX4.out.trans hE5); replace q0 := hE5.cell q0 (by simp); replace hE5 := hid hE5) | (go_at_call 24; refine K24c.mono ?_; clear K24c; rintro e w6 ⟨rfl, hE6⟩; replace hE6 := hid hE6) | fail "no arm")
        go_ret
        exact ⟨rfl, (HX4.out.trans hE5.out).trans hE6.out⟩
    · rw [chk_no hL] at K24
      clear K24b HT HG HC HM HTN KT KV KM HL4 hL
      go_wp2_with (first | (go_at_call 24; refine K24.mono ?_; clear K24; rintro e w5 ⟨rfl, hE5⟩; replace hE5 := hid hE5) | fail "no arm")
      go_ret
      exact ⟨rfl, HX4.out.trans hE5.out⟩

end Go.Proofs.YtpjcbpgfbhlioaaDoor
