/-
  RfT, RfU: joined by program; no statement is proved here.
-/
import Derived.Test.YtkknadkcpndnaaaDoorZN
/-
  Which words are a table, slot by slot as the document says it; no statement is proved here.
-/
namespace Go.Proofs.YtkknadkcpndnaaaDoor.Rf
open Go.RowKit Go.Shelf
open Pr (Gp GpI sq pl pl_lt)

/-- A slot is as the document asks. -/
def SnQ (T : List Nat) (G k : Nat) : Prop :=
  (128 ≤ (sT T k).1 → ((sT T k).1 = 128 ∨ (sT T k).1 = 254) ∧ (sT T k).2.1 = 0 ∧ (sT T k).2.2 = 0 ∧ ¬ (hasB T (k / 8) 128 = true ∧ hasB T (k / 8) 254 = true)) ∧
  ((sT T k).1 < 128 → (sT T k).1 = (sT T k).2.1 % 128 ∧ k / 8 ∈ wk T (sq ((sT T k).2.1 / 128) G))
theorem wk_mem {T : List Nat} {x : Nat} : ∀ {L : List Nat}, x ∈ wk T L ↔ ∃ A B, L = A ++ x :: B ∧ ∀ a ∈ A, hasE T a = false
  | [] => by simp [wk]
  | g :: L => by
    rw [wk]
    cases hg : hasE T g with
    | true =>
      simp only [if_true, List.mem_singleton]
      constructor
      · rintro rfl
        exact ⟨[], L, rfl, by simp⟩
      · rintro ⟨A, B, e, h⟩
        cases A with
        | nil => simp at e; exact e.1.symm
        | cons a A =>
          simp at e
          have := h a (by simp)
          rw [← e.1, hg] at this
          cases this
    | false =>
      simp only [Bool.false_eq_true, if_false, List.mem_cons]
      constructor
      · rintro (rfl | h)
        · exact ⟨[], L, rfl, by simp⟩
        · obtain ⟨A, B, e, h2⟩ := wk_mem.1 h
          refine ⟨g :: A, B, by rw [e]; rfl, fun a ha => ?_⟩
          rcases List.mem_cons.1 ha with rfl | ha
          · exact hg
          · exact h2 a ha
      · rintro ⟨A, B, e, h⟩
        cases A with
        | nil => simp at e; exact .inl e.1.symm
        | cons a A =>
          simp at e
          exact .inr (wk_mem.2 ⟨A, B, e.2, fun y hy => h y (by simp [hy])⟩)
theorem wk_sq {T : List Nat} {h G own : Nat} : own ∈ wk T (sq h G) ↔ ∃ k, k < G ∧ pl h G k = own ∧ ∀ n, n < k → hasE T (pl h G n) = false := by
  rw [wk_mem]
  constructor
  · rintro ⟨A, B, e, hA⟩
    have hl : A.length < G := by
      have := congrArg List.length e
      rw [Pr.sq_len, List.length_append, List.length_cons] at this
      omega
    refine ⟨A.length, hl, ?_, fun n hn => ?_⟩
    · have h1 := Pr.sq_at h G hl
      rw [e] at h1
      simpa using h1.symm
    · have h1 := Pr.sq_at h G (show n < G by omega)
      rw [e, List.getElem?_append_left hn] at h1
      exact hA _ (List.mem_of_getElem? h1)
  · rintro ⟨k, hk, rfl, hn⟩
    refine ⟨(sq h G).take k, (sq h G).drop (k + 1), ?_, fun a ha => ?_⟩
    · have h1 := Pr.sq_take h G k hk
      have h2 := List.take_append_drop (k + 1) (sq h G)
      rw [h1, List.append_assoc] at h2
      exact h2.symm
    · obtain ⟨n, hn2⟩ := List.mem_iff_getElem?.1 ha
      rw [List.getElem?_take] at hn2
      split at hn2
      · rename_i q
        rw [Pr.sq_at h G (by omega)] at hn2
        cases hn2
        exact hn n q
      · cases hn2
/-- The document's words for a sound table. -/
theorem sd_iff {T : List Nat} {G : Nat} (hP : Shp T G) : Sd T G ↔ (∀ k, k < 8 * G → SnQ T G k) ∧ T.getD 1 0 = knt (fun x => decide (x < 128)) T (8 * G) ∧ T.getD 2 0 + knt (fun x => decide (x ≠ 128)) T (8 * G) = 7 * G := by
  constructor
  · intro hS
    refine ⟨fun k hk => ?_, by rw [knt_full]; exact hS.cnt, by rw [knt_used hS]; exact hS.use⟩
    have hg : k / 8 < G := by omega
    have hi : k % 8 < 8 := by omega
    have hsl := ssB_iff.1 (hS.slt _ hg) _ hi
    unfold SnQ
    show (128 ≤ bt T (k / 8) (k % 8) → _) ∧ (bt T (k / 8) (k % 8) < 128 → _)
    refine ⟨fun h => ⟨?_, (hsl.2 h).1, (hsl.2 h).2, ?_⟩, fun h => ⟨hsl.1 h, ?_⟩⟩
    · rcases Sd.byte hS hg hi with q | q | q
      · omega
      · exact .inl q
      · exact .inr q
    · rintro ⟨h1, h2⟩
      obtain ⟨i, hi, e1⟩ := hasB_iff.1 h1
      obtain ⟨j, hj, e2⟩ := hasB_iff.1 h2
      exact Sd.sole hS hg hj hi e2 e1
    · exact wk_sq.2 (hS.fnd _ hg _ hi (by rw [fl_bit hi]; exact decide_eq_true h))
  · rintro ⟨hq, h1, h2⟩
    have hat : ∀ g i, g < G → i < 8 → SnQ T G (8 * g + i) := fun g i hg hi => hq _ (by omega)
    have hbyte : ∀ g i, g < G → i < 8 → bt T g i < 128 ∨ bt T g i = 128 ∨ bt T g i = 254 := fun g i hg hi => by
      have := hat g i hg hi
      unfold SnQ at this
      rw [sT_at T g i hi] at this
      by_cases q : 128 ≤ bt T g i
      · exact .inr (this.1 q).1
      · exact .inl (by omega)
    refine ⟨hP, fun g hg => scB_iff.2 ⟨fun i hi => hbyte g i hg hi, ?_⟩, fun g hg => ssB_iff.2 fun i hi => ?_, by rw [← knt_full]; exact h1, ?_, fun g hg i hi hf => ?_⟩
    · by_cases q : ∀ i, i < 8 → byt (cw T g) i ≠ 128
      · exact .inl q
      · right
        intro j hj hj2
        apply q
        intro i hi hi2
        have := hat g i hg hi
        unfold SnQ at this
        rw [sT_at T g i hi, show (8 * g + i) / 8 = g by omega] at this
        exact (this.1 (show 128 ≤ bt T g i by unfold bt; omega)).2.2.2 ⟨hasB_iff.2 ⟨i, hi, hi2⟩, hasB_iff.2 ⟨j, hj, hj2⟩⟩
    · have := hat g i hg hi
      unfold SnQ at this
      rw [sT_at T g i hi] at this
      exact ⟨fun q => (this.2 q).1, fun q => ⟨(this.1 q).2.1, (this.1 q).2.2.1⟩⟩
    · rw [← h2, knt_tot, nus_tot]
      congr 1
      refine tot_same fun g hg => cnt_congr fun i hi => ?_
      rcases hbyte g i hg hi with q | q | q
      · simp [q, show bt T g i ≠ 128 by omega]
      · simp [q]
      · simp [q]
    · have := hat g i hg hi
      unfold SnQ at this
      rw [sT_at T g i hi, show (8 * g + i) / 8 = g by omega] at this
      rw [fl_bit hi] at hf
      exact wk_sq.1 (this.2 (by simpa [bt] using hf)).2
end Go.Proofs.YtkknadkcpndnaaaDoor.Rf

/-
  The document's look at all slots; no statement is proved here.
-/
namespace Go.Proofs.YtkknadkcpndnaaaDoor.Rf
open Go.RowKit Go.Shelf
open Pr (Gp GpI sq pl)
attribute [local go_sem] Oper.semAt_some run_store_func

set_option maxRecDepth 100000 in
theorem rbyte_any (c i : Nat) (_hc : c < 18446744073709551616) (hi : i < 8) (w : World) : Calls Tryd.prog 35 #[.int .u64 (c : Nat), .int .i64 (i : Nat)] w fun e w' => e = .returned (.int .u8 (byt c i : Nat)) ∧ w' = w := by
  obtain ⟨b, hb⟩ : ∃ b, byt c i = b := ⟨_, rfl⟩
  rw [hb]
  unfold byt at hb
  go_enter Tryd.func35, Tryd.ntmps35
  go_wp2
  go_ret
  refine ⟨?_, rfl⟩
  show Ending.returned (Value.int .u8 ((c : Int) / 2 ^ (8 * i) % 256)) = _
  rw [← hb]
  norm_cast
set_option maxRecDepth 100000 in
set_option maxHeartbeats 4000000 in
theorem rsound_any (p q c G : Nat) (T : List Nat) (w : World) (r : Bool) (hr : r = true ↔ ∀ k, k < 8 * G → SnQ T G k) (hR : Rt w p q c G T) (hP : Shp T G) :
    Calls Tryd.prog 36 #[.pointer (some ⟨p, 0, none⟩)] w (SayPost w (.bool r)) := by
  have hG := hP.gp.le
  have HR := hid hR
  have HP := hid hP
  have HRr := hid hr
  clear hR hP hr
  go_enter Tryd.func36, Tryd.ntmps36
  go_wp2_with fail
  go_loopw [3] (fun u wr => ∃ k : Nat, u = .int .i64 k ∧ k ≤ 8 * G ∧ (∀ j, j < k → SnQ T G j) ∧ Ext [] w wr) (fun u _ => (8 * G - (intOf u)).toNat)
  case atStart => exact ⟨0, rfl, by omega, fun j hj => absurd hj (by omega), Ext.refl _ _⟩
  case round =>
    obtain ⟨k, rfl, hk, hall, hX⟩ := hrel
    have HAll := hid hall
    clear hall
    have hRr := HR.out.keep0 hX
    obtain ⟨_, f1⟩ := hRr.flds
    by_cases hkG : k < 8 * G
    · obtain ⟨s0, s1, s2⟩ := hRr.slot (k := k) hkG
      have hki : (k : Int) < 8 * (G : Int) := by omega
      have HX := hid hX
      have HRk := hid hRr
      have HQ := hid (show SnQ T G k ↔ (128 ≤ (sT T k).1 → ((sT T k).1 = 128 ∨ (sT T k).1 = 254) ∧ (sT T k).2.1 = 0 ∧ (sT T k).2.2 = 0 ∧ ¬ (hasB T (k / 8) 128 = true ∧ hasB T (k / 8) 254 = true)) ∧
        ((sT T k).1 < 128 → (sT T k).1 = (sT T k).2.1 % 128 ∧ k / 8 ∈ wk T (sq ((sT T k).2.1 / 128) G)) from Iff.rfl)
      have HNo := hid (fun (hn : ¬ SnQ T G k) => show r = false from by
        rw [Bool.eq_false_iff]
        intro e
        exact hn (HRr.out.1 e k hkG))
      have HYes := hid (fun (hy : SnQ T G k) => show ∀ j, j < k + 1 → SnQ T G j from fun j hj => by
        by_cases e : j = k
        · rw [e]; exact hy
        · exact HAll.out j (by omega))
      have hh64 : (sT T k).2.1 < 18446744073709551616 := HP.out.hs_lt _ _
      clear hX hRr
      generalize hsk : sT T k = s at *
      obtain ⟨x, y, z⟩ := s
      simp only at s0 s1 s2 hh64
      have HSk := hid hsk
      clear hsk
      have hal := Ext.alloc [] wr (.cells #[.int .u8 (x : Nat), .int .u64 (y : Nat), .int .u64 (z : Nat)] 80)
      have HX3 := hid (HX.out.trans hal)
      have KH := fun v => rhas_any p q c G (k / 8) v T _ (HRk.out.keep0 hal) hG (by omega)
      have KW := rwalk_any p q c G y T _ (HRk.out.keep0 hal) HP.out.gp hh64
      have hk8 : (k : Int) / 8 = ((k / 8 : Nat) : Int) := by omega
      have hkg : k / 8 < G := by omega
      clear hal
      by_cases hx : x < 128
      · have hx' : ¬ (128 : Int) ≤ (x : Int) := by omega
        have HQ2 := hid (show SnQ T G k ↔ x = y % 128 ∧ k / 8 ∈ wk T (sq (y / 128) G) from by rw [HQ.out]; exact ⟨fun a => a.2 hx, fun a => ⟨fun q => absurd hx (by omega), fun _ => a⟩⟩)
        have hly : (wk T (sq (y / 128) G)).length ≤ 4096 := by
          have := (wk_pre T (sq (y / 128) G)).length_le
          rw [Pr.sq_len] at this
          omega
        clear HQ KH
        generalize k / 8 = kg at *
        generalize wk T (sq (y / 128) G) = L at *
        go_wp2_with fail
        refine KW.mono ?_
        clear KW
        rintro _ w3 ⟨la, lc, rfl, hI, hX3⟩
        have HI := hid hI
        have HX4 := hid (HX3.out.trans hX3)
        have cx : w3.cell? ⟨wr.heap.size, 0, none⟩ = some (.int .u8 (x : Nat)) := hX3.cell (by rw [cell_of_row _ _ _ _ _ _ (heap_alloc_new wr _)]; rfl) (by simp)
        have cy : w3.cell? ⟨wr.heap.size, 1, none⟩ = some (.int .u64 (y : Nat)) := hX3.cell (by rw [cell_of_row _ _ _ _ _ _ (heap_alloc_new wr _)]; rfl) (by simp)
        clear hI hX3 HX3 s0 s1 s2 f1
        go_wp2_with fail
        go_loopw [5, 7] (fun f u wr2 => ∃ (i : Nat) (b : Bool), u = .int .i64 i ∧ i ≤ L.length ∧ f = .bool b ∧ (b = true ↔ kg ∈ L.take i) ∧ wr2 = w3) (fun _ u _ => (L.length - (intOf u)).toNat)
        case atStart => exact ⟨0, false, rfl, by omega, rfl, by simp, rfl⟩
        case round =>
          obtain ⟨i, b, rfl, hi, rfl, hb, rfl⟩ := hrel
          by_cases hiL : i < L.length
          · obtain ⟨g, hg⟩ : ∃ g, L[i]? = some g := ⟨L[i], List.getElem?_eq_getElem hiL⟩
            have hc := HI.out.cell (j := i) (by rw [ns_len]; exact hiL)
            rw [ns_at hg] at hc
            obtain ⟨lb, lo, rfl, hc⟩ := hc
            have HTk := hid (show kg ∈ L.take (i + 1) ↔ kg ∈ L.take i ∨ kg = g from by rw [List.take_add_one, hg]; simp)
            have HB := hid hb
            clear hb hg
            cases b with
            | true =>
              have HN := hid (show true = true ↔ kg ∈ L.take (i + 1) from by rw [HTk.out]; simp [HB.out.1 rfl])
              clear HTk HB
              go_wp2_with fail
              go_roundw
              case rel => exact ⟨i + 1, true, by go_num, by omega, rfl, HN.out, trivial⟩
              case measure => simp [intOf]; omega
            | false =>
              have hnb : ¬ kg ∈ L.take i := fun q => by have := HB.out.2 q; cases this
              by_cases hgk : g = kg
              · have hgk' : ((g : Int) == (kg : Int)) = true := by simp [hgk]
                have HN := hid (show true = true ↔ kg ∈ L.take (i + 1) from by rw [HTk.out]; simp [hgk])
                clear HTk HB hnb hgk
                go_wp2_with fail
                go_roundw
                case rel => exact ⟨i + 1, true, by go_num, by omega, rfl, HN.out, trivial⟩
                case measure => simp [intOf]; omega
              · have hgk' : ((g : Int) == (kg : Int)) = false := by simp; omega
                have HN := hid (show false = true ↔ kg ∈ L.take (i + 1) from by rw [HTk.out]; simp [hnb]; omega)
                clear HTk HB hnb hgk
                go_wp2_with fail
                go_roundw
                case rel => exact ⟨i + 1, false, by go_num, by omega, rfl, HN.out, trivial⟩
                case measure => simp [intOf]; omega
          · obtain rfl : i = L.length := by omega
            rw [List.take_length] at hb
            have hym : ((y : Int) % 128) = ((y % 128 : Nat) : Int) := by omega
            by_cases hxy : x = y % 128
            · have hxy' : ((x : Int) != ((y % 128 : Nat) : Int)) = false := by simp; omega
              generalize y % 128 = ym at *
              cases b with
              | true =>
                have HN := hid (HYes.out (HQ2.out.2 ⟨hxy, hb.1 rfl⟩))
                clear HQ2 hb hxy
                go_wp2_with fail
                go_roundw
                case rel => exact ⟨k + 1, by go_num, by omega, HN.out, HX4.out⟩
                case measure => simp [intOf]; omega
              | false =>
                have hrf := HNo.out (fun q => by have := hb.2 (HQ2.out.1 q).2; cases this)
                subst hrf
                clear HQ2 hb hxy
                go_wp2
                go_ret
                exact ⟨rfl, HX4.out⟩
            · have hxy' : ((x : Int) != ((y % 128 : Nat) : Int)) = true := by simp; omega
              have hrf := HNo.out (fun q => hxy (HQ2.out.1 q).1)
              subst hrf
              generalize y % 128 = ym at *
              clear HQ2 hb hxy
              cases b <;>
              · go_wp2
                go_ret
                exact ⟨rfl, HX4.out⟩
      · have hx' : (128 : Int) ≤ (x : Int) := by omega
        have HQ2 := hid (show SnQ T G k ↔ (x = 128 ∨ x = 254) ∧ y = 0 ∧ z = 0 ∧ ¬ (hasB T (k / 8) 128 = true ∧ hasB T (k / 8) 254 = true) from by rw [HQ.out]; exact ⟨fun a => a.1 (by omega), fun a => ⟨fun _ => a, fun q => absurd q hx⟩⟩)
        have K1 := KH 128
        have K2 := KH 254
        rw [show ((128 : Nat) : Int) = 128 from rfl] at K1
        rw [show ((254 : Nat) : Int) = 254 from rfl] at K2
        clear HQ KH KW
        generalize hasB T (k / 8) 128 = b1 at *
        generalize hasB T (k / 8) 254 = b2 at *
        generalize k / 8 = kg at *
        have HK8 := hid hk8
        clear hk8
        by_cases hc : x = 128 ∨ x = 254
        · have hcb : ((x : Int) != 128) = false ∨ (((x : Int) != 128) = true ∧ ((x : Int) != 254) = false) := by
            rcases hc with q | q
            · exact .inl (by simp [q])
            · exact .inr ⟨by simp [q], by simp [q]⟩
          by_cases hy : y = 0
          · have hy' : ((y : Int) != 0) = false := by simp [hy]
            by_cases hz : z = 0
            · have hz' : ((z : Int) != 0) = false := by simp [hz]
              have HQ3 := hid (show SnQ T G k ↔ ¬ (b1 = true ∧ b2 = true) from by rw [HQ2.out]; exact ⟨fun a => a.2.2.2, fun a => ⟨hc, hy, hz, a⟩⟩)
              clear HQ2 hc hy hz
              cases b1 with
              | false =>
                have HN := hid (HYes.out (HQ3.out.2 (by simp)))
                clear K2 HQ3
                rcases hcb with hc1 | ⟨hc1, hc2⟩ <;>
                · go_wp2_with (first | (go_at_call 60; rw [HK8.out]; refine met K1 ?_))
                  go_roundw
                  case rel => exact ⟨k + 1, by go_num, by omega, HN.out, HX3.out⟩
                  case measure => simp [intOf]; omega
              | true =>
                cases b2 with
                | false =>
                  have HN := hid (HYes.out (HQ3.out.2 (by simp)))
                  clear HQ3
                  rcases hcb with hc1 | ⟨hc1, hc2⟩ <;>
                  · go_wp2_with fail
                    rw [HK8.out]
                    refine met K1 ?_
                    go_wp2_with fail
                    rw [HK8.out]
                    refine met K2 ?_
                    go_wp2_with fail
                    go_roundw
                    case rel => exact ⟨k + 1, by go_num, by omega, HN.out, HX3.out⟩
                    case measure => simp [intOf]; omega
                | true =>
                  have hrf := HNo.out (fun q => HQ3.out.1 q ⟨rfl, rfl⟩)
                  subst hrf
                  clear HQ3
                  rcases hcb with hc1 | ⟨hc1, hc2⟩ <;>
                  · go_wp2_with fail
                    rw [HK8.out]
                    refine met K1 ?_
                    go_wp2_with fail
                    rw [HK8.out]
                    refine met K2 ?_
                    go_wp2_with fail
                    go_ret
                    exact ⟨rfl, HX3.out⟩
            · have hz' : ((z : Int) != 0) = true := by simpa using hz
              have hrf := HNo.out (fun q => hz (HQ2.out.1 q).2.2.1)
              subst hrf
              clear HQ2 K1 K2 hc hy
              rcases hcb with hc1 | ⟨hc1, hc2⟩ <;>
              · go_wp2
                go_ret
                exact ⟨rfl, HX3.out⟩
          · have hy' : ((y : Int) != 0) = true := by simpa using hy
            have hrf := HNo.out (fun q => hy (HQ2.out.1 q).2.1)
            subst hrf
            clear HQ2 K1 K2 hc
            rcases hcb with hc1 | ⟨hc1, hc2⟩ <;>
            · go_wp2
              go_ret
              exact ⟨rfl, HX3.out⟩
        · have hc1 : ((x : Int) != 128) = true := by simp; omega
          have hc2 : ((x : Int) != 254) = true := by simp; omega
          have hrf := HNo.out (fun q => hc (HQ2.out.1 q).1)
          subst hrf
          clear HQ2 K1 K2 hc
          go_wp2
          go_ret
          exact ⟨rfl, HX3.out⟩
    · obtain rfl : k = 8 * G := by omega
      have hr2 : r = true := HRr.out.2 HAll.out
      subst hr2
      have HX := hid hX
      clear hX hRr
      go_wp2
      go_ret
      exact ⟨rfl, HX.out⟩
end Go.Proofs.YtkknadkcpndnaaaDoor.Rf
