/-
  RfG: joined by program; no statement is proved here.
-/
import Derived.Test.YtkknadkcpndnaaaDoorZK
/-
  What the document takes out of its table; no statement is proved here.
-/
namespace Go.Proofs.YtkknadkcpndnaaaDoor.Rf
open Go.RowKit Go.Shelf
open Pr (Gp GpI sq pl pl_step pl_lt pl_zero sq_len sq_take sq_at)
attribute [local go_sem] Oper.semAt_some run_store_func

/-- The slot holds this entry. -/
def Its (T : List Nat) (h d g i : Nat) : Prop := bt T g i < 128 ∧ hsw T g i = h ∧ idw T g i = d
/-- What the document's Delete does. -/
def RDel (T : List Nat) (p q c G h d : Nat) (L : List Nat) (w' : World) (e : Ending) : Prop :=
  ((∀ x ∈ L, ∀ j, j < 8 → ¬ Its T h d x j) ∧ e = .returned (.bool false) ∧ Rt w' p q c G T) ∨
  ∃ A g C i, L = A ++ g :: C ∧ g < G ∧ i < 8 ∧ (∀ x ∈ A, ∀ j, j < 8 → ¬ Its T h d x j) ∧ (∀ j, j < i → ¬ Its T h d g j) ∧ Its T h d g i ∧
    e = .returned (.bool true) ∧ ∀ T', Up T T' G g i (if hasE T g = true then 128 else 254) 0 0 → Rt w' p q c G T'
set_option maxRecDepth 100000 in
set_option maxHeartbeats 4000000 in
theorem rdel_any (p q c G h d : Nat) (T : List Nat) (w : World) (hR : Rt w p q c G T) (hG : Gp G) (hh : h < 18446744073709551616) : Calls Tryd.prog 46 #[.pointer (some ⟨p, 0, none⟩), .int .u64 (h : Nat), .int .u64 (d : Nat)] w fun e w' => RDel T p q c G h d (wk T (sq (h / 128) G)) w' e ∧ Ext [q] w w' := by
  have hle := hG.le
  have hpos := hG.pos
  have K := rwalk_any p q c G h T w hR hG hh
  have hR0 := hR
  have hgl : ∀ x ∈ wk T (sq (h / 128) G), x < G := fun x hx => by
    obtain ⟨n, _, rfl⟩ := List.mem_map.1 ((wk_pre T (sq (h / 128) G)).subset hx)
    exact pl_lt _ hpos n
  have hln : (wk T (sq (h / 128) G)).length ≤ G := by
    have := (wk_pre T (sq (h / 128) G)).length_le
    rw [sq_len] at this
    exact this
  obtain ⟨L, hL⟩ : ∃ L, wk T (sq (h / 128) G) = L := ⟨_, rfl⟩
  rw [hL] at K hgl hln ⊢
  clear hR hG hL
  go_enter Tryd.func46, Tryd.ntmps46
  go_wp2_with fail
  refine K.mono ?_
  rintro e w1 ⟨a, c1, rfl, hI, hE⟩
  have HR := hid (hR0.keep0 hE)
  have HI := hid hI
  have HE := hid hE
  have HGl := hid hgl
  clear K hR0 hI hE hgl
  go_wp2
  go_loopw [8] (fun u wr => ∃ i : Nat, u = .int .i64 i ∧ i ≤ L.length ∧ (∀ x ∈ L.take i, ∀ j, j < 8 → ¬ Its T h d x j) ∧ Ext [] w1 wr) (fun u _ => (L.length - (intOf u)).toNat)
  case atStart => exact ⟨0, rfl, by omega, by simp, Ext.refl _ _⟩
  case round =>
    obtain ⟨i, rfl, hi, hno, hX⟩ := hrel
    have HNo := hid hno
    have HX := hid hX
    clear hno hX
    by_cases hiL : i < L.length
    · obtain ⟨g, hg⟩ : ∃ g, L[i]? = some g := ⟨L[i], List.getElem?_eq_getElem hiL⟩
      have hgG := HGl.out g (List.mem_of_getElem? hg)
      have HTi := hid (show L.take (i + 1) = L.take i ++ [g] by
        have he : L[i] = g := (List.getElem?_eq_some_iff.1 hg).2
        rw [List.take_succ_eq_append_getElem hiL, he])
      have HDr := hid (show L.take i ++ g :: L.drop (i + 1) = L by
        have := List.take_append_drop (i + 1) L
        rw [HTi.out] at this
        simpa using this)
      obtain ⟨b, o, rfl, hc⟩ := HI.out.cell (j := i) (by rw [ns_len]; exact hiL)
      rw [ns_at hg] at hc
      have HC := hid hc
      clear hc hg
      go_wp2
      go_loopw [9] (fun u wr => ∃ k : Nat, u = .int .i64 k ∧ k ≤ 8 ∧ (∀ j, j < k → ¬ Its T h d g j) ∧ Ext [] w1 wr) (fun u _ => (8 - (intOf u)).toNat)
      case atStart => exact ⟨0, rfl, by omega, fun j hj => by omega, HX.out⟩
      case round =>
        obtain ⟨k, rfl, hk, hfu, hX1⟩ := hrel
        have HFu := hid hfu
        have HX1 := hid hX1
        clear hfu
        by_cases hk8 : k < 8
        · have hRr := HR.out.keep0 hX1
          obtain ⟨_, f1⟩ := hRr.flds
          obtain ⟨s0, s1, s2⟩ := hRr.slot (k := 8 * g + k) (by omega)
          rw [sT_at T g k hk8] at s0 s1 s2
          have HIff := hid (show Its T h d g k ↔ bt T g k < 128 ∧ hsw T g k = h ∧ idw T g k = d from Iff.rfl)
          obtain ⟨x, ex⟩ : ∃ x, hsw T g k = x := ⟨_, rfl⟩
          obtain ⟨y, ey⟩ : ∃ y, idw T g k = y := ⟨_, rfl⟩
          rw [ex, ey] at HIff
          replace s1 : wr.cell? ⟨q, (8 * g + k) * 3 + 1, none⟩ = some (.int .u64 (x : Nat)) := by rw [← ex]; exact s1
          replace s2 : wr.cell? ⟨q, (8 * g + k) * 3 + 2, none⟩ = some (.int .u64 (y : Nat)) := by rw [← ey]; exact s2
          clear ex ey
          have hc1 := hX1.cell HC.out (by simp)
          have hw1 : IntKind.i64.wrap (8 * (g : Int) + (k : Int)) = ((8 * g + k : Nat) : Int) := by rw [IntKind.wrap_i64] <;> omega
          have hw2 : IntKind.i64.wrap (8 * (g : Int)) = 8 * (g : Int) := by rw [IntKind.wrap_i64] <;> omega
          have hlt : 8 * g + k < 8 * G := by omega
          have hqs : q < wr.heap.size := block_lt_of_cell s0
          have hps : p < wr.heap.size := block_lt_of_cell f1
          have hbs : b < wr.heap.size := block_lt_of_cell hc1
          have HEa := hid (Ext.alloc [] wr (.cells #[.int .u8 (bt T g k : Nat), .int .u64 (x : Nat), .int .u64 (y : Nat)] 80))
          have HR2 := hid (hRr.keep0 HEa.out)
          have HX2 := hid (hX1.trans HEa.out)
          have HRr := hid hRr
          have z0 := hRr.frz ((8 * g + k) * 3)
          have z1 := hRr.frz ((8 * g + k) * 3 + 1)
          have z2 := hRr.frz ((8 * g + k) * 3 + 2)
          obtain ⟨kk, hkk⟩ : ∃ kk, 8 * g + k = kk := ⟨_, rfl⟩
          have HKk := hid hkk
          rw [hkk] at hw1 hlt s0 s1 s2 z0 z1 z2
          clear hkk hX1 hRr
          by_cases hit : Its T h d g k
          · have HIt := hid hit
            obtain ⟨hq1, hq2, hq3⟩ := HIff.out.1 hit
            replace hq2 := hq2.symm
            replace hq3 := hq3.symm
            subst hq2
            subst hq3
            have hi1 : ((bt T g k : Nat) : Int) < 128 := by omega
            have KH := rhas_any p q c G g 128 T _ HR2.out hle hgG
            rw [hasB_E] at KH
            simp only [show ((128 : Nat) : Int) = 128 from rfl] at KH
            clear hit hq1
            cases hB : hasE T g with
            | true =>
              have HA := hid (show RDel T p q c G h d L ((((wr.setCell ⟨q, kk * 3, none⟩ (.int .u8 ((128 : Nat) : Int))).setCell ⟨q, kk * 3 + 1, none⟩ (.int .u64 ((0 : Nat) : Int))).setCell ⟨q, kk * 3 + 2, none⟩ (.int .u64 ((0 : Nat) : Int))).alloc (.cells #[.int .u8 (bt T g k : Nat), .int .u64 (h : Nat), .int .u64 (d : Nat)] 80)) (.returned (.bool true)) ∧ Ext [q] w ((((wr.setCell ⟨q, kk * 3, none⟩ (.int .u8 ((128 : Nat) : Int))).setCell ⟨q, kk * 3 + 1, none⟩ (.int .u64 ((0 : Nat) : Int))).setCell ⟨q, kk * 3 + 2, none⟩ (.int .u64 ((0 : Nat) : Int))).alloc (.cells #[.int .u8 (bt T g k : Nat), .int .u64 (h : Nat), .int .u64 (d : Nat)] 80)) from by
                refine ⟨.inr ⟨_, g, _, k, HDr.out.symm, hgG, hk8, HNo.out, HFu.out, HIt.out, rfl, fun T' u => ?_⟩, ?_⟩
                · rw [hB] at u
                  exact (HRr.out.put u hgG hk8 HKk.out).keep0 (Ext.alloc [] _ _)
                · exact ((HE.out.trans HX1.out).mono (by simp)).trans ((((Ext.setCell [q] _ ⟨q, kk * 3, none⟩ _ (by simp)).trans (Ext.setCell [q] _ ⟨q, kk * 3 + 1, none⟩ _ (by simp))).trans (Ext.setCell [q] _ ⟨q, kk * 3 + 2, none⟩ _ (by simp))).trans (Ext.alloc [q] _ _)))
              rw [hB] at KH
              go_wp2_with fail
              refine met KH ?_
              clear KH
              go_wp2
              go_ret
              exact HA.out
            | false =>
              have HA := hid (show RDel T p q c G h d L ((((wr.setCell ⟨q, kk * 3, none⟩ (.int .u8 ((254 : Nat) : Int))).setCell ⟨q, kk * 3 + 1, none⟩ (.int .u64 ((0 : Nat) : Int))).setCell ⟨q, kk * 3 + 2, none⟩ (.int .u64 ((0 : Nat) : Int))).alloc (.cells #[.int .u8 (bt T g k : Nat), .int .u64 (h : Nat), .int .u64 (d : Nat)] 80)) (.returned (.bool true)) ∧ Ext [q] w ((((wr.setCell ⟨q, kk * 3, none⟩ (.int .u8 ((254 : Nat) : Int))).setCell ⟨q, kk * 3 + 1, none⟩ (.int .u64 ((0 : Nat) : Int))).setCell ⟨q, kk * 3 + 2, none⟩ (.int .u64 ((0 : Nat) : Int))).alloc (.cells #[.int .u8 (bt T g k : Nat), .int .u64 (h : Nat), .int .u64 (d : Nat)] 80)) from by
                refine ⟨.inr ⟨_, g, _, k, HDr.out.symm, hgG, hk8, HNo.out, HFu.out, HIt.out, rfl, fun T' u => ?_⟩, ?_⟩
                · rw [hB] at u
                  exact (HRr.out.put u hgG hk8 HKk.out).keep0 (Ext.alloc [] _ _)
                · exact ((HE.out.trans HX1.out).mono (by simp)).trans ((((Ext.setCell [q] _ ⟨q, kk * 3, none⟩ _ (by simp)).trans (Ext.setCell [q] _ ⟨q, kk * 3 + 1, none⟩ _ (by simp))).trans (Ext.setCell [q] _ ⟨q, kk * 3 + 2, none⟩ _ (by simp))).trans (Ext.alloc [q] _ _)))
              rw [hB] at KH
              go_wp2_with fail
              refine met KH ?_
              clear KH
              go_wp2
              go_ret
              exact HA.out
          · have HIt := hid hit
            by_cases h1 : bt T g k < 128
            · have hi1 : ((bt T g k : Nat) : Int) < 128 := by omega
              by_cases h2 : x = h
              · replace h2 := h2.symm
                subst h2
                have h3 : y ≠ d := fun e => hit (HIff.out.2 ⟨h1, rfl, e⟩)
                have hi3 : (((y : Nat) : Int) != ((d : Nat) : Int)) = true := by simp; omega
                clear hit h1 h3
                go_wp2
                go_roundw
                case rel =>
                  refine ⟨k + 1, by go_num, by omega, fun j hj => ?_, HX2.out⟩
                  by_cases q : j = k
                  · rw [q]; exact HIt.out
                  · exact HFu.out j (by omega)
                case measure => simp [intOf]; omega
              · have hi2 : ¬ ((x : Nat) : Int) = (h : Int) := by omega
                clear hit h1 h2
                go_wp2
                go_roundw
                case rel =>
                  refine ⟨k + 1, by go_num, by omega, fun j hj => ?_, HX2.out⟩
                  by_cases q : j = k
                  · rw [q]; exact HIt.out
                  · exact HFu.out j (by omega)
                case measure => simp [intOf]; omega
            · have hi1 : ¬ ((bt T g k : Nat) : Int) < 128 := by omega
              have hi1' : (128 : Int) ≤ ((bt T g k : Nat) : Int) := by omega
              clear hit h1
              go_wp2
              go_roundw
              case rel =>
                refine ⟨k + 1, by go_num, by omega, fun j hj => ?_, HX2.out⟩
                by_cases q : j = k
                · rw [q]; exact HIt.out
                · exact HFu.out j (by omega)
              case measure => simp [intOf]; omega
        · obtain rfl : k = 8 := by omega
          go_wp2
          go_roundw
          case rel =>
            refine ⟨i + 1, by go_num, by omega, fun x hx j hj => ?_, HX1.out⟩
            rw [HTi.out, List.mem_append] at hx
            rcases hx with hx | hx
            · exact HNo.out x hx j hj
            · simp at hx; rw [hx]; exact HFu.out j hj
          case measure => simp [intOf]; omega
    · obtain rfl : i = L.length := by omega
      have hno := HNo.out
      rw [List.take_of_length_le (Nat.le_refl _)] at hno
      have HA := hid (show RDel T p q c G h d L wr (.returned (.bool false)) ∧ Ext [q] w wr from ⟨.inl ⟨hno, rfl, HR.out.keep0 HX.out⟩, (HE.out.trans HX.out).mono (by simp)⟩)
      clear hno
      go_wp2
      go_ret
      exact HA.out
end Go.Proofs.YtkknadkcpndnaaaDoor.Rf
