/-
  RfF, RfG: joined by program; no statement is proved here.
-/
import Derived.Test.YtkfagfdefkaenaaDoorZPA
/-
  What the document puts into its table; no statement is proved here.
-/
namespace Go.Proofs.YtkfagfdefkaenaaDoor.Rf
open Go.RowKit Go.Shelf
open Pr (Gp GpI sq pl pl_step pl_lt pl_zero sq_len sq_take sq_at)
attribute [local go_sem] Oper.semAt_some run_store_func

theorem Rt.ne {w : World} {p q c G : Nat} {T : List Nat} (h : Rt w p q c G T) : p ≠ q := by
  obtain ⟨cs, h1, _⟩ := h.row
  rintro rfl
  rw [h.blk] at h1
  simp at h1
/-- Slot (g, i) is written. -/
theorem Rt.put {w : World} {p q c G : Nat} {T T' : List Nat} {g i b x d k : Nat} (h : Rt w p q c G T) (u : Up T T' G g i b x d) (hg : g < G) (hi : i < 8) (hk : 8 * g + i = k) :
    Rt (((w.setCell ⟨q, k * 3, none⟩ (.int .u8 (b : Nat))).setCell ⟨q, k * 3 + 1, none⟩ (.int .u64 (x : Nat))).setCell ⟨q, k * 3 + 2, none⟩ (.int .u64 (d : Nat))) p q c G T' := by
  have hx := ((Ext.setCell [q] w ⟨q, k * 3, none⟩ (.int .u8 (b : Nat)) (by simp)).trans (Ext.setCell [q] _ ⟨q, k * 3 + 1, none⟩ (.int .u64 (x : Nat)) (by simp))).trans (Ext.setCell [q] _ ⟨q, k * 3 + 2, none⟩ (.int .u64 (d : Nat)) (by simp))
  refine ⟨hx.keep h.blk (by simpa using h.ne), ?_⟩
  obtain ⟨cs, h1, h2⟩ := h.row
  refine ⟨((cs.setIfInBounds (k * 3) (.int .u8 (b : Nat))).setIfInBounds (k * 3 + 1) (.int .u64 (x : Nat))).setIfInBounds (k * 3 + 2) (.int .u64 (d : Nat)), ?_, fun j hj => ?_⟩
  · exact heap_setCell_same _ _ _ _ 116 _ (heap_setCell_same _ _ _ _ 116 _ (heap_setCell_same w q (k * 3) cs 116 _ h1))
  · obtain ⟨a0, a1, a2⟩ := h2 j hj
    obtain ⟨b0, b1, b2⟩ := h2 k (by omega)
    have l0 : k * 3 < cs.size := (Array.getElem?_eq_some_iff.1 b0).1
    have l1 : k * 3 + 1 < cs.size := (Array.getElem?_eq_some_iff.1 b1).1
    have l2 : k * 3 + 2 < cs.size := (Array.getElem?_eq_some_iff.1 b2).1
    have e : sT T' j = if j = k then (b, x, d) else sT T j := by
      have q1 := u.bt (j / 8) (by omega) (j % 8) (by omega)
      have q2 := u.hs (j / 8) (by omega) (j % 8) (by omega)
      have q3 := u.id (j / 8) (by omega) (j % 8) (by omega)
      unfold sT
      rw [q1, q2, q3]
      by_cases e : j = k
      · have : j / 8 = g ∧ j % 8 = i := by omega
        simp [e, show k / 8 = g by omega, show k % 8 = i by omega]
      · have : ¬ (j / 8 = g ∧ j % 8 = i) := by omega
        simp [e, this]
    rw [e]
    by_cases hjk : j = k
    · subst hjk
      simp [l0, l1, l2]
    · simp only [Array.getElem?_setIfInBounds, if_neg hjk, show ¬ k * 3 + 2 = j * 3 from by omega, show ¬ k * 3 + 1 = j * 3 from by omega, show ¬ k * 3 = j * 3 from by omega, show ¬ k * 3 + 2 = j * 3 + 1 from by omega, show ¬ k * 3 + 1 = j * 3 + 1 from by omega, show ¬ k * 3 = j * 3 + 1 from by omega, show ¬ k * 3 + 2 = j * 3 + 2 from by omega, show ¬ k * 3 + 1 = j * 3 + 2 from by omega, show ¬ k * 3 = j * 3 + 2 from by omega, if_false]
      exact ⟨a0, a1, a2⟩
/-- All slots of the groups are full. -/
def Ful (T : List Nat) (A : List Nat) : Prop := ∀ x ∈ A, ∀ j, j < 8 → bt T x j < 128
/-- What the document's Insert does. -/
def RIns (T : List Nat) (p q c G h d : Nat) (w' : World) (e : Ending) : Prop :=
  (Ful T (sq (h / 128) G) ∧ e = .returned (.bool false) ∧ Rt w' p q c G T) ∨
  ∃ A g C i, sq (h / 128) G = A ++ g :: C ∧ g < G ∧ i < 8 ∧ Ful T A ∧ (∀ j, j < i → bt T g j < 128) ∧ ¬ bt T g i < 128 ∧
    ((bt T g i = 128 ∧ knt (fun x => decide (x ≠ 128)) T (8 * G) = 7 * G ∧ e = .returned (.bool false) ∧ Rt w' p q c G T) ∨
     (¬ (bt T g i = 128 ∧ knt (fun x => decide (x ≠ 128)) T (8 * G) = 7 * G) ∧ e = .returned (.bool true) ∧ ∀ T', Up T T' G g i (h % 128) h d → Rt w' p q c G T'))
set_option maxRecDepth 100000 in
set_option maxHeartbeats 4000000 in
theorem rins_any (p q c G h d : Nat) (T : List Nat) (w : World) (hR : Rt w p q c G T) (hG : Gp G) (hh : h < 18446744073709551616) : Calls Tryd.prog 44 #[.pointer (some ⟨p, 0, none⟩), .int .u64 (h : Nat), .int .u64 (d : Nat)] w fun e w' => RIns T p q c G h d w' e ∧ Ext [q] w w' := by
  have hle := hG.le
  have hpos := hG.pos
  have HR0 := hid hR
  obtain ⟨f0, _⟩ := hR.flds
  have hdiv : (h : Int).tdiv 128 = ((h / 128 : Nat) : Int) := by rw [Int.tdiv_eq_ediv_of_nonneg (by omega)]; norm_cast
  have hrem : (h : Int).tmod 128 = ((h % 128 : Nat) : Int) := by rw [Int.tmod_eq_emod_of_nonneg (by omega)]; norm_cast
  have hmlt : h % 128 < 128 := Nat.mod_lt _ (by omega)
  obtain ⟨h1, hh1⟩ : ∃ h1, h / 128 = h1 := ⟨_, rfl⟩
  obtain ⟨hm, hhm⟩ : ∃ hm, h % 128 = hm := ⟨_, rfl⟩
  have hu1 := u64w (n := h1) (by omega)
  have hum := u64w (n := hm) (by omega)
  have hu8 : IntKind.u8.wrap (hm : Int) = (hm : Int) := by rw [IntKind.wrap_u8]; omega
  have HP := hid (show ∀ w' e, (((Ful T (sq h1 G) ∧ e = Ending.returned (.bool false) ∧ Rt w' p q c G T) ∨ ∃ A g C i, sq h1 G = A ++ g :: C ∧ g < G ∧ i < 8 ∧ Ful T A ∧ (∀ j, j < i → bt T g j < 128) ∧ ¬ bt T g i < 128 ∧ ((bt T g i = 128 ∧ knt (fun x => decide (x ≠ 128)) T (8 * G) = 7 * G ∧ e = .returned (.bool false) ∧ Rt w' p q c G T) ∨ (¬ (bt T g i = 128 ∧ knt (fun x => decide (x ≠ 128)) T (8 * G) = 7 * G) ∧ e = .returned (.bool true) ∧ ∀ T', Up T T' G g i hm h d → Rt w' p q c G T')))) → RIns T p q c G h d w' e by
    intro w' e k
    unfold RIns
    rw [hh1, hhm]
    exact k)
  rw [hh1] at hdiv
  rw [hhm] at hrem hmlt
  clear hh1 hhm
  have K := rseq_ok h1 G hG w
  have HAt := hid (fun i (hi : i < G) => sq_at h1 G hi)
  have HPl := hid (fun i => pl_lt h1 hpos i)
  have HTk := hid (fun k hk => sq_take h1 G k hk)
  have HLn := hid (sq_len h1 G)
  have HLf := hid (fun W (k : Rt W p q c G T) => rleft_any p q c G T W k hle)
  obtain ⟨Z, hZ⟩ : ∃ Z, knt (fun x => decide (x ≠ 128)) T (8 * G) = Z := ⟨_, rfl⟩
  rw [hZ] at HP HLf
  clear hR hG hZ hh
  go_enter Tryd.func44, Tryd.ntmps44
  go_wp2_with fail
  refine K.mono ?_
  rintro e w1 ⟨a, c1, rfl, hL, hE⟩
  have hI : Is w1 a (ns (sq h1 G)) := by
    have := own_vs hL
    unfold Is ns
    rw [List.map_map]
    exact this
  have HI := hid hI
  have HE := hid hE
  have HR := hid (HR0.out.keep0 hE)
  rw [HLn.out]
  clear hL hI hE K HR0 f0
  go_wp2
  go_loop [9] (fun u => ∃ i : Nat, u = .int .i64 i ∧ i ≤ G ∧ Ful T ((sq h1 G).take i)) (fun u => (G - (intOf u)).toNat)
  case atStart => exact ⟨0, rfl, by omega, by simp [Ful]⟩
  case round =>
    obtain ⟨i, rfl, hi, hno⟩ := hrel
    have HNo := hid hno
    clear hno
    by_cases hiG : i < G
    · have hx := HAt.out i hiG
      have hpl := HPl.out i
      have HTi := hid (HTk.out i hiG)
      have HDr := hid (show (sq h1 G).take i ++ pl h1 G i :: (sq h1 G).drop (i + 1) = sq h1 G by
        have := List.take_append_drop (i + 1) (sq h1 G)
        rw [HTi.out] at this
        simpa using this)
      obtain ⟨b, o, rfl, hc⟩ := HI.out.cell (j := i) (by rw [ns_len, HLn.out]; exact hiG)
      rw [ns_at hx] at hc
      clear hx
      generalize pl h1 G i = g at *
      go_wp2
      go_loop [10] (fun u => ∃ k : Nat, u = .int .i64 k ∧ k ≤ 8 ∧ ∀ j, j < k → bt T g j < 128) (fun u => (8 - (intOf u)).toNat)
      case atStart => exact ⟨0, rfl, by omega, fun j hj => by omega⟩
      case round =>
        obtain ⟨k, rfl, hk, hfu⟩ := hrel
        have HFu := hid hfu
        clear hfu
        by_cases hk8 : k < 8
        · obtain ⟨_, f1⟩ := HR.out.flds
          obtain ⟨s0, s1, s2⟩ := HR.out.slot (k := 8 * g + k) (by omega)
          rw [sT_at T g k hk8] at s0 s1 s2
          have hw1 : IntKind.i64.wrap (8 * (g : Int) + (k : Int)) = ((8 * g + k : Nat) : Int) := by rw [IntKind.wrap_i64] <;> omega
          have hw2 : IntKind.i64.wrap (8 * (g : Int)) = 8 * (g : Int) := by rw [IntKind.wrap_i64] <;> omega
          have hlt : 8 * g + k < 8 * G := by omega
          have HPut := hid (fun T' (u : Up T T' G g k hm h d) kk (e : 8 * g + k = kk) => HR.out.put u hpl hk8 e)
          have z0 := HR.out.frz ((8 * g + k) * 3)
          have z1 := HR.out.frz ((8 * g + k) * 3 + 1)
          have z2 := HR.out.frz ((8 * g + k) * 3 + 2)
          obtain ⟨kk, hkk⟩ : ∃ kk, 8 * g + k = kk := ⟨_, rfl⟩
          have HKk := hid hkk
          rw [hkk] at hw1 hlt s0 s1 s2 z0 z1 z2
          clear hkk
          have KL := HLf.out w1 HR.out
          by_cases hf : bt T g k < 128
          · have hfi : ((bt T g k : Nat) : Int) < 128 := by omega
            clear HPut KL z0 z1 z2 s1 s2
            go_wp2_with fail
            go_round
            case rel =>
              refine ⟨k + 1, by go_num, by omega, fun j hj => ?_⟩
              by_cases q : j = k
              · rw [q]; exact hf
              · exact HFu.out j (by omega)
            case measure => simp [intOf]; omega
          · have hfi : ¬ ((bt T g k : Nat) : Int) < 128 := by omega
            have HF := hid hf
            by_cases he : bt T g k = 128
            · have hei : ((bt T g k : Nat) : Int) = 128 := by omega
              by_cases hl : Z = 7 * G
              · have HA := hid (HP.out w1 (.returned (.bool false)) (.inr ⟨_, g, _, k, HDr.out.symm, hpl, hk8, HNo.out, HFu.out, hf, .inl ⟨he, hl, rfl, HR.out⟩⟩))
                have hl2 : ((7 * G : Nat) : Int) - (Z : Int) = 0 := by omega
                rw [hl2] at KL
                clear hl HPut z0 z1 z2 s1 s2
                go_wp2_with fail
                refine met KL ?_
                clear KL
                go_wp2
                go_ret
                exact ⟨HA.out, HE.out.mono (by simp)⟩
              · have hl2 : ¬ ((7 * G : Nat) : Int) - (Z : Int) = 0 := by omega
                have HA := hid (fun (q1 : Ext [q] w1 (((w1.setCell ⟨q, kk * 3, none⟩ (.int .u8 (hm : Nat))).setCell ⟨q, kk * 3 + 1, none⟩ (.int .u64 (h : Nat))).setCell ⟨q, kk * 3 + 2, none⟩ (.int .u64 (d : Nat)))) => And.intro (HP.out (((w1.setCell ⟨q, kk * 3, none⟩ (.int .u8 (hm : Nat))).setCell ⟨q, kk * 3 + 1, none⟩ (.int .u64 (h : Nat))).setCell ⟨q, kk * 3 + 2, none⟩ (.int .u64 (d : Nat))) (.returned (.bool true)) (.inr ⟨_, g, _, k, HDr.out.symm, hpl, hk8, HNo.out, HFu.out, HF.out, .inr ⟨fun z => hl z.2, rfl, fun T' u => HPut.out T' u kk HKk.out⟩⟩)) ((HE.out.mono (by simp)).trans q1))
                have HX := hid (((Ext.setCell [q] w1 ⟨q, kk * 3, none⟩ (.int .u8 (hm : Nat)) (by simp)).trans (Ext.setCell [q] _ ⟨q, kk * 3 + 1, none⟩ (.int .u64 (h : Nat)) (by simp))).trans (Ext.setCell [q] _ ⟨q, kk * 3 + 2, none⟩ (.int .u64 (d : Nat)) (by simp)))
                clear HPut hl he hf
                go_wp2_with fail
                refine met KL ?_
                clear KL
                go_wp2
                go_ret
                exact HA.out HX.out
            · have hei : ¬ ((bt T g k : Nat) : Int) = 128 := by omega
              have HA := hid (fun (q1 : Ext [q] w1 (((w1.setCell ⟨q, kk * 3, none⟩ (.int .u8 (hm : Nat))).setCell ⟨q, kk * 3 + 1, none⟩ (.int .u64 (h : Nat))).setCell ⟨q, kk * 3 + 2, none⟩ (.int .u64 (d : Nat)))) => And.intro (HP.out (((w1.setCell ⟨q, kk * 3, none⟩ (.int .u8 (hm : Nat))).setCell ⟨q, kk * 3 + 1, none⟩ (.int .u64 (h : Nat))).setCell ⟨q, kk * 3 + 2, none⟩ (.int .u64 (d : Nat))) (.returned (.bool true)) (.inr ⟨_, g, _, k, HDr.out.symm, hpl, hk8, HNo.out, HFu.out, HF.out, .inr ⟨fun z => he z.1, rfl, fun T' u => HPut.out T' u kk HKk.out⟩⟩)) ((HE.out.mono (by simp)).trans q1))
              have HX := hid (((Ext.setCell [q] w1 ⟨q, kk * 3, none⟩ (.int .u8 (hm : Nat)) (by simp)).trans (Ext.setCell [q] _ ⟨q, kk * 3 + 1, none⟩ (.int .u64 (h : Nat)) (by simp))).trans (Ext.setCell [q] _ ⟨q, kk * 3 + 2, none⟩ (.int .u64 (d : Nat)) (by simp)))
              clear HPut KL he hf
              go_wp2
              go_ret
              exact HA.out HX.out
        · obtain rfl : k = 8 := by omega
          go_wp2
          go_round
          case rel =>
            refine ⟨i + 1, by go_num, by omega, fun x hx j hj => ?_⟩
            rw [HTi.out, List.mem_append] at hx
            rcases hx with hx | hx
            · exact HNo.out x hx j hj
            · simp at hx; rw [hx]; exact HFu.out j hj
          case measure => simp [intOf]; omega
    · obtain rfl : i = G := by omega
      have HA := hid (HP.out w1 (.returned (.bool false)) (.inl ⟨by have := HNo.out; rwa [List.take_of_length_le (by rw [HLn.out]; exact Nat.le_refl _)] at this, rfl, HR.out⟩))
      go_wp2
      go_ret
      exact ⟨HA.out, HE.out.mono (by simp)⟩
end Go.Proofs.YtkfagfdefkaenaaDoor.Rf

/-
  What the document takes out of its table; no statement is proved here.
-/
namespace Go.Proofs.YtkfagfdefkaenaaDoor.Rf
open Go.RowKit Go.Shelf
open Pr (Gp GpI sq pl pl_step pl_lt pl_zero sq_len sq_take sq_at)
attribute [local go_sem] Oper.semAt_some run_store_func

/-- The slot holds this entry. -/
def Its (T : List Nat) (h d g i : Nat) : Prop := bt T g i < 128 ∧ hsw T g i = h ∧ idw T g i = d
/-- What the document's Delete does. -/
def RDel (T : List Nat) (p q c G h d : Nat) (L : List Nat) (w' : World) (e : Ending) : Prop :=
  ((∀ x ∈ L, ∀ j, j < 8 → ¬ Its T h d x j) ∧ e = .returned (.bool false) ∧ Rt w' p q c G T) ∨
  ∃ A g C i, L = A ++ g :: C ∧ g < G ∧ i < 8 ∧ (∀ x ∈ A, ∀ j, j < 8 → ¬ Its T h d x j) ∧ (∀ j, j < i → ¬ Its T h d g j) ∧ Its T h d g i ∧
    e = .returned (.bool true) ∧ ∀ T', Up T T' G g i (if hasE T g = true then 128 else 254) 0 0 → Rt w' p q c G T'
set_option maxRecDepth 100000 in
set_option maxHeartbeats 4000000 in
theorem rdel_any (p q c G h d : Nat) (T : List Nat) (w : World) (hR : Rt w p q c G T) (hG : Gp G) (hh : h < 18446744073709551616) : Calls Tryd.prog 41 #[.pointer (some ⟨p, 0, none⟩), .int .u64 (h : Nat), .int .u64 (d : Nat)] w fun e w' => RDel T p q c G h d (wk T (sq (h / 128) G)) w' e ∧ Ext [q] w w' := by
  have hle := hG.le
  have hpos := hG.pos
  have K := rwalk_any p q c G h T w hR hG hh
  have hR0 := hR
  have hgl : ∀ x ∈ wk T (sq (h / 128) G), x < G := fun x hx => by
    obtain ⟨n, _, rfl⟩ := List.mem_map.1 ((wk_pre T (sq (h / 128) G)).subset hx)
    exact pl_lt _ hpos n
  have hln : (wk T (sq (h / 128) G)).length ≤ G := by
    have := (wk_pre T (sq (h / 128) G)).length_le
    rw [sq_len] at this
    exact this
  obtain ⟨L, hL⟩ : ∃ L, wk T (sq (h / 128) G) = L := ⟨_, rfl⟩
  rw [hL] at K hgl hln ⊢
  clear hR hG hL
  go_enter Tryd.func41, Tryd.ntmps41
  go_wp2_with fail
  refine K.mono ?_
  rintro e w1 ⟨a, c1, rfl, hI, hE⟩
  have HR := hid (hR0.keep0 hE)
  have HI := hid hI
  have HE := hid hE
  have HGl := hid hgl
  clear K hR0 hI hE hgl
  go_wp2
  go_loopw [8] (fun u wr => ∃ i : Nat, u = .int .i64 i ∧ i ≤ L.length ∧ (∀ x ∈ L.take i, ∀ j, j < 8 → ¬ Its T h d x j) ∧ Ext [] w1 wr) (fun u _ => (L.length - (intOf u)).toNat)
  case atStart => exact ⟨0, rfl, by omega, by simp, Ext.refl _ _⟩
  case round =>
    obtain ⟨i, rfl, hi, hno, hX⟩ := hrel
    have HNo := hid hno
    have HX := hid hX
    clear hno hX
    by_cases hiL : i < L.length
    · obtain ⟨g, hg⟩ : ∃ g, L[i]? = some g := ⟨L[i], List.getElem?_eq_getElem hiL⟩
      have hgG := HGl.out g (List.mem_of_getElem? hg)
      have HTi := hid (show L.take (i + 1) = L.take i ++ [g] by
        have he : L[i] = g := (List.getElem?_eq_some_iff.1 hg).2
        rw [List.take_succ_eq_append_getElem hiL, he])
      have HDr := hid (show L.take i ++ g :: L.drop (i + 1) = L by
        have := List.take_append_drop (i + 1) L
        rw [HTi.out] at this
        simpa using this)
      obtain ⟨b, o, rfl, hc⟩ := HI.out.cell (j := i) (by rw [ns_len]; exact hiL)
      rw [ns_at hg] at hc
      have HC := hid hc
      clear hc hg
      go_wp2
      go_loopw [9] (fun u wr => ∃ k : Nat, u = .int .i64 k ∧ k ≤ 8 ∧ (∀ j, j < k → ¬ Its T h d g j) ∧ Ext [] w1 wr) (fun u _ => (8 - (intOf u)).toNat)
      case atStart => exact ⟨0, rfl, by omega, fun j hj => by omega, HX.out⟩
      case round =>
        obtain ⟨k, rfl, hk, hfu, hX1⟩ := hrel
        have HFu := hid hfu
        have HX1 := hid hX1
        clear hfu
        by_cases hk8 : k < 8
        · have hRr := HR.out.keep0 hX1
          obtain ⟨_, f1⟩ := hRr.flds
          obtain ⟨s0, s1, s2⟩ := hRr.slot (k := 8 * g + k) (by omega)
          rw [sT_at T g k hk8] at s0 s1 s2
          have HIff := hid (show Its T h d g k ↔ bt T g k < 128 ∧ hsw T g k = h ∧ idw T g k = d from Iff.rfl)
          obtain ⟨x, ex⟩ : ∃ x, hsw T g k = x := ⟨_, rfl⟩
          obtain ⟨y, ey⟩ : ∃ y, idw T g k = y := ⟨_, rfl⟩
          rw [ex, ey] at HIff
          replace s1 : wr.cell? ⟨q, (8 * g + k) * 3 + 1, none⟩ = some (.int .u64 (x : Nat)) := by rw [← ex]; exact s1
          replace s2 : wr.cell? ⟨q, (8 * g + k) * 3 + 2, none⟩ = some (.int .u64 (y : Nat)) := by rw [← ey]; exact s2
          clear ex ey
          have hc1 := hX1.cell HC.out (by simp)
          have hw1 : IntKind.i64.wrap (8 * (g : Int) + (k : Int)) = ((8 * g + k : Nat) : Int) := by rw [IntKind.wrap_i64] <;> omega
          have hw2 : IntKind.i64.wrap (8 * (g : Int)) = 8 * (g : Int) := by rw [IntKind.wrap_i64] <;> omega
          have hlt : 8 * g + k < 8 * G := by omega
          have hqs : q < wr.heap.size := block_lt_of_cell s0
          have hps : p < wr.heap.size := block_lt_of_cell f1
          have hbs : b < wr.heap.size := block_lt_of_cell hc1
          have HEa := hid (Ext.alloc [] wr (.cells #[.int .u8 (bt T g k : Nat), .int .u64 (x : Nat), .int .u64 (y : Nat)] 116))
          have HR2 := hid (hRr.keep0 HEa.out)
          have HX2 := hid (hX1.trans HEa.out)
          have HRr := hid hRr
          have z0 := hRr.frz ((8 * g + k) * 3)
          have z1 := hRr.frz ((8 * g + k) * 3 + 1)
          have z2 := hRr.frz ((8 * g + k) * 3 + 2)
          obtain ⟨kk, hkk⟩ : ∃ kk, 8 * g + k = kk := ⟨_, rfl⟩
          have HKk := hid hkk
          rw [hkk] at hw1 hlt s0 s1 s2 z0 z1 z2
          clear hkk hX1 hRr
          by_cases hit : Its T h d g k
          · have HIt := hid hit
            obtain ⟨hq1, hq2, hq3⟩ := HIff.out.1 hit
            replace hq2 := hq2.symm
            replace hq3 := hq3.symm
            subst hq2
            subst hq3
            have hi1 : ((bt T g k : Nat) : Int) < 128 := by omega
            have KH := rhas_any p q c G g 128 T _ HR2.out hle hgG
            rw [hasB_E] at KH
            simp only [show ((128 : Nat) : Int) = 128 from rfl] at KH
            clear hit hq1
            cases hB : hasE T g with
            | true =>
              have HA := hid (show RDel T p q c G h d L ((((wr.setCell ⟨q, kk * 3, none⟩ (.int .u8 ((128 : Nat) : Int))).setCell ⟨q, kk * 3 + 1, none⟩ (.int .u64 ((0 : Nat) : Int))).setCell ⟨q, kk * 3 + 2, none⟩ (.int .u64 ((0 : Nat) : Int))).alloc (.cells #[.int .u8 (bt T g k : Nat), .int .u64 (h : Nat), .int .u64 (d : Nat)] 116)) (.returned (.bool true)) ∧ Ext [q] w ((((wr.setCell ⟨q, kk * 3, none⟩ (.int .u8 ((128 : Nat) : Int))).setCell ⟨q, kk * 3 + 1, none⟩ (.int .u64 ((0 : Nat) : Int))).setCell ⟨q, kk * 3 + 2, none⟩ (.int .u64 ((0 : Nat) : Int))).alloc (.cells #[.int .u8 (bt T g k : Nat), .int .u64 (h : Nat), .int .u64 (d : Nat)] 116)) from by
                refine ⟨.inr ⟨_, g, _, k, HDr.out.symm, hgG, hk8, HNo.out, HFu.out, HIt.out, rfl, fun T' u => ?_⟩, ?_⟩
                · rw [hB] at u
                  exact (HRr.out.put u hgG hk8 HKk.out).keep0 (Ext.alloc [] _ _)
                · exact ((HE.out.trans HX1.out).mono (by simp)).trans ((((Ext.setCell [q] _ ⟨q, kk * 3, none⟩ _ (by simp)).trans (Ext.setCell [q] _ ⟨q, kk * 3 + 1, none⟩ _ (by simp))).trans (Ext.setCell [q] _ ⟨q, kk * 3 + 2, none⟩ _ (by simp))).trans (Ext.alloc [q] _ _)))
              rw [hB] at KH
              go_wp2_with fail
              refine met KH ?_
              clear KH
              go_wp2
              go_ret
              exact HA.out
            | false =>
              have HA := hid (show RDel T p q c G h d L ((((wr.setCell ⟨q, kk * 3, none⟩ (.int .u8 ((254 : Nat) : Int))).setCell ⟨q, kk * 3 + 1, none⟩ (.int .u64 ((0 : Nat) : Int))).setCell ⟨q, kk * 3 + 2, none⟩ (.int .u64 ((0 : Nat) : Int))).alloc (.cells #[.int .u8 (bt T g k : Nat), .int .u64 (h : Nat), .int .u64 (d : Nat)] 116)) (.returned (.bool true)) ∧ Ext [q] w ((((wr.setCell ⟨q, kk * 3, none⟩ (.int .u8 ((254 : Nat) : Int))).setCell ⟨q, kk * 3 + 1, none⟩ (.int .u64 ((0 : Nat) : Int))).setCell ⟨q, kk * 3 + 2, none⟩ (.int .u64 ((0 : Nat) : Int))).alloc (.cells #[.int .u8 (bt T g k : Nat), .int .u64 (h : Nat), .int .u64 (d : Nat)] 116)) from by
                refine ⟨.inr ⟨_, g, _, k, HDr.out.symm, hgG, hk8, HNo.out, HFu.out, HIt.out, rfl, fun T' u => ?_⟩, ?_⟩
                · rw [hB] at u
                  exact (HRr.out.put u hgG hk8 HKk.out).keep0 (Ext.alloc [] _ _)
                · exact ((HE.out.trans HX1.out).mono (by simp)).trans ((((Ext.setCell [q] _ ⟨q, kk * 3, none⟩ _ (by simp)).trans (Ext.setCell [q] _ ⟨q, kk * 3 + 1, none⟩ _ (by simp))).trans (Ext.setCell [q] _ ⟨q, kk * 3 + 2, none⟩ _ (by simp))).trans (Ext.alloc [q] _ _)))
              rw [hB] at KH
              go_wp2_with fail
              refine met KH ?_
              clear KH
              go_wp2
              go_ret
              exact HA.out
          · have HIt := hid hit
            by_cases h1 : bt T g k < 128
            · have hi1 : ((bt T g k : Nat) : Int) < 128 := by omega
              by_cases h2 : x = h
              · replace h2 := h2.symm
                subst h2
                have h3 : y ≠ d := fun e => hit (HIff.out.2 ⟨h1, rfl, e⟩)
                have hi3 : (((y : Nat) : Int) != ((d : Nat) : Int)) = true := by simp; omega
                clear hit h1 h3
                go_wp2
                go_roundw
                case rel =>
                  refine ⟨k + 1, by go_num, by omega, fun j hj => ?_, HX2.out⟩
                  by_cases q : j = k
                  · rw [q]; exact HIt.out
                  · exact HFu.out j (by omega)
                case measure => simp [intOf]; omega
              · have hi2 : ¬ ((x : Nat) : Int) = (h : Int) := by omega
                clear hit h1 h2
                go_wp2
                go_roundw
                case rel =>
                  refine ⟨k + 1, by go_num, by omega, fun j hj => ?_, HX2.out⟩
                  by_cases q : j = k
                  · rw [q]; exact HIt.out
                  · exact HFu.out j (by omega)
                case measure => simp [intOf]; omega
            · have hi1 : ¬ ((bt T g k : Nat) : Int) < 128 := by omega
              have hi1' : (128 : Int) ≤ ((bt T g k : Nat) : Int) := by omega
              clear hit h1
              go_wp2
              go_roundw
              case rel =>
                refine ⟨k + 1, by go_num, by omega, fun j hj => ?_, HX2.out⟩
                by_cases q : j = k
                · rw [q]; exact HIt.out
                · exact HFu.out j (by omega)
              case measure => simp [intOf]; omega
        · obtain rfl : k = 8 := by omega
          go_wp2
          go_roundw
          case rel =>
            refine ⟨i + 1, by go_num, by omega, fun x hx j hj => ?_, HX1.out⟩
            rw [HTi.out, List.mem_append] at hx
            rcases hx with hx | hx
            · exact HNo.out x hx j hj
            · simp at hx; rw [hx]; exact HFu.out j hj
          case measure => simp [intOf]; omega
    · obtain rfl : i = L.length := by omega
      have hno := HNo.out
      rw [List.take_of_length_le (Nat.le_refl _)] at hno
      have HA := hid (show RDel T p q c G h d L wr (.returned (.bool false)) ∧ Ext [q] w wr from ⟨.inl ⟨hno, rfl, HR.out.keep0 HX.out⟩, (HE.out.trans HX.out).mono (by simp)⟩)
      clear hno
      go_wp2
      go_ret
      exact HA.out
end Go.Proofs.YtkfagfdefkaenaaDoor.Rf
