/-
  RfE, RfF: joined by program; no statement is proved here.
-/
import Derived.Test.YtkknadkcpndnaaaDoorZH
import Derived.Test.YtkknadkcpndnaaaDoorZJ
/-
  What the document finds of a hash; no statement is proved here.
-/
namespace Go.Proofs.YtkknadkcpndnaaaDoor.Rf
open Go.RowKit Go.Shelf
open Pr (Gp GpI sq pl pl_step pl_lt pl_zero sq_len sq_take sq_at)
attribute [local go_sem] Oper.semAt_some run_store_func

/-- The ids of a group's first k slots that have the hash. -/
def slk (T : List Nat) (h g k : Nat) : List Nat := ((List.range k).filter fun i => decide (bt T g i < 128) && decide (hsw T g i = h)).map fun i => idw T g i
theorem slk_8 (T : List Nat) (h g : Nat) : slk T h g 8 = sl T h g := rfl
theorem slk_0 (T : List Nat) (h g : Nat) : slk T h g 0 = [] := rfl
theorem slk_yes {T : List Nat} {h g k : Nat} (h1 : bt T g k < 128) (h2 : hsw T g k = h) : slk T h g (k + 1) = slk T h g k ++ [idw T g k] := by
  simp [slk, List.range_succ, List.filter_append, h1, h2]
theorem slk_no {T : List Nat} {h g k : Nat} (h1 : ¬ (bt T g k < 128 ∧ hsw T g k = h)) : slk T h g (k + 1) = slk T h g k := by
  have : (decide (bt T g k < 128) && decide (hsw T g k = h)) = false := by
    rw [Bool.and_eq_false_iff]
    rcases Classical.not_and_iff_not_or_not.1 h1 with q | q
    · left; simpa using q
    · right; simpa using q
  simp [slk, List.range_succ, List.filter_append, this]
theorem slk_len (T : List Nat) (h g k : Nat) : (slk T h g k).length ≤ k := by
  have := List.length_filter_le (fun i => decide (bt T g i < 128) && decide (hsw T g i = h)) (List.range k)
  simpa [slk] using this
theorem flat_len (T : List Nat) (h : Nat) : ∀ L : List Nat, (L.flatMap (sl T h)).length ≤ 8 * L.length
  | [] => by simp
  | g :: L => by
    have := flat_len T h L
    have := slk_len T h g 8
    rw [slk_8] at this
    rw [List.flatMap_cons, List.length_append, List.length_cons]
    omega
theorem flat_take (T : List Nat) (h : Nat) {L : List Nat} {i g : Nat} (hg : L[i]? = some g) : (L.take (i + 1)).flatMap (sl T h) = (L.take i).flatMap (sl T h) ++ sl T h g := by
  have hi : i < L.length := (List.getElem?_eq_some_iff.1 hg).1
  have he : L[i] = g := (List.getElem?_eq_some_iff.1 hg).2
  rw [List.take_succ_eq_append_getElem hi, List.flatMap_append, he]
  simp
/-- A region that ends in one way, whatever its order. -/
theorem region_cut {P : Program} {id : Nat} {ops : Array Oper} {b : Bool} {Q : Exit → Act → World → Prop} {a F : Act} {w W : World} (hr : (Code.region id ops b).wp P (NoPanic fun e a' w' => e = .normal ∧ a' = F ∧ w' = W) a w) (hk : Q .normal F W) : (Code.region id ops b).wp P Q a w :=
  Code.wp_mono (fun e a' w' h => by obtain ⟨rfl, rfl, rfl⟩ := NoPanic.imp e a' w' h; exact hk) hr
def FdPost (w : World) (X : List Nat) (e : Ending) (w' : World) : Prop := ∃ v, e = .returned v ∧ w'.ownsRow w.heap.size 23 1 v X.length (vw X) ∧ Ext [] w w'
set_option maxRecDepth 100000 in
set_option maxHeartbeats 2000000 in
theorem rfind_any (p q c G h : Nat) (T : List Nat) (w : World) (hR : Rt w p q c G T) (hG : Gp G) (hh : h < 18446744073709551616) : Calls Tryd.prog 21 #[.pointer (some ⟨p, 0, none⟩), .int .u64 (h : Nat)] w (FdPost w ((wk T (sq (h / 128) G)).flatMap (sl T h))) := by
  have hle := hG.le
  have hpos := hG.pos
  have K := rwalk_any p q c G h T w hR hG hh
  have hR0 := hR
  have hgl : ∀ x ∈ wk T (sq (h / 128) G), x < G := fun x hx => by
    obtain ⟨n, _, rfl⟩ := List.mem_map.1 ((wk_pre T (sq (h / 128) G)).subset hx)
    exact pl_lt _ hpos n
  have hln : (wk T (sq (h / 128) G)).length ≤ G := by
    have := (wk_pre T (sq (h / 128) G)).length_le
    rw [sq_len] at this
    exact this
  obtain ⟨L, hL⟩ : ∃ L, wk T (sq (h / 128) G) = L := ⟨_, rfl⟩
  rw [hL] at K hgl hln ⊢
  clear hR hG hL
  go_enter Tryd.func21, Tryd.ntmps21
  go_wp2_with fail
  refine K.mono ?_
  rintro e w1 ⟨a, c1, rfl, hI, hE⟩
  have HR := hid (hR0.keep0 hE)
  have HI := hid hI
  have HE := hid hE
  have HGl := hid hgl
  have HFl := hid (flat_len T h)
  have HTk := hid (fun i g (hg : L[i]? = some g) => flat_take T h hg)
  have HSk := hid (fun g k => slk_len T h g k)
  clear K hR0 hI hE hgl
  go_wp2
  go_loopw [5, 7] (fun v u wr => ∃ i : Nat, u = .int .i64 i ∧ i ≤ L.length ∧ wr.ownsRow w1.heap.size 23 1 v ((L.take i).flatMap (sl T h)).length (vw ((L.take i).flatMap (sl T h))) ∧ Ext [] w1 wr) (fun _ u _ => (L.length - (intOf u)).toNat)
  case atStart => exact ⟨0, rfl, by omega, own_nil _ _ _ _, Ext.refl _ _⟩
  case round =>
    obtain ⟨i, rfl, hi, hO, hX⟩ := hrel
    by_cases hiL : i < L.length
    · obtain ⟨g, hg⟩ : ∃ g, L[i]? = some g := ⟨L[i], List.getElem?_eq_getElem hiL⟩
      have hgG := HGl.out g (List.mem_of_getElem? hg)
      have HTi := hid (HTk.out i g hg)
      have HFi := hid (HFl.out (L.take i))
      have hc := HI.out.cell (j := i) (by rw [ns_len]; exact hiL)
      rw [ns_at hg] at hc
      obtain ⟨b, o, rfl, hc⟩ := hc
      have HC := hid hc
      have HO := hid hO
      have HX := hid hX
      generalize (L.take i).flatMap (sl T h) = A at *
      clear hc hO hX hg
      go_wp2
      go_loopw [5, 8] (fun v u wr => ∃ k : Nat, u = .int .i64 k ∧ k ≤ 8 ∧ wr.ownsRow w1.heap.size 23 1 v (A ++ slk T h g k).length (vw (A ++ slk T h g k)) ∧ Ext [] w1 wr) (fun _ u _ => (8 - (intOf u)).toNat)
      case atStart => exact ⟨0, rfl, by omega, by rw [slk_0, List.append_nil]; exact HO.out, HX.out⟩
      case round =>
        obtain ⟨k, rfl, hk, hO2, hX2⟩ := hrel
        by_cases hk8 : k < 8
        · have hRr := HR.out.keep0 hX2
          obtain ⟨_, f1⟩ := hRr.flds
          obtain ⟨s0, s1, s2⟩ := hRr.slot (k := 8 * g + k) (by omega)
          rw [sT_at T g k hk8] at s0 s1 s2
          have hc1 := hX2.cell HC.out (by simp)
          have hw1 : IntKind.i64.wrap (8 * (g : Int) + (k : Int)) = ((8 * g + k : Nat) : Int) := by rw [IntKind.wrap_i64] <;> omega
          have hw2 : IntKind.i64.wrap (8 * (g : Int)) = 8 * (g : Int) := by rw [IntKind.wrap_i64] <;> omega
          have hlt : 8 * g + k < 8 * G := by omega
          have hqs : q < wr.heap.size := block_lt_of_cell s0
          have hps : p < wr.heap.size := block_lt_of_cell f1
          have hbs : b < wr.heap.size := block_lt_of_cell hc1
          have HO2 := hid hO2
          have HX2 := hid hX2
          have HSy := hid (fun e1 e2 => slk_yes (T := T) (h := h) (g := g) (k := k) e1 e2)
          have HSn := hid (fun e1 => slk_no (T := T) (h := h) (g := g) (k := k) e1)
          clear hRr hO2 hX2
          have hlt2 : ((8 * g + k : Nat) : Int) < 8 * (G : Int) := by omega
          have hlt3 : ((8 * g + k : Nat) : Int) < ((8 * G : Nat) : Int) := by omega
          have hge : (0 : Int) ≤ ((8 * g + k : Nat) : Int) := by omega
          generalize 8 * g + k = kk at hw1 hlt s0 s1 s2 hlt2 hlt3 hge
          go_wp2_with fail
          apply region_cut
          case hr =>
            go_region_law (fail)
            all_goals exact NoPanic.normal ⟨rfl, rfl, rfl⟩
          have hEa := (Ext.alloc [] wr (.cells #[.int .u8 (bt T g k : Nat), .int .u64 (hsw T g k : Nat), .int .u64 (idw T g k : Nat)] 80)).trans (Ext.drew [] _)
          have hro := (heap_alloc_new wr (.cells #[.int .u8 (bt T g k : Nat), .int .u64 (hsw T g k : Nat), .int .u64 (idw T g k : Nat)] 80))
          obtain ⟨W2, hW2⟩ : ∃ W2, (wr.alloc (.cells #[.int .u8 (bt T g k : Nat), .int .u64 (hsw T g k : Nat), .int .u64 (idw T g k : Nat)] 80)).drew = W2 := ⟨_, rfl⟩
          have hrow : W2.heap[wr.heap.size]? = some (.cells #[.int .u8 (bt T g k : Nat), .int .u64 (hsw T g k : Nat), .int .u64 (idw T g k : Nat)] 80 (0, 0)) := by rw [← hW2]; exact hro
          rw [hW2] at hEa ⊢
          have b0 : W2.cell? ⟨wr.heap.size, 0, none⟩ = some (.int .u8 (bt T g k : Nat)) := by rw [cell_of_row _ _ _ _ _ _ hrow]; rfl
          have b1 : W2.cell? ⟨wr.heap.size, 1, none⟩ = some (.int .u64 (hsw T g k : Nat)) := by rw [cell_of_row _ _ _ _ _ _ hrow]; rfl
          have b2 : W2.cell? ⟨wr.heap.size, 2, none⟩ = some (.int .u64 (idw T g k : Nat)) := by rw [cell_of_row _ _ _ _ _ _ hrow]; rfl
          have HO3 := hid (own_keep0 HO2.out hEa)
          have HX3 := hid (HX2.out.trans hEa)
          have hAl := HFi.out
          have hsl := HSk.out g k
          have hLi : (L.take i).length ≤ 4096 := by rw [List.length_take]; omega
          have hzs := lt_of_heap hrow
          clear hW2 hro hrow hEa HO2 HX2 hqs hps hbs hc1 f1 hw1 hw2 hlt hlt2 hlt3 hge s0 s1 s2
          generalize wr.heap.size = z at *
          by_cases h1 : bt T g k < 128
          · have h1i : ((bt T g k : Nat) : Int) < 128 := by omega
            by_cases h2 : hsw T g k = h
            · have HS := hid (HSy.out h1 h2)
              have hi2 : ((hsw T g k : Nat) : Int) = (h : Int) := by rw [h2]
              have hE1 := Ext.alloc [] W2 (.cells #[.int .u64 (idw T g k : Nat)] 23)
              have hV := vs_new W2 23 [.int .u64 (idw T g k : Nat)]
              obtain ⟨v', w', hr, hO', hE', _⟩ := app_own w1 _ (HX3.out.trans hE1) 22 22 23 _ 8 Tryd.underlying22 info23 rfl (by omega) _ _ _ (own_keep0 HO3.out hE1) (some ⟨W2.heap.size, 0, none⟩) 1 1 _ rfl hV (by simp [Value.oneCell']) (by rw [List.length_append]; omega)
              obtain ⟨a0, c0, rfl, _⟩ := own_slice HO3.out
              obtain ⟨a1, c2, rfl, _⟩ := own_slice hO'
              have HO' := hid hO'
              have HE' := hid hE'
              clear hO' hE' hE1 hV HO3 HX3 h1 h2 hAl hsl hLi
              go_wp2_with (at_builtin; refine wpList_append_run rfl _ _ 22 rfl _ _ _ rfl rfl hr ?_)
              go_roundw
              case rel => exact ⟨k + 1, by go_num, by omega, by have := HO'.out; rw [HS.out, ← List.append_assoc]; simpa [vw, Nat.add_assoc] using this, HE'.out⟩
              case measure => simp [intOf]; omega
            · have HS := hid (HSn.out (fun q => h2 q.2))
              have hi2 : ¬ ((hsw T g k : Nat) : Int) = (h : Int) := by omega
              clear h2 h1 hAl hsl hLi
              go_wp2
              go_roundw
              case rel => exact ⟨k + 1, by go_num, by omega, by rw [HS.out]; exact HO3.out, HX3.out⟩
              case measure => simp [intOf]; omega
          · have HS := hid (HSn.out (fun q => h1 q.1))
            have h1i : ¬ ((bt T g k : Nat) : Int) < 128 := by omega
            clear h1 hAl hsl hLi
            go_wp2
            go_roundw
            case rel => exact ⟨k + 1, by go_num, by omega, by rw [HS.out]; exact HO3.out, HX3.out⟩
            case measure => simp [intOf]; omega
        · obtain rfl : k = 8 := by omega
          rw [slk_8] at hO2
          have HO2 := hid hO2
          have HX2 := hid hX2
          clear hO2 hX2
          go_wp2
          go_roundw
          case rel => exact ⟨i + 1, by go_num, by omega, by rw [HTi.out]; exact HO2.out, HX2.out⟩
          case measure => simp [intOf]; omega
    · obtain rfl : i = L.length := by omega
      rw [List.take_of_length_le (Nat.le_refl _)] at hO
      have HO := hid hO
      have HX := hid hX
      clear hO hX
      go_wp2
      go_ret
      exact ⟨_, rfl, own_base HO.out HE.out.size, HE.out.trans HX.out⟩
end Go.Proofs.YtkknadkcpndnaaaDoor.Rf

/-
  What the document puts into its table; no statement is proved here.
-/
namespace Go.Proofs.YtkknadkcpndnaaaDoor.Rf
open Go.RowKit Go.Shelf
open Pr (Gp GpI sq pl pl_step pl_lt pl_zero sq_len sq_take sq_at)
attribute [local go_sem] Oper.semAt_some run_store_func

theorem Rt.ne {w : World} {p q c G : Nat} {T : List Nat} (h : Rt w p q c G T) : p ≠ q := by
  obtain ⟨cs, h1, _⟩ := h.row
  rintro rfl
  rw [h.blk] at h1
  simp at h1
/-- Slot (g, i) is written. -/
theorem Rt.put {w : World} {p q c G : Nat} {T T' : List Nat} {g i b x d k : Nat} (h : Rt w p q c G T) (u : Up T T' G g i b x d) (hg : g < G) (hi : i < 8) (hk : 8 * g + i = k) :
    Rt (((w.setCell ⟨q, k * 3, none⟩ (.int .u8 (b : Nat))).setCell ⟨q, k * 3 + 1, none⟩ (.int .u64 (x : Nat))).setCell ⟨q, k * 3 + 2, none⟩ (.int .u64 (d : Nat))) p q c G T' := by
  have hx := ((Ext.setCell [q] w ⟨q, k * 3, none⟩ (.int .u8 (b : Nat)) (by simp)).trans (Ext.setCell [q] _ ⟨q, k * 3 + 1, none⟩ (.int .u64 (x : Nat)) (by simp))).trans (Ext.setCell [q] _ ⟨q, k * 3 + 2, none⟩ (.int .u64 (d : Nat)) (by simp))
  refine ⟨hx.keep h.blk (by simpa using h.ne), ?_⟩
  obtain ⟨cs, h1, h2⟩ := h.row
  refine ⟨((cs.setIfInBounds (k * 3) (.int .u8 (b : Nat))).setIfInBounds (k * 3 + 1) (.int .u64 (x : Nat))).setIfInBounds (k * 3 + 2) (.int .u64 (d : Nat)), ?_, fun j hj => ?_⟩
  · exact heap_setCell_same _ _ _ _ 80 _ (heap_setCell_same _ _ _ _ 80 _ (heap_setCell_same w q (k * 3) cs 80 _ h1))
  · obtain ⟨a0, a1, a2⟩ := h2 j hj
    obtain ⟨b0, b1, b2⟩ := h2 k (by omega)
    have l0 : k * 3 < cs.size := (Array.getElem?_eq_some_iff.1 b0).1
    have l1 : k * 3 + 1 < cs.size := (Array.getElem?_eq_some_iff.1 b1).1
    have l2 : k * 3 + 2 < cs.size := (Array.getElem?_eq_some_iff.1 b2).1
    have e : sT T' j = if j = k then (b, x, d) else sT T j := by
      have q1 := u.bt (j / 8) (by omega) (j % 8) (by omega)
      have q2 := u.hs (j / 8) (by omega) (j % 8) (by omega)
      have q3 := u.id (j / 8) (by omega) (j % 8) (by omega)
      unfold sT
      rw [q1, q2, q3]
      by_cases e : j = k
      · have : j / 8 = g ∧ j % 8 = i := by omega
        simp [e, show k / 8 = g by omega, show k % 8 = i by omega]
      · have : ¬ (j / 8 = g ∧ j % 8 = i) := by omega
        simp [e, this]
    rw [e]
    by_cases hjk : j = k
    · subst hjk
      simp [l0, l1, l2]
    · simp only [Array.getElem?_setIfInBounds, if_neg hjk, show ¬ k * 3 + 2 = j * 3 from by omega, show ¬ k * 3 + 1 = j * 3 from by omega, show ¬ k * 3 = j * 3 from by omega, show ¬ k * 3 + 2 = j * 3 + 1 from by omega, show ¬ k * 3 + 1 = j * 3 + 1 from by omega, show ¬ k * 3 = j * 3 + 1 from by omega, show ¬ k * 3 + 2 = j * 3 + 2 from by omega, show ¬ k * 3 + 1 = j * 3 + 2 from by omega, show ¬ k * 3 = j * 3 + 2 from by omega, if_false]
      exact ⟨a0, a1, a2⟩
/-- All slots of the groups are full. -/
def Ful (T : List Nat) (A : List Nat) : Prop := ∀ x ∈ A, ∀ j, j < 8 → bt T x j < 128
/-- What the document's Insert does. -/
def RIns (T : List Nat) (p q c G h d : Nat) (w' : World) (e : Ending) : Prop :=
  (Ful T (sq (h / 128) G) ∧ e = .returned (.bool false) ∧ Rt w' p q c G T) ∨
  ∃ A g C i, sq (h / 128) G = A ++ g :: C ∧ g < G ∧ i < 8 ∧ Ful T A ∧ (∀ j, j < i → bt T g j < 128) ∧ ¬ bt T g i < 128 ∧
    ((bt T g i = 128 ∧ knt (fun x => decide (x ≠ 128)) T (8 * G) = 7 * G ∧ e = .returned (.bool false) ∧ Rt w' p q c G T) ∨
     (¬ (bt T g i = 128 ∧ knt (fun x => decide (x ≠ 128)) T (8 * G) = 7 * G) ∧ e = .returned (.bool true) ∧ ∀ T', Up T T' G g i (h % 128) h d → Rt w' p q c G T'))
set_option maxRecDepth 100000 in
set_option maxHeartbeats 4000000 in
theorem rins_any (p q c G h d : Nat) (T : List Nat) (w : World) (hR : Rt w p q c G T) (hG : Gp G) (hh : h < 18446744073709551616) : Calls Tryd.prog 48 #[.pointer (some ⟨p, 0, none⟩), .int .u64 (h : Nat), .int .u64 (d : Nat)] w fun e w' => RIns T p q c G h d w' e ∧ Ext [q] w w' := by
  have hle := hG.le
  have hpos := hG.pos
  have HR0 := hid hR
  obtain ⟨f0, _⟩ := hR.flds
  have hdiv : (h : Int).tdiv 128 = ((h / 128 : Nat) : Int) := by rw [Int.tdiv_eq_ediv_of_nonneg (by omega)]; norm_cast
  have hrem : (h : Int).tmod 128 = ((h % 128 : Nat) : Int) := by rw [Int.tmod_eq_emod_of_nonneg (by omega)]; norm_cast
  have hmlt : h % 128 < 128 := Nat.mod_lt _ (by omega)
  obtain ⟨h1, hh1⟩ : ∃ h1, h / 128 = h1 := ⟨_, rfl⟩
  obtain ⟨hm, hhm⟩ : ∃ hm, h % 128 = hm := ⟨_, rfl⟩
  have hu1 := u64w (n := h1) (by omega)
  have hum := u64w (n := hm) (by omega)
  have hu8 : IntKind.u8.wrap (hm : Int) = (hm : Int) := by rw [IntKind.wrap_u8]; omega
  have HP := hid (show ∀ w' e, (((Ful T (sq h1 G) ∧ e = Ending.returned (.bool false) ∧ Rt w' p q c G T) ∨ ∃ A g C i, sq h1 G = A ++ g :: C ∧ g < G ∧ i < 8 ∧ Ful T A ∧ (∀ j, j < i → bt T g j < 128) ∧ ¬ bt T g i < 128 ∧ ((bt T g i = 128 ∧ knt (fun x => decide (x ≠ 128)) T (8 * G) = 7 * G ∧ e = .returned (.bool false) ∧ Rt w' p q c G T) ∨ (¬ (bt T g i = 128 ∧ knt (fun x => decide (x ≠ 128)) T (8 * G) = 7 * G) ∧ e = .returned (.bool true) ∧ ∀ T', Up T T' G g i hm h d → Rt w' p q c G T')))) → RIns T p q c G h d w' e by
    intro w' e k
    unfold RIns
    rw [hh1, hhm]
    exact k)
  rw [hh1] at hdiv
  rw [hhm] at hrem hmlt
  clear hh1 hhm
  have K := rseq_ok h1 G hG w
  have HAt := hid (fun i (hi : i < G) => sq_at h1 G hi)
  have HPl := hid (fun i => pl_lt h1 hpos i)
  have HTk := hid (fun k hk => sq_take h1 G k hk)
  have HLn := hid (sq_len h1 G)
  have HLf := hid (fun W (k : Rt W p q c G T) => rleft_any p q c G T W k hle)
  obtain ⟨Z, hZ⟩ : ∃ Z, knt (fun x => decide (x ≠ 128)) T (8 * G) = Z := ⟨_, rfl⟩
  rw [hZ] at HP HLf
  clear hR hG hZ hh
  go_enter Tryd.func48, Tryd.ntmps48
  go_wp2_with fail
  refine K.mono ?_
  rintro e w1 ⟨a, c1, rfl, hL, hE⟩
  have hI : Is w1 a (ns (sq h1 G)) := by
    have := own_vs hL
    unfold Is ns
    rw [List.map_map]
    exact this
  have HI := hid hI
  have HE := hid hE
  have HR := hid (HR0.out.keep0 hE)
  rw [HLn.out]
  clear hL hI hE K HR0 f0
  go_wp2
  go_loop [9] (fun u => ∃ i : Nat, u = .int .i64 i ∧ i ≤ G ∧ Ful T ((sq h1 G).take i)) (fun u => (G - (intOf u)).toNat)
  case atStart => exact ⟨0, rfl, by omega, by simp [Ful]⟩
  case round =>
    obtain ⟨i, rfl, hi, hno⟩ := hrel
    have HNo := hid hno
    clear hno
    by_cases hiG : i < G
    · have hx := HAt.out i hiG
      have hpl := HPl.out i
      have HTi := hid (HTk.out i hiG)
      have HDr := hid (show (sq h1 G).take i ++ pl h1 G i :: (sq h1 G).drop (i + 1) = sq h1 G by
        have := List.take_append_drop (i + 1) (sq h1 G)
        rw [HTi.out] at this
        simpa using this)
      obtain ⟨b, o, rfl, hc⟩ := HI.out.cell (j := i) (by rw [ns_len, HLn.out]; exact hiG)
      rw [ns_at hx] at hc
      clear hx
      generalize pl h1 G i = g at *
      go_wp2
      go_loop [10] (fun u => ∃ k : Nat, u = .int .i64 k ∧ k ≤ 8 ∧ ∀ j, j < k → bt T g j < 128) (fun u => (8 - (intOf u)).toNat)
      case atStart => exact ⟨0, rfl, by omega, fun j hj => by omega⟩
      case round =>
        obtain ⟨k, rfl, hk, hfu⟩ := hrel
        have HFu := hid hfu
        clear hfu
        by_cases hk8 : k < 8
        · obtain ⟨_, f1⟩ := HR.out.flds
          obtain ⟨s0, s1, s2⟩ := HR.out.slot (k := 8 * g + k) (by omega)
          rw [sT_at T g k hk8] at s0 s1 s2
          have hw1 : IntKind.i64.wrap (8 * (g : Int) + (k : Int)) = ((8 * g + k : Nat) : Int) := by rw [IntKind.wrap_i64] <;> omega
          have hw2 : IntKind.i64.wrap (8 * (g : Int)) = 8 * (g : Int) := by rw [IntKind.wrap_i64] <;> omega
          have hlt : 8 * g + k < 8 * G := by omega
          have HPut := hid (fun T' (u : Up T T' G g k hm h d) kk (e : 8 * g + k = kk) => HR.out.put u hpl hk8 e)
          have z0 := HR.out.frz ((8 * g + k) * 3)
          have z1 := HR.out.frz ((8 * g + k) * 3 + 1)
          have z2 := HR.out.frz ((8 * g + k) * 3 + 2)
          obtain ⟨kk, hkk⟩ : ∃ kk, 8 * g + k = kk := ⟨_, rfl⟩
          have HKk := hid hkk
          rw [hkk] at hw1 hlt s0 s1 s2 z0 z1 z2
          clear hkk
          have KL := HLf.out w1 HR.out
          by_cases hf : bt T g k < 128
          · have hfi : ((bt T g k : Nat) : Int) < 128 := by omega
            clear HPut KL z0 z1 z2 s1 s2
            go_wp2_with fail
            go_round
            case rel =>
              refine ⟨k + 1, by go_num, by omega, fun j hj => ?_⟩
              by_cases q : j = k
              · rw [q]; exact hf
              · exact HFu.out j (by omega)
            case measure => simp [intOf]; omega
          · have hfi : ¬ ((bt T g k : Nat) : Int) < 128 := by omega
            have HF := hid hf
            by_cases he : bt T g k = 128
            · have hei : ((bt T g k : Nat) : Int) = 128 := by omega
              by_cases hl : Z = 7 * G
              · have HA := hid (HP.out w1 (.returned (.bool false)) (.inr ⟨_, g, _, k, HDr.out.symm, hpl, hk8, HNo.out, HFu.out, hf, .inl ⟨he, hl, rfl, HR.out⟩⟩))
                have hl2 : ((7 * G : Nat) : Int) - (Z : Int) = 0 := by omega
                rw [hl2] at KL
                clear hl HPut z0 z1 z2 s1 s2
                go_wp2_with fail
                refine met KL ?_
                clear KL
                go_wp2
                go_ret
                exact ⟨HA.out, HE.out.mono (by simp)⟩
              · have hl2 : ¬ ((7 * G : Nat) : Int) - (Z : Int) = 0 := by omega
                have HA := hid (fun (q1 : Ext [q] w1 (((w1.setCell ⟨q, kk * 3, none⟩ (.int .u8 (hm : Nat))).setCell ⟨q, kk * 3 + 1, none⟩ (.int .u64 (h : Nat))).setCell ⟨q, kk * 3 + 2, none⟩ (.int .u64 (d : Nat)))) => And.intro (HP.out (((w1.setCell ⟨q, kk * 3, none⟩ (.int .u8 (hm : Nat))).setCell ⟨q, kk * 3 + 1, none⟩ (.int .u64 (h : Nat))).setCell ⟨q, kk * 3 + 2, none⟩ (.int .u64 (d : Nat))) (.returned (.bool true)) (.inr ⟨_, g, _, k, HDr.out.symm, hpl, hk8, HNo.out, HFu.out, HF.out, .inr ⟨fun z => hl z.2, rfl, fun T' u => HPut.out T' u kk HKk.out⟩⟩)) ((HE.out.mono (by simp)).trans q1))
                have HX := hid (((Ext.setCell [q] w1 ⟨q, kk * 3, none⟩ (.int .u8 (hm : Nat)) (by simp)).trans (Ext.setCell [q] _ ⟨q, kk * 3 + 1, none⟩ (.int .u64 (h : Nat)) (by simp))).trans (Ext.setCell [q] _ ⟨q, kk * 3 + 2, none⟩ (.int .u64 (d : Nat)) (by simp)))
                clear HPut hl he hf
                go_wp2_with fail
                refine met KL ?_
                clear KL
                go_wp2
                go_ret
                exact HA.out HX.out
            · have hei : ¬ ((bt T g k : Nat) : Int) = 128 := by omega
              have HA := hid (fun (q1 : Ext [q] w1 (((w1.setCell ⟨q, kk * 3, none⟩ (.int .u8 (hm : Nat))).setCell ⟨q, kk * 3 + 1, none⟩ (.int .u64 (h : Nat))).setCell ⟨q, kk * 3 + 2, none⟩ (.int .u64 (d : Nat)))) => And.intro (HP.out (((w1.setCell ⟨q, kk * 3, none⟩ (.int .u8 (hm : Nat))).setCell ⟨q, kk * 3 + 1, none⟩ (.int .u64 (h : Nat))).setCell ⟨q, kk * 3 + 2, none⟩ (.int .u64 (d : Nat))) (.returned (.bool true)) (.inr ⟨_, g, _, k, HDr.out.symm, hpl, hk8, HNo.out, HFu.out, HF.out, .inr ⟨fun z => he z.1, rfl, fun T' u => HPut.out T' u kk HKk.out⟩⟩)) ((HE.out.mono (by simp)).trans q1))
              have HX := hid (((Ext.setCell [q] w1 ⟨q, kk * 3, none⟩ (.int .u8 (hm : Nat)) (by simp)).trans (Ext.setCell [q] _ ⟨q, kk * 3 + 1, none⟩ (.int .u64 (h : Nat)) (by simp))).trans (Ext.setCell [q] _ ⟨q, kk * 3 + 2, none⟩ (.int .u64 (d : Nat)) (by simp)))
              clear HPut KL he hf
              go_wp2
              go_ret
              exact HA.out HX.out
        · obtain rfl : k = 8 := by omega
          go_wp2
          go_round
          case rel =>
            refine ⟨i + 1, by go_num, by omega, fun x hx j hj => ?_⟩
            rw [HTi.out, List.mem_append] at hx
            rcases hx with hx | hx
            · exact HNo.out x hx j hj
            · simp at hx; rw [hx]; exact HFu.out j hj
          case measure => simp [intOf]; omega
    · obtain rfl : i = G := by omega
      have HA := hid (HP.out w1 (.returned (.bool false)) (.inl ⟨by have := HNo.out; rwa [List.take_of_length_le (by rw [HLn.out]; exact Nat.le_refl _)] at this, rfl, HR.out⟩))
      go_wp2
      go_ret
      exact ⟨HA.out, HE.out.mono (by simp)⟩
end Go.Proofs.YtkknadkcpndnaaaDoor.Rf
