/-
  RfM, RfN, RfO: joined by program; no statement is proved here.
-/
import Derived.Test.YtkfagfdefkaenaaDoorZPD
import Derived.Test.YtkfagfdefkaenaaDoorZH
/-
  The document's Grow; no statement is proved here.
-/
namespace Go.Proofs.YtkfagfdefkaenaaDoor.Rf
open Go.RowKit Go.Shelf
open Pr (Gp GpI sq pl pl_step pl_lt pl_zero sq_len sq_take sq_at)
attribute [local go_sem] Oper.semAt_some run_store_func

theorem ents_lt {T : List Nat} {G : Nat} (hS : Shp T G) : ∀ (k : Nat) (p : Nat × Nat), p ∈ ents T k → p.1 < 18446744073709551616 ∧ p.2 < 18446744073709551616
  | 0, p, h => by simp [ents] at h
  | k + 1, p, h => by
    rw [ents_succ] at h
    rcases List.mem_append.1 h with q | q
    · exact ents_lt hS k p q
    · rw [egr_eq] at q
      obtain ⟨i, _, rfl⟩ := List.mem_map.1 q
      exact ⟨getD_lt64 hS.lt _, getD_lt64 hS.lt _⟩
theorem asl_row (T : List Nat) (G : Nat) : asl T (8 * (G + 1)) = asl T (8 * G) ++ ((List.range 8).map fun i => sT T (8 * G + i)).filter fun s => decide (s.1 < 128) := by
  unfold asl
  rw [show 8 * (G + 1) = 8 * G + 8 by omega, List.range_add, List.map_append, List.filter_append, List.map_map]
  rfl
theorem asl_ents (T : List Nat) : ∀ G, (asl T (8 * G)).map (fun s => s.2) = ents T G
  | 0 => rfl
  | G + 1 => by
    rw [asl_row, List.map_append, asl_ents T G, ents_succ]
    congr 1
    unfold egr esl
    rw [bsF_fl, List.filter_map, List.map_map]
    have e : ((List.range 8).filter ((fun s : Nat × Nat × Nat => decide (s.1 < 128)) ∘ fun i => sT T (8 * G + i))) = (List.range 8).filter fun i => decide (byt (cw T G) i < 128) := by
      apply List.filter_congr
      intro i hi
      have := sT_at T G i (by simpa using hi)
      simp only [Function.comp, this]
      rfl
    rw [e]
    apply List.map_congr_left
    intro i hi
    simp only [Function.comp]
    rw [sT_at T G i (by simpa using (List.mem_filter.1 hi).1)]
theorem scl_at {w : World} {base n i : Nat} {a : Option Addr} {m c : Nat} {L : List (Nat × Nat × Nat)} {x y z : Nat} (h : w.ownsRow base 116 3 (.slice a m c) n (scl L)) (hi : L[i]? = some (x, y, z)) :
    ∃ b, a = some ⟨b, 0, none⟩ ∧ w.cell? ⟨b, i * 3 + 1, none⟩ = some (.int .u64 (y : Nat)) ∧ w.cell? ⟨b, i * 3 + 2, none⟩ = some (.int .u64 (z : Nat)) := by
  have hl := h.1
  rw [scl_len] at hl
  have hil : i < L.length := (List.getElem?_eq_some_iff.1 hi).1
  have hat : ∀ (L : List (Nat × Nat × Nat)) (i : Nat), L[i]? = some (x, y, z) → (scl L)[i * 3 + 1]? = some (.int .u64 (y : Nat)) ∧ (scl L)[i * 3 + 2]? = some (.int .u64 (z : Nat)) := by
    intro L
    induction L with
    | nil => intro i hi; simp at hi
    | cons s L ih =>
      intro i hi
      have e : scl (s :: L) = [.int .u8 (s.1 : Nat), .int .u64 (s.2.1 : Nat), .int .u64 (s.2.2 : Nat)] ++ scl L := rfl
      cases i with
      | zero =>
        simp at hi
        subst hi
        rw [e]
        exact ⟨rfl, rfl⟩
      | succ i =>
        have := ih i (by simpa using hi)
        rw [e, show (i + 1) * 3 + 1 = 3 + (i * 3 + 1) by omega, show (i + 1) * 3 + 2 = 3 + (i * 3 + 2) by omega, List.getElem?_append_right (by simp), List.getElem?_append_right (by simp)]
        simpa using this
  obtain ⟨h1, h2⟩ := hat L i hi
  rcases h.2 with ⟨e1, e2⟩ | ⟨g, cap, cur, e, _, hg, _, _, _, ht⟩
  · omega
  · cases e
    refine ⟨g, rfl, ?_, ?_⟩ <;> rw [cell_of_row _ _ _ _ _ _ hg, ← Array.getElem?_toList]
    · rw [← h1, ← ht, List.getElem?_take, if_pos (by omega)]
    · rw [← h2, ← ht, List.getElem?_take, if_pos (by omega)]
set_option maxRecDepth 100000 in
set_option maxHeartbeats 4000000 in
theorem rgrow_ok (p q c G M : Nat) (T : List Nat) (w : World) (h : Rt w p q c G T) (hS : Sd T G) (hM : Gp M) (hn : nfl T G ≤ 7 * M) : Calls Tryd.prog 47 #[.pointer (some ⟨p, 0, none⟩), .int .i64 (M : Nat)] w fun e w' => ∃ p1 q1 X, e = .returned (.tuple #[.pointer (some ⟨p1, 0, none⟩), .int .i64 0]) ∧ Rt w' p1 q1 (8 * M) M X ∧ Fil X M (ents T G) ∧ w.heap.size ≤ p1 ∧ w.heap.size ≤ q1 ∧ Ext [] w w' := by
  have K := rnew_ok M hM w
  have hG := hS.shp.gp.le
  have hMl := hM.le
  go_enter Tryd.func47, Tryd.ntmps47
  go_wp2_with fail
  refine K.mono ?_
  rintro e w1 ⟨p1, q1, rfl, hR1, hp1, hq1, hE1⟩
  have KL := rlen_any p q c G T w1 (h.keep0 hE1) hG
  rw [knt_full] at KL
  have KA := rall_any p q c G T w1 (h.keep0 hE1) hG
  go_wp2_with fail
  refine met KL ?_
  go_wp2_with fail
  refine KA.mono ?_
  rintro e w2 ⟨v, rfl, hO, hE2⟩
  obtain ⟨al, cl, rfl, _⟩ := own_slice hO
  have hlen : (asl T (8 * G)).length = (ents T G).length := by rw [← asl_ents T G, List.length_map]
  have hen : (ents T G).length ≤ 7 * M := by rw [ents_tot]; exact hn
  have hq2 : q1 < w1.heap.size := by
    obtain ⟨cs, hc, _⟩ := hR1.row
    exact lt_of_heap hc
  have HR2 := hid (hR1.keep0 hE2)
  have HO := hid hO
  have HX := hid (hE1.trans hE2)
  have HM := hid hM
  have HSl := hid (fun (i : Nat) (s : Nat × Nat × Nat) (hs : (asl T (8 * G))[i]? = some s) => show (ents T G)[i]? = some s.2 by rw [← asl_ents T G, List.getElem?_map, hs]; rfl)
  have HLt := hid (fun (y z : Nat) (hm : (y, z) ∈ ents T G) => ents_lt hS.shp G _ hm)
  have HEn := hid hen
  have HLe := hid hlen
  have HQ2 := hid hq2
  clear hlen hen hq2 hR1 hO hE1 hE2 hM K KL KA h hn hS
  generalize asl T (8 * G) = L at *
  generalize hEe : ents T G = E at *
  have HEe := hid hEe
  clear hEe
  have hLb : L.length ≤ 28672 := by have := HLe.out; have := HEn.out; omega
  go_wp2
  go_loopw [9] (fun u wr => ∃ i X, u = .int .i64 ((i : Nat) : Int) ∧ i ≤ L.length ∧ Fil X M (E.take i) ∧ Rt wr p1 q1 (8 * M) M X ∧ wr.ownsRow w1.heap.size 116 3 (.slice al L.length cl) L.length (scl L) ∧ Ext [] w wr) (fun u _ => (L.length - (intOf u)).toNat)
  case atStart => exact ⟨0, newT M, rfl, by omega, fil_new HM.out, HR2.out, HO.out, HX.out⟩
  case round =>
    obtain ⟨i, X, rfl, hi, hF, hRx, hOx, hXx⟩ := hrel
    by_cases hiL : i < L.length
    · obtain ⟨⟨x, y, z⟩, hs⟩ : ∃ s, L[i]? = some s := ⟨L[i], List.getElem?_eq_getElem hiL⟩
      have hes := HSl.out i _ hs
      have hlt := HLt.out y z (List.mem_of_getElem? hes)
      have hd := Ext.drew [] wr
      have KI := (rins_any p1 q1 (8 * M) M y z X wr.drew (hRx.keep0 hd) HM.out hlt.1).mono (R' := fun e w' => e = .returned (.bool true) ∧ (∃ X', InsT X M y z (some X') ∧ Rt w' p1 q1 (8 * M) M X') ∧ Ext [q1] wr.drew w') (fun e w' k => by
        rcases ins_agree hF.sd hlt.1 hlt.2 k.1 with ⟨X', a1, a2, a3⟩ | ⟨a1, _, _⟩
        · exact ⟨a2, ⟨X', a1, a3⟩, k.2⟩
        · have h1 := hol_full hF.toHol a1
          have h2 : i < E.length := (List.getElem?_eq_some_iff.1 hes).1
          have h3 := HEn.out
          rw [List.length_take] at h1
          omega)
      obtain ⟨b, rfl, c1, c2⟩ := scl_at hOx hs
      have HTk := hid (show E.take (i + 1) = E.take i ++ [(y, z)] by rw [List.take_add_one, hes]; rfl)
      have hEl : i < E.length := (List.getElem?_eq_some_iff.1 hes).1
      have HF := hid hF
      have HOx := hid (own_keep0 hOx hd)
      have HXx := hid (hXx.trans hd)
      clear hRx hOx hXx hd hF hs hes
      go_wp2_with fail
      refine wp_region_noPanic ?_
      go_region_law (go_simp; go_wp2_with (first | (go_at_call 44; refine KI.mono ?_; rintro _ w5 ⟨rfl, hI, hX5⟩)))
      all_goals
        refine NoPanic.normal ?_
        obtain ⟨X', hI, hR5⟩ := hI
        have hO5 := own_keep HOx.out hX5 (fun b hb hv => by
          have h1 := (own_lt HOx.out b hv).1
          have h2 := HQ2.out
          simp at hb
          omega)
        have hF2 : Fil X' M (E.take (i + 1)) := by rw [HTk.out]; exact fil_ins HF.out hlt.1 hlt.2 hI
        have HA := hid (And.intro hF2 (And.intro hR5 (And.intro hO5 (HXx.out.on hX5 (by simpa using hq1)))))
        clear hI hR5 hX5 hO5 hF2
        go_wp2
        go_roundw
        case rel => exact ⟨i + 1, X', by go_num, by omega, HA.out.1, HA.out.2.1, HA.out.2.2.1, HA.out.2.2.2⟩
        case measure => simp [intOf]; omega
    · obtain rfl : i = L.length := by omega
      rw [List.take_of_length_le (by rw [HLe.out]; exact Nat.le_refl _)] at hF
      have HA := hid (And.intro hRx (And.intro hF hXx))
      clear hRx hF hXx hOx
      go_wp2
      go_ret2
      exact ⟨p1, q1, X, rfl, HA.out.1, by rw [HEe.out]; exact HA.out.2.1, hp1, hq1, HA.out.2.2⟩
end Go.Proofs.YtkfagfdefkaenaaDoor.Rf

/-
  Where the document's Grow refuses; no statement is proved here.
-/
namespace Go.Proofs.YtkfagfdefkaenaaDoor.Rf
open Go.RowKit Go.Shelf
open Pr (Gp GpI)
attribute [local go_sem] Oper.semAt_some run_store_func

set_option maxRecDepth 100000 in
theorem rgrow_bad (p : Nat) (M : Int) (w : World) (hM : ¬ GpI M) : Calls Tryd.prog 47 #[.pointer (some ⟨p, 0, none⟩), .int .i64 M] w fun e w' => e = .returned (.tuple #[.pointer none, .int .i64 2]) ∧ w' = w := by
  have K := rnew_bad M hM w
  clear hM
  go_enter Tryd.func47, Tryd.ntmps47
  go_wp2_with fail
  refine met K ?_
  clear K
  go_wp2
  go_ret2
  exact ⟨rfl, rfl⟩
set_option maxRecDepth 100000 in
theorem rgrow_full (p q c G M : Nat) (T : List Nat) (w : World) (h : Rt w p q c G T) (hS : Sd T G) (hM : Gp M) (hn : 7 * M < nfl T G) : Calls Tryd.prog 47 #[.pointer (some ⟨p, 0, none⟩), .int .i64 (M : Nat)] w fun e w' => e = .returned (.tuple #[.pointer none, .int .i64 7]) ∧ Ext [] w w' := by
  have K := rnew_ok M hM w
  have hG := hS.shp.gp.le
  have hMl := hM.le
  go_enter Tryd.func47, Tryd.ntmps47
  go_wp2_with fail
  refine K.mono ?_
  rintro e w1 ⟨p1, q1, rfl, _, _, _, hE1⟩
  have KL := rlen_any p q c G T w1 (h.keep0 hE1) hG
  rw [knt_full] at KL
  go_wp2_with fail
  refine met KL ?_
  clear KL K
  go_wp2
  go_ret2
  exact ⟨rfl, hE1⟩
end Go.Proofs.YtkfagfdefkaenaaDoor.Rf

/-
  What Insert, Delete and Grow make is one thing; no statement is proved here.
-/
namespace Go.Proofs.YtkfagfdefkaenaaDoor.Rf
open Go.RowKit Go.Shelf
open Pr (Gp GpI)

theorem first_uniq {α : Type} {f : α → Prop} : ∀ {A A' C C' : List α} {x x' : α}, A ++ x :: C = A' ++ x' :: C' → (∀ p ∈ A, ¬ f p) → (∀ p ∈ A', ¬ f p) → f x → f x' → x = x'
  | [], [], _, _, _, _, e, _, _, _, _ => by simp at e; exact e.1
  | [], a :: A', _, _, _, _, e, _, h2, hx, _ => by
    simp at e
    exact absurd (e.1 ▸ hx) (h2 a (by simp))
  | a :: A, [], _, _, _, _, e, h1, _, _, hx => by
    simp at e
    exact absurd (e.1 ▸ hx) (h1 a (by simp))
  | a :: A, b :: A', _, _, _, _, e, h1, h2, hx, hx' => by
    simp at e
    exact first_uniq e.2 (fun p hp => h1 p (by simp [hp])) (fun p hp => h2 p (by simp [hp])) hx hx'
theorem delT_det {T : List Nat} {G h d : Nat} {O O' : Option (List Nat)} (h1 : DelT T G h d O) (h2 : DelT T G h d O') : O = O' := by
  cases O with
  | none =>
    cases O' with
    | none => rfl
    | some B =>
      obtain ⟨A, x, C, e, _, hx, _⟩ := h2
      exact absurd hx (h1 x (by rw [e]; simp))
  | some B =>
    cases O' with
    | none =>
      obtain ⟨A, x, C, e, _, hx, _⟩ := h1
      exact absurd hx (h2 x (by rw [e]; simp))
    | some B' =>
      obtain ⟨A, x, C, e, hA, hx, rfl⟩ := h1
      obtain ⟨A', x', C', e', hA', hx', rfl⟩ := h2
      have : x = x' := first_uniq (f := fun p : Nat × Nat => idw T p.1 p.2 = d) (e.symm.trans e') hA hA' hx hx'
      rw [this]
end Go.Proofs.YtkfagfdefkaenaaDoor.Rf
