/-
  The walk through ProbeOnce; no statement is proved here.
-/
import Derived.Test.YtljflcjlmgnjjaaPlace
import Derived.Deep.CutBlock
namespace Go.Proofs.Ytljflcjlmgnjjaa
open Go.RowKit

/-- The row of marks: marked is only what came ahead of place k. -/
structure Mk (h g k q : Nat) (W : World) (C : List Bool) : Prop where
  len : C.length = g
  row : W.heap[q]? = some (.cells (C.map Value.bool).toArray 4 (0, 0))
  came : ∀ y, C.getD y false = true → ∃ j, j < k ∧ pl h g j = y

theorem Mk.cell {h g k q : Nat} {W : World} {C : List Bool} (m : Mk h g k q W C) {x : Nat} (hx : x < g) : W.cell? ⟨q, x, none⟩ = some (.bool (C.getD x false)) := by
  have := m.len
  rw [cell_of_row _ _ _ _ _ _ m.row]
  simp [show x < C.length by omega]
theorem Mk.off {h g k q : Nat} {W : World} {C : List Bool} (m : Mk h g k q W C) (hg : Gp g) (hk : k < g) : C.getD (pl h g k) false = false := by
  cases e : C.getD (pl h g k) false with
  | false => rfl
  | true =>
    obtain ⟨j, hj, e2⟩ := m.came _ e
    have := pl_inj hg (by omega) hk e2
    omega
theorem set_row1 {w : World} {g : Nat} {cs : Array Value} {t : TypeId} (h : w.heap[g]? = some (.cells cs t (0, 0))) (x : Nat) (v : Value) : (w.setCell ⟨g, x, none⟩ v).heap[g]? = some (.cells (cs.setIfInBounds x v) t (0, 0)) := by
  exact heap_setCell_same w g x _ _ _ h
theorem Mk.mark {h g k q : Nat} {W : World} {C : List Bool} (m : Mk h g k q W C) : Mk h g (k + 1) q (W.setCell ⟨q, pl h g k, none⟩ (.bool true)) (C.set (pl h g k) true) := by
  refine ⟨by simp [m.len], ?_, ?_⟩
  · rw [set_row1 m.row, List.map_set, List.setIfInBounds_toArray]
  · intro y hy
    by_cases e : pl h g k = y
    · exact ⟨k, by omega, e⟩
    · have : (C.set (pl h g k) true).getD y false = C.getD y false := by
        simp [List.getD, List.getElem?_set_ne e]
      rw [this] at hy
      obtain ⟨j, hj, e2⟩ := m.came y hy
      exact ⟨j, by omega, e2⟩

set_option maxRecDepth 100000 in
set_option maxHeartbeats 8000000 in
theorem onceWalk (h : Nat) (G i : Int) (w : World) : Calls Try.prog 4 #[.int .u64 h, .int .i64 G, .int .i64 i] w (SayPost w (.bool true)) := by
  have KA := awake_any w
  by_cases hG : GpI G
  · obtain ⟨g, rfl, hg⟩ := hG
    have HG := hid hg
    have hpos := hg.pos
    have hle := hg.le
    have hL : ordL h g (sq h g) 0 := .inl ⟨g, rfl, hg, rfl, rfl⟩
    have K1 := told_any h g _ 0 hL w
    have hsl := sq_len h g
    obtain ⟨L, hLq⟩ : ∃ L, sq h g = L := ⟨_, rfl⟩
    have HLA : Hid (∀ j, j < g → L[j]? = some (pl h g j)) := fun j hj => by rw [← hLq]; exact sq_at h g hj
    have HLM : Hid (ordL (h % g) g L 0) := .inl ⟨g, rfl, hg, by rw [sq_mod, hLq], rfl⟩
    rw [hLq] at K1 hsl
    have HSL := hid hsl
    clear hL hg hLq hsl
    go_enter Try.func4, Try.ntmps4
    go_wp2_with fail
    refine met KA ?_
    clear KA
    go_wp2_with fail
    refine K1.mono ?_
    clear K1
    rintro e w1 ⟨v, rfl, hv, hnew, hE1⟩
    obtain ⟨av, cv, rfl, hlc⟩ := own_slice hv
    have K2 := groups_any g true (by simp [gpI_nat, HG.out]) w1
    rw [HSL.out] at hv hlc ⊢
    have HE1 := hid hE1
    have HV := hid hv
    obtain ⟨b, o, rfl, _⟩ := lst_cell hv (HLA.out 0 hpos)
    have HC : Hid (∀ j, j < g → w1.cell? ⟨b, o + j, none⟩ = some (.int .i64 (pl h g j : Nat))) := fun j hj => by
      obtain ⟨b', o', e, hc⟩ := lst_cell hv (HLA.out j hj)
      cases e
      exact hc
    clear hv hE1 hnew
    go_wp2_with fail
    refine met K2 ?_
    clear K2
    obtain ⟨i4, hi4, hz4, hs4, hy4⟩ := info_parts info4
    have hr := run_make (P := Try.prog) w1 39 4 i4 _ Try.underlying39 hi4 hz4 .i64 .i64 g g (by omega) (Int.le_refl _) (by rw [hy4]; omega) (by omega)
    rw [hs4] at hr
    simp only [Int.toNat_natCast] at hr
    have hm : madeCells (Value.bool false).cells (g * 1) = Array.replicate g (.bool false) := by
      apply Array.toList_inj.1
      rw [show (Value.bool false).cells = #[.bool false] from rfl, toList_madeCells_one]
      simp
    rw [hm] at hr
    have HM0 : Hid (Mk h g 0 w1.heap.size (w1.alloc (.cells (Array.replicate g (.bool false)) 4)) (List.replicate g false)) :=
      ⟨by simp, by rw [heap_alloc_new]; simp, fun y hy => by simp [List.getD, List.getElem?_replicate] at hy; split at hy <;> simp at hy⟩
    have HE2 := hid (Ext.alloc [] w1 (.cells (Array.replicate g (.bool false)) 4))
    clear hm hi4 hz4 hs4 hy4
    go_upto_block 0 with fail
    have hbl : b < w1.heap.size := block_lt_of_cell (HC.out 0 hpos)
    generalize w1.alloc (.cells (Array.replicate g (.bool false)) 4) = w2 at *
    clear hr
    have HQ := hid (fun k => pl_lt h hpos k)
    go_wp2_with fail
    go_loopw [10] (fun q wr => ∃ (k : Nat) (C : List Bool), q = .int .i64 k ∧ k ≤ g ∧ Mk h g k w1.heap.size wr C ∧ Ext [] w1 wr) (fun q _ => (g - (intOf q)).toNat)
    case atStart => exact ⟨0, _, rfl, by omega, HM0.out, HE2.out⟩
    case round =>
      clear HM0 HE2
      obtain ⟨k, C, rfl, hk, hM, hEr⟩ := hrel
      have HM := hid hM
      have HEr := hid hEr
      clear hM hEr
      by_cases hkg : k < g
      · have hc := HEr.out.cell (HC.out k hkg) (by simp)
        have hof := HM.out.off HG.out hkg
        have hcm := HM.out.cell (HQ.out k)
        rw [hof] at hcm
        have HM2 := hid HM.out.mark
        have hx := HQ.out k
        have hxg : ¬ ((g : Int) ≤ ((pl h g k : Nat) : Int)) := by omega
        have hfr : wr.frozen? ⟨w1.heap.size, pl h g k, none⟩ = false := frozen_of_row _ _ _ _ _ HM.out.row
        clear HM hof
        generalize pl h g k = x at *
        go_wp2_with fail
        go_roundw
        case rel => exact ⟨k + 1, _, by go_num, by omega, HM2.out, HEr.out.on (Ext.setCell [w1.heap.size] wr ⟨w1.heap.size, x, none⟩ (.bool true) (by simp)) (by simp)⟩
        case measure => simp [intOf]; omega
      · obtain rfl : k = g := by omega
        have hlm := HLM.out
        have hEr := HEr.out
        clear HM HEr hkg hk HC
        have HVr := hid (HV.out.keep0 hEr)
        have HE := hid (HE1.out.trans hEr)
        have hmod : (h : Int).tmod (k : Int) = ((h % k : Nat) : Int) := by rw [Int.tmod_eq_emod_of_nonneg (by omega)]; norm_cast
        have K3 := told_any (h % k) k L 0 hlm wr
        have hml : h % k < k := Nat.mod_lt _ hpos
        have HAtk : Hid (∀ x, x < k → ∀ W, (Calls Try.prog 11 #[.int .u64 h, .int .i64 k, .int .i64 x] W (fun e w' => e = .returned (.tuple #[.int .i64 (pl h k x), .int .i64 0]) ∧ w' = W)) ∧ Calls Try.prog 13 #[.int .u64 h, .int .i64 k, .int .i64 (pl h k x)] W (SayPost W (.tuple #[.int .i64 x, .int .i64 0]))) :=
          fun x hx W => ⟨at_ok h k x HG.out hx W, place_ok h k (pl h k x) x HG.out hx rfl W⟩
        clear hEr hlm HV HE1 HLM HG
        generalize h % k = hr at *
        go_wp2_with fail
        refine K3.mono ?_
        clear K3 hmod
        rintro e w3 ⟨v3, rfl, hv3, _, hE3⟩
        obtain ⟨a3, c3, rfl, _⟩ := own_slice hv3
        have HV3 := hid (HVr.out.keep0 hE3)
        have HE3 := hid (HE.out.trans hE3)
        rw [HSL.out] at hv3 ⊢
        have K4 := sameInts_true _ a3 k cv c3 (L.map fun x => ((x : Nat) : Int)) w3 (lst_is HV3.out) (lst_is hv3) (by simp [HSL.out]) (by omega)
        clear hv3 hE3 HVr HE
        go_wp2_with fail
        refine K4.mono ?_
        clear K4
        rintro e w4 ⟨rfl, hE4⟩
        have HV4 := hid (HV3.out.keep0 hE4)
        have HE4 := hid (HE3.out.trans hE4)
        clear hE4 HV3 HE3
        by_cases hi : 0 ≤ i ∧ i < k
        · obtain ⟨x, rfl⟩ : ∃ x : Nat, i = x := ⟨i.toNat, by omega⟩
          have hx : x < k := by omega
          have hxk : ¬ ((k : Int) ≤ (x : Int)) := by omega
          obtain ⟨K5, K6⟩ := HAtk.out x hx w4
          have HX := hid (HLA.out x hx)
          clear hi HAtk HLA
          generalize pl h k x = y at *
          go_wp2_with fail
          refine met K5 ?_
          clear K5
          go_wp2_with fail
          refine K6.mono ?_
          clear K6
          rintro e w5 ⟨rfl, hE5⟩
          have hv5 := HV4.out.keep0 hE5
          have HE5 := hid (HE4.out.trans hE5)
          obtain ⟨b5, o5, e5, hc5⟩ := lst_cell hv5 HX.out
          cases e5
          clear hv5 hE5 HX
          go_wp2_with fail
          go_ret
          exact ⟨rfl, HE5.out⟩
        · have hcase : i < 0 ∨ (¬ i < 0 ∧ (k : Int) ≤ i) := by omega
          clear hi HAtk HLA
          rcases hcase with h0 | ⟨h0, h1⟩
          · go_wp2_with fail
            go_ret
            exact ⟨rfl, HE4.out⟩
          · go_wp2_with fail
            go_ret
            exact ⟨rfl, HE4.out⟩
  · have hL : ordL h G [] 2 := .inr ⟨hG, rfl, rfl⟩
    have K1 := told_any h G _ 2 hL w
    clear hL
    go_enter Try.func4, Try.ntmps4
    go_wp2_with fail
    refine met KA ?_
    clear KA
    go_wp2_with fail
    refine K1.mono ?_
    clear K1
    rintro e w1 ⟨v, rfl, hv, _, hE1⟩
    obtain ⟨av, cv, rfl, _⟩ := own_slice hv
    have K2 := groups_any G false (by simp [hG]) w1
    have HE1 := hid hE1
    clear hv hE1 hG
    go_wp2_with fail
    refine met K2 ?_
    clear K2
    go_wp2
    go_ret
    exact ⟨rfl, HE1.out⟩
end Go.Proofs.Ytljflcjlmgnjjaa
