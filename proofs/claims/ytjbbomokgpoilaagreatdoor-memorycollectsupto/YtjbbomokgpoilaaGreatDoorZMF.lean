/-
  MSet, MInfo: joined by program; no statement is proved here.
-/
import Derived.Test.YtjbbomokgpoilaaGreatDoorZME
import Derived.Test.YtjbbomokgpoilaaGreatDoorZHE
/-
  Get, Ptrs and Set of a memory; no statement is proved here.
-/
namespace Go.Proofs.YtjbbomokgpoilaaGreatDoor
open Go.RowKit

/-- What Get answers. -/
def getV (M : Ms) (a i : Int) : Value := if partE M a i = 0 then ldV M.H (a + i * 8) else .tuple #[.int .u64 0, .int .i64 (partE M a i)]
theorem ldV_form (H : Hs) (a : Int) : ∃ x e, ldV H a = .tuple #[.int .u64 x, .int .i64 e] := by
  unfold ldV; split
  · exact ⟨_, _, rfl⟩
  · exact ⟨_, _, rfl⟩

section
variable {w : World} {p : Nat} {M : Ms} {Z : Nat → Prop}

theorem mget_any (h : Mw w p M Z) {b : Nat} (hk : Mk M b) (a i : Int) (hi : I64 a) : Calls Tryz.prog 10 #[.pointer (some ⟨p, 0, none⟩), .int .i64 a, .int .i64 i] w (SayPost w (getV M a i)) := by
  have HL : Hid (∀ u, Ext [] w u → ∀ x, Calls Tryz.prog 39 #[.pointer (some ⟨p, 7, none⟩), .int .i64 x] u (fun e w' => e = .returned (ldV M.H x) ∧ Ext [] u w')) := fun u hu x => by
    obtain ⟨X, cs, cl, bo, ba, fo, h1, h2⟩ := h.keep0 hu
    obtain ⟨ag, og, V, sb, O, h3⟩ := h1.h
    exact (hload_any x u h3).mono (fun e w' hq => qt_ext hq)
  obtain ⟨X, cs, cl, bo, ba, fo, h1, h2⟩ := h
  have K := mpart_any h1 hk.iv.len a i hi
  unfold getV pV at *
  rcases partE_vals M a i with e | e | e
  · obtain ⟨o, ho, hi0, hi1⟩ := partE_ok e
    obtain ⟨g, e1, _, _, _, hsl, hob, _⟩ := fV_some h1 ho
    have hab := hk.ob a o hob
    rw [e, e1] at K
    rw [e]
    simp only [if_true] at K ⊢
    unfold moV at K
    have K2 := fun u hu => HL.out u hu (a + i * 8)
    obtain ⟨x, er, hxv⟩ := ldV_form M.H (a + i * 8)
    rw [hxv] at K2 ⊢
    clear h1 h2 hk ho e e1 hob HL hxv
    go_enter Tryz.func10, Tryz.ntmps10
    go_wp2_with fail
    refine K.mono ?_
    clear K
    rintro e w1 ⟨rfl, hE⟩
    have K3 := K2 _ (hE.trans (Ext.alloc [] w1 (.cells #[.int .i64 o.nd, .slice (some ⟨g, 0, none⟩) o.sl.length o.sl.length] 89)))
    have HE := hid (hE.trans (Ext.alloc [] w1 (.cells #[.int .i64 o.nd, .slice (some ⟨g, 0, none⟩) o.sl.length o.sl.length] 89)))
    clear hE K2
    go_wp2_with fail
    refine K3.mono ?_
    clear K3
    rintro e w2 ⟨rfl, hE⟩
    have HE2 := hid (HE.out.trans hE)
    clear hE HE
    go_wp2_with fail
    go_ret2
    exact ⟨rfl, HE2.out⟩
  all_goals
    rw [e] at K ⊢
    simp only [show ¬ (4 : Int) = 0 by decide, show ¬ (5 : Int) = 0 by decide, if_false] at K ⊢
    unfold moZ at K
    clear h1 h2 hk e HL
    go_enter Tryz.func10, Tryz.ntmps10
    go_wp2_with (first | (go_at_call 38; refine K.mono ?_; clear K; rintro e w1 ⟨rfl, hE⟩; have HE := hid hE; clear hE) | fail "no arm")
    go_ret2
    exact ⟨rfl, HE.out.trans (Ext.alloc _ _ _)⟩

/-! ### which words are pointers -/

def ptrsF (sl : List Int) : List Bool := sl.map (fun s => s != -1)
/-- A list of bools of its own. -/
def BlPost (w : World) (L : List Bool) (e : Ending) (w' : World) : Prop :=
  ∃ g, e = .returned (.slice (some ⟨g, 0, none⟩) L.length L.length) ∧ w'.heap[g]? = some (.cells (L.map Value.bool).toArray 4 (0, 0)) ∧ w.heap.size ≤ g ∧ Ext [] w w'

def ptR (sl : List Int) (k : Nat) : List Value := (ptrsF (sl.take k)).map Value.bool ++ List.replicate (sl.length - k) (.bool false)
theorem ptrsF_succ (sl : List Int) {k : Nat} (h : k < sl.length) : ptrsF (sl.take (k + 1)) = ptrsF (sl.take k) ++ [sl.getD k 0 != -1] := by
  unfold ptrsF
  rw [List.take_add_one, List.map_append, List.getElem?_eq_getElem h]
  simp [List.getD, h]
theorem ptR_set (sl : List Int) {k : Nat} (h : k < sl.length) : (ptR sl k).set k (.bool (sl.getD k 0 != -1)) = ptR sl (k + 1) := by
  have hl : ((ptrsF (sl.take k)).map Value.bool).length = k := by simp [ptrsF]; omega
  obtain ⟨m, hm⟩ : ∃ m, sl.length - k = m + 1 := ⟨sl.length - k - 1, by omega⟩
  have hm2 : sl.length - (k + 1) = m := by omega
  unfold ptR
  rw [ptrsF_succ sl h, hm, hm2, List.set_append_right _ _ (by omega), hl, Nat.sub_self, List.replicate_succ, List.set_cons_zero, List.map_append, List.append_assoc]
  rfl
theorem ptR_len (sl : List Int) {k : Nat} (h : k ≤ sl.length) : (ptR sl k).length = sl.length := by simp [ptR, ptrsF]; omega

set_option maxRecDepth 100000 in
set_option maxHeartbeats 1000000 in
theorem ptrs_any (w : World) (nd : Int) (g n : Nat) (sl : List Int) (hr : w.heap[g]? = some (.cells (sl.map (Value.int .i64)).toArray 3 (0, 0))) (hn : sl.length = n) (hb : n ≤ 8192) : Calls Tryz.prog 41 #[.agg #[.int .i64 nd, .slice (some ⟨g, 0, none⟩) n n]] w (BlPost w (ptrsF sl)) := by
  obtain ⟨i, hi, hz0, hz1, hz2⟩ := Co.info_parts Co.info4
  obtain ⟨wa, hwa⟩ : ∃ wa, wa = w.alloc (.cells #[.int .i64 nd, .slice (some ⟨g, 0, none⟩) n n] 89) := ⟨_, rfl⟩
  have hr1 := run_make (P := Tryz.prog) wa 26 4 i _ Tryz.underlying26 hi hz0 .i64 .i64 n n (by omega) (Int.le_refl _) (by rw [hz2]; omega) (by omega)
  rw [hz1] at hr1
  simp only [Int.toNat_natCast] at hr1
  have hm : madeCells (Value.bool false).cells (n * 1) = (ptR sl 0).toArray := by
    apply Array.toList_inj.1
    rw [show (Value.bool false).cells = #[.bool false] from rfl, toList_madeCells_one]
    simp [ptR, ptrsF, hn]
  rw [hm] at hr1
  have hEa : Ext [] w wa := by rw [hwa]; exact Ext.alloc _ _ _
  have hba : wa.heap[w.heap.size]? = some (.cells #[.int .i64 nd, .slice (some ⟨g, 0, none⟩) n n] 89 (0, 0)) := by rw [hwa]; exact heap_alloc_new _ _
  have hsz : wa.heap.size = w.heap.size + 1 := by rw [hwa]; simp
  have HR0 : Hid ((wa.alloc (.cells (ptR sl 0).toArray 4)).heap[wa.heap.size]? = some (.cells (ptR sl 0).toArray 4 (0, 0)) ∧ Ext [] wa (wa.alloc (.cells (ptR sl 0).toArray 4))) := ⟨heap_alloc_new _ _, Ext.alloc _ _ _⟩
  have HW : Hid (∀ u, Ext [] wa u → u.cell? ⟨w.heap.size, 0, none⟩ = some (.int .i64 nd) ∧ u.cell? ⟨w.heap.size, 1, none⟩ = some (.slice (some ⟨g, 0, none⟩) n n) ∧ (∀ j, j < sl.length → u.cell? ⟨g, j, none⟩ = some (.int .i64 (sl.getD j 0))) ∧ Ext [] w u) := fun u hu => by
    have h1 := hu.keep hba (by simp)
    refine ⟨by rw [cell_of_row _ _ _ _ _ _ h1]; rfl, by rw [cell_of_row _ _ _ _ _ _ h1]; rfl, fun j hj => ?_, hEa.trans hu⟩
    rw [cell_of_row _ _ _ _ _ _ ((hEa.trans hu).keep hr (by simp))]
    simp [hj]
  obtain ⟨c0, c1, _, _⟩ := HW.out wa (Ext.refl _ _)
  have HN := hid hn
  have HSZ := hid hsz
  clear hm hi hz0 hz1 hz2 i hn hEa hba hr hsz
  generalize hX : (ptR sl 0).toArray = X0 at hr1 HR0
  have HX := hid hX
  clear hX
  go_enter Tryz.func41, Tryz.ntmps41
  go_upto_region 1 with fail
  rw [← hwa]
  clear hwa
  obtain ⟨wb, hwb⟩ : ∃ wb, wb = wa.alloc (.cells X0 4) := ⟨_, rfl⟩
  rw [← hwb] at hr1 HR0
  obtain ⟨d0, d1, _, _⟩ := HW.out wb HR0.out.2
  clear hwb
  go_wp2_with fail
  go_loopw [13] (fun q wr => ∃ (k : Nat), q = .int .i64 k ∧ k ≤ n ∧ wr.heap[wa.heap.size]? = some (.cells (ptR sl k).toArray 4 (0, 0)) ∧ Ext [] wa wr) (fun q _ => (n - (intOf q)).toNat)
  case atStart => exact ⟨0, rfl, Nat.zero_le _, by rw [HX.out]; exact HR0.out.1, HR0.out.2⟩
  case round =>
    obtain ⟨k, rfl, hk, hrow, hE⟩ := hrel
    have HRow := hid hrow
    have HE := hid hE
    obtain ⟨f0, f1, hcells, _⟩ := HW.out wr hE
    by_cases hlt : k < n
    · have hkl : k < sl.length := by have := HN.out; omega
      have hcell := hcells k hkl
      have hrl := ptR_len sl (Nat.le_of_lt hkl)
      have hck : ∃ v, wr.cell? ⟨wa.heap.size, k, none⟩ = some v := by
        rw [cell_of_row _ _ _ _ _ _ hrow]
        exact ⟨(ptR sl k)[k]'(by omega), by simp⟩
      obtain ⟨vk, hck⟩ := hck
      have hfz : wr.frozen? ⟨wa.heap.size, k, none⟩ = false := frozen_of_row _ _ _ _ _ hrow
      have HA : Hid ((wr.setCell ⟨wa.heap.size, k, none⟩ (.bool (sl.getD k 0 != -1))).heap[wa.heap.size]? = some (.cells (ptR sl (k + 1)).toArray 4 (0, 0)) ∧ Ext [] wa (wr.setCell ⟨wa.heap.size, k, none⟩ (.bool (sl.getD k 0 != -1)))) := by
        refine ⟨?_, HE.out.on (Ext.setCell [wa.heap.size] _ _ _ (by simp)) (by simp)⟩
        rw [heap_setCell_same _ _ _ _ _ _ HRow.out, ← ptR_set sl hkl]
        simp
      clear hrow hE hkl hrl HRow HE hcells
      generalize sl.getD k 0 = x at *
      generalize hxb : (x != -1) = xb at *
      go_wp2_with fail
      go_roundw
      case rel => exact ⟨k + 1, by go_num, by omega, HA.out.1, HA.out.2⟩
      case measure => simp [intOf]; omega
    · obtain rfl : k = n := by omega
      clear hrow hE hcells
      have hQ : (ptR sl k) = (ptrsF sl).map Value.bool ∧ (ptrsF sl).length = k := by
        have := HN.out
        unfold ptR
        rw [List.take_of_length_le (by omega), show sl.length - k = 0 by omega]
        simp [ptrsF]; omega
      have HQ := hid hQ
      clear hQ
      go_wp2_with fail
      go_ret
      refine ⟨wa.heap.size, by rw [HQ.out.2]; rfl, by rw [← HQ.out.1]; exact HRow.out, by rw [HSZ.out]; omega, (HW.out wr HE.out).2.2.2⟩

/-- What Ptrs answers. -/
def PtPost (w : World) (r : Option Mo) (e : Ending) (w' : World) : Prop := Ext [] w w' ∧ match r with
  | none => e = .returned (.tuple #[.slice none 0 0, .int .i64 4])
  | some o => ∃ g, e = .returned (.tuple #[.slice (some ⟨g, 0, none⟩) (ptrsF o.sl).length (ptrsF o.sl).length, .int .i64 0]) ∧ w'.heap[g]? = some (.cells ((ptrsF o.sl).map Value.bool).toArray 4 (0, 0)) ∧ w.heap.size ≤ g

theorem mptrs_any (h : Mw w p M Z) {b : Nat} (hk : Mk M b) (a : Int) (hi : I64 a) : Calls Tryz.prog 11 #[.pointer (some ⟨p, 0, none⟩), .int .i64 a] w (PtPost w (fndM M a)) := by
  obtain ⟨X, cs, cl, bo, ba, fo, h1, h2⟩ := h
  have K := mfind_any h1 hk.iv.len a hi
  cases hf : fndM M a with
  | none =>
    obtain ⟨e1, e2⟩ := fV_none (fo := fo) hf
    rw [e1, e2] at K
    unfold moZ at K
    clear h1 h2 hk hf e1 e2
    go_enter Tryz.func11, Tryz.ntmps11
    go_wp2_with (first | (go_at_call 40; refine K.mono ?_; clear K; rintro e w1 ⟨rfl, hE⟩; have HE := hid hE; clear hE) | fail "no arm")
    go_ret2
    exact ⟨HE.out.trans (Ext.alloc _ _ _), rfl⟩
  | some o =>
    obtain ⟨g, e1, e2, hrow, _, hsl, _, _⟩ := fV_some h1 hf
    rw [e1, e2] at K
    unfold moV at K
    have HK : Hid (∀ u, Ext [] w u → Calls Tryz.prog 41 #[.agg #[.int .i64 o.nd, .slice (some ⟨g, 0, none⟩) o.sl.length o.sl.length]] u (BlPost u (ptrsF o.sl))) := fun u hu => ptrs_any u o.nd g _ o.sl (hu.keep hrow (by simp)) rfl hsl
    clear h1 h2 hk hf e1 e2 hrow hsl
    go_enter Tryz.func11, Tryz.ntmps11
    go_wp2_with fail
    refine K.mono ?_
    clear K
    rintro e w1 ⟨rfl, hE⟩
    have HE := hid (hE.trans (Ext.alloc [] w1 (.cells #[.int .i64 o.nd, .slice (some ⟨g, 0, none⟩) o.sl.length o.sl.length] 89)))
    have K2 := HK.out _ HE.out
    clear hE HK
    go_wp2_with fail
    refine K2.mono ?_
    clear K2
    rintro e w2 ⟨g2, rfl, hb2, hg2, hE2⟩
    have HF := hid (And.intro hb2 (And.intro (Nat.le_trans HE.out.size hg2) (HE.out.trans hE2)))
    clear hb2 hg2 hE2 HE
    go_wp2_with fail
    go_ret2
    exact ⟨HF.out.2.2, g2, rfl, HF.out.1, HF.out.2.1⟩

/-! ### Set -/

def pointM (M : Ms) (nd s v : Int) : Ms × Int := if v = 0 then ({ M with G := (Co.set M.G nd s (-1)).1 }, (Co.set M.G nd s (-1)).2) else if 1048576 < v then (M, 4) else match fndM M v with
  | none => (M, 4)
  | some t => ({ M with G := (Co.set M.G nd s t.nd).1 }, (Co.set M.G nd s t.nd).2)

theorem mgset (h : Mw w p M Z) (hI : Co.Iv M.G) (n j x : Int) : Calls Tryz.prog 83 #[.pointer (some ⟨p, 0, none⟩), .int .i64 n, .int .i64 j, .int .i64 x] w (MPost w p { M with G := (Co.set M.G n j x).1 } Z (.int .i64 (Co.set M.G n j x).2)) :=
  mgraph h (fun X B _ hG => by have K := Co.set_any p _ B n j x w hG (hI.wx X); rw [Co.set_wx] at K; exact K)

set_option maxHeartbeats 1000000 in
theorem point_any (h : Mw w p M Z) {b : Nat} (hk : Mk M b) (nd s v : Int) (hv : 0 ≤ v ∧ v < 18446744073709551616) : Calls Tryz.prog 47 #[.pointer (some ⟨p, 0, none⟩), .int .i64 nd, .int .i64 s, .int .u64 v] w (MPost w p (pointM M nd s v).1 Z (.int .i64 (pointM M nd s v).2)) := by
  have HS : Hid (∀ u, Ext [] w u → ∀ x, Calls Tryz.prog 83 #[.pointer (some ⟨p, 0, none⟩), .int .i64 nd, .int .i64 s, .int .i64 x] u (MPost u p { M with G := (Co.set M.G nd s x).1 } (fun k => Z k ∧ k < w.heap.size) (.int .i64 (Co.set M.G nd s x).2))) := fun u hu x => mgset (h.there.keep0 hu) hk.iv nd s x
  have HM := hid h
  unfold pointM
  by_cases h0 : v = 0
  · subst h0
    rw [if_pos rfl]
    have K := HS.out w (Ext.refl _ _) (-1)
    clear hk h HS
    generalize Co.set M.G nd s (-1) = r at *
    go_enter Tryz.func47, Tryz.ntmps47
    go_wp2_with (first | (go_at_call 83; refine K.mono ?_; clear K; rintro e w1 hp; have he := hp.1; subst he; have HP := hid hp; clear hp) | fail "no arm")
    go_ret
    exact HP.out.mono (fun k hk => hk.1)
  · rw [if_neg h0]
    have b0 : (v == 0) = false := by simpa using h0
    by_cases h1 : 1048576 < v
    · rw [if_pos h1]
      have d1 : decide (v > 1048576) = true := by simpa using h1
      clear hk h HS
      go_enter Tryz.func47, Tryz.ntmps47
      go_wp2_with fail
      go_ret
      exact MPost.refl HM.out (Ext.refl _ _) _
    · rw [if_neg h1]
      have d1 : decide (v > 1048576) = false := by simpa using h1
      have hw : IntKind.i64.wrap v = v := by rw [IntKind.wrap_i64]; omega
      obtain ⟨X, cs, cl, bo, ba, fo, g1, g2⟩ := h
      have K := mfind_any g1 hk.iv.len v (by unfold I64; omega)
      cases hf : fndM M v with
      | none =>
        obtain ⟨e1, e2⟩ := fV_none (fo := fo) hf
        rw [e1, e2] at K
        unfold moZ at K
        clear g1 g2 hk hf e1 e2 HS
        go_enter Tryz.func47, Tryz.ntmps47
        go_wp2_with (first | (go_at_call 40; refine K.mono ?_; clear K; rintro e w1 ⟨rfl, hE⟩; have HE := hid hE; clear hE) | fail "no arm")
        go_ret
        exact MPost.refl HM.out (HE.out.trans (Ext.alloc _ _ _)) _
      | some t =>
        obtain ⟨g, e1, e2, _, _, hsl, _, _⟩ := fV_some g1 hf
        rw [e1, e2] at K
        unfold moV at K
        have HS2 : Hid (∀ u, Ext [] w u → Calls Tryz.prog 83 #[.pointer (some ⟨p, 0, none⟩), .int .i64 nd, .int .i64 s, .int .i64 t.nd] u (MPost u p { M with G := (Co.set M.G nd s t.nd).1 } (fun k => Z k ∧ k < w.heap.size) (.int .i64 (Co.set M.G nd s t.nd).2))) := fun u hu => HS.out u hu t.nd
        clear g1 g2 hk hf e1 e2 HS HM
        simp only
        generalize Co.set M.G nd s t.nd = r at *
        go_enter Tryz.func47, Tryz.ntmps47
        go_wp2_with fail
        refine K.mono ?_
        clear K
        rintro e w1 ⟨rfl, hE⟩
        obtain ⟨w2, hw2⟩ : ∃ w2, w2 = w1.alloc (.cells #[.int .i64 t.nd, .slice (some ⟨g, 0, none⟩) t.sl.length t.sl.length] 89) := ⟨_, rfl⟩
        have hE2 : Ext [] w w2 := by rw [hw2]; exact hE.trans (Ext.alloc _ _ _)
        have hb2 : w2.heap[w1.heap.size]? = some (.cells #[.int .i64 t.nd, .slice (some ⟨g, 0, none⟩) t.sl.length t.sl.length] 89 (0, 0)) := by rw [hw2]; exact heap_alloc_new _ _
        have hw1 : w.heap.size ≤ w1.heap.size := hE.size
        have c0 : w2.cell? ⟨w1.heap.size, 0, none⟩ = some (.int .i64 t.nd) := by rw [cell_of_row _ _ _ _ _ _ hb2]; rfl
        go_wp2_with fail
        rw [← hw2]
        have HC : Hid (∀ u w3, Ext [] w2 u → MPost u p { M with G := r.1 } (fun k => Z k ∧ k < w.heap.size) (.int .i64 r.2) (.returned (.int .i64 r.2)) w3 → w3.cell? ⟨w1.heap.size, 0, none⟩ = some (.int .i64 t.nd) ∧ MPost w p { M with G := r.1 } Z (.int .i64 r.2) (.returned (.int .i64 r.2)) w3) := fun u w3 hu hp => by
          refine ⟨hp.2.2.cell (hu.cell c0 (by simp)) (fun q => by simp only at q; omega), rfl, hp.2.1.mono (fun k hk => ?_), (Fx.of_ext0 (hE2.trans hu)).trans hp.2.2 (fun k hk => .inl hk.1)⟩
          rcases hk with q | q
          · exact .inl q.1
          · exact .inr (Nat.le_trans (hE2.trans hu).size q)
        have HK : Hid (∀ u, Ext [] w2 u → Calls Tryz.prog 83 #[.pointer (some ⟨p, 0, none⟩), .int .i64 nd, .int .i64 s, .int .i64 t.nd] u (fun e w3 => e = .returned (.int .i64 r.2) ∧ w3.cell? ⟨w1.heap.size, 0, none⟩ = some (.int .i64 t.nd) ∧ MPost w p { M with G := r.1 } Z (.int .i64 r.2) (.returned (.int .i64 r.2)) w3)) := fun u hu => (HS2.out u (hE2.trans hu)).mono (fun e w3 hp => by
          have he := hp.1
          subst he
          exact ⟨rfl, HC.out u w3 hu hp⟩)
        have K := HK.out w2.drew (Ext.drew _ _)
        clear hE hE2 hb2 hw2 HS2 HC HK
        go_region_held3 (fun u => u.cell? ⟨w1.heap.size, 0, none⟩ = some (.int .i64 t.nd)) (go_keep)
          (first | (go_at_call 83; refine K.mono ?_; clear K; rintro e w3 ⟨rfl, c3, hp⟩; have HP := hid hp; clear hp) | fail "no arm")
        go_wp2_with fail
        go_ret
        exact HP.out

/-- What Set leaves, and answers. -/
def setM (M : Ms) (a i v : Int) : Ms × Int := match fndM M a with
  | none => (M, 4)
  | some o => if i < 0 ∨ (o.sl.length : Int) ≤ i then (M, 5) else
    if o.sl.getD i.toNat 0 = -1 then ({ M with H := putH M.H (a + i * 8) 8 (byteOf v) }, witE M.H (a + i * 8) 8)
    else if (pointM M o.nd (o.sl.getD i.toNat 0) v).2 ≠ 0 then pointM M o.nd (o.sl.getD i.toNat 0) v
    else ({ (pointM M o.nd (o.sl.getD i.toNat 0) v).1 with H := putH (pointM M o.nd (o.sl.getD i.toNat 0) v).1.H (a + i * 8) 8 (byteOf v) }, witE (pointM M o.nd (o.sl.getD i.toNat 0) v).1.H (a + i * 8) 8)

theorem mhstore (h : Mw w p M Z) (a v : Int) (hv : 0 ≤ v ∧ v < 18446744073709551616) : Calls Tryz.prog 48 #[.pointer (some ⟨p, 7, none⟩), .int .i64 a, .int .u64 v] w (MPost w p { M with H := putH M.H a 8 (byteOf v) } Z (.int .i64 (witE M.H a 8))) :=
  mheap h (fun cs F hH => by
    obtain ⟨ag, og, V, sb, O, h3⟩ := hH
    exact hstore_any a v hv w h3)

set_option maxHeartbeats 2000000 in
theorem mset_any (h : Mw w p M Z) {b : Nat} (hk : Mk M b) (a i v : Int) (hi : I64 a) (hv : 0 ≤ v ∧ v < 18446744073709551616) : Calls Tryz.prog 14 #[.pointer (some ⟨p, 0, none⟩), .int .i64 a, .int .i64 i, .int .u64 v] w (MPost w p (setM M a i v).1 Z (.int .i64 (setM M a i v).2)) := by
  have HM := hid h
  have HSt : Hid (∀ u M' V, Mw u p M' V → Calls Tryz.prog 48 #[.pointer (some ⟨p, 7, none⟩), .int .i64 (a + i * 8), .int .u64 v] u (MPost u p { M' with H := putH M'.H (a + i * 8) 8 (byteOf v) } V (.int .i64 (witE M'.H (a + i * 8) 8)))) := fun u M' V hm => mhstore hm _ v hv
  have HPt : Hid (∀ u nd s, Ext [] w u → Calls Tryz.prog 47 #[.pointer (some ⟨p, 0, none⟩), .int .i64 nd, .int .i64 s, .int .u64 v] u (MPost u p (pointM M nd s v).1 Z (.int .i64 (pointM M nd s v).2))) := fun u nd s hu => point_any (h.keep0 hu) hk nd s v hv
  have h' := h
  obtain ⟨X, cs, cl, bo, ba, fo, g1, g2⟩ := h
  have K := mpart_any g1 hk.iv.len a i hi
  unfold setM
  cases hf : fndM M a with
  | none =>
    have e3 : partE M a i = 4 := by unfold partE; rw [hf]
    have e4 : pV M fo a i = moZ := by unfold pV; rw [e3]; rfl
    rw [e3, e4] at K
    unfold moZ at K
    clear g1 g2 hk hf e3 e4 h' HSt HPt
    go_enter Tryz.func14, Tryz.ntmps14
    go_wp2_with (first | (go_at_call 38; refine K.mono ?_; clear K; rintro e w1 ⟨rfl, hE⟩; have HE := hid hE; clear hE) | fail "no arm")
    go_ret
    exact MPost.refl HM.out (HE.out.trans (Ext.alloc _ _ _)) _
  | some o =>
    simp only
    by_cases hc : i < 0 ∨ (o.sl.length : Int) ≤ i
    · have e3 : partE M a i = 5 := by unfold partE; rw [hf]; simp only; rw [if_pos hc]
      have e4 : pV M fo a i = moZ := by unfold pV; rw [e3]; rfl
      rw [e3, e4] at K
      rw [if_pos hc]
      unfold moZ at K
      clear g1 g2 hk hf e3 e4 h' HSt HPt hc
      go_enter Tryz.func14, Tryz.ntmps14
      go_wp2_with (first | (go_at_call 38; refine K.mono ?_; clear K; rintro e w1 ⟨rfl, hE⟩; have HE := hid hE; clear hE) | fail "no arm")
      go_ret
      exact MPost.refl HM.out (HE.out.trans (Ext.alloc _ _ _)) _
    · rw [if_neg hc]
      have e3 : partE M a i = 0 := by unfold partE; rw [hf]; simp only; rw [if_neg hc]
      obtain ⟨g, e1, _, hrow, _, hsl, hob, _⟩ := fV_some g1 hf
      have e4 : pV M fo a i = moV o g := by unfold pV; rw [e3, if_pos rfl, e1]
      have hab := hk.ob a o hob
      rw [e3, e4] at K
      unfold moV at K
      obtain ⟨j, rfl⟩ : ∃ j : Nat, i = j := ⟨i.toNat, by omega⟩
      have hjl : j < o.sl.length := by omega
      simp only [Int.toNat_natCast]
      have HW : Hid (∀ w1, Ext [] w w1 → Ext [] w (w1.alloc (.cells #[.int .i64 o.nd, .slice (some ⟨g, 0, none⟩) o.sl.length o.sl.length] 89)) ∧ (w1.alloc (.cells #[.int .i64 o.nd, .slice (some ⟨g, 0, none⟩) o.sl.length o.sl.length] 89)).cell? ⟨g, j, none⟩ = some (.int .i64 (o.sl.getD j 0))) := fun w1 hE => by
        have hE2 := hE.trans (Ext.alloc [] w1 (.cells #[.int .i64 o.nd, .slice (some ⟨g, 0, none⟩) o.sl.length o.sl.length] 89))
        refine ⟨hE2, ?_⟩
        rw [cell_of_row _ _ _ _ _ _ (hE2.keep hrow (by simp))]
        simp [hjl]
      clear g1 g2 hk hf e1 e3 e4 hrow hob hc
      generalize o.sl.getD j 0 = s at *
      generalize o.sl.length = sn at *
      generalize o.nd = nd at *
      by_cases hs : s = -1
      · rw [if_pos hs]
        have b1 : (s != -1) = false := by simp [hs]
        go_enter Tryz.func14, Tryz.ntmps14
        go_wp2_with fail
        refine K.mono ?_
        clear K
        rintro e w1 ⟨rfl, hE⟩
        obtain ⟨hE2, c1⟩ := HW.out w1 hE
        have HE := hid hE2
        have K2 := HSt.out _ M Z (h'.keep0 hE2)
        clear hE hE2 HW HSt HPt h'
        go_wp2_with fail
        refine K2.mono ?_
        clear K2
        rintro e w2 hp
        have he := hp.1
        subst he
        have HP := hid ((MPost.refl HM.out HE.out (.tuple #[])).then (hp.mono (fun k hk => .inl hk)))
        clear hp HM HE
        go_wp2_with fail
        go_ret
        exact HP.out
      · rw [if_neg hs]
        have b1 : (s != -1) = true := by simpa using hs
        have HPt := hid (fun u hu => HPt.out u nd s hu)
        generalize pointM M nd s v = r at *
        by_cases he : r.2 = 0
        · rw [if_neg (by simpa using he)]
          have b2 : (r.2 != 0) = false := by simpa using he
          go_enter Tryz.func14, Tryz.ntmps14
          go_wp2_with fail
          refine K.mono ?_
          clear K
          rintro e w1 ⟨rfl, hE⟩
          obtain ⟨hE2, c1⟩ := HW.out w1 hE
          have HE := hid hE2
          have K2 := HPt.out _ hE2
          clear hE hE2 HW HPt h'
          go_wp2_with fail
          refine K2.mono ?_
          clear K2
          rintro e w2 hp
          have he := hp.1
          subst he
          have HP := hid ((MPost.refl HM.out HE.out (.tuple #[])).then (hp.mono (fun k hk => .inl hk)))
          clear hp HM HE
          have K3 := HSt.out w2 r.1 _ HP.out.2.1
          clear HSt
          go_wp2_with fail
          refine K3.mono ?_
          clear K3
          rintro e w3 hp
          have he := hp.1
          subst he
          have HP2 := hid (HP.out.then hp)
          clear hp HP
          go_wp2_with fail
          go_ret
          exact HP2.out
        · rw [if_pos he]
          have b2 : (r.2 != 0) = true := by simpa using he
          go_enter Tryz.func14, Tryz.ntmps14
          go_wp2_with fail
          refine K.mono ?_
          clear K
          rintro e w1 ⟨rfl, hE⟩
          obtain ⟨hE2, c1⟩ := HW.out w1 hE
          have HE := hid hE2
          have K2 := HPt.out _ hE2
          clear hE hE2 HW HPt h' HSt
          go_wp2_with fail
          refine K2.mono ?_
          clear K2
          rintro e w2 hp
          have he := hp.1
          subst he
          have HP := hid ((MPost.refl HM.out HE.out (.tuple #[])).then (hp.mono (fun k hk => .inl hk)))
          clear hp HM HE
          go_wp2_with fail
          go_ret
          exact HP.out

end

end Go.Proofs.YtjbbomokgpoilaaGreatDoor

/-
  What an object names; Info of a memory; no statement is proved here.
-/
namespace Go.Proofs.YtjbbomokgpoilaaGreatDoor
open Go.RowKit

def refsF (M : Ms) (L : List Int) : List Int := (L.filter (fun x => x != -1)).map (adrM M)
def refsM (M : Ms) (n : Int) : List Int := refsF M (Co.slV M.G n)
theorem refsF_succ (M : Ms) (L : List Int) {k : Nat} (h : k < L.length) : refsF M (L.take (k + 1)) = refsF M (L.take k) ++ if L.getD k 0 = -1 then [] else [adrM M (L.getD k 0)] := by
  unfold refsF
  rw [List.take_add_one, List.filter_append, List.map_append, List.getElem?_eq_getElem h]
  have hg : L.getD k 0 = L[k] := by simp [List.getD, h]
  rw [hg]
  by_cases e : L[k] = -1 <;> simp [e]
theorem refsF_len (M : Ms) (L : List Int) : (refsF M L).length ≤ L.length := by
  unfold refsF; rw [List.length_map]; exact List.length_filter_le _ _

section
variable {w : World} {p : Nat} {M : Ms} {Z : Nat → Prop}

set_option maxRecDepth 100000 in
set_option maxHeartbeats 2000000 in
theorem refs_any (h : Mw w p M Z) {b : Nat} (hk : Mk M b) (n : Int) : Calls Tryz.prog 43 #[.pointer (some ⟨p, 0, none⟩), .int .i64 n] w (Co.ClPost w (refsM M n)) := by
  have K : Calls Tryz.prog 76 #[.pointer (some ⟨p, 0, none⟩), .int .i64 n] w (Co.SlPost w (Co.slV M.G n) (Co.fl M.G n)) := by
    obtain ⟨X, cs, cl, bo, ba, fo, h1, h2⟩ := h
    exact Co.slots_any p (M.G.wx X) _ n w h1.g (hk.iv.wx X)
  have hLb : (Co.slV M.G n).length ≤ 8192 ∧ ∀ x ∈ Co.slV M.G n, I64 x := by
    unfold Co.slV
    split
    · rename_i hl
      have hl2 := (Co.lvB_iff.1 hl).2
      refine ⟨hk.iv.sl _, fun x hx => ?_⟩
      rcases hk.iv.cl _ hl2 x hx with e | e
      · rw [e]; unfold I64; omega
      · have h3 := Co.lvB_iff.1 e
        have h4 := Co.lvN_lt h3.2
        have := hk.iv.len
        unfold I64; omega
    · simp
  have HL : Hid (∀ u, Ext [] w u → ∃ ba, u.cell? ⟨p, 11, none⟩ = some (.map (some ba)) ∧ ∀ x, I64 x → (Instr.lookup 83 (.map (some ba)) (.int .i64 x) false).run Tryz.prog u = .ok (.int .i64 (adrM M x)) u) := fun u hu => by
    obtain ⟨X, cs, cl, bo, ba, fo, h1, h2⟩ := h.keep0 hu
    refine ⟨ba, h1.flds.2.1, fun x hx => ?_⟩
    have := h1.ma.look (t := 83) (e := 3) Tryz.underlying83 (z := .int .i64 0) (by exact Tryz.zeroValue3 _) hx false
    rw [this]
    unfold adrM
    cases M.ad x <;> simp
  unfold refsM
  have HFl : ∃ er, Co.fl M.G n = er := ⟨_, rfl⟩
  obtain ⟨er, her⟩ := HFl
  rw [her] at K
  clear h hk her
  generalize Co.slV M.G n = L at *
  obtain ⟨hLl, hLi⟩ := hLb
  have HLi := hid hLi
  clear hLi
  go_enter Tryz.func43, Tryz.ntmps43
  go_wp2_with fail
  refine K.mono ?_
  clear K
  rintro e w1 ⟨v, rfl, ho, hE⟩
  obtain ⟨va, vc, rfl, hI, _⟩ := own_is (l := L) ho
  have HI := hid hI
  have HE1 := hid (ext_co hE)
  clear ho hI hE
  generalize hn : L.length = ln at *
  have HN := hid hn
  clear hn
  go_wp2_with fail
  go_loopw [7, 20] (fun v q wr => ∃ (k : Nat), q = .int .i64 k ∧ k ≤ ln ∧ (∃ ad m d, v = .slice ad m d) ∧ wr.ownsRow w1.heap.size 3 1 v (refsF M (L.take k)).length (lI (refsF M (L.take k))) ∧ Ext [] w1 wr) (fun _ q _ => (ln - (intOf q)).toNat)
  case atStart => exact ⟨0, rfl, Nat.zero_le _, ⟨_, _, _, rfl⟩, own_nil _ _ _ _, Ext.refl _ _⟩
  case round =>
    obtain ⟨k, rfl, hk, ⟨ad, m, d, rfl⟩, hO, hE⟩ := hrel
    have HO := hid hO
    have HE := hid hE
    by_cases hlt : k < ln
    · have hkl : k < L.length := by have := HN.out; omega
      obtain ⟨b', o', rfl, hcell⟩ := Co.Is.cell (HI.out.keep0 (co_ext hE)) hkl
      have hS := refsF_succ M L hkl
      have hix := HLi.out _ (show L.getD k 0 ∈ L by simp [List.getD, hkl])
      obtain ⟨ba, f11, hlk⟩ := HL.out wr (HE1.out.trans hE)
      have hl := hlk _ hix
      have hrl := refsF_len M (L.take k)
      simp only [List.length_take] at hrl
      clear hO hE hlk hix
      generalize L.getD k 0 = x at *
      by_cases hx : x = -1
      · rw [if_pos hx, List.append_nil] at hS
        have b1 : (x != -1) = false := by simp [hx]
        have HS := hid hS
        clear hS hl hrl
        go_wp2_with fail
        go_roundw
        case rel => exact ⟨k + 1, by go_num, by omega, ⟨_, _, _, rfl⟩, by rw [HS.out]; exact HO.out, HE.out⟩
        case measure => simp [intOf]; omega
      · rw [if_neg hx] at hS
        have b1 : (x != -1) = true := by simpa using hx
        obtain ⟨v', w2, hr, ho2, hE2⟩ := app_int w1 wr HE.out (.slice ad m d) _ HO.out (adrM M x) 32 (by omega)
        obtain ⟨a2, c2, e2, _⟩ := own_slice ho2
        subst e2
        have HO2 : Hid (w2.ownsRow w1.heap.size 3 1 (.slice a2 (refsF M (L.take k) ++ [adrM M x]).length c2) (refsF M (L.take (k + 1))).length (lI (refsF M (L.take (k + 1))))) := by rw [hS]; exact ho2
        have HE2 := hid hE2
        clear ho2 hE2 hS HO HE hrl
        generalize (refsF M (L.take k) ++ [adrM M x]).length = nn at *
        go_wp2_with (first | (at_builtin; refine wpList_append_run rfl _ _ 32 rfl _ _ _ rfl rfl hr ?_) | fail "no arm")
        go_roundw
        case rel => exact ⟨k + 1, by go_num, by omega, ⟨_, _, _, rfl⟩, HO2.out, HE2.out⟩
        case measure => simp [intOf]; omega
    · obtain rfl : k = ln := by omega
      clear hO hE
      go_wp2_with fail
      go_ret
      have := HO.out
      rw [List.take_of_length_le (by have := HN.out; omega)] at this
      exact ⟨_, rfl, own_base this HE1.out.size, co_ext (HE1.out.trans HE.out)⟩

/-- What Info answers. -/
def InPost (w : World) (M : Ms) (a : Int) (e : Ending) (w' : World) : Prop := Ext [] w w' ∧ match fndM M a with
  | none => e = .returned (.tuple #[obV 0 0 0, .int .i64 4])
  | some o => ∃ v x s t er, e = .returned (.tuple #[.agg #[.int .i64 x, .int .i64 s, .int .i64 t, v], .int .i64 er]) ∧ infV M.H a (fnd M.H a) = .tuple #[obV x s t, .int .i64 er] ∧ w'.ownsRow w.heap.size 3 1 v (refsM M o.nd).length (lI (refsM M o.nd))
theorem infV_form (H : Hs) (a : Int) : ∃ x s t er, infV H a (fnd H a) = .tuple #[obV x s t, .int .i64 er] := by
  unfold infV
  split
  · split
    · exact ⟨_, _, _, _, rfl⟩
    · exact ⟨_, _, _, _, rfl⟩
  · exact ⟨_, _, _, _, rfl⟩

theorem set34v {w : World} {g : Nat} {c : Array Value} (h : w.heap[g]? = some (.cells c 34 (0, 0))) (hc : c.size = 4) (a s t : Int) (v : Value) :
    ((((w.setCell ⟨g, 0, none⟩ (.int .i64 a)).setCell ⟨g, 1, none⟩ (.int .i64 s)).setCell ⟨g, 2, none⟩ (.int .i64 t)).setCell ⟨g, 3, none⟩ v).heap[g]? = some (.cells #[.int .i64 a, .int .i64 s, .int .i64 t, v] 34 (0, 0)) := by
  rw [heap_setCell_same _ g 3 _ _ _ (heap_setCell_same _ g 2 _ _ _ (heap_setCell_same _ g 1 _ _ _ (heap_setCell_same _ g 0 _ _ _ h)))]
  congr 2
  apply Array.ext (by simpa using hc)
  intro i h1 h2
  rcases i with _ | _ | _ | _ | i
  · simp [hc]
  · simp [hc]
  · simp [hc]
  · simp
  · simp at h2; omega
theorem ext34v {w : World} {g : Nat} (a s t : Int) (v : Value) : Ext [g] w ((((w.setCell ⟨g, 0, none⟩ (.int .i64 a)).setCell ⟨g, 1, none⟩ (.int .i64 s)).setCell ⟨g, 2, none⟩ (.int .i64 t)).setCell ⟨g, 3, none⟩ v) :=
  (((Ext.setCell [g] w _ _ (by simp)).trans (Ext.setCell [g] _ _ _ (by simp))).trans (Ext.setCell [g] _ _ _ (by simp))).trans (Ext.setCell [g] _ _ _ (by simp))

set_option maxRecDepth 100000 in
set_option maxHeartbeats 2000000 in
theorem minfo_any (h : Mw w p M Z) {b : Nat} (hk : Mk M b) (a : Int) (hi : I64 a) : Calls Tryz.prog 12 #[.pointer (some ⟨p, 0, none⟩), .int .i64 a] w (InPost w M a) := by
  obtain ⟨wa, hwa⟩ : ∃ wa, wa = w.alloc (.cells #[.int .i64 0, .int .i64 0, .int .i64 0, .slice none 0 0] 34) := ⟨_, rfl⟩
  have hEa : Ext [] w wa := by rw [hwa]; exact Ext.alloc _ _ _
  have HB : Hid (∀ u, Ext [] wa u → u.heap[w.heap.size]? = some (.cells #[.int .i64 0, .int .i64 0, .int .i64 0, .slice none 0 0] 34 (0, 0)) ∧ Ext [] w u) := fun u hu => by
    refine ⟨hu.keep (by rw [hwa]; exact heap_alloc_new _ _) (by simp), hEa.trans hu⟩
  have hsz : wa.heap.size = w.heap.size + 1 := by rw [hwa]; simp
  have HI : Hid (∀ u, Ext [] wa u → Calls Tryz.prog 42 #[.pointer (some ⟨p, 7, none⟩), .int .i64 a] u (SayPost u (infV M.H a (fnd M.H a)))) := fun u hu => by
    obtain ⟨X, cs, cl, bo, ba, fo, h1, h2⟩ := (h.keep0 hEa).keep0 hu
    obtain ⟨ag, og, V, sb, O, h3⟩ := h1.h
    exact info_any a u h3
  have HR : Hid (∀ u n, Ext [] wa u → Calls Tryz.prog 43 #[.pointer (some ⟨p, 0, none⟩), .int .i64 n] u (Co.ClPost u (refsM M n))) := fun u n hu => refs_any ((h.keep0 hEa).keep0 hu) hk n
  obtain ⟨X, cs, cl, bo, ba, fo, h1, h2⟩ := h
  have K := mfind_any (h1.keep0 hEa) hk.iv.len a hi
  unfold InPost
  cases hf : fndM M a with
  | none =>
    obtain ⟨e1, e2⟩ := fV_none (fo := fo) hf
    rw [e1, e2] at K
    unfold moZ at K
    clear h1 h2 hk hf e1 e2 HI HR hEa hsz
    simp only
    unfold obV
    go_enter Tryz.func12, Tryz.ntmps12
    go_upto_region 1 with fail
    rw [← hwa]
    clear hwa
    go_wp2_with fail
    refine K.mono ?_
    clear K
    rintro e w1 ⟨rfl, hE⟩
    obtain ⟨hb, hE2⟩ := HB.out _ (hE.trans (Ext.alloc [] w1 (.cells #[.int .i64 0, .slice none 0 0] 89)))
    have q0 : (w1.alloc (.cells #[.int .i64 0, .slice none 0 0] 89)).cell? ⟨w.heap.size, 0, none⟩ = some (.int .i64 0) := by rw [cell_of_row _ _ _ _ _ _ hb]; rfl
    have q1 : (w1.alloc (.cells #[.int .i64 0, .slice none 0 0] 89)).cell? ⟨w.heap.size, 1, none⟩ = some (.int .i64 0) := by rw [cell_of_row _ _ _ _ _ _ hb]; rfl
    have q2 : (w1.alloc (.cells #[.int .i64 0, .slice none 0 0] 89)).cell? ⟨w.heap.size, 2, none⟩ = some (.int .i64 0) := by rw [cell_of_row _ _ _ _ _ _ hb]; rfl
    have q3 : (w1.alloc (.cells #[.int .i64 0, .slice none 0 0] 89)).cell? ⟨w.heap.size, 3, none⟩ = some (.slice none 0 0) := by rw [cell_of_row _ _ _ _ _ _ hb]; rfl
    have z0 : ∀ j, (w1.alloc (.cells #[.int .i64 0, .slice none 0 0] 89)).frozen? ⟨w.heap.size, j, none⟩ = false := fun j => frozen_of_row _ _ _ _ _ hb
    have HF := hid (And.intro hb hE2)
    clear hE hb hE2 HB
    go_wp2_with fail
    have h5 := results_cell_tmp2 (P := Tryz.prog) (fn := Tryz.f12) (p := 4) (q := 5) (ty := 34) rfl
    refine bodyPost_ret (h5 _ _ ⟨w.heap.size, 0, none⟩ _ ?_ (load34 (set34 HF.out.1 rfl 0 0 0))) rfl ⟨HF.out.2.on (ext34 0 0 0) (by simp), rfl⟩
    rfl
  | some o =>
    obtain ⟨g, e1, e2, _, _, _, _, _⟩ := fV_some h1 hf
    rw [e1, e2] at K
    unfold moV at K
    obtain ⟨x, s, t, er, hxv⟩ := infV_form M.H a
    rw [hxv] at HI
    have HXV := hid hxv
    have HSZ := hid hsz
    clear h1 h2 hk hf e1 e2 hEa hxv hsz
    simp only
    unfold obV at HI
    generalize o.sl.length = sl at *
    generalize o.nd = nd at *
    go_enter Tryz.func12, Tryz.ntmps12
    go_upto_region 1 with fail
    rw [← hwa]
    clear hwa
    go_wp2_with fail
    refine K.mono ?_
    clear K
    rintro e w1 ⟨rfl, hE⟩
    obtain ⟨w2, hw2⟩ : ∃ w2, w2 = w1.alloc (.cells #[.int .i64 nd, .slice (some ⟨g, 0, none⟩) sl sl] 89) := ⟨_, rfl⟩
    have hE2 : Ext [] wa w2 := by rw [hw2]; exact hE.trans (Ext.alloc _ _ _)
    have hb2 : w2.heap[w1.heap.size]? = some (.cells #[.int .i64 nd, .slice (some ⟨g, 0, none⟩) sl sl] 89 (0, 0)) := by rw [hw2]; exact heap_alloc_new _ _
    have HE2 := hid hE2
    have HB2 := hid hb2
    have K2 := HI.out w2 hE2
    clear hE hE2 hb2 HI
    go_wp2_with fail
    rw [← hw2]
    clear hw2
    refine K2.mono ?_
    clear K2
    rintro e w3 ⟨rfl, hE3⟩
    obtain ⟨w4, hw4⟩ : ∃ w4, w4 = w3.alloc (.cells #[.int .i64 x, .int .i64 s, .int .i64 t, .slice none 0 0] 34) := ⟨_, rfl⟩
    have hE4 : Ext [] w2 w4 := by rw [hw4]; exact hE3.trans (Ext.alloc _ _ _)
    have hb4 : w4.heap[w3.heap.size]? = some (.cells #[.int .i64 x, .int .i64 s, .int .i64 t, .slice none 0 0] 34 (0, 0)) := by rw [hw4]; exact heap_alloc_new _ _
    have c4 : (w3.alloc (.cells #[.int .i64 x, .int .i64 s, .int .i64 t, .slice none 0 0] 34)).cell? ⟨w1.heap.size, 0, none⟩ = some (.int .i64 nd) := by rw [← hw4, cell_of_row _ _ _ _ _ _ (hE4.keep HB2.out (by simp))]; rfl
    have HE4 := hid (HE2.out.trans hE4)
    have HB4 := hid hb4
    have K4 := HR.out w4 nd (HE2.out.trans hE4)
    have HS3 : Hid (w.heap.size < w3.heap.size ∧ w3.heap.size < w4.heap.size) := by
      have := HE2.out.size
      have := hE3.size
      have := HSZ.out
      exact ⟨by omega, lt_of_heap hb4⟩
    clear hE3 hE4 hb4 HR HE2 HB2
    go_wp2_with fail
    rw [← hw4]
    clear hw4 c4
    refine K4.mono ?_
    clear K4
    rintro e w5 ⟨v, rfl, hO, hE5⟩
    have hE5' := ext_co hE5
    obtain ⟨hb, hEw⟩ := HB.out w5 (HE4.out.trans hE5')
    have hb5 := hE5'.keep HB4.out (by simp)
    have hne : w3.heap.size ≠ w.heap.size := by have := HS3.out; omega
    have y3 : w5.cell? ⟨w3.heap.size, 3, none⟩ = some (.slice none 0 0) := by rw [cell_of_row _ _ _ _ _ _ hb5]; rfl
    have yz : ∀ j, w5.frozen? ⟨w3.heap.size, j, none⟩ = false := fun j => frozen_of_row _ _ _ _ _ hb5
    have hw6 := heap_setCell_same w5 w3.heap.size 3 _ _ v hb5
    have hE6 : Ext [w3.heap.size] w5 (w5.setCell ⟨w3.heap.size, 3, none⟩ v) := Ext.setCell _ _ _ _ (by simp)
    have y0 : (w5.setCell ⟨w3.heap.size, 3, none⟩ v).cell? ⟨w3.heap.size, 0, none⟩ = some (.int .i64 x) := by rw [cell_of_row _ _ _ _ _ _ hw6]; rfl
    have y1 : (w5.setCell ⟨w3.heap.size, 3, none⟩ v).cell? ⟨w3.heap.size, 1, none⟩ = some (.int .i64 s) := by rw [cell_of_row _ _ _ _ _ _ hw6]; rfl
    have y2 : (w5.setCell ⟨w3.heap.size, 3, none⟩ v).cell? ⟨w3.heap.size, 2, none⟩ = some (.int .i64 t) := by rw [cell_of_row _ _ _ _ _ _ hw6]; rfl
    have y4 : (w5.setCell ⟨w3.heap.size, 3, none⟩ v).cell? ⟨w3.heap.size, 3, none⟩ = some v := by rw [cell_of_row _ _ _ _ _ _ hw6]; rfl
    have hb6 := hE6.keep hb (by simpa using (Ne.symm hne))
    have r0 : (w5.setCell ⟨w3.heap.size, 3, none⟩ v).cell? ⟨w.heap.size, 0, none⟩ = some (.int .i64 0) := by rw [cell_of_row _ _ _ _ _ _ hb6]; rfl
    have r1 : (w5.setCell ⟨w3.heap.size, 3, none⟩ v).cell? ⟨w.heap.size, 1, none⟩ = some (.int .i64 0) := by rw [cell_of_row _ _ _ _ _ _ hb6]; rfl
    have r2 : (w5.setCell ⟨w3.heap.size, 3, none⟩ v).cell? ⟨w.heap.size, 2, none⟩ = some (.int .i64 0) := by rw [cell_of_row _ _ _ _ _ _ hb6]; rfl
    have r3 : (w5.setCell ⟨w3.heap.size, 3, none⟩ v).cell? ⟨w.heap.size, 3, none⟩ = some (.slice none 0 0) := by rw [cell_of_row _ _ _ _ _ _ hb6]; rfl
    have rz : ∀ j, (w5.setCell ⟨w3.heap.size, 3, none⟩ v).frozen? ⟨w.heap.size, j, none⟩ = false := fun j => frozen_of_row _ _ _ _ _ hb6
    have HF : Hid (Ext [] w (w5.setCell ⟨w3.heap.size, 3, none⟩ v) ∧ (w5.setCell ⟨w3.heap.size, 3, none⟩ v).heap[w.heap.size]? = some (.cells #[.int .i64 0, .int .i64 0, .int .i64 0, .slice none 0 0] 34 (0, 0)) ∧ (w5.setCell ⟨w3.heap.size, 3, none⟩ v).ownsRow w.heap.size 3 1 v (refsM M nd).length (lI (refsM M nd)) ∧ v.ownBlock ≠ some w.heap.size) := by
      have h7 := HS3.out
      have hge : ∀ g, v.ownBlock = some g → w4.heap.size ≤ g := fun g hg => (own_lt hO g hg).1
      refine ⟨hEw.on hE6 (by simp; omega), hb6, own_keep (own_base hO (by omega)) hE6 (fun b hb => ?_), fun e => ?_⟩
      · simp only [List.mem_singleton] at hb
        subst hb
        intro e
        have := hge _ e
        omega
      · have := hge _ e
        omega
    obtain ⟨av, cv, rfl, _⟩ := own_slice hO
    clear hO hE5 hE5' hb hEw hb5 hw6 hE6 hb6 HB HB4 HE4
    go_wp2_with fail
    have h5 := results_cell_tmp2 (P := Tryz.prog) (fn := Tryz.f12) (p := 4) (q := 5) (ty := 34) rfl
    refine bodyPost_ret (h5 _ _ ⟨w.heap.size, 0, none⟩ _ ?_ (load34 (set34v HF.out.2.1 rfl x s t _))) rfl ⟨HF.out.1.on (ext34v x s t _) (by simp), _, x, s, t, er, rfl, HXV.out, ?_⟩
    · rfl
    · exact own_keep HF.out.2.2.1 (ext34v x s t _) (by simpa using HF.out.2.2.2)

end

end Go.Proofs.YtjbbomokgpoilaaGreatDoor
