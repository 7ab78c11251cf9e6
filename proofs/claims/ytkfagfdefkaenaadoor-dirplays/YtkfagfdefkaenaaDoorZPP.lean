/-
  RhE, RhH: joined by program; no statement is proved here.
-/
import Derived.Test.YtkfagfdefkaenaaDoorZO
import Derived.Test.YtkfagfdefkaenaaDoorZPJ
import Derived.Test.YtkfagfdefkaenaaDoorZPE
import Derived.Deep.Cut
/-
  The document's directory as the program's, a table and a slot more; no statement is proved here.
-/
namespace Go.Proofs.YtkfagfdefkaenaaDoor.Rf
open Go.RowKit Go.Shelf
open Pr (Gp GpI sq pl)

/-- What has been made so far. -/
structure ApI (W0 wr : World) (zr zo dp k : Nat) (L : List Tq) (S : List Nat) (tv sv : Value) : Prop where
  row : wr.heap[zo]? = some (.cells #[.int .i64 (dp : Nat), tv, sv] 27)
  res : wr.heap[zr]? = some (.cells #[.int .i64 0, .slice none 0 0, .slice none 0 0] 27)
  own : ∃ xs, wr.ownsRow W0.heap.size 66 2 tv k xs ∧ (∀ u ∈ xs, u.oneCell' = true) ∧ ∀ j t, (L.take k)[j]? = some t → ∃ g c, xs[j * 2]? = some (.int .i64 (t.d : Nat)) ∧ xs[j * 2 + 1]? = some (.slice (some ⟨g, 0, none⟩) (3 + 17 * t.G) c) ∧ Tw wr g t.T
  sl : wr.ownsRow W0.heap.size 3 1 sv S.length (vi S)
  ext : Ext [] W0 wr
  zlo : W0.heap.size ≤ zo
  zne : zo ≠ zr
theorem ApI.keep {W0 wr wv : World} {zr zo dp k : Nat} {L : List Tq} {S : List Nat} {tv sv : Value} (h : ApI W0 wr zr zo dp k L S tv sv) (e : Ext [] wr wv) : ApI W0 wv zr zo dp k L S tv sv := by
  obtain ⟨h1, h6, ⟨xs, h2, h3, h4⟩, h5, h8, h9, h10⟩ := h
  refine ⟨e.keep h1 (by simp), e.keep h6 (by simp), ⟨xs, own_keep0 h2 e, h3, fun j t hj => ?_⟩, own_keep0 h5 e, h8.trans e, h9, h10⟩
  obtain ⟨g, c, e1, e2, e3⟩ := h4 j t hj
  exact ⟨g, c, e1, e2, e3.keep0 e⟩
set_option maxHeartbeats 1000000 in
theorem apt_of (W0 U2 : World) (zr zo dp k gw cw : Nat) (L : List Tq) (S : List Nat) (tv sv : Value) (t : Tq) (hI : ApI W0 U2 zr zo dp k L S tv sv) (ht : L[k]? = some t) (hT : Tw U2 gw t.T) (hk : k ≤ 64) :
    ∃ a c U4, (Builtin.append_ #[24, 24] 24 #[tv, .slice (some ⟨U2.heap.size, 0, none⟩) 1 1]).run Tryd.prog (U2.alloc (.cells #[.int .i64 (t.d : Nat), .slice (some ⟨gw, 0, none⟩) (3 + 17 * t.G) cw] 66)) = .ok (.slice a (k + 1) c) U4 ∧
      U4.heap[zo]? = some (.cells #[.int .i64 (dp : Nat), tv, sv] 27) ∧ ApI W0 (U4.setCell ⟨zo, 1, none⟩ (.slice a (k + 1) c)) zr zo dp (k + 1) L S (.slice a (k + 1) c) sv ∧ Ext [] W0 U4 := by
  obtain ⟨j0, hi0, hz0, hz1, hz2⟩ := info_parts info66
  have hEa := Ext.alloc [] U2 (.cells #[.int .i64 (t.d : Nat), .slice (some ⟨gw, 0, none⟩) (3 + 17 * t.G) cw] 66)
  have hra := heap_alloc_new U2 (.cells #[.int .i64 (t.d : Nat), .slice (some ⟨gw, 0, none⟩) (3 + 17 * t.G) cw] 66)
  obtain ⟨h1, h6, ⟨xs, h2, h3, h4⟩, h5, h8, h9, h10⟩ := hI.keep hEa
  have hT3 := hT.keep0 hEa
  obtain ⟨U3, hU3⟩ : ∃ U3, U2.alloc (.cells #[.int .i64 (t.d : Nat), .slice (some ⟨gw, 0, none⟩) (3 + 17 * t.G) cw] 66) = U3 := ⟨_, rfl⟩
  rw [hU3] at h1 h2 h4 h5 h6 h8 hra hT3 ⊢
  obtain ⟨v, U4, hr, ho, hg, _⟩ := run_append_own (P := Tryd.prog) U3 W0.heap.size 24 24 66 j0 _ 2 32 Tryd.underlying24 hi0 hz0 hz1 hz2 rfl (by decide) tv k xs h2 ⟨U2.heap.size, 0, none⟩ 1 1 [.int .i64 (t.d : Nat), .slice (some ⟨gw, 0, none⟩) (3 + 17 * t.G) cw] rfl (fun j u hj => by rw [Addr.add_lit, Nat.zero_add, cell_of_row _ _ _ _ _ _ hra]; simpa using hj) (by simp [Value.oneCell']) (by unfold maxLen; omega) (by omega) h8.size
  have hx : Ext tv.ownBlock.toList U3 U4 := Ext.grown hg (by intro k hk; simp [hk])
  have hown := own_lt h2
  have hne1 : ∀ (b : Nat) (cs : Array Value) (ty : TypeId), U3.heap[b]? = some (.cells cs ty (0, 0)) → ty ≠ 66 → b ∉ tv.ownBlock.toList := fun b cs ty hb hty => by
    rw [Option.mem_toList]; exact own_ne h2 hb hty
  have hTk : ∀ g T, Tw U3 g T → Tw U4 g T := fun g T hg => by
    obtain ⟨c', e, _⟩ := id hg
    exact hg.keep hx (hne1 _ _ _ e (by decide))
  have hrow4 := hx.keep h1 (hne1 _ _ _ h1 (by decide))
  have hres4 := hx.keep h6 (hne1 _ _ _ h6 (by decide))
  have hst := Ext.setCell [zo] U4 ⟨zo, 1, none⟩ v (by simp)
  have hTk2 : ∀ g T, Tw U4 g T → Tw (U4.setCell ⟨zo, 1, none⟩ v) g T := fun g T hg => hg.keep hst (by
    rw [List.mem_singleton]; rintro rfl; exact not_tw_of hrow4 (by decide) _ hg)
  have hov : ∀ b ∈ [zo], v.ownBlock ≠ some b := by
    intro b hb
    rw [List.mem_singleton] at hb
    subst hb
    exact own_ne ho hrow4 (by decide)
  have hsl4 := own_keep h5 hx (own_apart h5 h2 (by decide))
  have hsl5 := own_keep hsl4 hst (by
    intro b hb
    rw [List.mem_singleton] at hb
    subst hb
    exact own_ne hsl4 hrow4 (by decide))
  have hE4 : Ext [] W0 U4 := h8.on hx (fun b hb => (hown b (by simpa using hb)).1)
  obtain ⟨av, cv, rfl, _⟩ := own_slice ho
  refine ⟨av, cv, U4, hr, hrow4, ⟨heap_setCell_same U4 zo 1 _ 27 _ hrow4, hst.keep hres4 (by simpa using h10.symm), ⟨_, own_keep ho hst hov, fun u hu => ?_, fun j u hj => ?_⟩, hsl5, hE4.on hst (by simpa using h9), h9, h10⟩, hE4⟩
  · rcases List.mem_append.1 hu with q | q
    · exact h3 u q
    · simp at q; rcases q with rfl | rfl <;> rfl
  · have hkl : k < L.length := (List.getElem?_eq_some_iff.1 ht).1
    have hxl : xs.length = k * 2 := h2.1
    rw [take_snoc ht] at hj
    by_cases hjk : j < k
    · rw [List.getElem?_append_left (by rw [List.length_take]; omega)] at hj
      obtain ⟨g, c, e1, e2, e3⟩ := h4 j u hj
      exact ⟨g, c, by rw [List.getElem?_append_left (by omega)]; exact e1, by rw [List.getElem?_append_left (by omega)]; exact e2, hTk2 _ _ (hTk _ _ e3)⟩
    · rw [List.getElem?_append_right (by rw [List.length_take]; omega), List.length_take, Nat.min_eq_left (by omega)] at hj
      have hj0 : j - k = 0 := by
        have := (List.getElem?_eq_some_iff.1 hj).1
        simp at this; omega
      rw [hj0] at hj
      simp at hj
      subst hj
      obtain rfl : j = k := by omega
      exact ⟨gw, cw, by rw [List.getElem?_append_right (by omega), hxl, Nat.sub_self]; rfl, by rw [List.getElem?_append_right (by omega), hxl, Nat.add_sub_cancel_left]; rfl, hTk2 _ _ (hTk _ _ hT3)⟩
theorem aps_of (W0 U : World) (zr zo dp k x : Nat) (L : List Tq) (S : List Nat) (tv sv : Value) (hI : ApI W0 U zr zo dp k L S tv sv) (hk : S.length ≤ 64) :
    ∃ a c U4, (Builtin.append_ #[25, 25] 25 #[sv, .slice (some ⟨U.heap.size, 0, none⟩) 1 1]).run Tryd.prog (U.alloc (.cells #[.int .i64 (x : Nat)] 3)) = .ok (.slice a (S.length + 1) c) U4 ∧
      U4.heap[zo]? = some (.cells #[.int .i64 (dp : Nat), tv, sv] 27) ∧ ApI W0 (U4.setCell ⟨zo, 2, none⟩ (.slice a (S.length + 1) c)) zr zo dp k L (S ++ [x]) tv (.slice a (S.length + 1) c) ∧ Ext [] W0 U4 := by
  have hEa := Ext.alloc [] U (.cells #[.int .i64 (x : Nat)] 3)
  obtain ⟨h1, h6, ⟨xs, h2, h3, h4⟩, h5, h8, h9, h10⟩ := hI.keep hEa
  obtain ⟨v, U4, hr, ho, hE4, hx⟩ := app_own W0 _ h8 25 25 3 _ 8 Tryd.underlying25 info3' rfl (by omega) sv S.length (vi S) h5 (some ⟨U.heap.size, 0, none⟩) 1 1 [.int .i64 (x : Nat)] rfl (vs_new U 3 [.int .i64 (x : Nat)]) (by simp [Value.oneCell']) (by omega)
  have hne1 : ∀ (b : Nat) (cs : Array Value) (ty : TypeId), (U.alloc (.cells #[.int .i64 (x : Nat)] 3)).heap[b]? = some (.cells cs ty (0, 0)) → ty ≠ 3 → b ∉ sv.ownBlock.toList := fun b cs ty hb hty => by
    rw [Option.mem_toList]; exact own_ne h5 hb hty
  have hTk : ∀ g T, Tw (U.alloc (.cells #[.int .i64 (x : Nat)] 3)) g T → Tw U4 g T := fun g T hg => by
    obtain ⟨c', e, _⟩ := id hg
    exact hg.keep hx (hne1 _ _ _ e (by decide))
  have hrow4 := hx.keep h1 (hne1 _ _ _ h1 (by decide))
  have hres4 := hx.keep h6 (hne1 _ _ _ h6 (by decide))
  have hst := Ext.setCell [zo] U4 ⟨zo, 2, none⟩ v (by simp)
  have hTk2 : ∀ g T, Tw U4 g T → Tw (U4.setCell ⟨zo, 2, none⟩ v) g T := fun g T hg => hg.keep hst (by
    rw [List.mem_singleton]; rintro rfl; exact not_tw_of hrow4 (by decide) _ hg)
  have hov : ∀ {e : TypeId} {s n : Nat} {v' : Value} {ys : List Value}, U4.ownsRow W0.heap.size e s v' n ys → (27 : TypeId) ≠ e → ∀ b ∈ [zo], v'.ownBlock ≠ some b := by
    intro e s n v' ys h he b hb
    rw [List.mem_singleton] at hb
    subst hb
    exact own_ne h hrow4 he
  have ht4 := own_keep h2 hx (own_apart h2 h5 (by decide))
  obtain ⟨av, cv, rfl, _⟩ := own_slice ho
  refine ⟨av, cv, U4, hr, hrow4, ⟨heap_setCell_same U4 zo 2 _ 27 _ hrow4, hst.keep hres4 (by simpa using h10.symm), ⟨xs, own_keep ht4 hst (hov ht4 (by decide)), h3, fun j u hj => ?_⟩, ?_, hE4.on hst (by simpa using h9), h9, h10⟩, hE4⟩
  · obtain ⟨g, c, e1, e2, e3⟩ := h4 j u hj
    exact ⟨g, c, e1, e2, hTk2 _ _ (hTk _ _ e3)⟩
  · rw [List.length_append, vi_append]
    exact own_keep ho hst (hov ho (by decide))
end Go.Proofs.YtkfagfdefkaenaaDoor.Rf

/-
  The document's directory as the program's; no statement is proved here.
-/
namespace Go.Proofs.YtkfagfdefkaenaaDoor.Rf
open Go.RowKit Go.Shelf
open Pr (Gp GpI sq pl)
attribute [local go_sem] Oper.semAt_some run_store_func

theorem shl_w {dp m : Nat} {t : Tq} (hm : wdt dp t = m) (hdp : dp ≤ 6) : wrap64 ((2 : Int) ^ (dp - t.d)) = (m : Int) := by
  have h6 : m ≤ 64 := by rw [← hm]; exact pow64 (by omega)
  have e : (2 : Int) ^ (dp - t.d) = (m : Int) := by rw [← hm]; unfold wdt; push_cast; rfl
  rw [e]
  unfold wrap64
  omega
set_option maxRecDepth 100000 in
set_option maxHeartbeats 4000000 in
theorem rapi_any (pd qd cd dp n : Nat) (L : List Tq) (R : List Rc) (hD : Dq dp L) (hn : L.length = n) (w : World) (hR : Rd w pd qd cd dp L R) :
    Calls Tryd.prog 19 #[.pointer (some ⟨pd, 0, none⟩)] w (DcPost w dp n L) := by
  have hdp := hD.le
  have hn64 := hD.len
  rw [hn] at hn64
  have h0n : 0 < n := by
    rcases Nat.eq_zero_or_pos n with e | e
    · obtain rfl : L = [] := List.length_eq_zero_iff.1 (by omega)
      have h1 := hD.all
      have h2 := Nat.pow_pos (n := dp) (show 0 < 2 by omega)
      simp only [pre] at h1
      omega
    · exact e
  obtain ⟨z, hz⟩ : ∃ z, w.heap.size = z := ⟨_, rfl⟩
  obtain ⟨W0, hW0⟩ : ∃ W0, w.alloc (.cells #[.int .i64 0, .slice none 0 0, .slice none 0 0] 27) = W0 := ⟨_, rfl⟩
  have hE0 : Ext [] w W0 := by rw [← hW0]; exact Ext.alloc [] _ _
  have b0 : W0.heap[z]? = some (.cells #[.int .i64 0, .slice none 0 0, .slice none 0 0] 27) := by
    rw [← hW0, ← hz]; exact heap_alloc_new w _
  have hbk := hR.blk
  rw [hn] at hbk
  have f0 : W0.cell? ⟨pd, 0, none⟩ = some (.int .i64 (dp : Nat)) := by rw [cell_of_row _ _ _ _ _ _ (hE0.keep hbk (by simp))]; rfl
  have f1 : w.cell? ⟨pd, 1, none⟩ = some (.slice (some ⟨qd, 0, none⟩) n cd) := by rw [cell_of_row _ _ _ _ _ _ hbk]; rfl
  have f0w : w.cell? ⟨pd, 0, none⟩ = some (.int .i64 (dp : Nat)) := by rw [cell_of_row _ _ _ _ _ _ hbk]; rfl
  obtain ⟨cs, hcs, hcs2⟩ := hR.row
  have HK := hid (fun (k : Nat) (hk : k < n) => show ∃ r t, L[k]? = some t ∧ w.cell? ⟨qd, k, none⟩ = some (.pointer (some ⟨r.pt, 0, none⟩)) ∧ w.cell? ⟨r.pt, 0, none⟩ = some (.int .i64 (t.d : Nat)) ∧ w.cell? ⟨r.pt, 2, none⟩ = some (.pointer (some ⟨r.p, 0, none⟩)) ∧ Rt w r.p r.q (r : Rc).c t.G t.T ∧ t.d ≤ dp ∧ Sd t.T t.G from by
    obtain ⟨t, p, hN⟩ := hD.nth (n := k) (by rw [hn]; exact hk)
    obtain ⟨r, hr⟩ : ∃ r, R[k]? = some r := ⟨_, List.getElem?_eq_getElem (by rw [hR.len, hn]; exact hk)⟩
    obtain ⟨b1, b2⟩ := hR.tab k r t hr hN.at_
    exact ⟨r, t, hN.at_, by rw [cell_of_row _ _ _ _ _ _ hcs]; exact hcs2 k r hr, by rw [cell_of_row _ _ _ _ _ _ b1]; rfl, by rw [cell_of_row _ _ _ _ _ _ b1]; rfl, b2, hN.ot.le, hN.ot.sd⟩)
  have HD := hid hD
  have HN := hid hn
  have HE0 := hid hE0
  have B0 := hid b0
  clear hR hbk hcs hcs2 hE0 b0 hD hn
  go_enter Tryd.func19, Tryd.ntmps19
  go_wp2_with fail
  obtain ⟨zo, hzo⟩ : ∃ zo, W0.heap.size = zo := ⟨_, rfl⟩
  have hzz : zo = z + 1 := by rw [← hzo, ← hW0, World.size_alloc, hz]
  have hI0 : ApI w (W0.alloc (.cells #[.int .i64 (dp : Nat), .slice none 0 0, .slice none 0 0] 27)) z zo dp 0 L (slo dp (L.take 0) 0) (.slice none 0 0) (.slice none 0 0) := by
    have hx := Ext.alloc [] W0 (.cells #[.int .i64 (dp : Nat), .slice none 0 0, .slice none 0 0] 27)
    exact ⟨by rw [← hzo]; exact heap_alloc_new W0 _, hx.keep B0.out (by simp), ⟨[], own_nil _ _ _ _, by simp, fun j t h => by simp at h⟩, own_nil _ _ _ _, HE0.out.trans hx, by omega, by omega⟩
  obtain ⟨W1, hW1⟩ : ∃ W1, W0.alloc (.cells #[.int .i64 (dp : Nat), .slice none 0 0, .slice none 0 0] 27) = W1 := ⟨_, rfl⟩
  rw [hW1] at hI0
  try rw [hW0]
  try simp only [hzo]
  try rw [hW1]
  have HI0 := hid hI0
  have hzne : zo ≠ z := by omega
  clear hI0 hW1 f0 hzz hzo
  go_loopw [4, 5] (fun p _ wr => ∃ k : Nat, p = .int .i64 k ∧ k ≤ n ∧ ∃ tv sv, ApI w wr z zo dp k L (slo dp (L.take k) 0) tv sv) (fun p _ _ => (n - (intOf p)).toNat)
  case atStart => exact ⟨0, rfl, Nat.zero_le _, _, _, HI0.out⟩
  case round =>
    obtain ⟨k, rfl, hk, tv, sv, hI⟩ := hrel
    obtain ⟨ta, tc, rfl, _⟩ : ∃ a c, tv = .slice a k c ∧ k ≤ c := by obtain ⟨xs, ho, _⟩ := hI.own; exact own_slice ho
    have g1 := hI.ext.cell f1 (by simp)
    by_cases hkn : k < n
    · have hki : (k : Int) < n := by omega
      have hk4 : (0 : Int) ≤ (k : Int) := by omega
      obtain ⟨r, t, ht, k0, k1, k2, hRt, htd, hsd⟩ := HK.out k hkn
      have hS0 : ∀ u, Ext [] wr u → (u.cell? ⟨zo, 1, none⟩ = some (.slice ta k tc) ∧ u.cell? ⟨pd, 1, none⟩ = some (.slice (some ⟨qd, 0, none⟩) n cd) ∧ u.cell? ⟨qd, k, none⟩ = some (.pointer (some ⟨r.pt, 0, none⟩)) ∧ u.cell? ⟨r.pt, 0, none⟩ = some (.int .i64 (t.d : Nat)) ∧ u.cell? ⟨r.pt, 2, none⟩ = some (.pointer (some ⟨r.p, 0, none⟩))) := fun u hu => ⟨hu.cell (by rw [cell_of_row _ _ _ _ _ _ hI.row]; rfl) (by simp), hu.cell g1 (by simp), (hI.ext.trans hu).cell k0 (by simp), (hI.ext.trans hu).cell k1 (by simp), (hI.ext.trans hu).cell k2 (by simp)⟩
      have hS := hS0 wr.drew (Ext.drew [] wr)
      have KW := rwords_any r.p r.q r.c t.G t.T wr.drew (hRt.keep0 (hI.ext.trans (Ext.drew [] wr))) hsd.shp (by rw [knt_full]; exact hsd.cnt) (by rw [knt_used hsd]; exact hsd.use)
      have HI := hid hI
      have HT := hid ht
      have HSd := hid hsd
      have HSl := hid hS0
      clear hI ht hsd hS0 hRt
      go_wp2_with fail
      refine wp_region_noPanic ?_
      refine (wpIn_wide (n := 14)).1 ?_
      refine wpIn_region_heldC (fun u => u.cell? ⟨zo, 1, none⟩ = some (.slice ta k tc) ∧ u.cell? ⟨pd, 1, none⟩ = some (.slice (some ⟨qd, 0, none⟩) n cd) ∧ u.cell? ⟨qd, k, none⟩ = some (.pointer (some ⟨r.pt, 0, none⟩)) ∧ u.cell? ⟨r.pt, 0, none⟩ = some (.int .i64 (t.d : Nat)) ∧ u.cell? ⟨r.pt, 2, none⟩ = some (.pointer (some ⟨r.p, 0, none⟩))) 27 (by kernel_rfl) ?_
      refine wpAnyC_take (i := 0) (v := .pointer (some ⟨zo, 1, none⟩)) rfl (by kernel_rfl) (fun _ _ _ h => h) (yieldsR_run rfl rfl (fun _ => rfl) (fun u hu => by obtain ⟨u1, u2, u3, u4, u5⟩ := hu; go_simp)) hS ?_
      simp only [Act.put, List.setIfInBounds_toArray]
      refine wpAnyC_take (i := 1) (v := .slice ta k tc) rfl (by kernel_rfl) (fun _ _ _ h => h) (yieldsR_run rfl rfl (fun _ => rfl) (fun u hu => by obtain ⟨u1, u2, u3, u4, u5⟩ := hu; go_simp)) hS ?_
      simp only [Act.put]
      refine wpAnyC_take (i := 2) (v := .pointer (some ⟨pd, 0, none⟩)) rfl (by kernel_rfl) (fun _ _ _ h => h) (yieldsR_run rfl rfl (fun _ => rfl) (fun u hu => by obtain ⟨u1, u2, u3, u4, u5⟩ := hu; go_simp)) hS ?_
      simp only [Act.put]
      refine wpAnyC_take (i := 3) (v := .pointer (some ⟨pd, 0, none⟩)) rfl (by kernel_rfl) (fun _ _ _ h => h) (yieldsR_run rfl rfl (fun _ => rfl) (fun u hu => by obtain ⟨u1, u2, u3, u4, u5⟩ := hu; go_simp)) hS ?_
      simp only [Act.put]
      refine wpAnyC_take (i := 4) (v := .pointer (some ⟨pd, 1, none⟩)) rfl (by kernel_rfl) (fun _ _ _ h => h) (yieldsR_run rfl rfl (fun _ => rfl) (fun u hu => by obtain ⟨u1, u2, u3, u4, u5⟩ := hu; go_simp)) hS ?_
      simp only [Act.put]
      refine wpAnyC_take (i := 5) (v := .slice (some ⟨qd, 0, none⟩) n cd) rfl (by kernel_rfl) (fun _ _ _ h => h) (yieldsR_run rfl rfl (fun _ => rfl) (fun u hu => by obtain ⟨u1, u2, u3, u4, u5⟩ := hu; go_simp)) hS ?_
      simp only [Act.put]
      refine wpAnyC_take (i := 6) (v := .int .i64 (k : Nat)) rfl (by kernel_rfl) (fun _ _ _ h => h) (yieldsR_run rfl rfl (fun _ => rfl) (fun u hu => by obtain ⟨u1, u2, u3, u4, u5⟩ := hu; go_simp)) hS ?_
      simp only [Act.put]
      refine wpAnyC_take (i := 7) (v := .pointer (some ⟨qd, k, none⟩)) rfl (by kernel_rfl) (fun _ _ _ h => h) (yieldsR_run rfl rfl (fun _ => rfl) (fun u hu => by obtain ⟨u1, u2, u3, u4, u5⟩ := hu; go_simp)) hS ?_
      simp only [Act.put]
      refine wpAnyC_take (i := 8) (v := .pointer (some ⟨r.pt, 0, none⟩)) rfl (by kernel_rfl) (fun _ _ _ h => h) (yieldsR_run rfl rfl (fun _ => rfl) (fun u hu => by obtain ⟨u1, u2, u3, u4, u5⟩ := hu; go_simp)) hS ?_
      simp only [Act.put]
      refine wpAnyC_take (i := 9) (v := .pointer (some ⟨r.pt, 0, none⟩)) rfl (by kernel_rfl) (fun _ _ _ h => h) (yieldsR_run rfl rfl (fun _ => rfl) (fun u hu => by obtain ⟨u1, u2, u3, u4, u5⟩ := hu; go_simp)) hS ?_
      simp only [Act.put]
      refine wpAnyC_take (i := 10) (v := .pointer (some ⟨r.pt, 0, none⟩)) rfl (by kernel_rfl) (fun _ _ _ h => h) (yieldsR_run rfl rfl (fun _ => rfl) (fun u hu => by obtain ⟨u1, u2, u3, u4, u5⟩ := hu; go_simp)) hS ?_
      simp only [Act.put]
      refine wpAnyC_take (i := 11) (v := .int .i64 (t.d : Nat)) rfl (by kernel_rfl) (fun _ _ _ h => h) (yieldsR_run rfl rfl (fun _ => rfl) (fun u hu => by obtain ⟨u1, u2, u3, u4, u5⟩ := hu; go_simp)) hS ?_
      simp only [Act.put]
      refine wpAnyC_take (i := 12) (v := .pointer (some ⟨pd, 0, none⟩)) rfl (by kernel_rfl) (fun _ _ _ h => h) (yieldsR_run rfl rfl (fun _ => rfl) (fun u hu => by obtain ⟨u1, u2, u3, u4, u5⟩ := hu; go_simp)) hS ?_
      simp only [Act.put]
      refine wpAnyC_take (i := 13) (v := .pointer (some ⟨pd, 0, none⟩)) rfl (by kernel_rfl) (fun _ _ _ h => h) (yieldsR_run rfl rfl (fun _ => rfl) (fun u hu => by obtain ⟨u1, u2, u3, u4, u5⟩ := hu; go_simp)) hS ?_
      simp only [Act.put]
      refine wpAnyC_take (i := 14) (v := .pointer (some ⟨pd, 1, none⟩)) rfl (by kernel_rfl) (fun _ _ _ h => h) (yieldsR_run rfl rfl (fun _ => rfl) (fun u hu => by obtain ⟨u1, u2, u3, u4, u5⟩ := hu; go_simp)) hS ?_
      simp only [Act.put]
      refine wpAnyC_take (i := 15) (v := .slice (some ⟨qd, 0, none⟩) n cd) rfl (by kernel_rfl) (fun _ _ _ h => h) (yieldsR_run rfl rfl (fun _ => rfl) (fun u hu => by obtain ⟨u1, u2, u3, u4, u5⟩ := hu; go_simp)) hS ?_
      simp only [Act.put]
      refine wpAnyC_take (i := 16) (v := .int .i64 (k : Nat)) rfl (by kernel_rfl) (fun _ _ _ h => h) (yieldsR_run rfl rfl (fun _ => rfl) (fun u hu => by obtain ⟨u1, u2, u3, u4, u5⟩ := hu; go_simp)) hS ?_
      simp only [Act.put]
      refine wpAnyC_take (i := 17) (v := .pointer (some ⟨qd, k, none⟩)) rfl (by kernel_rfl) (fun _ _ _ h => h) (yieldsR_run rfl rfl (fun _ => rfl) (fun u hu => by obtain ⟨u1, u2, u3, u4, u5⟩ := hu; go_simp)) hS ?_
      simp only [Act.put]
      refine wpAnyC_take (i := 18) (v := .pointer (some ⟨r.pt, 0, none⟩)) rfl (by kernel_rfl) (fun _ _ _ h => h) (yieldsR_run rfl rfl (fun _ => rfl) (fun u hu => by obtain ⟨u1, u2, u3, u4, u5⟩ := hu; go_simp)) hS ?_
      simp only [Act.put]
      refine wpAnyC_take (i := 19) (v := .pointer (some ⟨r.pt, 0, none⟩)) rfl (by kernel_rfl) (fun _ _ _ h => h) (yieldsR_run rfl rfl (fun _ => rfl) (fun u hu => by obtain ⟨u1, u2, u3, u4, u5⟩ := hu; go_simp)) hS ?_
      simp only [Act.put]
      refine wpAnyC_take (i := 20) (v := .pointer (some ⟨r.pt, 2, none⟩)) rfl (by kernel_rfl) (fun _ _ _ h => h) (yieldsR_run rfl rfl (fun _ => rfl) (fun u hu => by obtain ⟨u1, u2, u3, u4, u5⟩ := hu; go_simp)) hS ?_
      simp only [Act.put]
      refine wpAnyC_take (i := 21) (v := .pointer (some ⟨r.p, 0, none⟩)) rfl (by kernel_rfl) (fun _ _ _ h => h) (yieldsR_run rfl rfl (fun _ => rfl) (fun u hu => by obtain ⟨u1, u2, u3, u4, u5⟩ := hu; go_simp)) hS ?_
      simp only [Act.put]
      refine wpAnyC_sole (i := 22) rfl (by kernel_rfl) (fun K1 hK1 => ?_)
      go_simp
      refine ⟨trivial, (callsIn_wide.2 KW).mono ?_⟩
      clear KW
      rintro _ w5 ⟨v5, rfl, ho5, hE5⟩
      have hE5w := (Ext.drew [] wr).trans hE5
      have hS5 := HSl.out w5 hE5w
      have hTl := HSd.out.shp.len
      obtain ⟨aw, cw, rfl, _⟩ := own_slice ho5
      rw [hTl] at ho5 ⊢
      obtain ⟨gw, rfl, _, hTw⟩ := tw_of_own ho5 hTl (by omega)
      obtain ⟨av, cv, U4, hr4, hrow4, hI4, hx4⟩ := apt_of w w5 z zo dp k gw cw L _ _ _ t (HI.out.keep hE5w) HT.out hTw (by omega)
      have hS6 := HSl.out _ (hE5w.trans (Ext.alloc [] w5 (.cells #[.int .i64 (t.d : Nat), .slice (some ⟨gw, 0, none⟩) (3 + 17 * t.G) cw] 66)))
      have hS7 : (U4.cell? ⟨zo, 1, none⟩ = some (.slice ta k tc) ∧ U4.cell? ⟨pd, 1, none⟩ = some (.slice (some ⟨qd, 0, none⟩) n cd) ∧ U4.cell? ⟨qd, k, none⟩ = some (.pointer (some ⟨r.pt, 0, none⟩)) ∧ U4.cell? ⟨r.pt, 0, none⟩ = some (.int .i64 (t.d : Nat)) ∧ U4.cell? ⟨r.pt, 2, none⟩ = some (.pointer (some ⟨r.p, 0, none⟩))) := ⟨by rw [cell_of_row _ _ _ _ _ _ hrow4]; rfl, hx4.cell f1 (by simp), hx4.cell k0 (by simp), hx4.cell k1 (by simp), hx4.cell k2 (by simp)⟩
      have fz4 : U4.frozen? ⟨zo, 1, none⟩ = false := frozen_of_row _ _ _ _ _ hrow4
      have oz4 := hS7.1
      refine hK1 _ _ (.inr hS5) ?_
      clear hK1 K1
      try simp only [Act.put, List.setIfInBounds_toArray]
      refine wpAnyC_take (i := 23) (v := .agg #[.int .i64 (t.d : Nat), .slice (some ⟨gw, 0, none⟩) (3 + 17 * t.G) cw]) rfl (by kernel_rfl) (fun _ _ _ h => h) (yieldsR_run rfl rfl (fun _ => rfl) (fun u hu => by obtain ⟨u1, u2, u3, u4, u5⟩ := hu; go_simp)) hS5 ?_
      try simp only [Act.put]
      refine wpAnyC_sole (i := 24) rfl (by kernel_rfl) (fun K1 hK1 => ?_)
      go_simp
      refine hK1 _ _ (.inr hS6) ?_
      clear hK1 K1
      refine wpAnyC_sole (i := 25) rfl (by kernel_rfl) (fun K1 hK1 => ?_)
      refine stepR_append (fun _ => trivial) rfl _ _ 24 rfl (.slice ta k tc) (.slice (some ⟨w5.heap.size, 0, none⟩) 1 1) _ rfl rfl hr4 ?_
      refine hK1 _ _ (.inr hS7) ?_
      clear hK1 K1
      try simp only [Act.put, List.setIfInBounds_toArray]
      refine wpAnyC_take (i := 26) (v := .pointer (some ⟨zo, 1, none⟩)) rfl (by kernel_rfl) (fun _ _ _ h => h) (yieldsR_run rfl rfl (fun _ => rfl) (fun u hu => by obtain ⟨u1, u2, u3, u4, u5⟩ := hu; go_simp)) hS7 ?_
      try simp only [Act.put]
      refine wpAnyC_sole (i := 27) rfl (by kernel_rfl) (fun K1 hK1 => ?_)
      go_simp
      refine hK1 _ _ (.inl rfl) ?_
      clear hK1 K1
      refine wpAnyC_done (by kernel_rfl) ?_
      refine NoPanic.normal ?_
      have HI4 := hid hI4
      clear hS hS5 hS6 hS7 hr4 oz4 fz4 hI4 hrow4 hx4 hE5 hE5w ho5 hTw
      go_wp2_with fail
      obtain ⟨m, hm⟩ : ∃ m, wdt dp t = m := ⟨_, rfl⟩
      have HW := hid (shl_w hm hdp)
      have hm64 : m ≤ 64 := by rw [← hm]; exact pow64 (by omega)
      have hsl : slo dp (L.take (k + 1)) 0 = slo dp (L.take k) 0 ++ List.replicate m k := by
        have hkl : k < L.length := by rw [HN.out]; exact hkn
        rw [take_snoc HT.out, slo_app, slo, slo, List.append_nil, hm, List.length_take, Nat.min_eq_left (by omega), Nat.zero_add]
      have hpl : (slo dp (L.take k) 0).length + m ≤ 64 := by
        have e := congrArg List.length hsl
        rw [List.length_append, List.length_replicate, slo_len] at e
        have h1 := pre_take_le dp L (k + 1)
        have h2 := HD.out.all
        have h3 := pow64 hdp
        omega
      have HSlo := hid hsl
      obtain ⟨S0, hS0⟩ : ∃ S0, slo dp (L.take k) 0 = S0 := ⟨_, rfl⟩
      have HS0 := hid hS0
      clear hsl
      rw [hS0] at hpl
      clear hS0
      go_loopw [5] (fun q wx => ∃ (j : Nat) (tv sv : Value), q = .int .i64 j ∧ j ≤ m ∧ ApI w wx z zo dp (k + 1) L (S0 ++ List.replicate j k) tv sv) (fun q _ => (m - (intOf q)).toNat)
      case atStart => exact ⟨0, _, _, rfl, Nat.zero_le _, by have := HI4.out; rw [HS0.out] at this; simpa using this⟩
      case round =>
        obtain ⟨j, tv, sv, rfl, hj, hJ⟩ := hrel
        have e0 := hJ.ext.cell f0w (by simp)
        have e1 := hJ.ext.cell f1 (by simp)
        have e2 := hJ.ext.cell k0 (by simp)
        have e3 := hJ.ext.cell k1 (by simp)
        obtain ⟨sa, sc, rfl, _⟩ := own_slice hJ.sl
        have e4 : wr.cell? ⟨zo, 2, none⟩ = some (.slice sa (S0 ++ List.replicate j k).length sc) := by rw [cell_of_row _ _ _ _ _ _ hJ.row]; rfl
        have hl64 : (S0 ++ List.replicate j k).length ≤ 64 := by rw [List.length_append, List.length_replicate]; omega
        have HRun := hid (fun N => aps_of w (wr.drewN N) z zo dp (k + 1) k L _ tv _ (hJ.keep (Ext.drewN [] wr N)) hl64)
        have HJ := hid hJ
        obtain ⟨sl, hsl⟩ : ∃ sl, S0 ++ List.replicate j k = sl := ⟨_, rfl⟩
        have HSl2 := hid hsl
        rw [hsl] at e4 hl64 HRun
        clear hJ hsl
        by_cases hjm : j < m
        · have hji : (j : Int) < (m : Int) := by omega
          have hjw : (j : Int) < wrap64 ((2 : Int) ^ (dp - t.d)) := by rw [HW.out]; exact hji
          go_upto_region 9 with (go_quiet (fail))
          clear hjw
          obtain ⟨a4, c4, U4, hr4, hrow4, hI4, hx4⟩ := HRun.out nq
          have fz4 : U4.frozen? ⟨zo, 2, none⟩ = false := frozen_of_row _ _ _ _ _ hrow4
          have oz4 : U4.cell? ⟨zo, 2, none⟩ = some (.slice sa sl.length sc) := by rw [cell_of_row _ _ _ _ _ _ hrow4]; rfl
          have e5 : (wr.drewN nq).cell? ⟨zo, 2, none⟩ = some (.slice sa sl.length sc) := e4
          have HI4' := hid hI4
          have Hr4 := hid hr4
          clear hI4 hrow4 hx4 hr4
          go_wp2_with (at_builtin; refine wpList_append_run rfl _ _ 25 rfl _ _ _ rfl rfl Hr4.out ?_)
          go_roundw
          case rel => exact ⟨j + 1, _, _, by go_num, by omega, by have := HI4'.out; rw [show sl ++ [k] = S0 ++ List.replicate (j + 1) k from by rw [← HSl2.out, List.append_assoc, ← List.replicate_succ']] at this; exact this⟩
          case measure => simp [intOf]; omega
        · obtain rfl : j = m := by omega
          have hjw : ¬ (j : Int) < wrap64 ((2 : Int) ^ (dp - t.d)) := by rw [HW.out]; omega
          clear e4 HRun
          go_wp2_with (go_quiet (fail))
          go_roundw
          case rel => exact ⟨k + 1, by go_num, by omega, _, _, by rw [HSlo.out, HS0.out]; exact HJ.out.keep (Ext.drewN [] _ _)⟩
          case measure => simp [intOf]; omega
    · obtain rfl : k = n := by omega
      obtain ⟨sa, sc, rfl, _⟩ := own_slice hI.sl
      obtain ⟨xs, ho, _, hv⟩ := hI.own
      have htk : L.take k = L := by rw [← HN.out]; exact List.take_length
      have hsL : (slo dp L 0).length = 2 ^ dp := by rw [slo_len, HD.out.all]
      have hsl2 := hI.sl
      rw [htk] at hv hsl2
      rw [hsL] at hsl2
      have hI2 := hI
      rw [htk, hsL] at hI2
      obtain ⟨gt, rfl⟩ : ∃ gt, ta = some ⟨gt, 0, none⟩ := by
        rcases ho.2 with ⟨_, h⟩ | ⟨gt, c', _, h, _⟩
        · omega
        · cases h; exact ⟨gt, rfl⟩
      obtain ⟨hgt, hTc⟩ := tc_of_own ho HN.out hv
      obtain ⟨g3, rfl, hg3, hc3, _, hns⟩ := ns_of_own hsl2 hsL (Nat.pow_pos (by omega))
      obtain ⟨m, hm⟩ : ∃ m, 2 ^ dp = m := ⟨_, rfl⟩
      rw [hm] at hI2 hc3
      have hr0 := hI2.row
      obtain ⟨o0, o1, o2⟩ := cells3 hr0
      have hr1 := hI2.res
      obtain ⟨y0, y1, y2⟩ := cells3 hr1
      obtain ⟨h3, x0, x1, x2⟩ := s3_of hr1 (.int .i64 (dp : Nat)) (.slice (some ⟨gt, 0, none⟩) k tc) (.slice (some ⟨g3, 0, none⟩) m sc)
      have hs0 := HE0.out.size
      have hgz : ∀ b cs ty, wr.heap[b]? = some (.cells cs ty (0, 0)) → ty ≠ 27 → b ≠ z := fun b cs ty h hty e => by
        rw [e, hr1] at h
        simp at h
        exact hty h.2.symm
      obtain ⟨csb, hcsb⟩ : ∃ cs, wr.heap[gt]? = some (.cells cs 66 (0, 0)) := by
        obtain ⟨cs', e, _⟩ := hTc.1
        exact ⟨cs', e⟩
      have HF : Hid (DcPost w dp k L (.returned (.agg #[.int .i64 (dp : Nat), .slice (some ⟨gt, 0, none⟩) k tc, .slice (some ⟨g3, 0, none⟩) m sc])) (((wr.setCell ⟨z, 0, none⟩ (.int .i64 (dp : Nat))).setCell ⟨z, 1, none⟩ (.slice (some ⟨gt, 0, none⟩) k tc)).setCell ⟨z, 2, none⟩ (.slice (some ⟨g3, 0, none⟩) m sc))) := by
        obtain ⟨cur, hcur⟩ := own_at hsl2 (q := g3) (by rfl)
        refine ⟨gt, tc, g3, sc, by unfold dv; rw [hm], ⟨hTc.1.keep h3.ext (by simpa using hgz _ _ _ hcsb (by decide)) (by simpa using fun T => not_tw_of hr1 (by decide) T), hns.keep h3.ext (by simpa using hgz _ _ _ hcur (by decide))⟩, by rw [hm]; exact hc3, by omega, by omega, hI2.ext.on h3.ext (by simp; omega)⟩
      have HS3 := hid h3.row
      clear hI hI2 ho hv hTc hr1 h3 htk hsl2 hsL hns hr0 hcsb hgz
      go_wp2_with fail
      refine bodyPost_ret (results_cell_row rfl _ _ z 27 _ (0, 0) _ rfl HS3.out Tryd.underlying27 rfl size27) rfl HF.out
end Go.Proofs.YtkfagfdefkaenaaDoor.Rf
