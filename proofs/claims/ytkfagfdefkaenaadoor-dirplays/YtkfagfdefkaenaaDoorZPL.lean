/-
  RhN, RhJ: joined by program; no statement is proved here.
-/
import Derived.Test.YtkfagfdefkaenaaDoorZPK
import Derived.Test.YtkfagfdefkaenaaDoorZPF
/-
  The end of the document's split; no statement is proved here.
-/
namespace Go.Proofs.YtkfagfdefkaenaaDoor.Rf
open Go.RowKit Go.Shelf
open Pr (Gp GpI)
attribute [local go_sem] Oper.semAt_some run_store_func

theorem hf_take {d b i : Nat} {E : List (Nat × Nat)} {e : Nat × Nat} (h : E[i]? = some e) : hf d b (E.take (i + 1)) = hf d b (E.take i) ++ (if ld e.1 (d + 1) % 2 = b then [e] else []) := by
  unfold hf
  rw [List.take_add_one, h, List.filter_append]
  congr 1
  by_cases q : ld e.1 (d + 1) % 2 = b <;> simp [q]
theorem hf_le {d b i : Nat} {E : List (Nat × Nat)} : (hf d b (E.take i)).length ≤ i := by
  unfold hf
  refine Nat.le_trans (List.length_filter_le _ _) ?_
  rw [List.length_take]
  omega
theorem info78 : (Tryd.prog.info? 78).map (fun i => (i.zero, i.size, i.bytes)) = some (some (.pointer none), 1, 8) := by kernel_rfl
/-- What the document's split leaves. -/
def RspPost (pd dp : Nat) (A : List Tq) (t : Tq) (B : List Tq) (R : List Rc) (W0 w : World) (e : Ending) (w' : World) : Prop := Ext [] W0 w' ∧ Ext [pd] w w' ∧ ∃ v X0 X1 qd' cd' R', e = .returned v ∧ Fil X0 t.G (hf t.d 0 (ents t.T t.G)) ∧ Fil X1 t.G (hf t.d 1 (ents t.T t.G)) ∧ Rd w' pd qd' cd' (max dp (t.d + 1)) (A ++ ⟨t.d + 1, t.G, X0⟩ :: ⟨t.d + 1, t.G, X1⟩ :: B) R' ∧ Low W0.heap.size pd qd' R' ∧ ∀ s ∈ R', s ∈ R ∨ (w.heap.size ≤ s.pt ∧ w.heap.size ≤ s.q)
set_option maxRecDepth 100000 in
set_option maxHeartbeats 2000000 in
theorem rsplit_end {pd qd cd dp a mx le n p0 q0 p1 q1 i j : Nat} {A B : List Tq} {t : Tq} {R : List Rc} {r : Rc} {X0 X1 : List Nat} {W0 w wr u1 ua : World} {va : Value}
    (hD : Dq dp (A ++ t :: B)) (hA : A.length = a) (hr : R[a]? = some r) (hm : max dp (t.d + 1) = mx) (hle : lea dp (A ++ t :: B) a t = le) (hn : (A ++ t :: B).length = n) (hX : Ext [] W0 w) (hlo : Low W0.heap.size pd qd R) (hR : Rd w pd qd cd dp (A ++ t :: B) R) (hwr : Ext [] w wr) (hs : Ext [pd] wr u1)
    (hrow : u1.heap[pd]? = some (.cells #[.int .i64 (mx : Nat), .slice (some ⟨qd, 0, none⟩) n cd] 83 (0, 0))) (f0 : Fil X0 t.G (hf t.d 0 (ents t.T t.G))) (f1 : Fil X1 t.G (hf t.d 1 (ents t.T t.G))) (h0 : Rt wr p0 q0 (8 * t.G) t.G X0) (h1 : Rt wr p1 q1 (8 * t.G) t.G X1) (hp : w.heap.size ≤ p0 ∧ w.heap.size ≤ q0 ∧ w.heap.size ≤ p1 ∧ w.heap.size ≤ q1) (hne : p0 ≠ p1 ∧ q0 ≠ q1)
    (ho : ua.ownsRow u1.drew.heap.size 78 1 va (a + 2) ((ptl R).take a ++ [.pointer (some ⟨i, 0, none⟩), .pointer (some ⟨j, 0, none⟩)])) (hx : Ext [] u1.drew ua)
    (hi : ua.heap[i]? = some (.cells #[.int .i64 ((t.d : Int) + 1), .int .u64 (2 * (le : Int)), .pointer (some ⟨p0, 0, none⟩)] 80 (0, 0))) (hj : ua.heap[j]? = some (.cells #[.int .i64 ((t.d : Int) + 1), .int .u64 (2 * (le : Int) + 1), .pointer (some ⟨p1, 0, none⟩)] 80 (0, 0)))
    (hij : i ≠ j) (hil : w.heap.size ≤ i) (hjl : w.heap.size ≤ j) (ad : Option Addr) (m c : Nat) (hmm : m = n - (a + 1)) (had : m = 0 ∨ ad = some ⟨qd, a + 1, none⟩) :
    ∃ g cap uz, (Builtin.append_ #[81, 81] 81 #[va, .slice ad m c]).run Tryd.prog ua = .ok (.slice (some ⟨g, 0, none⟩) (a + 2 + m) cap) uz ∧ uz.heap[pd]? = some (.cells #[.int .i64 (mx : Nat), .slice (some ⟨qd, 0, none⟩) n cd] 83 (0, 0)) ∧ Hid (∀ v, RspPost pd dp A t B R W0 w (.returned v) (uz.setCell ⟨pd, 1, none⟩ (.slice (some ⟨g, 0, none⟩) (a + 2 + m) cap))) := by
  rw [show (t.d : Int) + 1 = ((t.d + 1 : Nat) : Int) by omega] at hi hj
  rw [show 2 * (le : Int) = ((2 * le : Nat) : Int) by omega] at hi
  rw [show 2 * (le : Int) + 1 = ((2 * le + 1 : Nat) : Int) by omega] at hj
  have hn64 := hD.len
  rw [hn] at hn64
  have hRl : R.length = n := by rw [hR.len, hn]
  have han : a < n := by rw [← hn, ← hA, List.length_append, List.length_cons]; omega
  obtain ⟨hqp, _⟩ := rd_ne hR
  have hpl : pd < w.heap.size := lt_of_heap hR.blk
  have hVs : Vs ua (some ⟨qd, a + 1, none⟩) (((ptl R).drop (a + 1)).take m) := (((rd_vs hR (a + 1) m).keep0 hwr).keep hs (by simpa using hqp)).keep0 ((Ext.drew [] u1).trans hx)
  rw [List.take_of_length_le (by simp [ptl]; omega)] at hVs
  have hVs : Vs ua ad ((ptl R).drop (a + 1)) := by
    rcases had with h | h
    · exact .inl (List.drop_eq_nil_of_le (by simp [ptl]; omega))
    · rw [h]; exact hVs
  obtain ⟨vz, uz, hrz, hoz, hxz, hkz⟩ := app_own u1.drew ua hx 81 81 78 (.pointer none) 8 Tryd.underlying81 info78 rfl (by decide) va (a + 2) _ ho ad m c ((ptl R).drop (a + 1)) (by simp [ptl]; omega) hVs (fun u hu => by
    obtain ⟨s, _, rfl⟩ := List.mem_map.1 (List.mem_of_mem_drop hu)
    rfl) (by omega)
  have hz := hxz.keep (show u1.drew.heap[pd]? = _ from hrow) (by simp)
  obtain ⟨g, cap, cur, rfl, hgl, hgr, hgc, hgv⟩ := own_row hoz (by omega)
  refine ⟨g, cap, uz, hrz, hz, hid (fun v => ?_)⟩
  have hN : a + 2 + m = (A ++ t :: B).length.succ := by omega
  have hset := Ext.setCell [pd] uz ⟨pd, 1, none⟩ (.slice (some ⟨g, 0, none⟩) (a + 2 + m) cap) (by simp)
  have hx2 : Ext [pd] w uz := ((hwr.mono (by simp)).trans hs).trans (((Ext.drew [] u1).trans hxz).mono (by simp))
  have hxW := hx2.trans hset
  have hsz1 : w.heap.size ≤ u1.heap.size := Nat.le_trans hwr.size hs.size
  have hu1 : u1.drew.heap.size = u1.heap.size := rfl
  have hgp : g ≠ pd := by omega
  have hsz0 := hX.size
  have hua : ∀ b o, ua.heap[b]? = some o → ua.heap.size ≤ uz.heap.size ∧ b < ua.heap.size := fun b o h => ⟨hkz.size, lt_of_heap h⟩
  have hown : ∀ (b : Nat) (cs : Array Value), ua.heap[b]? = some (.cells cs 80 (0, 0)) → uz.heap[b]? = some (.cells cs 80 (0, 0)) := fun b cs hb => hkz.keep hb (by rw [Option.mem_toList]; exact own_ne ho hb (by decide))
  have hRs : R = R.take a ++ r :: R.drop (a + 1) := by
    have e := (List.take_append_drop a R).symm
    rw [List.drop_eq_getElem_cons (by omega)] at e
    rw [List.getElem?_eq_getElem (by omega)] at hr
    rw [Option.some.inj hr] at e
    exact e
  have hRA : (R.take a).length = A.length := by rw [List.length_take]; omega
  have hpq := rd_old hR hr
  refine ⟨hX.on hxW (by simpa using hlo.1), hxW, v, X0, X1, g, cap, R.take a ++ ⟨i, p0, q0, 8 * t.G⟩ :: ⟨j, p1, q1, 8 * t.G⟩ :: R.drop (a + 1), rfl, f0, f1, ?_, ⟨hlo.1, by omega, fun s hs' => ?_⟩, fun s hs' => ?_⟩
  · rw [hm]
    have hR2 := hR
    rw [hRs] at hR2
    have hT : ∀ {p q X}, w.heap.size ≤ p → w.heap.size ≤ q → Rt wr p q (8 * t.G) t.G X → Rt (uz.setCell ⟨pd, 1, none⟩ (.slice (some ⟨g, 0, none⟩) (a + 2 + m) cap)) p q (8 * t.G) t.G X := fun h1 h2 h => ((h.keep hs (by simp; omega) (by simp; omega)).keep0 ((Ext.drew [] u1).trans hxz)).keep hset (by simp; omega) (by simp; omega)
    refine rd_split (cs := cur) hD hm hR2 hRA hxW ?_ (hset.keep hgr (by simpa using hgp)) (fun k u hu => hgv k u ?_) ?_ ?_ (hT hp.1 hp.2.1 h0) (hT hp.2.2.1 hp.2.2.2 h1) ⟨hil, hp.1, hp.2.1⟩ ⟨hjl, hp.2.2.1, hp.2.2.2⟩ ⟨hij, hne.1, hne.2⟩ (by rw [← hN]; exact hgc)
    · have := heap_setCell_same uz pd 1 _ 83 (.slice (some ⟨g, 0, none⟩) (a + 2 + m) cap) hz
      simp only [List.setIfInBounds_toArray, List.set_cons_succ, List.set_cons_zero] at this
      rw [← hN]
      exact this
    · rw [← hu]
      congr 1
      simp [ptl, List.map_take, List.map_drop]
    · rw [hA, hle]
      exact hset.keep (hown _ _ hi) (by simp; omega)
    · rw [hA, hle]
      exact hset.keep (hown _ _ hj) (by simp; omega)
  · rcases List.mem_append.1 hs' with q | q
    · exact hlo.2.2 s (List.mem_of_mem_take q)
    · rcases List.mem_cons.1 q with q | q
      · subst q
        exact ⟨by show W0.heap.size ≤ i; omega, by show W0.heap.size ≤ p0; omega, by show W0.heap.size ≤ q0; omega⟩
      · rcases List.mem_cons.1 q with q | q
        · subst q
          exact ⟨by show W0.heap.size ≤ j; omega, by show W0.heap.size ≤ p1; omega, by show W0.heap.size ≤ q1; omega⟩
        · exact hlo.2.2 s (List.mem_of_mem_drop q)
  · rcases List.mem_append.1 hs' with q | q
    · exact .inl (List.mem_of_mem_take q)
    · rcases List.mem_cons.1 q with q | q
      · subst q
        exact .inr ⟨hil, hp.2.1⟩
      · rcases List.mem_cons.1 q with q | q
        · subst q
          exact .inr ⟨hjl, hp.2.2.2⟩
        · exact .inl (List.mem_of_mem_drop q)
end Go.Proofs.YtkfagfdefkaenaaDoor.Rf

/-
  What the document's directory may write, and its Delete; no statement is proved here.
-/
namespace Go.Proofs.YtkfagfdefkaenaaDoor.Rf
open Go.RowKit Go.Shelf
open Pr (Gp GpI)
attribute [local go_sem] Oper.semAt_some run_store_func

/-- The blocks that a call on the document's directory may write. -/
def foot (pd : Nat) (R : List Rc) : List Nat := pd :: (R.map Rc.pt ++ R.map Rc.q)
theorem foot_q {pd : Nat} {R : List Rc} {r : Rc} (h : r ∈ R) : r.q ∈ foot pd R := by
  unfold foot
  exact List.mem_cons_of_mem _ (List.mem_append_right _ (List.mem_map.2 ⟨r, h, rfl⟩))
theorem foot_pt {pd : Nat} {R : List Rc} {r : Rc} (h : r ∈ R) : r.pt ∈ foot pd R := by
  unfold foot
  exact List.mem_cons_of_mem _ (List.mem_append_left _ (List.mem_map.2 ⟨r, h, rfl⟩))
theorem foot_pd {pd : Nat} {R : List Rc} : pd ∈ foot pd R := by
  unfold foot
  exact List.mem_cons_self ..
theorem foot_mem {pd x : Nat} {R : List Rc} (h : x ∈ foot pd R) : x = pd ∨ ∃ r ∈ R, x = r.pt ∨ x = r.q := by
  unfold foot at h
  rcases List.mem_cons.1 h with h | h
  · exact .inl h
  · rcases List.mem_append.1 h with h | h
    · obtain ⟨r, hr, rfl⟩ := List.mem_map.1 h
      exact .inr ⟨r, hr, .inl rfl⟩
    · obtain ⟨r, hr, rfl⟩ := List.mem_map.1 h
      exact .inr ⟨r, hr, .inr rfl⟩
/-- What is new lies in new blocks. -/
def NwR (pd : Nat) (R : List Rc) (w : World) (R' : List Rc) : Prop := ∀ s ∈ R', (s.pt ∈ foot pd R ∨ w.heap.size ≤ s.pt) ∧ (s.q ∈ foot pd R ∨ w.heap.size ≤ s.q)
theorem NwR.refl (pd : Nat) (R : List Rc) (w : World) : NwR pd R w R := fun _ h => ⟨.inl (foot_pt h), .inl (foot_q h)⟩
theorem fx_step {F S : List Nat} {a b c : World} (h : Ext F a b) (k : Ext S b c) (hs : ∀ x ∈ S, x ∈ F ∨ a.heap.size ≤ x) : Ext F a c :=
  ((h.mono (T := F ++ S) (fun _ hx => List.mem_append_left _ hx)).trans (k.mono (T := F ++ S) (fun _ hx => List.mem_append_right _ hx))).drop (fun x hx => by
    rcases List.mem_append.1 hx with q | q
    · exact .inl q
    · exact hs x q)
set_option maxRecDepth 100000 in
set_option maxHeartbeats 4000000 in
theorem rddel_fx (pd qd cd dp h d : Nat) (L : List Tq) (R : List Rc) (hD : Dq dp L) (hh : h < 18446744073709551616) (W0 w : World) (hX : Ext [] W0 w) (hlo : Low W0.heap.size pd qd R) (hR : Rd w pd qd cd dp L R) :
    Calls Tryd.prog 16 #[.pointer (some ⟨pd, 0, none⟩), .int .u64 (h : Nat), .int .u64 (d : Nat)] w (fun e w' => RdPost h d dp pd qd cd L R W0 e w' ∧ Ext (foot pd R) w w') := by
  obtain ⟨A, t, B, hT⟩ := tab_of hD hh
  have KT := fun u (hu : Rd u pd qd cd dp L R) => rtab_any pd qd cd dp h L A B t R hD hh hT u hu
  obtain rfl := hT.eq
  obtain ⟨r, hr⟩ : ∃ r, R[A.length]? = some r := ⟨_, List.getElem?_eq_getElem (by rw [hR.len]; simp)⟩
  obtain ⟨b1, hRt⟩ := hR.tab A.length r t hr (by simp)
  obtain ⟨cs, hcs, hcs2⟩ := hR.row
  have f1 : w.cell? ⟨pd, 1, none⟩ = some (.slice (some ⟨qd, 0, none⟩) (A ++ t :: B).length cd) := by rw [cell_of_row _ _ _ _ _ _ hR.blk]; rfl
  have f2 : w.cell? ⟨qd, A.length, none⟩ = some (.pointer (some ⟨r.pt, 0, none⟩)) := by rw [cell_of_row _ _ _ _ _ _ hcs]; exact hcs2 _ r hr
  have f3 : w.cell? ⟨r.pt, 2, none⟩ = some (.pointer (some ⟨r.p, 0, none⟩)) := by rw [cell_of_row _ _ _ _ _ _ b1]; rfl
  have hsd := hT.ot.sd
  have KT' := KT w.drew (hR.keep0 (Ext.drew [] w))
  obtain ⟨ds, hds, _⟩ := hRt.row
  have n1 : pd ∉ [r.q] := by
    intro e
    have := hR.blk
    rw [List.mem_singleton.1 e, hds] at this
    simp at this
  have n2 : qd ∉ [r.q] := by
    intro e
    rw [List.mem_singleton.1 e, hds] at hcs
    simp at hcs
  have n3 : r.pt ∉ [r.q] := by
    intro e
    rw [List.mem_singleton.1 e, hds] at b1
    simp at b1
  have KD := fun u (hu : Ext [] w u) => (rdel_any r.p r.q r.c t.G h d t.T u (hRt.keep0 hu) hsd.shp.gp hh).mono (R' := fun e w' => ∃ bb, e = .returned (.bool bb) ∧ Ext [r.q] u w' ∧ Hid (One (DelT t.T t.G h d) r t bb w')) (fun e w' hp => by obtain ⟨bb, a, b⟩ := del_one hsd hp.1; exact ⟨bb, a, hp.2, b⟩)
  have hlq := (hlo.2.2 r (List.mem_of_getElem? hr)).2.2
  obtain ⟨n, hn⟩ : ∃ n, (A ++ t :: B).length = n := ⟨_, rfl⟩
  have hn2 : A.length < n := by rw [← hn, List.length_append, List.length_cons]; omega
  have hn64 := hD.len
  rw [hn] at hn64 f1
  have HR := hid hR
  have HT := hid hT
  have HX := hid hX
  have Hr := hid hr
  obtain ⟨a, ha⟩ : ∃ a, A.length = a := ⟨_, rfl⟩
  rw [ha] at f2 KT' hn2
  have hai : (a : Int) < n := by omega
  have s1 : (w.drew).cell? ⟨pd, 1, none⟩ = some (.slice (some ⟨qd, 0, none⟩) n cd) := f1
  have s2 : (w.drew).cell? ⟨qd, a, none⟩ = some (.pointer (some ⟨r.pt, 0, none⟩)) := f2
  have s3 : (w.drew).cell? ⟨r.pt, 2, none⟩ = some (.pointer (some ⟨r.p, 0, none⟩)) := f3
  have hxd := Ext.drew [] w
  have hk4 : (0 : Int) ≤ (a : Int) := by omega
  clear hR hT hX hcs hcs2 hr b1 hRt hD KT hds f1 f2 f3
  go_enter Tryd.func16, Tryd.ntmps16
  go_wp2_with fail
  go_region_held3 (fun w' => w'.cell? ⟨pd, 1, none⟩ = some (.slice (some ⟨qd, 0, none⟩) n cd) ∧ w'.cell? ⟨qd, a, none⟩ = some (.pointer (some ⟨r.pt, 0, none⟩)) ∧ w'.cell? ⟨r.pt, 2, none⟩ = some (.pointer (some ⟨r.p, 0, none⟩)))
    (first | exact ⟨hE2.cell (hE1.cell s1 (by simp)) n1, hE2.cell (hE1.cell s2 (by simp)) n2, hE2.cell (hE1.cell s3 (by simp)) n3⟩ | exact ⟨hE1.cell s1 (by simp), hE1.cell s2 (by simp), hE1.cell s3 (by simp)⟩ | exact ⟨s1, s2, s3⟩ | go_keep)
    (first | (go_at_call 40; refine KT'.mono ?_; rintro _ u1 ⟨rfl, hE1⟩) | (go_at_call 41; refine (KD u1 (hxd.trans hE1)).mono ?_; rintro _ u2 ⟨bb, rfl, hE2, hO⟩) | fail "no arm")
  have hX2 := (HX.out.trans (hxd.trans hE1)).on hE2 (by simpa using hlq)
  have hEE : Ext [r.q] w u2 := ((hxd.trans hE1).mono (by simp)).trans hE2
  have HF : Hid (RdPost h d dp pd qd cd (A ++ t :: B) R W0 (.returned (.bool bb)) u2 ∧ Ext (foot pd R) w u2) := by
    refine ⟨?_, hEE.mono (fun x hx => by rw [List.mem_singleton] at hx; rw [hx]; exact foot_q (List.mem_of_getElem? Hr.out))⟩
    rcases hO.out with ⟨rfl, T', hI, hRt'⟩ | ⟨rfl, hI, hRt'⟩
    · exact ⟨hX2, .inl ⟨_, ⟨A, t, B, T', HT.out, hI, rfl⟩, rfl, HR.out.upd Hr.out hEE hRt'⟩⟩
    · exact ⟨hX2, .inr ⟨⟨A, t, B, HT.out, hI⟩, rfl, HR.out.upd Hr.out hEE hRt'⟩⟩
  clear s1 s2 s3 hE1 hE2 hO hX2 hEE KT' KD n1 n2 n3 hxd
  go_wp2_with fail
  go_ret
  exact HF.out
end Go.Proofs.YtkfagfdefkaenaaDoor.Rf
