/-
  A heap's objects, spans and holes, as the law gathers them; no statement is proved here.
-/
import Derived.Test.YtlajjcboahflbaaDoorColl
namespace Go.Proofs.YtlajjcboahflbaaDoor
open Go.RowKit Go.Shelf

attribute [local go_sem] Oper.semAt_some

/-- An iterator over free runs, as Holes answers it. -/
def HoPost (w : World) (L : List Rn) (e : Ending) (w' : World) : Prop := ∃ gf lb K, e = .returned (.func (.func gf) #[] lb) ∧ (∀ args w, (callFunc gf args).run Tryd.prog w = .ok (.enter gf args) w) ∧ (∀ b ∈ K, w.heap.size ≤ b ∧ b < w'.heap.size) ∧
  (∀ V n, 4 ≤ n → Ext [] w' V → Gives Fence.wide n Tryd.prog gf lb (fun x : Rn => #[Value.agg #[.int .i64 x.s, .int .i64 x.n, .bool x.u]]) (Kh K) L 1024 V) ∧ Ext [] w w'

def WhPost (w : World) (OL : List Ob) (SL : List Spn) (HL : List Rn) (e : Ending) (w' : World) : Prop :=
  ∃ v1 v2 v3, e = .returned (.tuple #[v1, v2, v3, .bool true]) ∧ Obl w' v1 OL ∧ Spl w' v2 SL ∧ Lst w' v3 HL ∧ (∀ g, v1.ownBlock = some g → w.heap.size ≤ g) ∧ (∀ g, v2.ownBlock = some g → w.heap.size ≤ g) ∧ (∀ g, v3.ownBlock = some g → w.heap.size ≤ g) ∧ Ext [] w w'

/-- What code does, told once. -/
theorem wpIn_at {F : Fence} {n : Nat} {P : Program} {C : Code} {Q : Exit → Act → World → Prop} {a : Act} {w : World} (A : Act) (V : World) (h : C.wpIn F n P (fun e a2 w2 => e = Exit.normal ∧ w2 = V ∧ a2 = A) a w) (hq : Q .normal A V) : C.wpIn F n P Q a w :=
  Code.wpIn_mono (fun e a2 w2 ⟨h1, h2, h3⟩ => by subst h1 h2 h3; exact hq) h
/-- What lies in the four boxes. -/
structure Wst (w W : World) (z : Nat) (v1 v2 v3 : Value) : Prop where
  b1 : Boxed W z 28 v1
  b2 : Boxed W (z + 1) 29 v2
  b3 : Boxed W (z + 1 + 1) 30 v3
  b4 : Boxed W (z + 1 + 1 + 1) 4 (.bool false)
  ext : Ext [] w W
theorem Wst.step0 {w W W' : World} {z : Nat} {v1 v2 v3 : Value} (h : Wst w W z v1 v2 v3) (x : Ext [] W W') : Wst w W' z v1 v2 v3 :=
  ⟨x.keep h.b1 (by simp), x.keep h.b2 (by simp), x.keep h.b3 (by simp), x.keep h.b4 (by simp), h.ext.trans x⟩
theorem load28 {w : World} {g : Nat} {v : Value} (h : Boxed w g 28 v) : (loadVar 28 ⟨g, 0, none⟩).run Tryd.prog w = .ok v w := by
  have := h.cell
  simp [go_sem, this]
theorem load29 {w : World} {g : Nat} {v : Value} (h : Boxed w g 29 v) : (loadVar 29 ⟨g, 0, none⟩).run Tryd.prog w = .ok v w := by
  have := h.cell
  simp [go_sem, this]
theorem load30 {w : World} {g : Nat} {v : Value} (h : Boxed w g 30 v) : (loadVar 30 ⟨g, 0, none⟩).run Tryd.prog w = .ok v w := by
  have := h.cell
  simp [go_sem, this]
theorem load4 {w : World} {g : Nat} {v : Value} (h : Boxed w g 4 v) : (loadVar 4 ⟨g, 0, none⟩).run Tryd.prog w = .ok v w := by
  have := h.cell
  simp [go_sem, this]

set_option maxRecDepth 100000 in
set_option maxHeartbeats 8000000 in
theorem whole_of (pv : Option Addr) (OL : List Ob) (SL : List Spn) (HL : List Rn) (w : World) (ho : OL.length ≤ 100000) (hs : SL.length ≤ 1024)
    (hO : ∀ W, Ext [] w W → Calls Tryd.prog 25 #[.pointer pv] W (ObPost W OL)) (hS : ∀ W, Ext [] w W → Calls Tryd.prog 30 #[.pointer pv] W (SlPost W SL)) (hH : ∀ W, Ext [] w W → Calls Tryd.prog 31 #[.pointer pv] W (HoPost W HL)) :
    Calls Tryd.prog 11 #[.pointer pv] w (WhPost w OL SL HL) := by
  refine (callsIn_wide (n := 16)).1 ?_
  refine callsIn_of_wp_marks Tryd.func11 rfl trivial ?_ rfl
  simp only [Tryd.ntmps11, List.size_toArray, List.length_cons, List.length_nil, Nat.reduceAdd, Nat.reduceSub, Array.replicate_succ, Array.replicate_zero, List.push_toArray, List.append_toArray, List.nil_append, List.cons_append]
  have Ho := hid ho
  clear ho
  have HO := hid hO
  have HS := hid hS
  have HH := hid hH
  clear hO hS hH
  have e1 := eqlf 64 (by simp)
  have e2 := eqlf 80 (by simp)
  have e3 := eqlf 83 (by simp)
  obtain ⟨z, hz⟩ : ∃ z, z = w.heap.size := ⟨_, rfl⟩
  have HZ := hid hz
  have b1 := (((Boxed.new w 28 (.slice none 0 0)).alloc (.cells #[.slice none 0 0] 29)).alloc (.cells #[.slice none 0 0] 30)).alloc (.cells #[.bool false] 4)
  have b2 := ((Boxed.new (w.alloc (.cells #[.slice none 0 0] 28)) 29 (.slice none 0 0)).alloc (.cells #[.slice none 0 0] 30)).alloc (.cells #[.bool false] 4)
  have b3 := (Boxed.new ((w.alloc (.cells #[.slice none 0 0] 28)).alloc (.cells #[.slice none 0 0] 29)) 30 (.slice none 0 0)).alloc (.cells #[.bool false] 4)
  have b4 := Boxed.new (((w.alloc (.cells #[.slice none 0 0] 28)).alloc (.cells #[.slice none 0 0] 29)).alloc (.cells #[.slice none 0 0] 30)) 4 (.bool false)
  have hE0 : Ext [] w ((((w.alloc (.cells #[.slice none 0 0] 28)).alloc (.cells #[.slice none 0 0] 29)).alloc (.cells #[.slice none 0 0] 30)).alloc (.cells #[.bool false] 4)) := (((Ext.alloc [] _ _).trans (Ext.alloc [] _ _)).trans (Ext.alloc [] _ _)).trans (Ext.alloc [] _ _)
  simp only [World.size_alloc] at b2 b3 b4
  rw [← hz] at b1 b2 b3 b4
  have H : Hid (Wst w _ z (.slice none 0 0) (.slice none 0 0) (.slice none 0 0)) := hid ⟨b1, b2, b3, b4, hE0⟩
  clear b1 b2 b3 b4 hE0
  gi_wp2_with fail
  rw [← hz]
  obtain ⟨W0, hW0⟩ : ∃ W0, W0 = ((((w.alloc (.cells #[.slice none 0 0] 28)).alloc (.cells #[.slice none 0 0] 29)).alloc (.cells #[.slice none 0 0] 30)).alloc (.cells #[.bool false] 4)) := ⟨_, rfl⟩
  rw [← hW0] at H ⊢
  clear hW0 hz
  have HZ3 : Hid (z + 1 + 1 + 1 < W0.heap.size) := Boxed.lt H.out.b4
  refine ⟨trivial, (callsIn_wide.2 (HO.out _ H.out.ext)).mono ?_⟩
  rintro e w1 ⟨Bn, v, rfl, _, _, _, _, hx⟩
  replace HZ3 : Hid (z + 1 + 1 + 1 < w1.heap.size) := Nat.lt_of_lt_of_le HZ3.out hx.size
  replace H := hid (H.out.step0 hx)
  clear hx
  unfold ovit
  gi_wp2_with fail
  refine ⟨trivial, (callsIn_wide.2 (HS.out _ H.out.ext)).mono ?_⟩
  rintro e w2 ⟨Bn2, v2, rfl, _, _, _, _, hx⟩
  replace HZ3 : Hid (z + 1 + 1 + 1 < w2.heap.size) := Nat.lt_of_lt_of_le HZ3.out hx.size
  replace H := hid (H.out.step0 hx)
  clear hx
  unfold svit
  gi_wp2_with fail
  refine ⟨trivial, (callsIn_wide.2 (HH.out _ H.out.ext)).mono ?_⟩
  rintro e w3 ⟨gf0, lb0, K0, rfl, _, _, _, hx⟩
  replace HZ3 : Hid (z + 1 + 1 + 1 < w3.heap.size) := Nat.lt_of_lt_of_le HZ3.out hx.size
  replace H := hid (H.out.step0 hx)
  clear hx
  gi_wp2_with fail
  clear e1 e2 e3
  refine ⟨trivial, (callsIn_wide.2 (HO.out _ H.out.ext)).mono ?_⟩
  rintro e w4 ⟨B4, v4, rfl, bB4, hL4, hB4, hv4, hx⟩
  have h4a := HZ3.out
  replace HZ3 : Hid (z + 1 + 1 + 1 < w4.heap.size) := Nat.lt_of_lt_of_le HZ3.out hx.size
  replace H := hid (H.out.step0 hx)
  clear hx
  unfold ovit
  gi_wp2_with fail
  have cl1 : OwnFrom w4.heap.size (Cll z 28 34 4 obc w4) := cl_own
  have st1 : Cll z 28 34 4 obc w4 [] w4 := Cll.start H.out.b1
  have hb4 := Boxed.lt bB4
  have hg4 := fun g hg => (own_lt hL4 g hg).2
  refine wpIn_rangeFunc_ownH rfl (by omega) (gf := 78) (lb := #[.pointer (some ⟨B4, 0, none⟩)]) rfl trivial (enters_of Tryd.func78 (by kernel_rfl) rfl)
    (vals78_stops Fence.wide _ trivial rfl (by omega) B4 v4 OL (by have := Ho.out; omega) w4 bB4 hL4) klK_t (klK_b hb4 hg4) (Below.refl _ _) (fun _ => rfl)
    (Cll (z) 28 34 4 obc w4)
    (fun _ _ _ => False)
    cl1
    (fun _ _ _ _ _ hs _ _ => hs)
    st1
    (fun x a' W => ∃ Bx, W.heap[Bx]? = some (.cells #[.int .i64 x.1, .int .i64 x.2.1, .int .i64 x.2.2, .slice none 0 0] 34 (0, 0)) ∧ a' = { tmps := #[.pointer pv, undef, .pointer (some ⟨z, 0, none⟩), .pointer (some ⟨z + 1, 0, none⟩), .pointer (some ⟨z + 1 + 1, 0, none⟩), .pointer (some ⟨z + 1 + 1 + 1, 0, none⟩), .pointer (some ⟨Bx, 0, none⟩), undef, undef, .pointer pv, .func (.func 78) #[] #[.pointer (some ⟨Bn, 0, none⟩)], .bool false, .bool false, .pointer pv, .func (.func 80) #[] #[.pointer (some ⟨Bn2, 0, none⟩)], .bool false, .bool false, .bool false, .pointer pv, .func (.func gf0) #[] lb0, .bool false, .bool false, .pointer pv, .func (.func 78) #[] #[.pointer (some ⟨B4, 0, none⟩)], .agg #[.int .i64 x.1, .int .i64 x.2.1, .int .i64 x.2.2, .slice none 0 0], undef, undef, undef, undef, undef, undef, undef, undef, undef, undef, undef, undef, undef, undef, undef, undef, undef, undef, undef, undef, undef, undef, undef, undef, undef, undef, undef, undef, undef, undef], defers := [] })
    (fun x a' _ X Y row hs hg hr => by obtain ⟨Bx, h2, h3⟩ := hs; exact ⟨Bx, rowAt_own Bx 34 (fun _ : Unit => #[.int .i64 x.1, .int .i64 x.2.1, .int .i64 x.2.2, .slice none 0 0]) () X Y row h2 hg (fun r e => (hr r e).2), h3⟩)
    ?assign1 ?body1 ?done1 ?stop1
  case assign1 =>
    rintro l pre x W K hI hK
    gi_wp2
    exact hK _ _ ((KeepsOthers.alloc _ _).from _) (Kl.of_ext0 (Ext.alloc [] _ _)) (hI.alloc _) ⟨W.heap.size, heap_alloc_new _ _, rfl⟩
  case body1 =>
    rintro l pre x a' W hl ⟨r, hr⟩ ⟨⟨v, bC, hrow, _⟩, hEx⟩ ⟨Bx, bX, rfl⟩ hlt
    have hc := Boxed.cell bC
    have c0 : W.cell? ⟨Bx, 0, none⟩ = some (.int .i64 x.1) := by rw [cell_of_row _ _ _ _ _ _ bX]; rfl
    have c1 : W.cell? ⟨Bx, 1, none⟩ = some (.int .i64 x.2.1) := by rw [cell_of_row _ _ _ _ _ _ bX]; rfl
    have c2 : W.cell? ⟨Bx, 2, none⟩ = some (.int .i64 x.2.2) := by rw [cell_of_row _ _ _ _ _ _ bX]; rfl
    have c3 : W.cell? ⟨Bx, 3, none⟩ = some (.slice none 0 0) := by rw [cell_of_row _ _ _ _ _ _ bX]; rfl
    have hpl : pre.length + 1 ≤ 100000 := by have := Ho.out; omega
    have hpi : (pre.length : Int) + 1 ≤ 100000 := by omega
    have Hpl := hid hpl
    clear hpl hlt
    generalize hlim : (100000 : Int) = lim at hpi ⊢
    clear hlim
    have hxr : ∀ j u, (obc x)[j]? = some u → (W.alloc (.cells #[.int .i64 x.1, .int .i64 x.2.1, .int .i64 x.2.2, .slice none 0 0] 34)).cell? ((⟨W.heap.size, 0, none⟩ : Addr).add j) = some u := fun j u hu => by
      rw [Addr.add_lit, cell_of_row _ _ _ _ _ _ (heap_alloc_new W _), Nat.zero_add, ← hu]; simp [obc]
    have HX := hid hxr
    have HC := hid bC
    have Hrow := hid hrow
    have HEx := hid hEx
    have hWs : w4.heap.size ≤ W.heap.size := hEx.size
    have HBW : Hid (z < w4.heap.size) := by have := HZ3.out; show _ < _; omega
    obtain ⟨i0, hi, hz0, hz1', hz2⟩ := info_parts info34
    have HI0 := hid hi
    have HZ0 := hid hz0
    clear bC hrow hEx hxr bX hr hi hz0
    gi_wp2_with (gi_at_builtin; refine wpListIn_append_own _ rfl _ _ 28 rfl w4.heap.size 34 i0 _ 4 48 Tryd.underlying28 HI0.out HZ0.out hz1' hz2 rfl (by decide) _ _ _ rfl (Hrow.out.alloc _) ⟨W.heap.size, 0, none⟩ 1 1 (obc x) rfl rfl HX.out (by simp [obc, Value.oneCell']) (by have := Hpl.out; unfold maxLen; omega) (by have := Hpl.out; omega) (by simp; omega) ?_; intro v' w9 hown' hgrow _; obtain ⟨g', cap', rfl⟩ := ownsRow_succ hown'; obtain ⟨hv1, hv2, hst⟩ := coll_step (by decide) HC.out Hrow.out HEx.out HBW.out hown' hgrow; have hc1 := hv1.cell; have hf1 := hv1.frozen; have hc2 := hv2.cell; have Hst := hid hst; clear hst)
    exact ⟨Hst.out.keeps.from _, ⟨fun o ho => (Hst.out.same B4 hb4 (by omega)).trans ho, fun g hg o ho => (Hst.out.same g (hg4 g hg) (by have := hv4 g hg; omega)).trans ho⟩, Hst.out.cl⟩
  case stop1 =>
    rintro D c pre W _ _ h _
    exact h.elim
  rintro D1 zs W5 hD1 hzs hI hK1
  rw [hzs] at hI
  clear hzs cl1 st1
  obtain ⟨⟨u1, bC, hrow, _⟩, hEx⟩ := hI
  have HR1 := hid hrow
  replace H : Hid (Wst w W5 z u1 (.slice none 0 0) (.slice none 0 0)) := hid ⟨bC, hEx.keep H.out.b2 (by simp), hEx.keep H.out.b3 (by simp; omega), hEx.keep H.out.b4 (by simp; omega), H.out.ext.on hEx (by have := HZ.out; simp; omega)⟩
  have HK1 := hid hK1
  have HZ4 := HZ3
  replace HZ3 : Hid (z + 1 + 1 + 1 < W5.heap.size) := Nat.lt_of_lt_of_le HZ3.out hEx.size
  clear bC hrow hEx hK1 hL4 bB4 hv4 hg4
  gi_wp2_with fail
  refine ⟨trivial, (callsIn_wide.2 (HS.out _ H.out.ext)).mono ?_⟩
  rintro e w6 ⟨B6, v6, rfl, bB6, hL6, hB6, hv6, hx⟩
  have h6a := HZ3.out
  have h61 := lt_of_heap HK1.out
  replace HZ3 : Hid (z + 1 + 1 + 1 < w6.heap.size) := Nat.lt_of_lt_of_le HZ3.out hx.size
  replace H := hid (H.out.step0 hx)
  replace HR1 := hid (own_keep0 HR1.out hx)
  replace HK1 := hid (hx.keep HK1.out (by simp))
  clear hx
  unfold svit
  gi_wp2_with fail
  have cl2 : OwnFrom w6.heap.size (Cll (z + 1) 29 36 5 spc w6) := cl_own
  have st2 : Cll (z + 1) 29 36 5 spc w6 [] w6 := Cll.start H.out.b2
  have hb6 := Boxed.lt bB6
  have hg6 := fun g hg => (own_lt hL6 g hg).2
  refine wpIn_rangeFunc_ownH rfl (by omega) (gf := 80) (lb := #[.pointer (some ⟨B6, 0, none⟩)]) rfl trivial (enters_of Tryd.func80 (by kernel_rfl) rfl)
    (vals80_stops Fence.wide _ trivial rfl (by omega) B6 v6 SL (by omega) w6 bB6 hL6) klK_t (klK_b hb6 hg6) (Below.refl _ _) (fun _ => rfl)
    (Cll (z + 1) 29 36 5 spc w6)
    (fun _ _ _ => False)
    cl2
    (fun _ _ _ _ _ hs _ _ => hs)
    st2
    (fun x a' W => ∃ Bx, W.heap[Bx]? = some (.cells #[.int .i64 x.st, .int .i64 x.n, .int .i64 x.rm, .int .i64 x.S.length, .int .i64 (us x.S)] 36 (0, 0)) ∧ a' = { tmps := #[.pointer pv, undef, .pointer (some ⟨z, 0, none⟩), .pointer (some ⟨z + 1, 0, none⟩), .pointer (some ⟨z + 1 + 1, 0, none⟩), .pointer (some ⟨z + 1 + 1 + 1, 0, none⟩), undef, .pointer (some ⟨Bx, 0, none⟩), undef, .pointer pv, .func (.func 78) #[] #[.pointer (some ⟨Bn, 0, none⟩)], .bool false, .bool false, .pointer pv, .func (.func 80) #[] #[.pointer (some ⟨Bn2, 0, none⟩)], .bool false, .bool false, .bool false, .pointer pv, .func (.func gf0) #[] lb0, .bool false, .bool false, .pointer pv, .func (.func 78) #[] #[.pointer (some ⟨B4, 0, none⟩)], undef, undef, undef, undef, undef, undef, undef, undef, .pointer pv, .func (.func 80) #[] #[.pointer (some ⟨B6, 0, none⟩)], .agg #[.int .i64 x.st, .int .i64 x.n, .int .i64 x.rm, .int .i64 x.S.length, .int .i64 (us x.S)], undef, undef, undef, undef, undef, undef, undef, undef, undef, undef, undef, undef, undef, undef, undef, undef, undef, undef, undef, undef], defers := [] })
    (fun x a' _ X Y row hs hg hr => by obtain ⟨Bx, h2, h3⟩ := hs; exact ⟨Bx, rowAt_own Bx 36 (fun _ : Unit => #[.int .i64 x.st, .int .i64 x.n, .int .i64 x.rm, .int .i64 x.S.length, .int .i64 (us x.S)]) () X Y row h2 hg (fun r e => (hr r e).2), h3⟩)
    ?assign2 ?body2 ?done2 ?stop2
  case assign2 =>
    rintro l pre x W K hI hK
    gi_wp2
    exact hK _ _ ((KeepsOthers.alloc _ _).from _) (Kl.of_ext0 (Ext.alloc [] _ _)) (hI.alloc _) ⟨W.heap.size, heap_alloc_new _ _, rfl⟩
  case body2 =>
    rintro l pre x a' W hl ⟨r, hr⟩ ⟨⟨v, bC, hrow, _⟩, hEx⟩ ⟨Bx, bX, rfl⟩ hlt
    have hc := Boxed.cell bC
    have c0 : W.cell? ⟨Bx, 0, none⟩ = some (.int .i64 x.st) := by rw [cell_of_row _ _ _ _ _ _ bX]; rfl
    have c1 : W.cell? ⟨Bx, 1, none⟩ = some (.int .i64 x.n) := by rw [cell_of_row _ _ _ _ _ _ bX]; rfl
    have c2 : W.cell? ⟨Bx, 2, none⟩ = some (.int .i64 x.rm) := by rw [cell_of_row _ _ _ _ _ _ bX]; rfl
    have c3 : W.cell? ⟨Bx, 3, none⟩ = some (.int .i64 x.S.length) := by rw [cell_of_row _ _ _ _ _ _ bX]; rfl
    have c4 : W.cell? ⟨Bx, 4, none⟩ = some (.int .i64 (us x.S)) := by rw [cell_of_row _ _ _ _ _ _ bX]; rfl
    have hpl : pre.length + 1 ≤ 1024 := by have := Ho.out; omega
    have hpi : (pre.length : Int) + 1 ≤ 1024 := by omega
    have Hpl := hid hpl
    clear hpl hlt
    generalize hlim : (1024 : Int) = lim at hpi ⊢
    clear hlim
    have hxr : ∀ j u, (spc x)[j]? = some u → (W.alloc (.cells #[.int .i64 x.st, .int .i64 x.n, .int .i64 x.rm, .int .i64 x.S.length, .int .i64 (us x.S)] 36)).cell? ((⟨W.heap.size, 0, none⟩ : Addr).add j) = some u := fun j u hu => by
      rw [Addr.add_lit, cell_of_row _ _ _ _ _ _ (heap_alloc_new W _), Nat.zero_add, ← hu]; simp [spc]
    have HX := hid hxr
    have HC := hid bC
    have Hrow := hid hrow
    have HEx := hid hEx
    have hWs : w6.heap.size ≤ W.heap.size := hEx.size
    have HBW : Hid (z + 1 < w6.heap.size) := by have := HZ3.out; show _ < _; omega
    obtain ⟨i0, hi, hz0, hz1', hz2⟩ := info_parts info36
    have HI0 := hid hi
    have HZ0 := hid hz0
    clear bC hrow hEx hxr bX hr hi hz0
    gi_wp2_with (gi_at_builtin; refine wpListIn_append_own _ rfl _ _ 29 rfl w6.heap.size 36 i0 _ 5 40 Tryd.underlying29 HI0.out HZ0.out hz1' hz2 rfl (by decide) _ _ _ rfl (Hrow.out.alloc _) ⟨W.heap.size, 0, none⟩ 1 1 (spc x) rfl rfl HX.out (by simp [spc, Value.oneCell']) (by have := Hpl.out; unfold maxLen; omega) (by have := Hpl.out; omega) (by simp; omega) ?_; intro v' w9 hown' hgrow _; obtain ⟨g', cap', rfl⟩ := ownsRow_succ hown'; obtain ⟨hv1, hv2, hst⟩ := coll_step (by decide) HC.out Hrow.out HEx.out HBW.out hown' hgrow; have hc1 := hv1.cell; have hf1 := hv1.frozen; have hc2 := hv2.cell; have Hst := hid hst; clear hst)
    exact ⟨Hst.out.keeps.from _, ⟨fun o ho => (Hst.out.same B6 hb6 (by omega)).trans ho, fun g hg o ho => (Hst.out.same g (hg6 g hg) (by have := hv6 g hg; omega)).trans ho⟩, Hst.out.cl⟩
  case stop2 =>
    rintro D c pre W _ _ h _
    exact h.elim
  rintro D2 zs W7 hD2 hzs hI hK2
  rw [hzs] at hI
  clear hzs cl2 st2
  obtain ⟨⟨u2, bC, hrow, _⟩, hEx⟩ := hI
  have HR2 := hid hrow
  replace HR1 := hid (own_keep HR1.out hEx (fun b hb hv => by simp only [List.mem_singleton] at hb; have := (own_lt HR1.out b hv).1; have := HZ4.out; omega))
  have h6z := HZ3.out
  replace H : Hid (Wst w W7 z u1 u2 (.slice none 0 0)) := hid ⟨hEx.keep H.out.b1 (by simp), bC, hEx.keep H.out.b3 (by simp), hEx.keep H.out.b4 (by simp; omega), H.out.ext.on hEx (by have := HZ.out; simp; omega)⟩
  replace HK1 := hid (hEx.keep HK1.out (by have := HZ4.out; simp; omega))
  have HK2 := hid hK2
  have HZ6 := HZ3
  replace HZ3 : Hid (z + 1 + 1 + 1 < W7.heap.size) := Nat.lt_of_lt_of_le HZ3.out hEx.size
  clear bC hrow hEx hK2 hL6 bB6 hv6 hg6
  gi_wp2_with fail
  refine ⟨trivial, (callsIn_wide.2 (HH.out _ H.out.ext)).mono ?_⟩
  rintro e w8 ⟨gf, lb, K8, rfl, he8, hK8, hG8, hx⟩
  have h8a := HZ3.out
  have h82 := lt_of_heap HK2.out
  have h82' := hx.size
  replace HZ3 : Hid (z + 1 + 1 + 1 < w8.heap.size) := Nat.lt_of_lt_of_le HZ3.out hx.size
  replace H := hid (H.out.step0 hx)
  replace HR1 := hid (own_keep0 HR1.out hx)
  replace HR2 := hid (own_keep0 HR2.out hx)
  replace HK1 := hid (hx.keep HK1.out (by simp))
  replace HK2 := hid (hx.keep HK2.out (by simp))
  clear hx
  gi_wp2_with fail
  have cl3 : OwnFrom w8.heap.size (Cll (z + 1 + 1) 30 38 3 Rn.cells w8) := cl_own
  have st3 : Cll (z + 1 + 1) 30 38 3 Rn.cells w8 [] w8 := Cll.start H.out.b3
  refine loop_gives rfl (by omega) (gf := gf) (lb := lb) rfl trivial he8 (hG8 w8 _ (by omega) (Ext.refl _ _)) khK_t (fun W r o' hr => ⟨fun b hb o ho => (World.putObj_heap_other (by have := hK8 b hb; omega)).trans ho, fun b v hb => (World.putObj_heap_other (fun h => by subst h; rw [show W.heap[w8.heap.size + 1]? = _ from hb] at hr; cases hr)).trans hb⟩) (fun _ => rfl)
    (Cll (z + 1 + 1) 30 38 3 Rn.cells w8)
    cl3
    st3
    (fun x a' W => ∃ Bx, W.heap[Bx]? = some (.cells #[.int .i64 x.s, .int .i64 x.n, .bool x.u] 38 (0, 0)) ∧ a' = { tmps := #[.pointer pv, undef, .pointer (some ⟨z, 0, none⟩), .pointer (some ⟨z + 1, 0, none⟩), .pointer (some ⟨z + 1 + 1, 0, none⟩), .pointer (some ⟨z + 1 + 1 + 1, 0, none⟩), undef, undef, .pointer (some ⟨Bx, 0, none⟩), .pointer pv, .func (.func 78) #[] #[.pointer (some ⟨Bn, 0, none⟩)], .bool false, .bool false, .pointer pv, .func (.func 80) #[] #[.pointer (some ⟨Bn2, 0, none⟩)], .bool false, .bool false, .bool false, .pointer pv, .func (.func gf0) #[] lb0, .bool false, .bool false, .pointer pv, .func (.func 78) #[] #[.pointer (some ⟨B4, 0, none⟩)], undef, undef, undef, undef, undef, undef, undef, undef, .pointer pv, .func (.func 80) #[] #[.pointer (some ⟨B6, 0, none⟩)], undef, undef, undef, undef, undef, undef, undef, undef, .pointer pv, .func (.func gf) #[] lb, .agg #[.int .i64 x.s, .int .i64 x.n, .bool x.u], undef, undef, undef, undef, undef, undef, undef, undef, undef, undef], defers := [] })
    (fun x a' _ X Y row hs hg hr => by obtain ⟨Bx, h2, h3⟩ := hs; exact ⟨Bx, rowAt_own Bx 38 (fun _ : Unit => #[.int .i64 x.s, .int .i64 x.n, .bool x.u]) () X Y row h2 hg (fun r e => (hr r e).2), h3⟩)
    ?assign3 ?body3 ?done3
  case assign3 =>
    rintro l pre x W K hI hK
    gi_wp2
    exact hK _ _ ((KeepsOthers.alloc _ _).from _) (kh_ext0 (Ext.alloc [] _ _)) (hI.alloc _) ⟨W.heap.size, heap_alloc_new _ _, rfl⟩
  case body3 =>
    rintro l pre x a' W hl ⟨r, hr⟩ ⟨⟨v, bC, hrow, _⟩, hEx⟩ ⟨Bx, bX, rfl⟩ hlt
    have hc := Boxed.cell bC
    have c0 : W.cell? ⟨Bx, 0, none⟩ = some (.int .i64 x.s) := by rw [cell_of_row _ _ _ _ _ _ bX]; rfl
    have c1 : W.cell? ⟨Bx, 1, none⟩ = some (.int .i64 x.n) := by rw [cell_of_row _ _ _ _ _ _ bX]; rfl
    have c2 : W.cell? ⟨Bx, 2, none⟩ = some (.bool x.u) := by rw [cell_of_row _ _ _ _ _ _ bX]; rfl
    have hpl : pre.length + 1 ≤ 1024 := by have := Ho.out; omega
    have hpi : (pre.length : Int) + 1 ≤ 1024 := by omega
    have Hpl := hid hpl
    clear hpl hlt
    generalize hlim : (1024 : Int) = lim at hpi ⊢
    clear hlim
    have hxr : ∀ j u, (Rn.cells x)[j]? = some u → (W.alloc (.cells #[.int .i64 x.s, .int .i64 x.n, .bool x.u] 38)).cell? ((⟨W.heap.size, 0, none⟩ : Addr).add j) = some u := fun j u hu => by
      rw [Addr.add_lit, cell_of_row _ _ _ _ _ _ (heap_alloc_new W _), Nat.zero_add, ← hu]; simp [Rn.cells]
    have HX := hid hxr
    have HC := hid bC
    have Hrow := hid hrow
    have HEx := hid hEx
    have hWs : w8.heap.size ≤ W.heap.size := hEx.size
    have HBW : Hid (z + 1 + 1 < w8.heap.size) := by have := HZ3.out; show _ < _; omega
    obtain ⟨i0, hi, hz0, hz1', hz2⟩ := info_parts info38
    have HI0 := hid hi
    have HZ0 := hid hz0
    clear bC hrow hEx hxr bX hr hi hz0
    gi_wp2_with (gi_at_builtin; refine wpListIn_append_own _ rfl _ _ 30 rfl w8.heap.size 38 i0 _ 3 24 Tryd.underlying30 HI0.out HZ0.out hz1' hz2 rfl (by decide) _ _ _ rfl (Hrow.out.alloc _) ⟨W.heap.size, 0, none⟩ 1 1 (Rn.cells x) rfl rfl HX.out (by simp [Rn.cells, Value.oneCell']) (by have := Hpl.out; unfold maxLen; omega) (by have := Hpl.out; omega) (by simp; omega) ?_; intro v' w9 hown' hgrow _; obtain ⟨g', cap', rfl⟩ := ownsRow_succ hown'; obtain ⟨hv1, hv2, hst⟩ := coll_step (by decide) HC.out Hrow.out HEx.out HBW.out hown' hgrow; have hc1 := hv1.cell; have hf1 := hv1.frozen; have hc2 := hv2.cell; have Hst := hid hst; clear hst)
    exact ⟨Hst.out.keeps.from _, ⟨fun b hb o ho => (Hst.out.same b (hK8 b hb).2 (by have := (hK8 b hb).1; omega)).trans ho, fun b v hb => Hst.out.typed b _ _ _ hb (by decide) (by decide)⟩, Hst.out.cl⟩
  rintro D3 W9 hD3 hI hK3
  clear cl3 st3
  obtain ⟨⟨u3, bC, hrow, _⟩, hEx⟩ := hI
  have h8z := HZ3.out
  have HR3 := hid hrow
  replace HR1 := hid (own_keep HR1.out hEx (fun b hb hv => by simp only [List.mem_singleton] at hb; have := (own_lt HR1.out b hv).1; have := HZ4.out; omega))
  replace HR2 := hid (own_keep HR2.out hEx (fun b hb hv => by simp only [List.mem_singleton] at hb; have := (own_lt HR2.out b hv).1; have := HZ6.out; omega))
  replace H : Hid (Wst w W9 z u1 u2 u3) := hid ⟨hEx.keep H.out.b1 (by simp; omega), hEx.keep H.out.b2 (by simp), bC, hEx.keep H.out.b4 (by simp), H.out.ext.on hEx (by have := HZ.out; simp; omega)⟩
  replace HK1 := hid (hEx.keep HK1.out (by have := HZ4.out; simp; omega))
  replace HK2 := hid (hEx.keep HK2.out (by have := HZ6.out; simp; omega))
  have HK3 := hid hK3
  clear bC hrow hEx hK3 hG8
  obtain ⟨a1, c1, rfl, _⟩ := own_slice HR1.out
  obtain ⟨a2, c2, rfl, _⟩ := own_slice HR2.out
  obtain ⟨a3, c3, rfl, _⟩ := own_slice HR3.out
  have k1 := Boxed.cell H.out.b1
  have k2 := Boxed.cell H.out.b2
  have k3 := Boxed.cell H.out.b3
  have k4 := Boxed.cell H.out.b4
  have f1 := Boxed.frozen H.out.b1
  have f2 := Boxed.frozen H.out.b2
  have f3 := Boxed.frozen H.out.b3
  have f4 := Boxed.frozen H.out.b4
  generalize hn1 : OL.length = n1 at *
  generalize hn2 : SL.length = n2 at *
  generalize hn3 : HL.length = n3 at *
  have Hn1 := hid hn1
  have Hn2 := hid hn2
  have Hn3 := hid hn3
  clear hn1 hn2 hn3
  gi_wp2_with fail
  refine wpIn_at { tmps := #[.pointer pv, undef, .pointer (some ⟨z, 0, none⟩), .pointer (some ⟨z + 1, 0, none⟩), .pointer (some ⟨z + 1 + 1, 0, none⟩), .pointer (some ⟨z + 1 + 1 + 1, 0, none⟩), undef, undef, undef, .pointer pv, .func (.func 78) #[] #[.pointer (some ⟨Bn, 0, none⟩)], .bool false, .bool false, .pointer pv, .func (.func 80) #[] #[.pointer (some ⟨Bn2, 0, none⟩)], .bool false, .bool false, .bool false, .pointer pv, .func (.func gf0) #[] lb0, .bool false, .bool false, .pointer pv, .func (.func 78) #[] #[.pointer (some ⟨B4, 0, none⟩)], undef, undef, undef, undef, undef, undef, undef, undef, .pointer pv, .func (.func 80) #[] #[.pointer (some ⟨B6, 0, none⟩)], undef, undef, undef, undef, undef, undef, undef, undef, .pointer pv, .func (.func gf) #[] lb, undef, undef, undef, undef, undef, undef, undef, undef, .slice a1 n1 c1, .slice a2 n2 c2, .slice a3 n3 c3], defers := [{ target := .collected D3, args := #[] }, { target := .collected D2, args := #[] }, { target := .collected D1, args := #[] }] } ((((W9.setCell ⟨z, 0, none⟩ (.slice a1 n1 c1)).setCell ⟨z + 1, 0, none⟩ (.slice a2 n2 c2)).setCell ⟨z + 1 + 1, 0, none⟩ (.slice a3 n3 c3)).setCell ⟨z + 1 + 1 + 1, 0, none⟩ (.bool true)).drew ?_ ?_
  · have hmix : Tryd.prog.follows Departure.mixedOrders = true := by kernel_rfl
    clear HO HS HH H HR1 HR2 HR3 HK1 HK2 HK3 HZ3 HZ4 HZ6 HZ
    gi_region_elder_o
    all_goals exact ⟨rfl, rfl, rfl⟩
  obtain ⟨W10, hW10⟩ : ∃ W10, W10 = ((((W9.setCell ⟨z, 0, none⟩ (.slice a1 n1 c1)).setCell ⟨z + 1, 0, none⟩ (.slice a2 n2 c2)).setCell ⟨z + 1 + 1, 0, none⟩ (.slice a3 n3 c3)).setCell ⟨z + 1 + 1 + 1, 0, none⟩ (.bool true)).drew := ⟨_, rfl⟩
  rw [← hW10]
  have HF : Hid (Boxed W10 z 28 (.slice a1 n1 c1) ∧ Boxed W10 (z + 1) 29 (.slice a2 n2 c2) ∧ Boxed W10 (z + 1 + 1) 30 (.slice a3 n3 c3) ∧ Boxed W10 (z + 1 + 1 + 1) 4 (.bool true) ∧ Ext [z, z + 1, z + 1 + 1, z + 1 + 1 + 1] W9 W10) := by
    rw [hW10]
    have hd := Ext.drew [] ((((W9.setCell ⟨z, 0, none⟩ (.slice a1 n1 c1)).setCell ⟨z + 1, 0, none⟩ (.slice a2 n2 c2)).setCell ⟨z + 1 + 1, 0, none⟩ (.slice a3 n3 c3)).setCell ⟨z + 1 + 1 + 1, 0, none⟩ (.bool true))
    refine ⟨hd.keep (Boxed.other (Boxed.other (Boxed.other (H.out.b1.set _) (by omega) _) (by omega) _) (by omega) _) (by simp), hd.keep (Boxed.other (Boxed.other ((Boxed.other H.out.b2 (by omega) _).set _) (by omega) _) (by omega) _) (by simp), hd.keep (Boxed.other ((Boxed.other (Boxed.other H.out.b3 (by omega) _) (by omega) _).set _) (by omega) _) (by simp), hd.keep ((Boxed.other (Boxed.other (Boxed.other H.out.b4 (by omega) _) (by omega) _) (by omega) _).set _) (by simp), ?_⟩
    exact ((((Ext.setCell _ _ _ _ (by simp)).trans (Ext.setCell _ _ _ _ (by simp))).trans (Ext.setCell _ _ _ _ (by simp))).trans (Ext.setCell _ _ _ _ (by simp))).trans (hd.mono (by simp))
  have HW : Hid (Obl W10 (.slice a1 n1 c1) OL ∧ Spl W10 (.slice a2 n2 c2) SL ∧ Lst W10 (.slice a3 n3 c3) HL ∧ Marks [D3, D2, D1] W10 ∧ Ext [] w W10) := by
    have hx := HF.out.2.2.2.2
    have h1 := fun g hg => own_lt HR1.out g hg
    have h2 := fun g hg => own_lt HR2.out g hg
    have h3 := fun g hg => own_lt HR3.out g hg
    have z4 := HZ4.out
    have z6 := HZ6.out
    have z8 := HZ3.out
    refine ⟨?_, ?_, ?_, ?_, ?_⟩
    · have := own_base (own_keep HR1.out hx (fun b hb hv => by have := h1 b hv; simp at hb; omega)) (Nat.zero_le _)
      rw [← Hn1.out] at this ⊢; exact this
    · have := own_base (own_keep HR2.out hx (fun b hb hv => by have := h2 b hv; simp at hb; omega)) (Nat.zero_le _)
      rw [← Hn2.out] at this ⊢; exact this
    · have := own_base (own_keep HR3.out hx (fun b hb hv => by have := h3 b hv; simp at hb; omega)) (Nat.zero_le _)
      rw [← Hn3.out] at this ⊢; exact this
    · intro D hD
      simp only [List.mem_cons, List.not_mem_nil, or_false] at hD
      rcases hD with rfl | rfl | rfl
      · exact hx.keep HK3.out (by simp; omega)
      · exact hx.keep HK2.out (by simp; omega)
      · exact hx.keep HK1.out (by simp; omega)
    · exact H.out.ext.on hx (by have := HZ.out; simp; omega)
  clear hW10
  gi_wp2_with fail
  have hz4 := HZ4.out
  have hx4 := Nat.le_trans hD1 (Nat.le_refl _)
  refine leaves_marks [D3, D2, D1] W10 HW.out.2.2.2.1 (by simp; omega) (fun W' hX => ?_)
  have hzw := HZ.out
  have hz8 := HZ3.out
  have hz6 := HZ6.out
  have n1 : ∀ k, k ≤ z + 1 + 1 + 1 → k ∉ [D3, D2, D1] := fun k hk => by simp; omega
  have hrows : ∀ {e t : TypeId} {v : Value} {m : Nat} {xs : List Value}, W10.ownsRow 0 e t v m xs → W'.ownsRow 0 e t v m xs := fun {e t v m xs} h => own_keep h hX (fun b hb hv => by
    have hm := HW.out.2.2.2.1 b hb
    rcases h.2 with ⟨q, _⟩ | ⟨g, cap, cur, q, _, hg, _⟩
    · rw [q] at hv; simp [Value.ownBlock] at hv
    · rw [q] at hv; simp [Value.ownBlock] at hv; subst hv; rw [hm] at hg; simp at hg)
  refine ⟨_, results_cells4 rfl _ _ ⟨z, 0, none⟩ ⟨z + 1, 0, none⟩ ⟨z + 1 + 1, 0, none⟩ ⟨z + 1 + 1 + 1, 0, none⟩ _ _ _ _ rfl rfl rfl rfl (load28 (hX.keep HF.out.1 (n1 _ (by omega)))) (load29 (hX.keep HF.out.2.1 (n1 _ (by omega)))) (load30 (hX.keep HF.out.2.2.1 (n1 _ (by omega)))) (load4 (hX.keep HF.out.2.2.2.1 (n1 _ (by omega)))), _, _, _, rfl, hrows HW.out.1, hrows HW.out.2.1, hrows HW.out.2.2.1, ?_, ?_, ?_, ?_⟩
  · intro g hg; have := (own_lt HR1.out g hg).1; omega
  · intro g hg; have := (own_lt HR2.out g hg).1; omega
  · intro g hg; have := (own_lt HR3.out g hg).1; omega
  · exact HW.out.2.2.2.2.on hX (by simp; omega)

end Go.Proofs.YtlajjcboahflbaaDoor
