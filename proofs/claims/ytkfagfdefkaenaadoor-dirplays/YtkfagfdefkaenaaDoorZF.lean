/-
  Del, Wf, Upd, Upe, Cnt, Sum: joined by program; no statement is proved here.
-/
import Derived.Test.YtkfagfdefkaenaaDoorZE
import Derived.Test.YtkfagfdefkaenaaDoorZD
/-
  Delete: a table without an entry; no statement is proved here.
-/
namespace Go.Proofs.YtkfagfdefkaenaaDoor
open Go.RowKit Go.Shelf
open Pr (Gp GpI sq pl)
attribute [local go_sem] Oper.semAt_some run_store_func wide_fn wide_depth

/-- The blocks of a list are the loop's own. -/
def Olist (S : List Nat) (_ : World) (k : Nat) : Prop := k ∈ S
theorem cal_list {β : Type} {S : List Nat} {J : β → World → Prop} {B : Nat} (hJ : OwnFrom B J) (hl : ∀ s W, J s W → ∀ k ∈ S, k < W.heap.size) : Cal (Olist S) J B := ⟨hJ, fun s W k h hk => hl s W h k hk, fun _ _ _ _ _ _ _ h => h⟩
theorem kc_list {S : List Nat} {A B : World} (x : Ext S A B) : Kc (Olist S) A B := ⟨x.size, fun _ _ hk _ hO => x.keep hk hO, fun _ h => .inl h⟩
theorem load22 {w : World} {g : Nat} {v : Value} (h : Boxed w g 22 v) : (loadVar 22 ⟨g, 0, none⟩).run Tryd.prog w = .ok v w := by
  have := h.cell
  simp [go_sem, this]
theorem load29 {w : World} {g : Nat} {v : Value} (h : Boxed w g 28 v) : (loadVar 28 ⟨g, 0, none⟩).run Tryd.prog w = .ok v w := by
  have := h.cell
  simp [go_sem, this]
theorem results_cells2 {P : Program} {fn : Func} {p q : Tmp} {ty ty' : TypeId} (h : fn.results = #[.cell p ty, .cell q ty']) (tmps : Array Value) (w : World) (a b : Addr) (v v' : Value)
    (hp : tmps.getD p undef = .pointer (some a)) (hq : tmps.getD q undef = .pointer (some b)) (h1 : (loadVar ty a).run P w = .ok v w) (h2 : (loadVar ty' b).run P w = .ok v' w) : (results fn tmps).run P w = .ok (.tuple #[v, v']) w := by
  have hp' : tmps[p]?.getD undef = .pointer (some a) := by simpa using hp
  have hq' : tmps[q]?.getD undef = .pointer (some b) := by simpa using hq
  simp [results, h, hp', hq', asAddr, h1, h2]

/-- What Delete makes of a table. -/
def DelT (T : List Nat) (G h d : Nat) : Option (List Nat) → Prop
  | some T' => ∃ A x C, mts T h G = A ++ x :: C ∧ (∀ p ∈ A, idw T p.1 p.2 ≠ d) ∧ idw T x.1 x.2 = d ∧ T' = remAt T x.1 x.2
  | none => ∀ p ∈ mts T h G, idw T p.1 p.2 ≠ d
def TDelPost (T : List Nat) (G h d : Nat) (w : World) (e : Ending) (w' : World) : Prop := Ext [] w w' ∧
  ((∃ T' g c, DelT T G h d (some T') ∧ e = .returned (.tuple #[.slice (some ⟨g, 0, none⟩) (3 + 17 * G) c, .int .i64 0]) ∧ Tw w' g T' ∧ w.heap.size ≤ g) ∨
   (DelT T G h d none ∧ e = .returned (.tuple #[.slice none 0 0, .int .i64 4])))
def DelI (T : List Nat) (d : Nat) (W3 : World) (pre : List (Nat × Nat)) (W : World) : Prop := Ext [] W3 W ∧ ∀ p ∈ pre, idw T p.1 p.2 ≠ d
def DelX (T : List Nat) (G d z : Nat) (W3 : World) (cd : Code) (pre : List (Nat × Nat)) (W : World) : Prop := cd = .ret ∧ ∃ A x, pre = A ++ [x] ∧ (∀ p ∈ A, idw T p.1 p.2 ≠ d) ∧ idw T x.1 x.2 = d ∧
  ∃ g c, Boxed W (z + 2) 22 (.slice (some ⟨g, 0, none⟩) (3 + 17 * G) c) ∧ Boxed W (z + 3) 28 (.int .i64 0) ∧ Tw W g (remAt T x.1 x.2) ∧ W3.heap.size ≤ g ∧ Ext [z + 2, z + 3] W3 W

set_option maxRecDepth 100000 in
set_option maxHeartbeats 4000000 in
theorem tdelete_any (a : Option Addr) (c : Nat) (T : List Nat) (G h d : Nat) (hSd : Sd T G) (hh : h < 18446744073709551616) (w : World) (hT : Wd w a T) (hTb : Tb w) :
    Calls Tryd.prog 38 #[.slice a (3 + 17 * G) c, .int .u64 (h : Nat), .int .u64 (d : Nat)] w (TDelPost T G h d w) := by
  have hlen := hSd.shp.len
  have hG := hSd.shp.gp.le
  have hne : T ≠ [] := by rintro rfl; simp at hlen; omega
  obtain ⟨b, o, rfl, hcc⟩ := hT.at_ hne
  clear hcc
  refine (callsIn_wide (n := 14)).1 ?_
  refine callsIn_of_wp_marks Tryd.func38 rfl trivial ?_ rfl
  simp only [Tryd.ntmps38, List.size_toArray, List.length_cons, List.length_nil, Nat.reduceAdd, Nat.reduceSub, Array.replicate_succ, Array.replicate_zero, List.push_toArray, List.append_toArray, List.nil_append, List.cons_append]
  obtain ⟨z, hz⟩ : ∃ z, w.heap.size = z := ⟨_, rfl⟩
  have hbz : b < z := by
    obtain ⟨b', o', e, hc⟩ := hT.at_ hne
    cases e
    have := block_lt_of_cell (hc 0 (by rw [hlen]; omega))
    rw [hz] at this; exact this
  have h0z : 0 < z := by rw [← hz]; exact hTb.lt
  obtain ⟨W0, hW0⟩ : ∃ W0, (((w.alloc (.cells #[.slice (some ⟨b, o, none⟩) (3 + 17 * G) c] 22)).alloc (.cells #[.int .u64 (d : Nat)] 37)).alloc (.cells #[.slice none 0 0] 22)).alloc (.cells #[.int .i64 0] 28) = W0 := ⟨_, rfl⟩
  have hE0 : Ext [] w W0 := by rw [← hW0]; exact (((Ext.alloc [] _ _).trans (Ext.alloc [] _ _)).trans (Ext.alloc [] _ _)).trans (Ext.alloc [] _ _)
  have b0 : Boxed W0 z 22 (.slice (some ⟨b, o, none⟩) (3 + 17 * G) c) := by rw [← hW0, ← hz]; exact (((Boxed.new w 22 _).alloc _).alloc _).alloc _
  have b1 : Boxed W0 (z + 1) 37 (.int .u64 (d : Nat)) := by
    have := ((Boxed.new (w.alloc (.cells #[.slice (some ⟨b, o, none⟩) (3 + 17 * G) c] 22)) 37 (.int .u64 (d : Nat))).alloc (.cells #[.slice none 0 0] 22)).alloc (.cells #[.int .i64 0] 28)
    rw [hW0, World.size_alloc, hz] at this; exact this
  have b2 : Boxed W0 (z + 2) 22 (.slice none 0 0) := by
    have := (Boxed.new ((w.alloc (.cells #[.slice (some ⟨b, o, none⟩) (3 + 17 * G) c] 22)).alloc (.cells #[.int .u64 (d : Nat)] 37)) 22 (.slice none 0 0)).alloc (.cells #[.int .i64 0] 28)
    rw [hW0, World.size_alloc, World.size_alloc, hz] at this; exact this
  have b3 : Boxed W0 (z + 3) 28 (.int .i64 0) := by
    have := Boxed.new (((w.alloc (.cells #[.slice (some ⟨b, o, none⟩) (3 + 17 * G) c] 22)).alloc (.cells #[.int .u64 (d : Nat)] 37)).alloc (.cells #[.slice none 0 0] 22)) 28 (.int .i64 0)
    rw [hW0, World.size_alloc, World.size_alloc, World.size_alloc, hz] at this; exact this
  have cZ := b0.cell
  have K0 := sound_true (some ⟨b, o, none⟩) c T G hSd _ (hT.keep0 hE0)
  have HE0 := hid hE0
  have Hb0 := hid b0
  have Hb1 := hid b1
  have Hb2 := hid b2
  have Hb3 := hid b3
  have HT0 := hid (hT.keep0 hE0)
  have HTb0 := hid (hTb.keep0 hE0)
  have HSd := hid hSd
  have HL := hid hlen
  have HZ := hid hz
  clear hE0 b0 b1 b2 b3 hT hTb hSd hlen
  gi_wp2_with fail
  try rw [hW0]
  try simp only [hz]
  simp only [show z + 1 + 1 = z + 2 from rfl, show z + 2 + 1 = z + 3 from rfl]
  clear hW0
  gi_at_call 68
  refine (callsIn_wide.2 K0).mono ?_
  clear K0 cZ hz
  rintro _ w1 ⟨rfl, hX1⟩
  obtain ⟨z1, hz1⟩ : ∃ z1, w1.heap.size = z1 := ⟨_, rfl⟩
  have hb0 : Boxed w1 z 22 (.slice (some ⟨b, o, none⟩) (3 + 17 * G) c) := hX1.keep Hb0.out (by simp)
  have cZ := hb0.cell
  have HT1 := hid (HT0.out.keep0 hX1)
  have HTb1 := hid (HTb0.out.keep0 hX1)
  have HE1 := hid (HE0.out.trans hX1)
  have Hb0' := hid hb0
  have Hb1' := hid (show Boxed w1 (z + 1) 37 _ from hX1.keep Hb1.out (by simp))
  have Hb2' := hid (show Boxed w1 (z + 2) 22 _ from hX1.keep Hb2.out (by simp))
  have Hb3' := hid (show Boxed w1 (z + 3) 28 _ from hX1.keep Hb3.out (by simp))
  have hzz : z + 3 < z1 := by rw [← hz1]; exact Hb3'.out.lt
  have K1 := matches_any (some ⟨b, o, none⟩) (3 + 17 * G) c h w1
  simp only [hz1] at K1
  have HZ1 := hid hz1
  clear hX1 Hb0 Hb1 Hb2 Hb3 HT0 HTb0 HE0 hb0 hz1
  gi_wp2_with (first | (gi_at_call 69; refine (callsIn_wide.2 K1).mono ?_; rintro _ _ ⟨rfl, rfl⟩))
  clear K1 cZ
  have hz1' := HZ1.out
  have bt := (Boxed.new w1 22 (.slice (some ⟨b, o, none⟩) (3 + 17 * G) c)).alloc (.cells #[.int .u64 (h : Nat)] 37)
  have bh := Boxed.new (w1.alloc (.cells #[.slice (some ⟨b, o, none⟩) (3 + 17 * G) c] 22)) 37 (.int .u64 (h : Nat))
  have hX3 : Ext [] w1 ((w1.alloc (.cells #[.slice (some ⟨b, o, none⟩) (3 + 17 * G) c] 22)).alloc (.cells #[.int .u64 (h : Nat)] 37)) := (Ext.alloc [] _ _).trans (Ext.alloc [] _ _)
  obtain ⟨W3, hW3⟩ : ∃ W3, (w1.alloc (.cells #[.slice (some ⟨b, o, none⟩) (3 + 17 * G) c] 22)).alloc (.cells #[.int .u64 (h : Nat)] 37) = W3 := ⟨_, rfl⟩
  have hs3 : W3.heap.size = z1 + 2 := by rw [← hW3]; simp [hz1']
  simp only [World.size_alloc, hz1'] at bt bh
  rw [hW3] at bt bh hX3
  have hb1 : b < z1 := by
    obtain ⟨b', o', e, hc⟩ := HT1.out.at_ hne
    cases e
    have := block_lt_of_cell (hc 0 (by rw [HL.out]; omega))
    rw [hz1'] at this; exact this
  obtain ⟨R, hR1⟩ : ∃ R, w1.heap[b]? = some R := ⟨_, Array.getElem?_eq_getElem (by rw [hz1']; exact hb1)⟩
  have hRc : R.isCells = true := by
    obtain ⟨b', o', e, hc⟩ := HT1.out.at_ hne
    cases e
    have := hc 0 (by rw [HL.out]; omega)
    cases R with
    | cells cs t m => rfl
    | _ => simp [World.cell?, hR1] at this
  have hO3 : ∀ k ∈ [0, z1, z1 + 1, b], ¬ Olist [z + 2, z + 3] W3 k := by
    intro k hk hO
    simp only [Olist, List.mem_cons, List.not_mem_nil, or_false] at hk hO
    omega
  have hMat := matches_gives 13 (by omega) z1 (z1 + 1) b o c h G T R HSd.out.shp hh (Olist [z + 2, z + 3]) W3 bt bh (hX3.keep hR1 (by simp)) hRc (HT1.out.keep0 hX3) (HTb1.out.keep0 hX3) hO3
  have HMat := hid hMat
  have HX3 := hid hX3
  clear bt bh hMat hR1 hRc hO3 hX3
  rw [hW3]
  have hz13 : z1 + 2 ≤ W3.heap.size ∧ W3.heap.size ≤ z1 + 2 := by omega
  clear hW3 hs3 hz1'
  have hz3' : z + 3 < W3.heap.size := by omega
  refine loop_givesS rfl (by omega) (gf := 101) (lb := #[.pointer (some ⟨z1 + 1, 0, none⟩), .pointer (some ⟨z1, 0, none⟩)]) rfl trivial (enters_of Tryd.func101 (by kernel_rfl) rfl)
    HMat.out (fun _ => rfl)
    (DelI T d W3) (DelX T G d z W3)
    (cal_list (OwnFrom.and (ext_own (Nat.le_refl _)) (ownFrom_pure _ _)) (fun s W hs k hk => by have := hs.1.size; simp at hk; omega))
    (fun cd => cal_list (fun s X Y row hs hg hr => by
      obtain ⟨e1, A, x, e2, e3, e4, g, c', q1, q2, q3, q4, q5⟩ := hs
      exact ⟨e1, A, x, e2, e3, e4, g, c', boxed_own (z + 2) 22 (fun _ : Unit => .slice (some ⟨g, 0, none⟩) (3 + 17 * G) c') () X Y row q1 hg (fun r e => (hr r e).2), boxed_own (z + 3) 28 (fun _ : Unit => .int .i64 0) () X Y row q2 hg (fun r e => (hr r e).2), tw_own (β := Unit) g _ () X Y row q3 hg (fun r e => (hr r e).2), q4, ext_own (β := Unit) (Nat.le_refl _) () X Y row q5 hg hr⟩)
      (fun s W hs k hk => by obtain ⟨e1, A, x, e2, e3, e4, g, c', q1, q2, q3, q4, q5⟩ := hs; have := q5.size; simp at hk; omega))
    ⟨Ext.refl _ _, by simp⟩
    (fun x a' _ => a' = { tmps := #[.slice (some ⟨b, o, none⟩) (3 + 17 * G) c, .int .u64 (h : Nat), .int .u64 (d : Nat), .pointer (some ⟨z, 0, none⟩), undef, .pointer (some ⟨z + 1, 0, none⟩), .pointer (some ⟨z + 2, 0, none⟩), .pointer (some ⟨z + 3, 0, none⟩), .int .i64 (x.1 : Nat), .int .i64 (x.2 : Nat), undef, .slice (some ⟨b, o, none⟩) (3 + 17 * G) c, .bool true, .bool false, .slice (some ⟨b, o, none⟩) (3 + 17 * G) c, .int .u64 (h : Nat), .func (.func 101) #[] #[.pointer (some ⟨z1 + 1, 0, none⟩), .pointer (some ⟨z1, 0, none⟩)], .int .i64 (x.1 : Nat), .int .i64 (x.2 : Nat), undef, undef, undef, undef, undef, undef, undef, undef, undef, undef, undef, undef, undef, undef, undef], defers := [] }) (fun x a' _ X Y row hs hg hr => hs)
    ?assign ?body ?done ?stop
  case assign =>
    rintro l pre x W K _ hI hK
    unfold penc
    gi_wp2
    exact hK _ _ (KeepsFrom.refl _ _) (Kc.refl _ _) hI rfl
  case stop =>
    rintro D cd pre W hD hSp ⟨rfl, A, x, rfl, hA, hx, g, c', q1, q2, q3, q4, q5⟩ hK
    have HF : Hid (DelT T G h d (some (remAt T x.1 x.2))) := by
      obtain ⟨C, hC⟩ := hSp
      exact ⟨A, x, C, by rw [← hC]; simp, hA, hx, rfl⟩
    have Hq1 := hid q1
    have Hq2 := hid q2
    have Hq3 := hid q3
    have Hq5 := hid q5
    have HK := hid hK
    have HD := hid hD
    clear hSp hA hx q1 q2 q3 q5 hK hD
    gi_wp2_with fail
    have hP := grownBy_putObj' W D (.deferred none)
    have hx2 := Ext.grown (S := [D]) hP (by simp)
    have hDz := HD.out
    have hr1 : Boxed _ _ _ _ := hx2.keep (show W.heap[z + 2]? = _ from Hq1.out) (by simp; omega)
    have hr2 : Boxed _ _ _ _ := hx2.keep (show W.heap[z + 3]? = _ from Hq2.out) (by simp; omega)
    have hDW := lt_of_heap HK.out
    have hgD : g ≠ D := by
      rintro rfl
      obtain ⟨cs, h1, _⟩ := Hq3.out
      rw [HK.out] at h1
      cases h1
    have hw := HZ.out
    refine ⟨by simp, .inl ⟨_, _, rfl, run_takeDeferred HK.out, _, results_cells2 rfl _ _ ⟨z + 2, 0, none⟩ ⟨z + 3, 0, none⟩ _ _ rfl rfl (load22 hr1) (load29 hr2), ?_, .inl ⟨_, g, c', HF.out, rfl, Hq3.out.keep hx2 (by simp; exact hgD), by omega⟩⟩⟩
    exact (((HE1.out.trans HX3.out).on Hq5.out (by simp; omega)).on hx2 (by simp; omega))
  case done =>
    rintro D zs W hD rfl ⟨hX, hno⟩ hK
    have hb2 : Boxed W (z + 2) 22 (.slice none 0 0) := hX.keep (HX3.out.keep Hb2'.out (by simp)) (by simp)
    have hb3 : Boxed W (z + 3) 28 (.int .i64 0) := hX.keep (HX3.out.keep Hb3'.out (by simp)) (by simp)
    have c2 := hb2.cell
    have f2 := hb2.frozen
    have hx1 := Ext.setCell [z + 2] W ⟨z + 2, 0, none⟩ (.slice none 0 0) (by simp)
    have hb3' : Boxed (W.setCell ⟨z + 2, 0, none⟩ (.slice none 0 0)) (z + 3) 28 (.int .i64 0) := hx1.keep hb3 (by simp)
    have c3 := hb3'.cell
    have f3 := hb3'.frozen
    have HX := hid hX
    have HNo := hid hno
    have HK := hid hK
    have HD := hid hD
    have Hb2 := hid hb2
    have Hb3 := hid hb3'
    have Hx1 := hid hx1
    clear hX hno hK hD hb2 hb3 hb3' hx1
    gi_wp2_with fail
    have hx3 := Ext.setCell [z + 3] (W.setCell ⟨z + 2, 0, none⟩ (.slice none 0 0)) ⟨z + 3, 0, none⟩ (.int .i64 4) (by simp)
    have hK2 := ((KeepsOthers.setCell W ⟨z + 2, 0, none⟩ (.slice none 0 0)).trans (KeepsOthers.setCell _ ⟨z + 3, 0, none⟩ (.int .i64 4))).same _ _ HK.out rfl
    have hP := grownBy_putObj' ((W.setCell ⟨z + 2, 0, none⟩ (.slice none 0 0)).setCell ⟨z + 3, 0, none⟩ (.int .i64 4)) D (.deferred none)
    have hx2 := Ext.grown (S := [D]) hP (by simp)
    have hDz := HD.out
    have hr1 : Boxed _ _ _ _ := hx2.keep (hx3.keep (Hb2.out.set (.slice none 0 0)) (by simp)) (by simp; omega)
    have hr2 : Boxed _ _ _ _ := hx2.keep (Hb3.out.set (.int .i64 4)) (by simp; omega)
    have hw := HZ.out
    refine ⟨by simp, .inl ⟨_, _, rfl, run_takeDeferred hK2, _, results_cells2 rfl _ _ ⟨z + 2, 0, none⟩ ⟨z + 3, 0, none⟩ _ _ rfl rfl (load22 hr1) (load29 hr2), ?_, .inr ⟨HNo.out, rfl⟩⟩⟩
    exact ((((HE1.out.trans HX3.out).trans HX.out).on Hx1.out (by simp; omega)).on hx3 (by simp; omega)).on hx2 (by simp; omega)
  case body =>
    rintro l pre x a' W hl ⟨r, hr⟩ ⟨hX, hno⟩ rfl hlt ⟨hgx, hix, hhx⟩
    obtain ⟨gx, ix⟩ := x
    simp only at hgx hix hhx
    have hXa := HX3.out.trans hX
    have hb0 : Boxed W z 22 (.slice (some ⟨b, o, none⟩) (3 + 17 * G) c) := hXa.keep Hb0'.out (by simp)
    have hb1 : Boxed W (z + 1) 37 (.int .u64 (d : Nat)) := hXa.keep Hb1'.out (by simp)
    have hb2 : Boxed W (z + 2) 22 (.slice none 0 0) := hXa.keep Hb2'.out (by simp)
    have hb3 : Boxed W (z + 3) 28 (.int .i64 0) := hXa.keep Hb3'.out (by simp)
    have hTW := HT1.out.keep0 hXa
    obtain ⟨_, _, heq, hTc⟩ := hTW.at_ hne
    cases heq
    have cR := hTc (3 + 17 * gx + 2 + 2 * ix) (by rw [HL.out]; omega)
    rw [show T.getD (3 + 17 * gx + 2 + 2 * ix) 0 = idw T gx ix from rfl] at cR
    have KI := fun u => idAt_any gx ix (by omega) (by omega) u
    have c0 := hb0.cell
    have c1 := hb1.cell
    obtain ⟨dx, hdx⟩ : ∃ dx, idw T gx ix = dx := ⟨_, rfl⟩
    rw [hdx] at cR
    have HX := hid hX
    have HNo := hid hno
    have HTW := hid hTW
    have Hb0 := hid hb0
    have Hb2 := hid hb2
    have Hb3 := hid hb3
    have Hdx := hid hdx
    clear hX hno hTW hTc hr hb0 hb1 hb2 hb3 hXa hdx
    by_cases hdd : dx = d
    · have hd1 : ((dx : Int) == (d : Int)) = true := by simp [hdd]
      gi_wp2_with fail
      refine wpIn_region_quietR (by kernel_rfl) (by kernel_rfl) (by kernel_rfl) ?_
      repeat (gi_big_quiet_step (first | (gi_at_call 70; refine CallsIn.quiet_of_same ((callsIn_wide.2 (KI _)).inRound l))))
      refine wpQuietIn_nil ?_
      rintro _ ⟨nq, rfl⟩
      have hxd := Ext.drewN [] W nq
      obtain ⟨V, hV⟩ : ∃ V, W.drewN nq = V := ⟨_, rfl⟩
      rw [hV] at hxd ⊢
      clear c0 c1 cR hV
      have c0 := Boxed.cell (show Boxed V z 22 _ from hxd.keep Hb0.out (by simp))
      have K2 := clone_any b o (3 + 17 * G) c T V (HTW.out.keep0 hxd) HL.out (by omega) (by omega)
      have HXd := hid hxd
      clear hxd
      gi_wp2_with fail
      gi_at_call 71
      refine ((callsIn_wide.2 K2).inRound l).mono ?_
      clear K2
      rintro _ V2 ⟨g, cc, rfl, hTw, hg, hX2⟩
      have huse := HSd.out.use
      have K3 := remove_any g cc T G gx ix HSd.out.shp hgx hix (by omega) V2 hTw
      have HX2 := hid (HXd.out.trans hX2)
      have hg2 : W.heap.size ≤ g := Nat.le_trans HXd.out.size hg
      clear hX2 HXd c0 hTw hg huse
      gi_wp2_with fail
      gi_at_call 72
      refine ((callsIn_wide.2 K3).inRound l).mono ?_
      clear K3
      rintro _ V3 ⟨⟨v3, rfl⟩, hTw3, hX3b⟩
      have hXW : Ext [] W V3 := HX2.out.on hX3b (by simp; omega)
      have hb2 : Boxed V3 (z + 2) 22 (.slice none 0 0) := hXW.keep Hb2.out (by simp)
      have hb3 : Boxed V3 (z + 3) 28 (.int .i64 0) := hXW.keep Hb3.out (by simp)
      have c2 := hb2.cell
      have f2 := hb2.frozen
      have hx1 := Ext.setCell [z + 2] V3 ⟨z + 2, 0, none⟩ (.slice (some ⟨g, 0, none⟩) (3 + 17 * G) cc) (by simp)
      have hb3' : Boxed (V3.setCell ⟨z + 2, 0, none⟩ (.slice (some ⟨g, 0, none⟩) (3 + 17 * G) cc)) (z + 3) 28 (.int .i64 0) := hx1.keep hb3 (by simp)
      have c3 := hb3'.cell
      have f3 := hb3'.frozen
      have hx3 := Ext.setCell [z + 3] (V3.setCell ⟨z + 2, 0, none⟩ (.slice (some ⟨g, 0, none⟩) (3 + 17 * G) cc)) ⟨z + 3, 0, none⟩ (.int .i64 0) (by simp)
      have hgW : W3.heap.size ≤ g := Nat.le_trans HX.out.size hg2
      have hall : Ext [z + 2, z + 3] W ((V3.setCell ⟨z + 2, 0, none⟩ (.slice (some ⟨g, 0, none⟩) (3 + 17 * G) cc)).setCell ⟨z + 3, 0, none⟩ (.int .i64 0)) := ((hXW.mono (by simp)).trans (hx1.mono (by simp))).trans (hx3.mono (by simp))
      have HF : Hid (KeepsFrom W3.heap.size W ((V3.setCell ⟨z + 2, 0, none⟩ (.slice (some ⟨g, 0, none⟩) (3 + 17 * G) cc)).setCell ⟨z + 3, 0, none⟩ (.int .i64 0)) ∧ Kc (Olist [z + 2, z + 3]) W ((V3.setCell ⟨z + 2, 0, none⟩ (.slice (some ⟨g, 0, none⟩) (3 + 17 * G) cc)).setCell ⟨z + 3, 0, none⟩ (.int .i64 0)) ∧ DelX T G d z W3 .ret (pre ++ [(gx, ix)]) ((V3.setCell ⟨z + 2, 0, none⟩ (.slice (some ⟨g, 0, none⟩) (3 + 17 * G) cc)).setCell ⟨z + 3, 0, none⟩ (.int .i64 0))) := by
        refine ⟨keeps_ext hall (by simp; omega), kc_list hall, rfl, pre, (gx, ix), rfl, HNo.out, ?_, g, cc, ?_, ?_, ?_, hgW, (HX.out.mono (by simp)).trans hall⟩
        · show idw T gx ix = d
          rw [Hdx.out, hdd]
        · exact hx3.keep (hb2.set _) (by simp)
        · exact hb3'.set _
        · exact (hTw3.keep hx1 (by simp; omega)).keep hx3 (by simp; omega)
      clear hTw3 hX3b hXW hb2 hb3 hx1 hb3' hx3 hall
      gi_wp2_with fail
      exact HF.out
    · have hd1 : ((dx : Int) == (d : Int)) = false := by simp; omega
      gi_wp2_with fail
      refine wpIn_region_quietR (by kernel_rfl) (by kernel_rfl) (by kernel_rfl) ?_
      repeat (gi_big_quiet_step (first | (gi_at_call 70; refine CallsIn.quiet_of_same ((callsIn_wide.2 (KI _)).inRound l))))
      refine wpQuietIn_nil ?_
      rintro _ ⟨nq, rfl⟩
      have HF : Hid (KeepsFrom W3.heap.size W (W.drewN nq) ∧ Kc (Olist [z + 2, z + 3]) W (W.drewN nq) ∧ DelI T d W3 (pre ++ [(gx, ix)]) (W.drewN nq)) := by
        refine ⟨⟨Nat.le_refl _, fun _ _ _ h _ => h⟩, kc_list (Ext.drewN _ W nq), HX.out.trans (Ext.drewN [] W nq), fun p hp => ?_⟩
        rcases List.mem_append.1 hp with q | q
        · exact HNo.out p q
        · simp only [List.mem_singleton] at q
          subst q
          show idw T gx ix ≠ d
          rw [Hdx.out]
          exact hdd
      clear c0 c1 cR
      gi_wp2_with fail
      exact HF.out
end Go.Proofs.YtkfagfdefkaenaaDoor

/-
  Sound tables, byte by byte; no statement is proved here.
-/
namespace Go.Proofs.YtkfagfdefkaenaaDoor
open Pr (Gp GpI sq pl)

/-! ### counting in a group -/
def cnt (p : Nat → Bool) : Nat := ((List.range 8).filter p).length
theorem flen (p : Nat → Bool) (x : Nat) (l : List Nat) : ((x :: l).filter p).length = (if p x then 1 else 0) + (l.filter p).length := by
  rw [List.filter_cons]
  split <;> simp [Nat.add_comm]
theorem cnt_eq (p : Nat → Bool) : cnt p = (if p 0 then 1 else 0) + (if p 1 then 1 else 0) + (if p 2 then 1 else 0) + (if p 3 then 1 else 0) + (if p 4 then 1 else 0) + (if p 5 then 1 else 0) + (if p 6 then 1 else 0) + (if p 7 then 1 else 0) := by
  unfold cnt
  rw [show List.range 8 = [0, 1, 2, 3, 4, 5, 6, 7] from rfl]
  rw [flen, flen, flen, flen, flen, flen, flen, flen]
  simp only [List.filter_nil, List.length_nil, Nat.add_zero, Nat.add_assoc]
theorem cnt_congr {p q : Nat → Bool} (h : ∀ i, i < 8 → p i = q i) : cnt p = cnt q := by
  unfold cnt
  rw [List.filter_congr fun i hi => h i (by simpa using hi)]
theorem cnt_flip {p q : Nat → Bool} {i : Nat} (hi : i < 8) (h : ∀ j, j < 8 → j ≠ i → q j = p j) (hp : p i = false) (hq : q i = true) : cnt q = cnt p + 1 := by
  rw [cnt_eq, cnt_eq]
  have h0 := h 0 (by omega); have h1 := h 1 (by omega); have h2 := h 2 (by omega); have h3 := h 3 (by omega)
  have h4 := h 4 (by omega); have h5 := h 5 (by omega); have h6 := h 6 (by omega); have h7 := h 7 (by omega)
  rcases (by omega : i = 0 ∨ i = 1 ∨ i = 2 ∨ i = 3 ∨ i = 4 ∨ i = 5 ∨ i = 6 ∨ i = 7) with rfl | rfl | rfl | rfl | rfl | rfl | rfl | rfl
  all_goals
    try rw [h0 (by omega)]
    try rw [h1 (by omega)]
    try rw [h2 (by omega)]
    try rw [h3 (by omega)]
    try rw [h4 (by omega)]
    try rw [h5 (by omega)]
    try rw [h6 (by omega)]
    try rw [h7 (by omega)]
    rw [hp, hq]
    simp only [if_true, Bool.false_eq_true, if_false]
    try omega
theorem pc_mk (p : Nat → Bool) : pc (mk p 8) = cnt p := by
  unfold pc cnt
  congr 1
  apply List.filter_congr
  intro i hi
  rw [mk_testBit]
  simp at hi
  simp [hi]
theorem mk_orr (p q : Nat → Bool) : mk p 8 ||| mk q 8 = mk (fun i => p i || q i) 8 := by
  apply Nat.eq_of_testBit_eq
  intro i
  rw [Nat.testBit_or, mk_testBit, mk_testBit, mk_testBit]
  cases decide (i < 8) <;> simp
theorem mk_zero {p : Nat → Bool} : mk p 8 = 0 ↔ ∀ i, i < 8 → p i = false := by
  constructor
  · intro h i hi
    have := mk_testBit p 8 i
    rw [h] at this
    simp only [hi, decide_true, Bool.true_and, Nat.zero_testBit] at this
    exact this.symm
  · intro h
    apply Nat.eq_of_testBit_eq
    intro i
    rw [mk_testBit]
    by_cases hi : i < 8
    · simp [h i hi]
    · simp [hi]
theorem mk_full {p : Nat → Bool} : mk p 8 = 255 ↔ ∀ i, i < 8 → p i = true := by
  constructor
  · intro h i hi
    have := mk_testBit p 8 i
    rw [h] at this
    have h2 : (255 : Nat).testBit i = true := by
      rcases (by omega : i = 0 ∨ i = 1 ∨ i = 2 ∨ i = 3 ∨ i = 4 ∨ i = 5 ∨ i = 6 ∨ i = 7) with rfl | rfl | rfl | rfl | rfl | rfl | rfl | rfl <;> rfl
    rw [h2] at this
    simp only [hi, decide_true, Bool.true_and] at this
    exact this.symm
  · intro h
    have e : (255 : Nat) = mk (fun _ => true) 8 := by decide
    rw [e]
    apply Nat.eq_of_testBit_eq
    intro i
    rw [mk_testBit, mk_testBit]
    by_cases hi : i < 8
    · simp [h i hi]
    · simp [hi]

/-! ### a table's bytes -/
def bt (T : List Nat) (g i : Nat) : Nat := byt (cw T g) i
theorem mt_zero {c x : Nat} : mt c x = 0 ↔ ∀ i, i < 8 → byt c i ≠ x := by
  unfold mt
  rw [mk_zero]
  simp
theorem hasE_iff {T : List Nat} {g : Nat} : hasE T g = false ↔ ∀ i, i < 8 → bt T g i ≠ 128 := by
  unfold hasE
  rw [decide_eq_false_iff_not, Classical.not_not, mt_zero]
  rfl
theorem opn_eq (T : List Nat) (g : Nat) : opn T g = (List.range 8).filter fun i => decide (bt T g i = 128) || decide (bt T g i = 254) := by
  unfold opn mt
  rw [mk_orr, bsF_mk]
  rfl
theorem scB_iff {c : Nat} : scB c = true ↔ (∀ i, i < 8 → byt c i < 128 ∨ byt c i = 128 ∨ byt c i = 254) ∧ ((∀ i, i < 8 → byt c i ≠ 128) ∨ (∀ i, i < 8 → byt c i ≠ 254)) := by
  unfold scB
  rw [Bool.and_eq_true, Bool.or_eq_true, decide_eq_true_iff, decide_eq_true_iff, decide_eq_true_iff, mt_zero, mt_zero]
  have e : (fl c ||| (mt c 128 ||| mt c 254)) = mk (fun i => decide (byt c i < 128) || (decide (byt c i = 128) || decide (byt c i = 254))) 8 := by
    unfold fl mt
    rw [mk_orr, mk_orr]
  rw [e, mk_full]
  simp
theorem fl_bit {c i : Nat} (hi : i < 8) : (fl c).testBit i = decide (byt c i < 128) := by
  unfold fl
  rw [mk_testBit]
  simp [hi]
theorem ssB_iff {T : List Nat} {g : Nat} : ssB T g = true ↔ ∀ i, i < 8 → (bt T g i < 128 → bt T g i = hsw T g i % 128) ∧ (128 ≤ bt T g i → hsw T g i = 0 ∧ idw T g i = 0) := by
  unfold ssB
  rw [List.all_eq_true]
  constructor
  · intro h i hi
    have := h i (by simpa using hi)
    unfold slB at this
    rw [fl_bit hi] at this
    by_cases q : byt (cw T g) i < 128
    · simp only [q, decide_true, if_true, decide_eq_true_eq] at this
      exact ⟨fun _ => this, fun h => by unfold bt at h; omega⟩
    · simp only [q, decide_false, Bool.false_eq_true, if_false, Bool.and_eq_true, decide_eq_true_eq] at this
      exact ⟨fun h => absurd h q, fun _ => this⟩
  · intro h i hi
    have hi8 : i < 8 := by simpa using hi
    obtain ⟨h1, h2⟩ := h i hi8
    unfold slB
    rw [fl_bit hi8]
    by_cases q : byt (cw T g) i < 128
    · simp only [q, decide_true, if_true, decide_eq_true_eq]
      exact h1 q
    · simp only [q, decide_false, Bool.false_eq_true, if_false, Bool.and_eq_true, decide_eq_true_eq]
      exact h2 (by unfold bt; omega)
theorem pc_fl (c : Nat) : pc (fl c) = cnt fun i => decide (byt c i < 128) := pc_mk _
theorem pc_us (c : Nat) : pc (fl c ||| mt c 254) = cnt fun i => decide (byt c i < 128) || decide (byt c i = 254) := by
  unfold fl mt
  rw [mk_orr, pc_mk]
end Go.Proofs.YtkfagfdefkaenaaDoor

/-
  What a slot that is written changes; sound tables stay sound; no statement is proved here.
-/
namespace Go.Proofs.YtkfagfdefkaenaaDoor
open Pr (Gp GpI sq pl)

theorem wr_at {T : List Nat} {g i b h d j : Nat} (hj : j < T.length) : (wr T g i b h d).getD j 0 = if j = 3 + 17 * g + 2 + 2 * i then d else if j = 3 + 17 * g + 1 + 2 * i then h else if j = 3 + 17 * g then st (cw T g) i b else T.getD j 0 := by
  unfold wr
  rw [getD_set (by simpa using hj), getD_set (by simpa using hj), getD_set hj]
/-- The slot (g0, i0) is written, and nothing else but the counts. -/
structure Up (T T' : List Nat) (G g0 i0 b h d : Nat) : Prop where
  shp : Shp T' G
  bt : ∀ g, g < G → ∀ i, i < 8 → bt T' g i = if g = g0 ∧ i = i0 then b else bt T g i
  hs : ∀ g, g < G → ∀ i, i < 8 → hsw T' g i = if g = g0 ∧ i = i0 then h else hsw T g i
  id : ∀ g, g < G → ∀ i, i < 8 → idw T' g i = if g = g0 ∧ i = i0 then d else idw T g i
theorem wr_len (T : List Nat) (g i b h d : Nat) : (wr T g i b h d).length = T.length := by simp [wr]
theorem Shp.wr {T : List Nat} {G g i b h d : Nat} (hS : Shp T G) (_hg : g < G) (hi : i < 8) (hb : b < 256) (hh : h < 18446744073709551616) (hd : d < 18446744073709551616) : Shp (wr T g i b h d) G := by
  unfold Go.Proofs.YtkfagfdefkaenaaDoor.wr
  exact ((hS.set _ _ (by omega) (st_lt (hS.cw_lt g) hb hi)).set _ _ (by omega) hh).set _ _ (by omega) hd
theorem up_wr {T : List Nat} {G g0 i0 b h d : Nat} (hS : Shp T G) (hg : g0 < G) (hi : i0 < 8) (hb : b < 256) (hh : h < 18446744073709551616) (hd : d < 18446744073709551616) : Up T (wr T g0 i0 b h d) G g0 i0 b h d := by
  have hl := hS.len
  refine ⟨hS.wr hg hi hb hh hd, fun g hgG i hi8 => ?_, fun g hgG i hi8 => ?_, fun g hgG i hi8 => ?_⟩
  · unfold bt cw
    rw [wr_at (by omega), if_neg (by omega), if_neg (by omega)]
    by_cases e : g = g0
    · subst e
      rw [if_pos rfl, byt_st hb hi hi8]
      by_cases q : i = i0
      · rw [if_pos q, if_pos ⟨rfl, q⟩]
      · rw [if_neg q, if_neg (fun h => q h.2)]; rfl
    · rw [if_neg (by omega), if_neg (fun h => e h.1)]
  · unfold hsw
    rw [wr_at (by omega), if_neg (by omega)]
    by_cases e : g = g0 ∧ i = i0
    · rw [if_pos (by obtain ⟨rfl, rfl⟩ := e; rfl), if_pos e]
    · rw [if_neg (by omega), if_neg (by omega), if_neg e]
  · unfold idw
    rw [wr_at (by omega)]
    by_cases e : g = g0 ∧ i = i0
    · rw [if_pos (by obtain ⟨rfl, rfl⟩ := e; rfl), if_pos e]
    · rw [if_neg (by omega), if_neg (by omega), if_neg (by omega), if_neg e]
theorem set_cw {T : List Nat} {G k x g : Nat} (hl : T.length = 3 + 17 * G) (hk : k < 3) (hg : g < G) : cw (T.set k x) g = cw T g := by
  unfold cw; rw [getD_set (by omega), if_neg (by omega)]
theorem set_hs {T : List Nat} {G k x g i : Nat} (hl : T.length = 3 + 17 * G) (hk : k < 3) (hg : g < G) (hi : i < 8) : hsw (T.set k x) g i = hsw T g i := by
  unfold hsw; rw [getD_set (by omega), if_neg (by omega)]
theorem set_id {T : List Nat} {G k x g i : Nat} (hl : T.length = 3 + 17 * G) (hk : k < 3) (hg : g < G) (hi : i < 8) : idw (T.set k x) g i = idw T g i := by
  unfold idw; rw [getD_set (by omega), if_neg (by omega)]
theorem Up.of_set {T T' : List Nat} {G k x g0 i0 b h d : Nat} (hl : T.length = 3 + 17 * G) (hk : k < 3) (u : Up (T.set k x) T' G g0 i0 b h d) : Up T T' G g0 i0 b h d :=
  ⟨u.shp, fun g hg i hi => by rw [u.bt g hg i hi]; unfold Go.Proofs.YtkfagfdefkaenaaDoor.bt; rw [set_cw hl hk hg], fun g hg i hi => by rw [u.hs g hg i hi, set_hs hl hk hg hi], fun g hg i hi => by rw [u.id g hg i hi, set_id hl hk hg hi]⟩
theorem wr_low {T : List Nat} {g i b h d k : Nat} (hk : k < 3) (hl : k < T.length) : (wr T g i b h d).getD k 0 = T.getD k 0 := by
  rw [wr_at hl, if_neg (by omega), if_neg (by omega), if_neg (by omega)]

/-! ### counts over groups -/
def tot (f : Nat → Nat) : Nat → Nat
  | 0 => 0
  | k + 1 => tot f k + f k
theorem tot_same {f f' : Nat → Nat} : ∀ {k : Nat}, (∀ g, g < k → f' g = f g) → tot f' k = tot f k
  | 0, _ => rfl
  | k + 1, h => by rw [tot, tot, tot_same fun g hg => h g (by omega), h k (by omega)]
theorem tot_up {f f' : Nat → Nat} {g0 : Nat} (h1 : f' g0 = f g0 + 1) : ∀ {k : Nat}, g0 < k → (∀ g, g < k → g ≠ g0 → f' g = f g) → tot f' k = tot f k + 1
  | 0, h, _ => by omega
  | k + 1, h, h2 => by
    rw [tot, tot]
    by_cases e : g0 = k
    · subst e
      rw [tot_same (f := f) (f' := f') fun g hg => h2 g (by omega) (by omega), h1]
      omega
    · rw [tot_up h1 (k := k) (by omega) fun g hg => h2 g (by omega), h2 k (by omega) (fun q => e q.symm)]
      omega
theorem nfl_tot (T : List Nat) : ∀ k, nfl T k = tot (fun g => cnt fun i => decide (bt T g i < 128)) k
  | 0 => rfl
  | k + 1 => by rw [nfl, tot, nfl_tot T k, pc_fl]; rfl
theorem nus_tot (T : List Nat) : ∀ k, nus T k = tot (fun g => cnt fun i => decide (bt T g i < 128) || decide (bt T g i = 254)) k
  | 0 => rfl
  | k + 1 => by rw [nus, tot, nus_tot T k, pc_us]; rfl

/-! ### one more entry -/
theorem ins_sd {T : List Nat} {G h d : Nat} (hS : Sd T G) (hh : h < 18446744073709551616) (hd : d < 18446744073709551616) {g0 i0 : Nat} (hF : Fst T h G g0 i0) (hno : ¬ (mt (cw T g0) 128 ≠ 0 ∧ T.getD 2 0 = 0)) :
    Sd (insAt T g0 i0 h d) G ∧ Up T (insAt T g0 i0 h d) G g0 i0 (h % 128) h d ∧ g0 < G ∧ i0 < 8 ∧ 128 ≤ bt T g0 i0 ∧ (insAt T g0 i0 h d).getD 1 0 = T.getD 1 0 + 1 ∧ (insAt T g0 i0 h d).getD 2 0 + (if bt T g0 i0 = 128 then 1 else 0) = T.getD 2 0 := by
  have hl := hS.shp.len
  have hG := hS.shp.gp.le
  obtain ⟨A, C, l, hsq, hA, hop⟩ := hF
  have hmem : g0 ∈ sq (h / 128) G := by rw [hsq]; simp
  have hg0 : g0 < G := by
    obtain ⟨n, _, rfl⟩ := List.mem_map.1 hmem
    exact Pr.pl_lt _ hS.shp.gp.pos n
  have hi0m : i0 ∈ opn T g0 := by rw [hop]; simp
  rw [opn_eq, List.mem_filter] at hi0m
  have hi0 : i0 < 8 := by simpa using hi0m.1
  have hb0 : bt T g0 i0 = 128 ∨ bt T g0 i0 = 254 := by simpa using hi0m.2
  have hn1 := nfl_le T G
  rw [← hS.cnt] at hn1
  have hn2 : T.getD 2 0 ≤ 7 * G := by have := hS.use; omega
  have h128 : h % 128 < 128 := Nat.mod_lt _ (by omega)
  obtain ⟨T1, hT1⟩ : ∃ T1, T1 = (if mt (cw T g0) 128 ≠ 0 then T.set 2 (T.getD 2 0 - 1) else T) := ⟨_, rfl⟩
  have hS1 : Shp T1 G := by rw [hT1]; split; exact hS.shp.set 2 _ (by omega) (by omega); exact hS.shp
  have hS2 := hS1.set 1 (T.getD 1 0 + 1) (by omega) (by omega)
  have hcw : cw (T1.set 1 (T.getD 1 0 + 1)) g0 = cw T g0 := by
    rw [set_cw hS1.len (by omega) hg0, hT1]
    split
    · rw [set_cw hl (by omega) hg0]
    · rfl
  have hins : insAt T g0 i0 h d = wr (T1.set 1 (T.getD 1 0 + 1)) g0 i0 (h % 128) h d := by unfold insAt; rw [← hT1]
  have hup0 := up_wr (d := d) (h := h) (b := h % 128) hS2 hg0 hi0 (by omega) hh hd
  rw [← hins] at hup0
  have hup1 := Up.of_set hS1.len (by omega) hup0
  have hup : Up T (insAt T g0 i0 h d) G g0 i0 (h % 128) h d := by
    rw [hT1] at hup1
    by_cases q : mt (cw T g0) 128 ≠ 0
    · rw [if_pos q] at hup1; exact Up.of_set hl (by omega) hup1
    · rw [if_neg q] at hup1; exact hup1
  have hctl := fun g (hg : g < G) => scB_iff.1 (hS.ctl g hg)
  have hE0 : mt (cw T g0) 128 ≠ 0 ↔ bt T g0 i0 = 128 := by
    constructor
    · intro q
      rcases hb0 with r | r
      · exact r
      · exfalso
        rcases (hctl g0 hg0).2 with s | s
        · exact q (mt_zero.2 s)
        · exact s i0 hi0 r
    · intro q r
      exact mt_zero.1 r i0 hi0 q
  have h1' : (insAt T g0 i0 h d).getD 1 0 = T.getD 1 0 + 1 := by
    rw [hins, wr_low (by omega) (by rw [List.length_set, hS1.len]; omega), getD_set (by rw [hS1.len]; omega), if_pos rfl]
  have h2' : (insAt T g0 i0 h d).getD 2 0 + (if bt T g0 i0 = 128 then 1 else 0) = T.getD 2 0 := by
    rw [hins, wr_low (by omega) (by rw [List.length_set, hS1.len]; omega), getD_set (by rw [hS1.len]; omega), if_neg (by omega), hT1]
    by_cases q : mt (cw T g0) 128 ≠ 0
    · rw [if_pos q, if_pos (hE0.1 q), getD_set (by omega), if_pos rfl]
      have : T.getD 2 0 ≠ 0 := fun r => hno ⟨q, r⟩
      omega
    · rw [if_neg q, if_neg (fun r => q (hE0.2 r)), Nat.add_zero]
  refine ⟨⟨hup.shp, fun g hg => ?_, fun g hg => ?_, ?_, ?_, ?_⟩, hup, hg0, hi0, by omega, h1', h2'⟩
  · rw [scB_iff]
    obtain ⟨e1, e2⟩ := hctl g hg
    refine ⟨fun i hi => ?_, ?_⟩
    · have := hup.bt g hg i hi
      unfold bt at this
      rw [this]
      split
      · exact .inl h128
      · exact e1 i hi
    · rcases e2 with e2 | e2
      · left
        intro i hi
        have := hup.bt g hg i hi
        unfold bt at this
        rw [this]
        split
        · omega
        · exact e2 i hi
      · right
        intro i hi
        have := hup.bt g hg i hi
        unfold bt at this
        rw [this]
        split
        · omega
        · exact e2 i hi
  · rw [ssB_iff]
    intro i hi
    have e := ssB_iff.1 (hS.slt g hg) i hi
    rw [hup.bt g hg i hi, hup.hs g hg i hi, hup.id g hg i hi]
    split
    · exact ⟨fun _ => rfl, fun q => by omega⟩
    · exact e
  · rw [h1', hS.cnt, nfl_tot, nfl_tot]
    refine (tot_up (g0 := g0) ?_ hg0 fun g hg hne => ?_).symm
    · refine cnt_flip hi0 (fun j hj hne => ?_) ?_ ?_
      · rw [hup.bt g0 hg0 j hj, if_neg (fun q => hne q.2)]
      · simp; omega
      · rw [hup.bt g0 hg0 i0 hi0, if_pos ⟨rfl, rfl⟩]; simpa using h128
    · apply cnt_congr
      intro i hi
      rw [hup.bt g hg i hi, if_neg (fun q => hne q.1)]
  · have huse := hS.use
    rw [nus_tot] at huse ⊢
    by_cases q : bt T g0 i0 = 128
    · rw [if_pos q] at h2'
      have : tot (fun g => cnt fun i => decide (bt (insAt T g0 i0 h d) g i < 128) || decide (bt (insAt T g0 i0 h d) g i = 254)) G = tot (fun g => cnt fun i => decide (bt T g i < 128) || decide (bt T g i = 254)) G + 1 := by
        refine tot_up (g0 := g0) ?_ hg0 fun g hg hne => ?_
        · refine cnt_flip hi0 (fun j hj hne => ?_) ?_ ?_
          · rw [hup.bt g0 hg0 j hj, if_neg (fun q => hne q.2)]
          · rw [q]; rfl
          · rw [hup.bt g0 hg0 i0 hi0, if_pos ⟨rfl, rfl⟩]; simp [h128]
        · apply cnt_congr
          intro i hi
          rw [hup.bt g hg i hi, if_neg (fun q => hne q.1)]
      omega
    · rw [if_neg q] at h2'
      have hb : bt T g0 i0 = 254 := by omega
      have : tot (fun g => cnt fun i => decide (bt (insAt T g0 i0 h d) g i < 128) || decide (bt (insAt T g0 i0 h d) g i = 254)) G = tot (fun g => cnt fun i => decide (bt T g i < 128) || decide (bt T g i = 254)) G := by
        apply tot_same
        intro g hg
        apply cnt_congr
        intro i hi
        rw [hup.bt g hg i hi]
        split
        · rename_i e
          obtain ⟨rfl, rfl⟩ := e
          rw [hb]; simp [h128]
        · rfl
      omega
  · intro own hown i hi hfull
    rw [fl_bit hi, decide_eq_true_eq] at hfull
    have hbt := hup.bt own hown i hi
    have hhs := hup.hs own hown i hi
    have hEe : ∀ g, g < G → hasE T g = false → hasE (insAt T g0 i0 h d) g = false := fun g hg q => by
      rw [hasE_iff] at q ⊢
      intro j hj
      rw [hup.bt g hg j hj]
      split
      · omega
      · exact q j hj
    have hpl : ∀ x n, pl x G n < G := fun x n => Pr.pl_lt x hS.shp.gp.pos n
    by_cases e : own = g0 ∧ i = i0
    · rw [if_pos e] at hhs
      rw [hhs]
      obtain ⟨rfl, rfl⟩ := e
      have hAl : A.length < G := by
        have := congrArg List.length hsq
        rw [Pr.sq_len] at this
        simp at this
        omega
      refine ⟨A.length, hAl, ?_, fun n hn => hEe _ (hpl _ _) ?_⟩
      · have := Pr.sq_at (h / 128) G hAl
        rw [hsq] at this
        simp at this
        exact this.symm
      · have h1 := Pr.sq_at (h / 128) G (show n < G by omega)
        rw [hsq, List.getElem?_append_left hn] at h1
        have h2 := hA _ (List.mem_of_getElem? h1)
        rw [opn_eq, List.filter_eq_nil_iff] at h2
        rw [hasE_iff]
        intro j hj q
        exact h2 j (by simpa using hj) (by simp [q])
    · rw [if_neg e] at hhs hbt
      rw [hhs]
      obtain ⟨k, hk, hpk, hnk⟩ := hS.fnd own hown i hi (by rw [fl_bit hi, decide_eq_true_eq]; unfold bt at hbt; rw [← hbt]; exact hfull)
      exact ⟨k, hk, hpk, fun n hn => hEe _ (hpl _ _) (hnk n hn)⟩
end Go.Proofs.YtkfagfdefkaenaaDoor

/-
  One entry less, a new table, and what a search finds; no statement is proved here.
-/
namespace Go.Proofs.YtkfagfdefkaenaaDoor
open Pr (Gp GpI sq pl)

theorem del_sd {T : List Nat} {G g0 i0 : Nat} (hS : Sd T G) (hg0 : g0 < G) (hi0 : i0 < 8) (hfull : bt T g0 i0 < 128) :
    Sd (remAt T g0 i0) G ∧ Up T (remAt T g0 i0) G g0 i0 (if mt (cw T g0) 128 = 0 then 254 else 128) 0 0 ∧ (remAt T g0 i0).getD 1 0 + 1 = T.getD 1 0 := by
  have hl := hS.shp.len
  have hG := hS.shp.gp.le
  have hn1 := nfl_le T G
  rw [← hS.cnt] at hn1
  have hn2 : T.getD 2 0 ≤ 7 * G := by have := hS.use; omega
  have hone : 1 ≤ T.getD 1 0 := by
    rw [hS.cnt, nfl_tot]
    have key : ∀ k, g0 < k → 1 ≤ tot (fun g => cnt fun i => decide (bt T g i < 128)) k := by
      intro k
      induction k with
      | zero => intro h; omega
      | succ k ih =>
        intro h
        rw [tot]
        by_cases e : g0 = k
        · subst e
          have : 1 ≤ cnt fun i => decide (bt T g0 i < 128) := by
            unfold cnt
            exact List.length_pos_of_mem (List.mem_filter.2 ⟨by simpa using hi0, by simpa using hfull⟩)
          omega
        · have := ih (by omega); omega
    exact key G hg0
  have hdec : dec64 (T.getD 1 0) = T.getD 1 0 - 1 := dec64_pos hone (by omega)
  obtain ⟨b0, hb0⟩ : ∃ b0, b0 = (if mt (cw T g0) 128 = 0 then 254 else 128) := ⟨_, rfl⟩
  obtain ⟨T1, hT1⟩ : ∃ T1, T1 = (if mt (cw T g0) 128 = 0 then T.set 1 (T.getD 1 0 - 1) else (T.set 1 (T.getD 1 0 - 1)).set 2 (T.getD 2 0 + 1)) := ⟨_, rfl⟩
  have hSa := hS.shp.set 1 (T.getD 1 0 - 1) (by omega) (by omega)
  have hS1 : Shp T1 G := by rw [hT1]; split; exact hSa; exact hSa.set 2 _ (by omega) (by omega)
  have hrem : remAt T g0 i0 = wr T1 g0 i0 b0 0 0 := by
    unfold remAt
    rw [hdec, hT1, hb0]
    split <;> rfl
  have hb256 : b0 < 256 := by rw [hb0]; split <;> omega
  have hb128 : 128 ≤ b0 := by rw [hb0]; split <;> omega
  have hup0 := up_wr (d := 0) (h := 0) (b := b0) hS1 hg0 hi0 hb256 (by omega) (by omega)
  rw [← hrem] at hup0
  have hup : Up T (remAt T g0 i0) G g0 i0 b0 0 0 := by
    rw [hT1] at hup0
    by_cases q : mt (cw T g0) 128 = 0
    · rw [if_pos q] at hup0; exact Up.of_set hl (by omega) hup0
    · rw [if_neg q] at hup0; exact Up.of_set hl (by omega) (Up.of_set hSa.len (by omega) hup0)
  have h1' : (remAt T g0 i0).getD 1 0 + 1 = T.getD 1 0 := by
    rw [hrem, wr_low (by omega) (by rw [hS1.len]; omega), hT1]
    split
    · rw [getD_set (by omega), if_pos rfl]; omega
    · rw [getD_set (by rw [List.length_set]; omega), if_neg (by omega), getD_set (by omega), if_pos rfl]; omega
  have h2' : (remAt T g0 i0).getD 2 0 = T.getD 2 0 + (if b0 = 128 then 1 else 0) := by
    rw [hrem, wr_low (by omega) (by rw [hS1.len]; omega), hT1, hb0]
    split
    · rw [getD_set (by omega), if_neg (by omega)]; simp
    · rw [getD_set (by rw [List.length_set]; omega), if_pos rfl]; simp
  have hctl := fun g (hg : g < G) => scB_iff.1 (hS.ctl g hg)
  have hE : b0 = 128 ↔ mt (cw T g0) 128 ≠ 0 := by rw [hb0]; split <;> simp [*]
  have hEe : ∀ g, g < G → hasE T g = false → hasE (remAt T g0 i0) g = false := fun g hg q => by
    have q' := q
    rw [hasE_iff] at q ⊢
    intro j hj
    rw [hup.bt g hg j hj]
    split
    · rename_i e
      intro r
      have := hE.1 r
      rw [e.1] at q'
      unfold hasE at q'
      simp at q'
      exact this q'
    · exact q j hj
  rw [← hb0]
  refine ⟨⟨hup.shp, fun g hg => ?_, fun g hg => ?_, ?_, ?_, ?_⟩, hup, h1'⟩
  · rw [scB_iff]
    obtain ⟨e1, e2⟩ := hctl g hg
    refine ⟨fun i hi => ?_, ?_⟩
    · have := hup.bt g hg i hi
      unfold bt at this
      rw [this]
      split
      · rw [hb0]; split <;> simp
      · exact e1 i hi
    · by_cases eg : g = g0
      · subst eg
        by_cases q : mt (cw T g) 128 = 0
        · left
          intro i hi
          have := hup.bt g hg i hi
          unfold bt at this
          rw [this]
          split
          · rw [hb0, if_pos q]; omega
          · exact mt_zero.1 q i hi
        · right
          have e3 : ∀ i, i < 8 → byt (cw T g) i ≠ 254 := e2.resolve_left (fun r => q (mt_zero.2 r))
          intro i hi
          have := hup.bt g hg i hi
          unfold bt at this
          rw [this]
          split
          · rw [hb0, if_neg q]; omega
          · exact e3 i hi
      · have hsame : ∀ i, i < 8 → byt (cw (remAt T g0 i0) g) i = byt (cw T g) i := fun i hi => by
          have := hup.bt g hg i hi
          rw [if_neg (fun q => eg q.1)] at this
          exact this
        rcases e2 with e2 | e2
        · exact .inl fun i hi => by rw [hsame i hi]; exact e2 i hi
        · exact .inr fun i hi => by rw [hsame i hi]; exact e2 i hi
  · rw [ssB_iff]
    intro i hi
    have e := ssB_iff.1 (hS.slt g hg) i hi
    rw [hup.bt g hg i hi, hup.hs g hg i hi, hup.id g hg i hi]
    split
    · exact ⟨fun q => by omega, fun _ => ⟨rfl, rfl⟩⟩
    · exact e
  · have hc := hS.cnt
    rw [nfl_tot] at hc ⊢
    have : tot (fun g => cnt fun i => decide (bt T g i < 128)) G = tot (fun g => cnt fun i => decide (bt (remAt T g0 i0) g i < 128)) G + 1 := by
      refine tot_up (g0 := g0) ?_ hg0 fun g hg hne => ?_
      · refine cnt_flip hi0 (fun j hj hne => ?_) ?_ ?_
        · rw [hup.bt g0 hg0 j hj, if_neg (fun q => hne q.2)]
        · rw [hup.bt g0 hg0 i0 hi0, if_pos ⟨rfl, rfl⟩]; simp; omega
        · simpa using hfull
      · apply cnt_congr
        intro i hi
        rw [hup.bt g hg i hi, if_neg (fun q => hne q.1)]
    omega
  · have huse := hS.use
    rw [nus_tot] at huse ⊢
    by_cases q : b0 = 128
    · rw [if_pos q] at h2'
      have : tot (fun g => cnt fun i => decide (bt T g i < 128) || decide (bt T g i = 254)) G = tot (fun g => cnt fun i => decide (bt (remAt T g0 i0) g i < 128) || decide (bt (remAt T g0 i0) g i = 254)) G + 1 := by
        refine tot_up (g0 := g0) ?_ hg0 fun g hg hne => ?_
        · refine cnt_flip hi0 (fun j hj hne => ?_) ?_ ?_
          · rw [hup.bt g0 hg0 j hj, if_neg (fun q => hne q.2)]
          · rw [hup.bt g0 hg0 i0 hi0, if_pos ⟨rfl, rfl⟩, q]; rfl
          · simp [hfull]
        · apply cnt_congr
          intro i hi
          rw [hup.bt g hg i hi, if_neg (fun q => hne q.1)]
      omega
    · rw [if_neg q] at h2'
      have hb : b0 = 254 := by rw [hb0] at q ⊢; split at q <;> simp_all
      have : tot (fun g => cnt fun i => decide (bt (remAt T g0 i0) g i < 128) || decide (bt (remAt T g0 i0) g i = 254)) G = tot (fun g => cnt fun i => decide (bt T g i < 128) || decide (bt T g i = 254)) G := by
        apply tot_same
        intro g hg
        apply cnt_congr
        intro i hi
        rw [hup.bt g hg i hi]
        split
        · rename_i e
          obtain ⟨rfl, rfl⟩ := e
          rw [hb]; simp [hfull]
        · rfl
      omega
  · intro own hown i hi hf
    rw [fl_bit hi, decide_eq_true_eq] at hf
    have hbt := hup.bt own hown i hi
    have hhs := hup.hs own hown i hi
    by_cases e : own = g0 ∧ i = i0
    · rw [if_pos e] at hbt
      unfold bt at hbt
      omega
    · rw [if_neg e] at hhs hbt
      rw [hhs]
      obtain ⟨k, hk, hpk, hnk⟩ := hS.fnd own hown i hi (by rw [fl_bit hi, decide_eq_true_eq]; unfold bt at hbt; rw [← hbt]; exact hf)
      exact ⟨k, hk, hpk, fun n hn => hEe _ (Pr.pl_lt _ hS.shp.gp.pos n) (hnk n hn)⟩

/-! ### what a search finds -/
/-- The ids of a group's entries with the hash. -/
def sl (T : List Nat) (h g : Nat) : List Nat := ((List.range 8).filter fun i => decide (bt T g i < 128) && decide (hsw T g i = h)).map fun i => idw T g i
theorem mgr_eq {T : List Nat} {G h g : Nat} (hS : Sd T G) (hg : g < G) : mgr T h g = ((List.range 8).filter fun i => decide (bt T g i < 128) && decide (hsw T g i = h)).map fun i => (g, i) := by
  unfold mgr msl
  rw [bsF_mt, List.filter_filter]
  congr 1
  apply List.filter_congr
  intro i hi
  have hi8 : i < 8 := by simpa using hi
  have e := ssB_iff.1 (hS.slt g hg) i hi8
  have h128 : h % 128 < 128 := Nat.mod_lt _ (by omega)
  show (hsw T g i == h && decide (bt T g i = h % 128)) = _
  by_cases q : hsw T g i = h
  · simp only [q, beq_self_eq_true, Bool.true_and, decide_true, Bool.and_true, decide_eq_decide]
    constructor
    · intro r; omega
    · intro r; rw [e.1 r, q]
  · simp [q]
theorem flatMap_same {α β : Type} {f f' : α → List β} : ∀ {L : List α}, (∀ x ∈ L, f x = f' x) → L.flatMap f = L.flatMap f'
  | [], _ => rfl
  | a :: L, h => by rw [List.flatMap_cons, List.flatMap_cons, h a (by simp), flatMap_same fun x hx => h x (by simp [hx])]
theorem fnd_all {T : List Nat} {G : Nat} (hS : Sd T G) (h : Nat) : fnd T h G = (sq (h / 128) G).flatMap (sl T h) := by
  have hlt : ∀ g ∈ sq (h / 128) G, g < G := fun g hg => by
    obtain ⟨n, _, rfl⟩ := List.mem_map.1 hg
    exact Pr.pl_lt _ hS.shp.gp.pos n
  obtain ⟨R, hR0⟩ := wk_pre T (sq (h / 128) G)
  obtain ⟨Wk, hWk⟩ : ∃ Wk, Wk = wk T (sq (h / 128) G) := ⟨_, rfl⟩
  have hR := hR0
  rw [← hWk] at hR
  have hz : ∀ g ∈ R, sl T h g = [] := by
    intro g hg
    unfold sl
    rw [List.map_eq_nil_iff, List.filter_eq_nil_iff]
    intro i hi hq
    have hi8 : i < 8 := by simpa using hi
    simp only [Bool.and_eq_true, decide_eq_true_eq] at hq
    have hgG : g < G := hlt g (by rw [← hR]; simp [hg])
    obtain ⟨k, hk, hpk, hnk⟩ := hS.fnd g hgG i hi8 (by rw [fl_bit hi8, decide_eq_true_eq]; exact hq.1)
    rw [hq.2] at hpk hnk
    obtain ⟨A, C, hAC⟩ := List.append_of_mem hg
    have hkk : k = Wk.length + A.length := by
      have hlen : Wk.length + A.length < G := by
        have := congrArg List.length hR
        rw [Pr.sq_len, hAC] at this
        simp at this
        omega
      refine Pr.pl_inj (h := h / 128) hS.shp.gp hk hlen ?_
      have e := Pr.sq_at (h / 128) G hlen
      rw [← hR, List.getElem?_append_right (by omega), hAC, Nat.add_sub_cancel_left, List.getElem?_append_right (Nat.le_refl _), Nat.sub_self] at e
      simp at e
      rw [hpk, e]
    have hend : ∃ B x, Wk = B ++ [x] ∧ hasE T x = true := by
      rw [hWk]
      have key : ∀ L : List Nat, (∃ y S, L = wk T L ++ y :: S) → ∃ B x, wk T L = B ++ [x] ∧ hasE T x = true := by
        intro L
        induction L with
        | nil => rintro ⟨y, S, e⟩; simp [wk] at e
        | cons a L ih =>
          rintro ⟨y, S, e⟩
          rw [wk] at e ⊢
          by_cases q : hasE T a = true
          · rw [if_pos q]; exact ⟨[], a, rfl, q⟩
          · rw [if_neg q] at e ⊢
            obtain ⟨B, x, hB, hx⟩ := ih ⟨y, S, by simpa using e⟩
            exact ⟨a :: B, x, by rw [hB]; rfl, hx⟩
      obtain ⟨y, S, hyS⟩ : ∃ y S, R = y :: S := by
        cases R with
        | nil => cases hg
        | cons y S => exact ⟨y, S, rfl⟩
      exact key _ ⟨y, S, by rw [← hyS]; exact hR0.symm⟩
    obtain ⟨B, x, hB, hx⟩ := hend
    have hBk : B.length < k := by rw [hkk, hB]; simp; omega
    have h1 := hnk B.length hBk
    have h2 := Pr.sq_at (h / 128) G (show B.length < G by omega)
    rw [← hR, hB] at h2
    simp at h2
    rw [← h2, hx] at h1
    cases h1
  have e1 : fnd T h G = Wk.flatMap (sl T h) := by
    unfold fnd mts mtl
    rw [List.map_flatMap, ← hWk]
    apply flatMap_same
    intro g hg
    have hgG : g < G := hlt g (by rw [← hR]; simp [hg])
    rw [mgr_eq hS hgG, List.map_map]
    rfl
  rw [e1]
  conv => rhs; rw [← hR, List.flatMap_append]
  have e2 : R.flatMap (sl T h) = [] := by
    rw [List.flatMap_eq_nil_iff]
    exact hz
  rw [e2, List.append_nil]
end Go.Proofs.YtkfagfdefkaenaaDoor

/-
  How often an id is found, behind one entry more and one less; no statement is proved here.
-/
namespace Go.Proofs.YtkfagfdefkaenaaDoor
open Pr (Gp GpI sq pl)

theorem sq_nodup {h G : Nat} (hG : Gp G) : (sq h G).Nodup := by
  unfold sq List.Nodup
  rw [List.pairwise_map]
  refine List.Pairwise.imp_of_mem ?_ (List.pairwise_lt_range (n := G))
  intro a b ha hb hab e
  have := Pr.pl_inj hG (by simpa using ha) (by simpa using hb) e
  omega
theorem sq_split {h G g0 : Nat} (hG : Gp G) (hg : g0 < G) : ∃ A C, sq h G = A ++ g0 :: C ∧ (∀ x ∈ A, x ≠ g0) ∧ ∀ x ∈ C, x ≠ g0 := by
  obtain ⟨k, hk, hp⟩ := Pr.pl_onto (h := h) hG hg
  have hm : g0 ∈ sq h G := List.mem_iff_getElem?.2 ⟨k, by rw [Pr.sq_at h G hk, hp]⟩
  obtain ⟨A, C, e⟩ := List.append_of_mem hm
  have hn := sq_nodup (h := h) hG
  rw [e, List.nodup_append] at hn
  obtain ⟨_, h2, h3⟩ := hn
  rw [List.nodup_cons] at h2
  exact ⟨A, C, e, fun x hx q => h3 x hx g0 (by simp) q, fun x hx q => h2.1 (q ▸ hx)⟩
theorem sl_len (T : List Nat) (h g : Nat) : (sl T h g).length = cnt fun i => decide (bt T g i < 128) && decide (hsw T g i = h) := by
  unfold sl cnt
  rw [List.length_map]
theorem sl_cnt (T : List Nat) (h g d : Nat) : (sl T h g).count d = cnt fun i => (decide (bt T g i < 128) && decide (hsw T g i = h)) && decide (idw T g i = d) := by
  unfold sl cnt
  rw [List.count_eq_countP, List.countP_map, List.countP_eq_length_filter, List.filter_filter]
  congr 1
  apply List.filter_congr
  intro i _
  simp only [Function.comp]
  by_cases q : idw T g i = d
  · simp [q]
  · simp [q]
/-- A slot that was not full is full now. -/
theorem find_up {T T' : List Nat} {G g0 i0 b h d : Nat} (hS : Sd T G) (hS' : Sd T' G) (u : Up T T' G g0 i0 b h d) (hg : g0 < G) (hi : i0 < 8) (hb : b < 128) (h0 : 128 ≤ bt T g0 i0) :
    (fnd T' h G).count d = (fnd T h G).count d + 1 ∧ (fnd T' h G).length = (fnd T h G).length + 1 ∧ ∀ o, o ≠ h → fnd T' o G = fnd T o G := by
  have hlt : ∀ o, ∀ g ∈ sq (o / 128) G, g < G := fun o g hg => by
    obtain ⟨n, _, rfl⟩ := List.mem_map.1 hg
    exact Pr.pl_lt _ hS.shp.gp.pos n
  have hsame : ∀ o g, g < G → (g ≠ g0 ∨ o ≠ h) → sl T' o g = sl T o g := by
    intro o g hgG hor
    unfold sl
    have e : ((List.range 8).filter fun i => decide (bt T' g i < 128) && decide (hsw T' g i = o)) = ((List.range 8).filter fun i => decide (bt T g i < 128) && decide (hsw T g i = o)) := by
      apply List.filter_congr
      intro i hi'
      have hi8 : i < 8 := by simpa using hi'
      rw [u.bt g hgG i hi8, u.hs g hgG i hi8]
      by_cases q : g = g0 ∧ i = i0
      · rw [if_pos q, if_pos q]
        have ho : o ≠ h := hor.resolve_left (fun r => r q.1)
        obtain ⟨rfl, rfl⟩ := q
        rw [show decide (h = o) = false from decide_eq_false (fun r => ho r.symm), show decide (bt T g i < 128) = false from decide_eq_false (by omega)]
        simp
      · rw [if_neg q, if_neg q]
    rw [e]
    apply List.map_congr_left
    intro i hi'
    rw [List.mem_filter] at hi'
    have hi8 : i < 8 := by simpa using hi'.1
    have hq := hi'.2
    simp only [Bool.and_eq_true, decide_eq_true_eq] at hq
    rw [u.id g hgG i hi8, if_neg]
    rintro ⟨rfl, rfl⟩
    omega
  refine ⟨?_, ?_, fun o ho => ?_⟩
  · obtain ⟨A, C, e, hA, hC⟩ := sq_split (h := h / 128) hS.shp.gp hg
    have hAl : ∀ x ∈ A, x < G := fun x hx => hlt h x (by rw [e]; simp [hx])
    have hCl : ∀ x ∈ C, x < G := fun x hx => hlt h x (by rw [e]; simp [hx])
    rw [fnd_all hS, fnd_all hS', e, List.flatMap_append, List.flatMap_append, List.flatMap_cons, List.flatMap_cons, flatMap_same (L := A) fun x hx => hsame h x (hAl x hx) (.inl (hA x hx)), flatMap_same (L := C) fun x hx => hsame h x (hCl x hx) (.inl (hC x hx))]
    simp only [List.count_append, sl_cnt]
    have := cnt_flip (p := fun i => (decide (bt T g0 i < 128) && decide (hsw T g0 i = h)) && decide (idw T g0 i = d)) (q := fun i => (decide (bt T' g0 i < 128) && decide (hsw T' g0 i = h)) && decide (idw T' g0 i = d)) hi (fun j hj hne => by
      simp only [u.bt g0 hg j hj, u.hs g0 hg j hj, u.id g0 hg j hj, hne, and_false, if_false]) (by simp; omega) (by
      simp only [u.bt g0 hg i0 hi, u.hs g0 hg i0 hi, u.id g0 hg i0 hi, and_self, if_true]; simp [hb])
    omega
  · obtain ⟨A, C, e, hA, hC⟩ := sq_split (h := h / 128) hS.shp.gp hg
    have hAl : ∀ x ∈ A, x < G := fun x hx => hlt h x (by rw [e]; simp [hx])
    have hCl : ∀ x ∈ C, x < G := fun x hx => hlt h x (by rw [e]; simp [hx])
    rw [fnd_all hS, fnd_all hS', e, List.flatMap_append, List.flatMap_append, List.flatMap_cons, List.flatMap_cons, flatMap_same (L := A) fun x hx => hsame h x (hAl x hx) (.inl (hA x hx)), flatMap_same (L := C) fun x hx => hsame h x (hCl x hx) (.inl (hC x hx))]
    simp only [List.length_append, sl_len]
    have := cnt_flip (p := fun i => decide (bt T g0 i < 128) && decide (hsw T g0 i = h)) (q := fun i => decide (bt T' g0 i < 128) && decide (hsw T' g0 i = h)) hi (fun j hj hne => by
      simp only [u.bt g0 hg j hj, u.hs g0 hg j hj, hne, and_false, if_false]) (by simp; omega) (by
      simp only [u.bt g0 hg i0 hi, u.hs g0 hg i0 hi, and_self, if_true]; simp [hb])
    omega
  · rw [fnd_all hS, fnd_all hS']
    exact flatMap_same fun x hx => hsame o x (hlt o x hx) (.inr ho)
theorem Up.rev {T T' : List Nat} {G g0 i0 b h d : Nat} (u : Up T T' G g0 i0 b h d) (hS : Shp T G) : Up T' T G g0 i0 (Go.Proofs.YtkfagfdefkaenaaDoor.bt T g0 i0) (hsw T g0 i0) (idw T g0 i0) := by
  refine ⟨hS, fun g hg i hi => ?_, fun g hg i hi => ?_, fun g hg i hi => ?_⟩
  · split
    · rename_i e; rw [e.1, e.2]
    · rename_i e; rw [u.bt g hg i hi, if_neg e]
  · split
    · rename_i e; rw [e.1, e.2]
    · rename_i e; rw [u.hs g hg i hi, if_neg e]
  · split
    · rename_i e; rw [e.1, e.2]
    · rename_i e; rw [u.id g hg i hi, if_neg e]
theorem mts_mem {T : List Nat} {G h : Nat} (hS : Sd T G) {x : Nat × Nat} (hx : x ∈ mts T h G) : x.1 < G ∧ x.2 < 8 ∧ bt T x.1 x.2 < 128 ∧ hsw T x.1 x.2 = h := by
  unfold mts mtl at hx
  obtain ⟨g, hg, hxg⟩ := List.mem_flatMap.1 hx
  have hgs := (wk_pre T (sq (h / 128) G)).subset hg
  have hgG : g < G := by
    obtain ⟨n, _, rfl⟩ := List.mem_map.1 hgs
    exact Pr.pl_lt _ hS.shp.gp.pos n
  rw [mgr_eq hS hgG] at hxg
  obtain ⟨i, hi, rfl⟩ := List.mem_map.1 hxg
  rw [List.mem_filter] at hi
  have hq := hi.2
  simp only [Bool.and_eq_true, decide_eq_true_eq] at hq
  exact ⟨hgG, by simpa using hi.1, hq.1, hq.2⟩

/-! ### the three calls -/
theorem ins_facts {T T' : List Nat} {G h d : Nat} (hS : Sd T G) (hh : h < 18446744073709551616) (hd : d < 18446744073709551616) (hI : InsT T G h d (some T')) :
    Sd T' G ∧ T'.getD 1 0 = T.getD 1 0 + 1 ∧ (fnd T' h G).count d = (fnd T h G).count d + 1 ∧ (fnd T' h G).length = (fnd T h G).length + 1 ∧ ∀ o, o ≠ h → fnd T' o G = fnd T o G := by
  obtain ⟨g, i, hF, hno, rfl⟩ := hI
  obtain ⟨h1, h2, h3, h4, h5, h6, _⟩ := ins_sd hS hh hd hF hno
  obtain ⟨q1, q2, q3⟩ := find_up hS h1 h2 h3 h4 (Nat.mod_lt _ (by omega)) h5
  exact ⟨h1, h6, q1, q2, q3⟩
theorem del_facts {T T' : List Nat} {G h d : Nat} (hS : Sd T G) (hD : DelT T G h d (some T')) :
    Sd T' G ∧ T'.getD 1 0 + 1 = T.getD 1 0 ∧ (fnd T h G).count d = (fnd T' h G).count d + 1 ∧ (fnd T h G).length = (fnd T' h G).length + 1 := by
  obtain ⟨A, x, C, hm, _, hx, rfl⟩ := hD
  obtain ⟨h1, h2, h3, h4⟩ := mts_mem hS (x := x) (by rw [hm]; simp)
  obtain ⟨q1, q2, q3⟩ := del_sd hS h1 h2 h3
  have hb : 128 ≤ bt (remAt T x.1 x.2) x.1 x.2 := by
    rw [q2.bt _ h1 _ h2, if_pos ⟨rfl, rfl⟩]
    split <;> omega
  have hrev := q2.rev hS.shp
  rw [h4, hx] at hrev
  obtain ⟨r1, r2, _⟩ := find_up q1 hS hrev h1 h2 h3 hb
  exact ⟨q1, q3, r1, r2⟩
theorem del_some {T : List Nat} {G h d : Nat} (h0 : 1 ≤ (fnd T h G).count d) : ¬ DelT T G h d none := by
  intro hn
  have : d ∈ fnd T h G := List.count_pos_iff.1 h0
  unfold fnd at this
  obtain ⟨p, hp, e⟩ := List.mem_map.1 this
  exact hn p hp e
theorem new_cw {G k g : Nat} (hg : g < G) (hk : g < k) : cw (newK G k) g = 9259542123273814144 := by
  unfold cw
  rw [newK_at G k (by omega), if_neg (by omega), if_neg (by omega), if_pos (by omega)]
theorem byt_new : ∀ i, i < 8 → byt 9259542123273814144 i = 128 := by decide +kernel
theorem new_hs {G k g i : Nat} (hg : g < G) (hi : i < 8) : hsw (newK G k) g i = 0 ∧ idw (newK G k) g i = 0 := by
  unfold hsw idw
  rw [newK_at G k (by omega), newK_at G k (by omega)]
  constructor
  · rw [if_neg (by omega), if_neg (by omega), if_neg (by omega)]
  · rw [if_neg (by omega), if_neg (by omega), if_neg (by omega)]
theorem sd_new {G : Nat} (hG : Gp G) : Sd (newT G) G := by
  have hb : ∀ g, g < G → ∀ i, i < 8 → bt (newT G) g i = 128 := fun g hg i hi => by unfold bt newT; rw [new_cw hg hg]; exact byt_new i hi
  refine ⟨Gp.shp hG G, fun g hg => ?_, fun g hg => ?_, ?_, ?_, ?_⟩
  · rw [scB_iff]
    refine ⟨fun i hi => .inr (.inl (hb g hg i hi)), .inr fun i hi => ?_⟩
    have := hb g hg i hi
    unfold bt at this
    omega
  · rw [ssB_iff]
    intro i hi
    rw [hb g hg i hi]
    exact ⟨fun q => by omega, fun _ => new_hs hg hi⟩
  · rw [nfl_tot]
    have : ∀ k, k ≤ G → tot (fun g => cnt fun i => decide (bt (newT G) g i < 128)) k = 0 := by
      intro k
      induction k with
      | zero => intro _; rfl
      | succ k ih =>
        intro hk
        rw [tot, ih (by omega), cnt_congr (q := fun _ => false) fun i hi => by rw [hb k (by omega) i hi]; rfl]
        rfl
    rw [this G (Nat.le_refl _)]
    unfold newT
    rw [newK_at G G (by omega)]
    simp
  · rw [nus_tot]
    have : ∀ k, k ≤ G → tot (fun g => cnt fun i => decide (bt (newT G) g i < 128) || decide (bt (newT G) g i = 254)) k = 0 := by
      intro k
      induction k with
      | zero => intro _; rfl
      | succ k ih =>
        intro hk
        rw [tot, ih (by omega), cnt_congr (q := fun _ => false) fun i hi => by rw [hb k (by omega) i hi]; rfl]
        rfl
    rw [this G (Nat.le_refl _)]
    unfold newT
    rw [newK_at G G (by omega)]
    simp
  · intro own hown i hi hf
    rw [fl_bit hi, decide_eq_true_eq] at hf
    have := hb own hown i hi
    unfold bt at this
    omega
end Go.Proofs.YtkfagfdefkaenaaDoor

/-
  All entries and what is found of them; no statement is proved here.
-/
namespace Go.Proofs.YtkfagfdefkaenaaDoor
open Pr (Gp GpI sq pl)

theorem sum_all (f : Nat → Nat) : ∀ (G : Nat) (L : List Nat), L.Nodup → (∀ x ∈ L, x < G) → (∀ g, g < G → g ∈ L) → (L.map f).sum = tot f G
  | 0, L, _, h, _ => by
    cases L with
    | nil => rfl
    | cons x L => exact absurd (h x (by simp)) (by omega)
  | k + 1, L, hn, hlt, hall => by
    obtain ⟨A, C, e⟩ := List.append_of_mem (hall k (by omega))
    subst e
    rw [List.nodup_append] at hn
    obtain ⟨hA, hkC, hAC⟩ := hn
    rw [List.nodup_cons] at hkC
    have ih := sum_all f k (A ++ C) (List.nodup_append.2 ⟨hA, hkC.2, fun a ha c hc => hAC a ha c (by simp [hc])⟩) (fun x hx => by
      have h1 : x < k + 1 := hlt x (by rcases List.mem_append.1 hx with q | q <;> simp [q])
      have h2 : x ≠ k := by
        rcases List.mem_append.1 hx with q | q
        · exact hAC x q k (by simp)
        · rintro rfl; exact hkC.1 q
      omega) (fun g hg => by
      have := hall g (by omega)
      rcases List.mem_append.1 this with q | q
      · simp [q]
      · rcases List.mem_cons.1 q with r | r
        · omega
        · simp [r])
    rw [tot, ← ih]
    simp only [List.map_append, List.map_cons, List.sum_append, List.sum_cons]
    omega
theorem sq_sum {h G : Nat} (hG : Gp G) (f : Nat → Nat) : ((sq h G).map f).sum = tot f G :=
  sum_all f G _ (sq_nodup hG) (fun x hx => by obtain ⟨n, _, rfl⟩ := List.mem_map.1 hx; exact Pr.pl_lt _ hG.pos n) (fun g hg => by
    obtain ⟨k, hk, hp⟩ := Pr.pl_onto (h := h) hG hg
    exact List.mem_iff_getElem?.2 ⟨k, by rw [Pr.sq_at h G hk, hp]⟩)
theorem egr_eq (T : List Nat) (g : Nat) : egr T g = ((List.range 8).filter fun i => decide (bt T g i < 128)).map fun i => (hsw T g i, idw T g i) := by
  unfold egr esl
  rw [bsF_fl]
  rfl
theorem egr_cnt (T : List Nat) (g h d : Nat) : (egr T g).count (h, d) = (sl T h g).count d := by
  rw [egr_eq, sl_cnt, List.count_eq_countP, List.countP_map, List.countP_eq_length_filter, List.filter_filter]
  unfold cnt
  congr 1
  apply List.filter_congr
  intro i _
  simp only [Function.comp]
  by_cases q1 : hsw T g i = h
  · by_cases q2 : idw T g i = d
    · simp [q1, q2]
    · simp [q1, q2]
  · simp [q1]
theorem egr_len1 (T : List Nat) (g h : Nat) : (egr T g).countP (fun p => decide (p.1 = h)) = (sl T h g).length := by
  rw [egr_eq, sl_len, List.countP_map, List.countP_eq_length_filter, List.filter_filter]
  unfold cnt
  congr 1
  apply List.filter_congr
  intro i _
  simp [Function.comp, Bool.and_comm]
theorem ents_tot_cnt (T : List Nat) (h d : Nat) : ∀ k, (ents T k).count (h, d) = tot (fun g => (sl T h g).count d) k
  | 0 => rfl
  | k + 1 => by rw [ents_succ, List.count_append, ents_tot_cnt T h d k, egr_cnt, tot]
theorem ents_tot_len (T : List Nat) (h : Nat) : ∀ k, (ents T k).countP (fun p => decide (p.1 = h)) = tot (fun g => (sl T h g).length) k
  | 0 => rfl
  | k + 1 => by rw [ents_succ, List.countP_append, ents_tot_len T h k, egr_len1, tot]
theorem ents_tot (T : List Nat) : ∀ k, (ents T k).length = nfl T k
  | 0 => rfl
  | k + 1 => by
    rw [ents_succ, List.length_append, ents_tot T k, nfl, egr_eq, List.length_map, pc_fl]
    rfl
theorem fnd_cnt {T : List Nat} {G : Nat} (hS : Sd T G) (h d : Nat) : (fnd T h G).count d = (ents T G).count (h, d) := by
  rw [fnd_all hS, ents_tot_cnt, ← sq_sum (h := h / 128) hS.shp.gp]
  induction sq (h / 128) G with
  | nil => rfl
  | cons g L ih => rw [List.flatMap_cons, List.count_append, ih, List.map_cons, List.sum_cons]
theorem fnd_lenE {T : List Nat} {G : Nat} (hS : Sd T G) (h : Nat) : (fnd T h G).length = (ents T G).countP (fun p => decide (p.1 = h)) := by
  rw [fnd_all hS, ents_tot_len, ← sq_sum (h := h / 128) hS.shp.gp]
  induction sq (h / 128) G with
  | nil => rfl
  | cons g L ih => rw [List.flatMap_cons, List.length_append, ih, List.map_cons, List.sum_cons]

/-! ### filling a new table -/
/-- The table X holds just the entries E, and nothing is deleted in it. -/
structure Hol (X : List Nat) (G : Nat) (E : List (Nat × Nat)) : Prop where
  sd : Sd X G
  nd : X.getD 2 0 + E.length = 7 * G
  len : X.getD 1 0 = E.length
  cnt : ∀ h d, (fnd X h G).count d = E.count (h, d)
  tot : ∀ h, (fnd X h G).length = E.countP (fun p => decide (p.1 = h))
theorem hol_nodel {X : List Nat} {G : Nat} {E : List (Nat × Nat)} (h : Hol X G E) {g i : Nat} (hg : g < G) (hi : i < 8) : bt X g i ≠ 254 := by
  intro q
  have h1 := h.sd.use
  have h2 := h.sd.cnt
  rw [h.len] at h2
  have h3 := h.nd
  have key : nfl X G + 1 ≤ nus X G := by
    rw [nfl_tot, nus_tot]
    have hle : ∀ g, (Go.Proofs.YtkfagfdefkaenaaDoor.cnt fun i => decide (bt X g i < 128)) ≤ Go.Proofs.YtkfagfdefkaenaaDoor.cnt fun i => decide (bt X g i < 128) || decide (bt X g i = 254) := fun g => by
      unfold Go.Proofs.YtkfagfdefkaenaaDoor.cnt
      rw [← List.countP_eq_length_filter, ← List.countP_eq_length_filter]
      exact List.countP_mono_left fun a _ ha => by rw [ha]; rfl
    have hlt : (Go.Proofs.YtkfagfdefkaenaaDoor.cnt fun i => decide (bt X g i < 128)) + 1 ≤ Go.Proofs.YtkfagfdefkaenaaDoor.cnt fun i => decide (bt X g i < 128) || decide (bt X g i = 254) := by
      have e := cnt_flip (p := fun j => decide (bt X g j < 128)) (q := fun j => decide (bt X g j < 128) || decide (j = i)) hi (fun j _ hne => by simp [hne]) (by simp; omega) (by simp)
      rw [← e]
      unfold Go.Proofs.YtkfagfdefkaenaaDoor.cnt
      rw [← List.countP_eq_length_filter, ← List.countP_eq_length_filter]
      exact List.countP_mono_left fun a _ ha => by
        simp only [Bool.or_eq_true, decide_eq_true_eq] at ha ⊢
        rcases ha with r | r
        · exact .inl r
        · right; rw [r]; exact q
    have hmono : ∀ k, Go.Proofs.YtkfagfdefkaenaaDoor.tot (fun g => Go.Proofs.YtkfagfdefkaenaaDoor.cnt fun i => decide (bt X g i < 128)) k ≤ Go.Proofs.YtkfagfdefkaenaaDoor.tot (fun g => Go.Proofs.YtkfagfdefkaenaaDoor.cnt fun i => decide (bt X g i < 128) || decide (bt X g i = 254)) k := by
      intro k
      induction k with
      | zero => exact Nat.le_refl _
      | succ k ih => rw [Go.Proofs.YtkfagfdefkaenaaDoor.tot, Go.Proofs.YtkfagfdefkaenaaDoor.tot]; have := hle k; omega
    have hstr : ∀ k, g < k → Go.Proofs.YtkfagfdefkaenaaDoor.tot (fun g => Go.Proofs.YtkfagfdefkaenaaDoor.cnt fun i => decide (bt X g i < 128)) k + 1 ≤ Go.Proofs.YtkfagfdefkaenaaDoor.tot (fun g => Go.Proofs.YtkfagfdefkaenaaDoor.cnt fun i => decide (bt X g i < 128) || decide (bt X g i = 254)) k := by
      intro k
      induction k with
      | zero => intro h; omega
      | succ k ih =>
        intro h
        rw [Go.Proofs.YtkfagfdefkaenaaDoor.tot, Go.Proofs.YtkfagfdefkaenaaDoor.tot]
        by_cases e : g = k
        · subst e; have := hmono g; omega
        · have := ih (by omega); have := hle k; omega
    exact hstr G hg
  omega
theorem hol_new {G : Nat} (hG : Gp G) : Hol (newT G) G [] := by
  have hS := sd_new hG
  have hb : ∀ g, g < G → ∀ i, i < 8 → bt (newT G) g i = 128 := fun g hg i hi => by unfold bt newT; rw [new_cw hg hg]; exact byt_new i hi
  have hz : ∀ h, fnd (newT G) h G = [] := fun h => by
    rw [fnd_all hS, List.flatMap_eq_nil_iff]
    intro g hg
    have hgG : g < G := by obtain ⟨n, _, rfl⟩ := List.mem_map.1 hg; exact Pr.pl_lt _ hG.pos n
    unfold sl
    rw [List.map_eq_nil_iff, List.filter_eq_nil_iff]
    intro i hi
    rw [hb g hgG i (by simpa using hi)]
    simp
  refine ⟨hS, ?_, ?_, fun h d => by rw [hz]; rfl, fun h => by rw [hz]; rfl⟩
  · unfold newT; rw [newK_at G G (by omega)]; simp
  · unfold newT; rw [newK_at G G (by omega)]; simp
theorem hol_ins {X X' : List Nat} {G h d : Nat} {E : List (Nat × Nat)} (hH : Hol X G E) (hh : h < 18446744073709551616) (hd : d < 18446744073709551616) (hI : InsT X G h d (some X')) : Hol X' G (E ++ [(h, d)]) := by
  obtain ⟨h1, h2, h3, h4, h5⟩ := ins_facts hH.sd hh hd hI
  obtain ⟨g, i, hF, hno, rfl⟩ := hI
  obtain ⟨_, u, hg, hi, hb, _, h7⟩ := ins_sd hH.sd hh hd hF hno
  have hctl := (scB_iff.1 (hH.sd.ctl g hg)).1 i hi
  have hne := hol_nodel hH hg hi
  have h128 : bt X g i = 128 := by
    have : bt X g i < 128 ∨ bt X g i = 128 ∨ bt X g i = 254 := hctl
    omega
  rw [if_pos h128] at h7
  refine ⟨h1, ?_, ?_, fun x y => ?_, fun x => ?_⟩
  · have := hH.nd; rw [List.length_append, List.length_singleton]; omega
  · rw [h2, hH.len, List.length_append]; rfl
  · rw [List.count_append, List.count_singleton]
    by_cases e : x = h
    · subst e
      by_cases e2 : y = d
      · subst e2; rw [h3, hH.cnt]; simp
      · have hy : (fnd (insAt X g i x d) x G).count y = (fnd X x G).count y := by
          have l1 := h4
          have c1 := h3
          have hS' := h1
          rw [fnd_cnt hS', fnd_cnt hH.sd, ents_tot_cnt, ents_tot_cnt]
          apply tot_same
          intro g' hg'
          rw [sl_cnt, sl_cnt]
          apply cnt_congr
          intro j hj
          rw [u.bt g' hg' j hj, u.hs g' hg' j hj, u.id g' hg' j hj]
          by_cases q : g' = g ∧ j = i
          · rw [if_pos q, if_pos q, if_pos q]
            obtain ⟨rfl, rfl⟩ := q
            rw [h128]
            simp; intro _ r; exact absurd r.symm e2
          · rw [if_neg q, if_neg q, if_neg q]
        rw [hy, hH.cnt]
        have : ((x, d) == (x, y)) = false := by simp; exact fun r => e2 r.symm
        simp [this]
    · rw [h5 x e, hH.cnt]
      have : ((h, d) == (x, y)) = false := by simp; exact fun r => absurd r.symm e
      simp [this]
  · rw [List.countP_append]
    by_cases e : x = h
    · subst e; rw [h4, hH.tot]; simp
    · rw [h5 x e, hH.tot]; simp; exact fun r => e r.symm
/-- There is always an open slot. -/
theorem hol_full {X : List Nat} {G h d : Nat} {E : List (Nat × Nat)} (hH : Hol X G E) (hI : InsT X G h d none) : E.length = 7 * G := by
  have hex : ∃ g i, Fst X h G g i := by
    have hpos : nus X G < 8 * G := by
      have := hH.sd.use
      have := hH.sd.shp.gp.pos
      omega
    have hg : ∃ g, g < G ∧ opn X g ≠ [] := by
      refine Classical.byContradiction fun q => ?_
      have hall : ∀ g, g < G → opn X g = [] := fun g hg => Classical.byContradiction fun r => q ⟨g, hg, r⟩
      have : ∀ k, k ≤ G → nus X k = 8 * k := by
        intro k
        induction k with
        | zero => intro _; rfl
        | succ k ih =>
          intro hk
          rw [nus, ih (by omega), pc_us]
          have ho := hall k (by omega)
          rw [opn_eq, List.filter_eq_nil_iff] at ho
          have hc := (scB_iff.1 (hH.sd.ctl k (by omega))).1
          rw [cnt_congr (q := fun _ => true) fun i hi => by
            have h1 := ho i (by simpa using hi)
            simp [bt] at h1
            rcases hc i hi with r | r | r
            · simp [r]
            · exact absurd r (of_decide_eq_false h1.1)
            · exact absurd r (of_decide_eq_false h1.2)]
          show 8 * k + 8 = _
          omega
      have := this G (Nat.le_refl _)
      omega
    obtain ⟨g, hgG, hne⟩ := hg
    have key : ∀ L : List Nat, g ∈ L → ∃ A g' C, L = A ++ g' :: C ∧ (∀ x ∈ A, opn X x = []) ∧ opn X g' ≠ [] := by
      intro L
      induction L with
      | nil => intro h; cases h
      | cons a L ih =>
        intro hm
        by_cases q : opn X a = []
        · have : g ∈ L := by
            rcases List.mem_cons.1 hm with r | r
            · rw [r] at hne; exact absurd q hne
            · exact r
          obtain ⟨A, g', C, e, h1, h2⟩ := ih this
          exact ⟨a :: A, g', C, by rw [e]; rfl, fun x hx => by rcases List.mem_cons.1 hx with r | r; rw [r]; exact q; exact h1 x r, h2⟩
        · exact ⟨[], a, L, rfl, by simp, q⟩
    obtain ⟨k, hk, hp⟩ := Pr.pl_onto (h := h / 128) hH.sd.shp.gp hgG
    obtain ⟨A, g', C, e, h1, h2⟩ := key (sq (h / 128) G) (List.mem_iff_getElem?.2 ⟨k, by rw [Pr.sq_at _ G hk, hp]⟩)
    cases ho : opn X g' with
    | nil => exact absurd ho h2
    | cons i l => exact ⟨g', i, A, C, l, e, h1, ho⟩
  obtain ⟨g, i, hF⟩ := hex
  have := (hI g i hF).2
  have := hH.nd
  omega
end Go.Proofs.YtkfagfdefkaenaaDoor
