/-
  Delete: a table without an entry; no statement is proved here.
-/
import Derived.Test.YtkknadkcpndnaaaDoorFin
import Derived.Test.YtkknadkcpndnaaaDoorNewT
namespace Go.Proofs.YtkknadkcpndnaaaDoor
open Go.RowKit Go.Shelf
open Pr (Gp GpI sq pl)
attribute [local go_sem] Oper.semAt_some run_store_func wide_fn wide_depth

/-- The blocks of a list are the loop's own. -/
def Olist (S : List Nat) (_ : World) (k : Nat) : Prop := k ∈ S
theorem cal_list {β : Type} {S : List Nat} {J : β → World → Prop} {B : Nat} (hJ : OwnFrom B J) (hl : ∀ s W, J s W → ∀ k ∈ S, k < W.heap.size) : Cal (Olist S) J B := ⟨hJ, fun s W k h hk => hl s W h k hk, fun _ _ _ _ _ _ _ h => h⟩
theorem kc_list {S : List Nat} {A B : World} (x : Ext S A B) : Kc (Olist S) A B := ⟨x.size, fun _ _ hk _ hO => x.keep hk hO, fun _ h => .inl h⟩
theorem load22 {w : World} {g : Nat} {v : Value} (h : Boxed w g 22 v) : (loadVar 22 ⟨g, 0, none⟩).run Tryd.prog w = .ok v w := by
  have := h.cell
  simp [go_sem, this]
theorem load29 {w : World} {g : Nat} {v : Value} (h : Boxed w g 29 v) : (loadVar 29 ⟨g, 0, none⟩).run Tryd.prog w = .ok v w := by
  have := h.cell
  simp [go_sem, this]
theorem results_cells2 {P : Program} {fn : Func} {p q : Tmp} {ty ty' : TypeId} (h : fn.results = #[.cell p ty, .cell q ty']) (tmps : Array Value) (w : World) (a b : Addr) (v v' : Value)
    (hp : tmps.getD p undef = .pointer (some a)) (hq : tmps.getD q undef = .pointer (some b)) (h1 : (loadVar ty a).run P w = .ok v w) (h2 : (loadVar ty' b).run P w = .ok v' w) : (results fn tmps).run P w = .ok (.tuple #[v, v']) w := by
  have hp' : tmps[p]?.getD undef = .pointer (some a) := by simpa using hp
  have hq' : tmps[q]?.getD undef = .pointer (some b) := by simpa using hq
  simp [results, h, hp', hq', asAddr, h1, h2]

/-- What Delete makes of a table. -/
def DelT (T : List Nat) (G h d : Nat) : Option (List Nat) → Prop
  | some T' => ∃ A x C, mts T h G = A ++ x :: C ∧ (∀ p ∈ A, idw T p.1 p.2 ≠ d) ∧ idw T x.1 x.2 = d ∧ T' = remAt T x.1 x.2
  | none => ∀ p ∈ mts T h G, idw T p.1 p.2 ≠ d
def TDelPost (T : List Nat) (G h d : Nat) (w : World) (e : Ending) (w' : World) : Prop := Ext [] w w' ∧
  ((∃ T' g c, DelT T G h d (some T') ∧ e = .returned (.tuple #[.slice (some ⟨g, 0, none⟩) (3 + 17 * G) c, .int .i64 0]) ∧ Tw w' g T' ∧ w.heap.size ≤ g) ∨
   (DelT T G h d none ∧ e = .returned (.tuple #[.slice none 0 0, .int .i64 4])))
def DelI (T : List Nat) (d : Nat) (W3 : World) (pre : List (Nat × Nat)) (W : World) : Prop := Ext [] W3 W ∧ ∀ p ∈ pre, idw T p.1 p.2 ≠ d
def DelX (T : List Nat) (G d z : Nat) (W3 : World) (cd : Code) (pre : List (Nat × Nat)) (W : World) : Prop := cd = .ret ∧ ∃ A x, pre = A ++ [x] ∧ (∀ p ∈ A, idw T p.1 p.2 ≠ d) ∧ idw T x.1 x.2 = d ∧
  ∃ g c, Boxed W (z + 2) 22 (.slice (some ⟨g, 0, none⟩) (3 + 17 * G) c) ∧ Boxed W (z + 3) 29 (.int .i64 0) ∧ Tw W g (remAt T x.1 x.2) ∧ W3.heap.size ≤ g ∧ Ext [z + 2, z + 3] W3 W

set_option maxRecDepth 100000 in
set_option maxHeartbeats 4000000 in
theorem tdelete_any (a : Option Addr) (c : Nat) (T : List Nat) (G h d : Nat) (hSd : Sd T G) (hh : h < 18446744073709551616) (w : World) (hT : Wd w a T) (hTb : Tb w) :
    Calls Tryd.prog 17 #[.slice a (3 + 17 * G) c, .int .u64 (h : Nat), .int .u64 (d : Nat)] w (TDelPost T G h d w) := by
  have hlen := hSd.shp.len
  have hG := hSd.shp.gp.le
  have hne : T ≠ [] := by rintro rfl; simp at hlen; omega
  obtain ⟨b, o, rfl, hcc⟩ := hT.at_ hne
  clear hcc
  refine (callsIn_wide (n := 14)).1 ?_
  refine callsIn_of_wp_marks Tryd.func17 rfl trivial ?_ rfl
  simp only [Tryd.ntmps17, List.size_toArray, List.length_cons, List.length_nil, Nat.reduceAdd, Nat.reduceSub, Array.replicate_succ, Array.replicate_zero, List.push_toArray, List.append_toArray, List.nil_append, List.cons_append]
  obtain ⟨z, hz⟩ : ∃ z, w.heap.size = z := ⟨_, rfl⟩
  have hbz : b < z := by
    obtain ⟨b', o', e, hc⟩ := hT.at_ hne
    cases e
    have := block_lt_of_cell (hc 0 (by rw [hlen]; omega))
    rw [hz] at this; exact this
  have h0z : 0 < z := by rw [← hz]; exact hTb.lt
  obtain ⟨W0, hW0⟩ : ∃ W0, (((w.alloc (.cells #[.slice (some ⟨b, o, none⟩) (3 + 17 * G) c] 22)).alloc (.cells #[.int .u64 (d : Nat)] 23)).alloc (.cells #[.slice none 0 0] 22)).alloc (.cells #[.int .i64 0] 29) = W0 := ⟨_, rfl⟩
  have hE0 : Ext [] w W0 := by rw [← hW0]; exact (((Ext.alloc [] _ _).trans (Ext.alloc [] _ _)).trans (Ext.alloc [] _ _)).trans (Ext.alloc [] _ _)
  have b0 : Boxed W0 z 22 (.slice (some ⟨b, o, none⟩) (3 + 17 * G) c) := by rw [← hW0, ← hz]; exact (((Boxed.new w 22 _).alloc _).alloc _).alloc _
  have b1 : Boxed W0 (z + 1) 23 (.int .u64 (d : Nat)) := by
    have := ((Boxed.new (w.alloc (.cells #[.slice (some ⟨b, o, none⟩) (3 + 17 * G) c] 22)) 23 (.int .u64 (d : Nat))).alloc (.cells #[.slice none 0 0] 22)).alloc (.cells #[.int .i64 0] 29)
    rw [hW0, World.size_alloc, hz] at this; exact this
  have b2 : Boxed W0 (z + 2) 22 (.slice none 0 0) := by
    have := (Boxed.new ((w.alloc (.cells #[.slice (some ⟨b, o, none⟩) (3 + 17 * G) c] 22)).alloc (.cells #[.int .u64 (d : Nat)] 23)) 22 (.slice none 0 0)).alloc (.cells #[.int .i64 0] 29)
    rw [hW0, World.size_alloc, World.size_alloc, hz] at this; exact this
  have b3 : Boxed W0 (z + 3) 29 (.int .i64 0) := by
    have := Boxed.new (((w.alloc (.cells #[.slice (some ⟨b, o, none⟩) (3 + 17 * G) c] 22)).alloc (.cells #[.int .u64 (d : Nat)] 23)).alloc (.cells #[.slice none 0 0] 22)) 29 (.int .i64 0)
    rw [hW0, World.size_alloc, World.size_alloc, World.size_alloc, hz] at this; exact this
  have cZ := b0.cell
  have K0 := sound_true (some ⟨b, o, none⟩) c T G hSd _ (hT.keep0 hE0)
  have HE0 := hid hE0
  have Hb0 := hid b0
  have Hb1 := hid b1
  have Hb2 := hid b2
  have Hb3 := hid b3
  have HT0 := hid (hT.keep0 hE0)
  have HTb0 := hid (hTb.keep0 hE0)
  have HSd := hid hSd
  have HL := hid hlen
  have HZ := hid hz
  clear hE0 b0 b1 b2 b3 hT hTb hSd hlen
  gi_wp2_with fail
  try rw [hW0]
  try simp only [hz]
  simp only [show z + 1 + 1 = z + 2 from rfl, show z + 2 + 1 = z + 3 from rfl]
  clear hW0
  gi_at_call 38
  refine (callsIn_wide.2 K0).mono ?_
  clear K0 cZ hz
  rintro _ w1 ⟨rfl, hX1⟩
  obtain ⟨z1, hz1⟩ : ∃ z1, w1.heap.size = z1 := ⟨_, rfl⟩
  have hb0 : Boxed w1 z 22 (.slice (some ⟨b, o, none⟩) (3 + 17 * G) c) := hX1.keep Hb0.out (by simp)
  have cZ := hb0.cell
  have HT1 := hid (HT0.out.keep0 hX1)
  have HTb1 := hid (HTb0.out.keep0 hX1)
  have HE1 := hid (HE0.out.trans hX1)
  have Hb0' := hid hb0
  have Hb1' := hid (show Boxed w1 (z + 1) 23 _ from hX1.keep Hb1.out (by simp))
  have Hb2' := hid (show Boxed w1 (z + 2) 22 _ from hX1.keep Hb2.out (by simp))
  have Hb3' := hid (show Boxed w1 (z + 3) 29 _ from hX1.keep Hb3.out (by simp))
  have hzz : z + 3 < z1 := by rw [← hz1]; exact Hb3'.out.lt
  have K1 := matches_any (some ⟨b, o, none⟩) (3 + 17 * G) c h w1
  simp only [hz1] at K1
  have HZ1 := hid hz1
  clear hX1 Hb0 Hb1 Hb2 Hb3 HT0 HTb0 HE0 hb0 hz1
  gi_wp2_with (first | (gi_at_call 41; refine (callsIn_wide.2 K1).mono ?_; rintro _ _ ⟨rfl, rfl⟩))
  clear K1 cZ
  have hz1' := HZ1.out
  have bt := (Boxed.new w1 22 (.slice (some ⟨b, o, none⟩) (3 + 17 * G) c)).alloc (.cells #[.int .u64 (h : Nat)] 23)
  have bh := Boxed.new (w1.alloc (.cells #[.slice (some ⟨b, o, none⟩) (3 + 17 * G) c] 22)) 23 (.int .u64 (h : Nat))
  have hX3 : Ext [] w1 ((w1.alloc (.cells #[.slice (some ⟨b, o, none⟩) (3 + 17 * G) c] 22)).alloc (.cells #[.int .u64 (h : Nat)] 23)) := (Ext.alloc [] _ _).trans (Ext.alloc [] _ _)
  obtain ⟨W3, hW3⟩ : ∃ W3, (w1.alloc (.cells #[.slice (some ⟨b, o, none⟩) (3 + 17 * G) c] 22)).alloc (.cells #[.int .u64 (h : Nat)] 23) = W3 := ⟨_, rfl⟩
  have hs3 : W3.heap.size = z1 + 2 := by rw [← hW3]; simp [hz1']
  simp only [World.size_alloc, hz1'] at bt bh
  rw [hW3] at bt bh hX3
  have hb1 : b < z1 := by
    obtain ⟨b', o', e, hc⟩ := HT1.out.at_ hne
    cases e
    have := block_lt_of_cell (hc 0 (by rw [HL.out]; omega))
    rw [hz1'] at this; exact this
  obtain ⟨R, hR1⟩ : ∃ R, w1.heap[b]? = some R := ⟨_, Array.getElem?_eq_getElem (by rw [hz1']; exact hb1)⟩
  have hRc : R.isCells = true := by
    obtain ⟨b', o', e, hc⟩ := HT1.out.at_ hne
    cases e
    have := hc 0 (by rw [HL.out]; omega)
    cases R with
    | cells cs t m => rfl
    | _ => simp [World.cell?, hR1] at this
  have hO3 : ∀ k ∈ [0, z1, z1 + 1, b], ¬ Olist [z + 2, z + 3] W3 k := by
    intro k hk hO
    simp only [Olist, List.mem_cons, List.not_mem_nil, or_false] at hk hO
    omega
  have hMat := matches_gives 13 (by omega) z1 (z1 + 1) b o c h G T R HSd.out.shp hh (Olist [z + 2, z + 3]) W3 bt bh (hX3.keep hR1 (by simp)) hRc (HT1.out.keep0 hX3) (HTb1.out.keep0 hX3) hO3
  have HMat := hid hMat
  have HX3 := hid hX3
  clear bt bh hMat hR1 hRc hO3 hX3
  rw [hW3]
  have hz13 : z1 + 2 ≤ W3.heap.size ∧ W3.heap.size ≤ z1 + 2 := by omega
  clear hW3 hs3 hz1'
  have hz3' : z + 3 < W3.heap.size := by omega
  refine loop_givesS rfl (by omega) (gf := 75) (lb := #[.pointer (some ⟨z1 + 1, 0, none⟩), .pointer (some ⟨z1, 0, none⟩)]) rfl trivial (enters_of Tryd.func75 (by kernel_rfl) rfl)
    HMat.out (fun _ => rfl)
    (DelI T d W3) (DelX T G d z W3)
    (cal_list (OwnFrom.and (ext_own (Nat.le_refl _)) (ownFrom_pure _ _)) (fun s W hs k hk => by have := hs.1.size; simp at hk; omega))
    (fun cd => cal_list (fun s X Y row hs hg hr => by
      obtain ⟨e1, A, x, e2, e3, e4, g, c', q1, q2, q3, q4, q5⟩ := hs
      exact ⟨e1, A, x, e2, e3, e4, g, c', boxed_own (z + 2) 22 (fun _ : Unit => .slice (some ⟨g, 0, none⟩) (3 + 17 * G) c') () X Y row q1 hg (fun r e => (hr r e).2), boxed_own (z + 3) 29 (fun _ : Unit => .int .i64 0) () X Y row q2 hg (fun r e => (hr r e).2), tw_own (β := Unit) g _ () X Y row q3 hg (fun r e => (hr r e).2), q4, ext_own (β := Unit) (Nat.le_refl _) () X Y row q5 hg hr⟩)
      (fun s W hs k hk => by obtain ⟨e1, A, x, e2, e3, e4, g, c', q1, q2, q3, q4, q5⟩ := hs; have := q5.size; simp at hk; omega))
    ⟨Ext.refl _ _, by simp⟩
    (fun x a' _ => a' = { tmps := #[.slice (some ⟨b, o, none⟩) (3 + 17 * G) c, .int .u64 (h : Nat), .int .u64 (d : Nat), .pointer (some ⟨z, 0, none⟩), undef, .pointer (some ⟨z + 1, 0, none⟩), .pointer (some ⟨z + 2, 0, none⟩), .pointer (some ⟨z + 3, 0, none⟩), .int .i64 (x.1 : Nat), .int .i64 (x.2 : Nat), undef, .slice (some ⟨b, o, none⟩) (3 + 17 * G) c, .bool true, .bool false, .slice (some ⟨b, o, none⟩) (3 + 17 * G) c, .int .u64 (h : Nat), .func (.func 75) #[] #[.pointer (some ⟨z1 + 1, 0, none⟩), .pointer (some ⟨z1, 0, none⟩)], .int .i64 (x.1 : Nat), .int .i64 (x.2 : Nat), undef, undef, undef, undef, undef, undef, undef, undef, undef, undef, undef, undef, undef, undef, undef], defers := [] }) (fun x a' _ X Y row hs hg hr => hs)
    ?assign ?body ?done ?stop
  case assign =>
    rintro l pre x W K _ hI hK
    unfold penc
    gi_wp2
    exact hK _ _ (KeepsFrom.refl _ _) (Kc.refl _ _) hI rfl
  case stop =>
    rintro D cd pre W hD hSp ⟨rfl, A, x, rfl, hA, hx, g, c', q1, q2, q3, q4, q5⟩ hK
    have HF : Hid (DelT T G h d (some (remAt T x.1 x.2))) := by
      obtain ⟨C, hC⟩ := hSp
      exact ⟨A, x, C, by rw [← hC]; simp, hA, hx, rfl⟩
    have Hq1 := hid q1
    have Hq2 := hid q2
    have Hq3 := hid q3
    have Hq5 := hid q5
    have HK := hid hK
    have HD := hid hD
    clear hSp hA hx q1 q2 q3 q5 hK hD
    gi_wp2_with fail
    have hP := grownBy_putObj' W D (.deferred none)
    have hx2 := Ext.grown (S := [D]) hP (by simp)
    have hDz := HD.out
    have hr1 : Boxed _ _ _ _ := hx2.keep (show W.heap[z + 2]? = _ from Hq1.out) (by simp; omega)
    have hr2 : Boxed _ _ _ _ := hx2.keep (show W.heap[z + 3]? = _ from Hq2.out) (by simp; omega)
    have hDW := lt_of_heap HK.out
    have hgD : g ≠ D := by
      rintro rfl
      obtain ⟨cs, h1, _⟩ := Hq3.out
      rw [HK.out] at h1
      cases h1
    have hw := HZ.out
    refine ⟨by simp, .inl ⟨_, _, rfl, run_takeDeferred HK.out, _, results_cells2 rfl _ _ ⟨z + 2, 0, none⟩ ⟨z + 3, 0, none⟩ _ _ rfl rfl (load22 hr1) (load29 hr2), ?_, .inl ⟨_, g, c', HF.out, rfl, Hq3.out.keep hx2 (by simp; exact hgD), by omega⟩⟩⟩
    exact (((HE1.out.trans HX3.out).on Hq5.out (by simp; omega)).on hx2 (by simp; omega))
  case done =>
    rintro D zs W hD rfl ⟨hX, hno⟩ hK
    have hb2 : Boxed W (z + 2) 22 (.slice none 0 0) := hX.keep (HX3.out.keep Hb2'.out (by simp)) (by simp)
    have hb3 : Boxed W (z + 3) 29 (.int .i64 0) := hX.keep (HX3.out.keep Hb3'.out (by simp)) (by simp)
    have c2 := hb2.cell
    have f2 := hb2.frozen
    have hx1 := Ext.setCell [z + 2] W ⟨z + 2, 0, none⟩ (.slice none 0 0) (by simp)
    have hb3' : Boxed (W.setCell ⟨z + 2, 0, none⟩ (.slice none 0 0)) (z + 3) 29 (.int .i64 0) := hx1.keep hb3 (by simp)
    have c3 := hb3'.cell
    have f3 := hb3'.frozen
    have HX := hid hX
    have HNo := hid hno
    have HK := hid hK
    have HD := hid hD
    have Hb2 := hid hb2
    have Hb3 := hid hb3'
    have Hx1 := hid hx1
    clear hX hno hK hD hb2 hb3 hb3' hx1
    gi_wp2_with fail
    have hx3 := Ext.setCell [z + 3] (W.setCell ⟨z + 2, 0, none⟩ (.slice none 0 0)) ⟨z + 3, 0, none⟩ (.int .i64 4) (by simp)
    have hK2 := ((KeepsOthers.setCell W ⟨z + 2, 0, none⟩ (.slice none 0 0)).trans (KeepsOthers.setCell _ ⟨z + 3, 0, none⟩ (.int .i64 4))).same _ _ HK.out rfl
    have hP := grownBy_putObj' ((W.setCell ⟨z + 2, 0, none⟩ (.slice none 0 0)).setCell ⟨z + 3, 0, none⟩ (.int .i64 4)) D (.deferred none)
    have hx2 := Ext.grown (S := [D]) hP (by simp)
    have hDz := HD.out
    have hr1 : Boxed _ _ _ _ := hx2.keep (hx3.keep (Hb2.out.set (.slice none 0 0)) (by simp)) (by simp; omega)
    have hr2 : Boxed _ _ _ _ := hx2.keep (Hb3.out.set (.int .i64 4)) (by simp; omega)
    have hw := HZ.out
    refine ⟨by simp, .inl ⟨_, _, rfl, run_takeDeferred hK2, _, results_cells2 rfl _ _ ⟨z + 2, 0, none⟩ ⟨z + 3, 0, none⟩ _ _ rfl rfl (load22 hr1) (load29 hr2), ?_, .inr ⟨HNo.out, rfl⟩⟩⟩
    exact ((((HE1.out.trans HX3.out).trans HX.out).on Hx1.out (by simp; omega)).on hx3 (by simp; omega)).on hx2 (by simp; omega)
  case body =>
    rintro l pre x a' W hl ⟨r, hr⟩ ⟨hX, hno⟩ rfl hlt ⟨hgx, hix, hhx⟩
    obtain ⟨gx, ix⟩ := x
    simp only at hgx hix hhx
    have hXa := HX3.out.trans hX
    have hb0 : Boxed W z 22 (.slice (some ⟨b, o, none⟩) (3 + 17 * G) c) := hXa.keep Hb0'.out (by simp)
    have hb1 : Boxed W (z + 1) 23 (.int .u64 (d : Nat)) := hXa.keep Hb1'.out (by simp)
    have hb2 : Boxed W (z + 2) 22 (.slice none 0 0) := hXa.keep Hb2'.out (by simp)
    have hb3 : Boxed W (z + 3) 29 (.int .i64 0) := hXa.keep Hb3'.out (by simp)
    have hTW := HT1.out.keep0 hXa
    obtain ⟨_, _, heq, hTc⟩ := hTW.at_ hne
    cases heq
    have cR := hTc (3 + 17 * gx + 2 + 2 * ix) (by rw [HL.out]; omega)
    rw [show T.getD (3 + 17 * gx + 2 + 2 * ix) 0 = idw T gx ix from rfl] at cR
    have KI := fun u => idAt_any gx ix (by omega) (by omega) u
    have c0 := hb0.cell
    have c1 := hb1.cell
    obtain ⟨dx, hdx⟩ : ∃ dx, idw T gx ix = dx := ⟨_, rfl⟩
    rw [hdx] at cR
    have HX := hid hX
    have HNo := hid hno
    have HTW := hid hTW
    have Hb0 := hid hb0
    have Hb2 := hid hb2
    have Hb3 := hid hb3
    have Hdx := hid hdx
    clear hX hno hTW hTc hr hb0 hb1 hb2 hb3 hXa hdx
    by_cases hdd : dx = d
    · have hd1 : ((dx : Int) == (d : Int)) = true := by simp [hdd]
      gi_wp2_with fail
      refine wpIn_region_quietR (by kernel_rfl) (by kernel_rfl) (by kernel_rfl) ?_
      repeat (gi_big_quiet_step (first | (gi_at_call 42; refine CallsIn.quiet_of_same ((callsIn_wide.2 (KI _)).inRound l))))
      refine wpQuietIn_nil ?_
      rintro _ ⟨nq, rfl⟩
      have hxd := Ext.drewN [] W nq
      obtain ⟨V, hV⟩ : ∃ V, W.drewN nq = V := ⟨_, rfl⟩
      rw [hV] at hxd ⊢
      clear c0 c1 cR hV
      have c0 := Boxed.cell (show Boxed V z 22 _ from hxd.keep Hb0.out (by simp))
      have K2 := clone_any b o (3 + 17 * G) c T V (HTW.out.keep0 hxd) HL.out (by omega) (by omega)
      have HXd := hid hxd
      clear hxd
      gi_wp2_with fail
      gi_at_call 39
      refine ((callsIn_wide.2 K2).inRound l).mono ?_
      clear K2
      rintro _ V2 ⟨g, cc, rfl, hTw, hg, hX2⟩
      have huse := HSd.out.use
      have K3 := remove_any g cc T G gx ix HSd.out.shp hgx hix (by omega) V2 hTw
      have HX2 := hid (HXd.out.trans hX2)
      have hg2 : W.heap.size ≤ g := Nat.le_trans HXd.out.size hg
      clear hX2 HXd c0 hTw hg huse
      gi_wp2_with fail
      gi_at_call 43
      refine ((callsIn_wide.2 K3).inRound l).mono ?_
      clear K3
      rintro _ V3 ⟨⟨v3, rfl⟩, hTw3, hX3b⟩
      have hXW : Ext [] W V3 := HX2.out.on hX3b (by simp; omega)
      have hb2 : Boxed V3 (z + 2) 22 (.slice none 0 0) := hXW.keep Hb2.out (by simp)
      have hb3 : Boxed V3 (z + 3) 29 (.int .i64 0) := hXW.keep Hb3.out (by simp)
      have c2 := hb2.cell
      have f2 := hb2.frozen
      have hx1 := Ext.setCell [z + 2] V3 ⟨z + 2, 0, none⟩ (.slice (some ⟨g, 0, none⟩) (3 + 17 * G) cc) (by simp)
      have hb3' : Boxed (V3.setCell ⟨z + 2, 0, none⟩ (.slice (some ⟨g, 0, none⟩) (3 + 17 * G) cc)) (z + 3) 29 (.int .i64 0) := hx1.keep hb3 (by simp)
      have c3 := hb3'.cell
      have f3 := hb3'.frozen
      have hx3 := Ext.setCell [z + 3] (V3.setCell ⟨z + 2, 0, none⟩ (.slice (some ⟨g, 0, none⟩) (3 + 17 * G) cc)) ⟨z + 3, 0, none⟩ (.int .i64 0) (by simp)
      have hgW : W3.heap.size ≤ g := Nat.le_trans HX.out.size hg2
      have hall : Ext [z + 2, z + 3] W ((V3.setCell ⟨z + 2, 0, none⟩ (.slice (some ⟨g, 0, none⟩) (3 + 17 * G) cc)).setCell ⟨z + 3, 0, none⟩ (.int .i64 0)) := ((hXW.mono (by simp)).trans (hx1.mono (by simp))).trans (hx3.mono (by simp))
      have HF : Hid (KeepsFrom W3.heap.size W ((V3.setCell ⟨z + 2, 0, none⟩ (.slice (some ⟨g, 0, none⟩) (3 + 17 * G) cc)).setCell ⟨z + 3, 0, none⟩ (.int .i64 0)) ∧ Kc (Olist [z + 2, z + 3]) W ((V3.setCell ⟨z + 2, 0, none⟩ (.slice (some ⟨g, 0, none⟩) (3 + 17 * G) cc)).setCell ⟨z + 3, 0, none⟩ (.int .i64 0)) ∧ DelX T G d z W3 .ret (pre ++ [(gx, ix)]) ((V3.setCell ⟨z + 2, 0, none⟩ (.slice (some ⟨g, 0, none⟩) (3 + 17 * G) cc)).setCell ⟨z + 3, 0, none⟩ (.int .i64 0))) := by
        refine ⟨keeps_ext hall (by simp; omega), kc_list hall, rfl, pre, (gx, ix), rfl, HNo.out, ?_, g, cc, ?_, ?_, ?_, hgW, (HX.out.mono (by simp)).trans hall⟩
        · show idw T gx ix = d
          rw [Hdx.out, hdd]
        · exact hx3.keep (hb2.set _) (by simp)
        · exact hb3'.set _
        · exact (hTw3.keep hx1 (by simp; omega)).keep hx3 (by simp; omega)
      clear hTw3 hX3b hXW hb2 hb3 hx1 hb3' hx3 hall
      gi_wp2_with fail
      exact HF.out
    · have hd1 : ((dx : Int) == (d : Int)) = false := by simp; omega
      gi_wp2_with fail
      refine wpIn_region_quietR (by kernel_rfl) (by kernel_rfl) (by kernel_rfl) ?_
      repeat (gi_big_quiet_step (first | (gi_at_call 42; refine CallsIn.quiet_of_same ((callsIn_wide.2 (KI _)).inRound l))))
      refine wpQuietIn_nil ?_
      rintro _ ⟨nq, rfl⟩
      have HF : Hid (KeepsFrom W3.heap.size W (W.drewN nq) ∧ Kc (Olist [z + 2, z + 3]) W (W.drewN nq) ∧ DelI T d W3 (pre ++ [(gx, ix)]) (W.drewN nq)) := by
        refine ⟨⟨Nat.le_refl _, fun _ _ _ h _ => h⟩, kc_list (Ext.drewN _ W nq), HX.out.trans (Ext.drewN [] W nq), fun p hp => ?_⟩
        rcases List.mem_append.1 hp with q | q
        · exact HNo.out p q
        · simp only [List.mem_singleton] at q
          subst q
          show idw T gx ix ≠ d
          rw [Hdx.out]
          exact hdd
      clear c0 c1 cR
      gi_wp2_with fail
      exact HF.out
end Go.Proofs.YtkknadkcpndnaaaDoor
